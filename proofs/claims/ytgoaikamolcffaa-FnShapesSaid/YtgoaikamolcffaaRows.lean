/-
  No cell of these rows narrows 'for every input' (looked for: loops, veiled, ifaces, maps, wideKeys, modest, calm, conditions, laid).
  DERIVED. THE GIVEN ROWS OF THIS SEAT. 10 by the template 'for every input the law returns true; each argument reads behind the call as it read before'; 0 by the template 'total and deterministic' (their statements: YtgoaikamolcffaaTotals.lean).
  GIVEN WITH THE SEED: the statements are not yours to turn. If you find one false, say at which input.
  Laid BY PROGRAM, IN A SANDBOX (cutbox-rows.mjs): the forced cells as the released guide's own fill.sh prints them over the translation 79d951dc76873862… (all of the seat's roots in one cut). By AI agents, Wed Nov 11 2026. No macro, syntax, notation, axiom, sorry.
-/
import Derived.Test.YtgoaikamolcffaaChecked
import GoSem.Claim
import GoSem.ClaimJoined
import GoSem.ClaimMapViews
import Derived.JoinedTies
import Derived.KernelRfl
namespace Go.Proofs.Ytgoaikamolcffaa
/- THE CELL 'sum', in the pinned program and in every row, IS THE sha256 OF THE DUMP (.gsa) THAT YtgoaikamolcffaaProg.lean LOADS. Nothing in Lean hashes anything: it is a label: what it is worth is what the hold of that sum in a sandbox is worth. -/
noncomputable def Try.pinned : Pinned := { name := "ytgoaikamolcffaa", sum := "79d951dc76873862f0e2adb0bbdd6cee589fd0532a9a9c486002158b7aed35a4", checked := Try.checked }
namespace Rows
def none {H : Type} : Left H := { results := [], args := [] }

/-- 'laws.FnShapes': WHATEVER THE INPUT: true; the input reads as it did. -/
def fnShapesSpec : ChangeSpec := { name := "fnShapes", fn := fun _ => fun
  | [d] => { results := [.lit (.bool true)], args := [d] }
  | _ => none }
def fnShapesRow : OpenClaim := { program := "ytgoaikamolcffaa", sum := "79d951dc76873862f0e2adb0bbdd6cee589fd0532a9a9c486002158b7aed35a4", func := "loop.example/g00854/laws.FnShapes", spec := "fnShapes", unfollowed := true, recurses := true, apart := false }
def FnShapesSaid : Prop := fnShapesRow.holds Try.pinned (OpenSpec.ofChange fnShapesSpec)

/-- ITS FALSE NEIGHBOUR: 'it returns false'. Refute it at one input. -/
def fnShapesWrong : ChangeSpec := { name := "fnShapes", fn := fun _ => fun
  | [d] => { results := [.lit (.bool false)], args := [d] }
  | _ => none }
def FnShapesWrongFalsely : Prop := fnShapesRow.holds Try.pinned (OpenSpec.ofChange fnShapesWrong)

/-- 'laws.FnHandParts': WHATEVER THE INPUT: true; the input reads as it did. -/
def fnHandPartsSpec : ChangeSpec := { name := "fnHandParts", fn := fun _ => fun
  | [d] => { results := [.lit (.bool true)], args := [d] }
  | _ => none }
def fnHandPartsRow : OpenClaim := { program := "ytgoaikamolcffaa", sum := "79d951dc76873862f0e2adb0bbdd6cee589fd0532a9a9c486002158b7aed35a4", func := "loop.example/g00854/laws.FnHandParts", spec := "fnHandParts", unfollowed := true, recurses := true, apart := false }
def FnHandPartsSaid : Prop := fnHandPartsRow.holds Try.pinned (OpenSpec.ofChange fnHandPartsSpec)

/-- ITS FALSE NEIGHBOUR: 'it returns false'. Refute it at one input. -/
def fnHandPartsWrong : ChangeSpec := { name := "fnHandParts", fn := fun _ => fun
  | [d] => { results := [.lit (.bool false)], args := [d] }
  | _ => none }
def FnHandPartsWrongFalsely : Prop := fnHandPartsRow.holds Try.pinned (OpenSpec.ofChange fnHandPartsWrong)

/-- 'laws.FnExactShapeOf': WHATEVER THE INPUT: true; the input reads as it did. -/
def fnExactShapeOfSpec : ChangeSpec := { name := "fnExactShapeOf", fn := fun _ => fun
  | [d] => { results := [.lit (.bool true)], args := [d] }
  | _ => none }
def fnExactShapeOfRow : OpenClaim := { program := "ytgoaikamolcffaa", sum := "79d951dc76873862f0e2adb0bbdd6cee589fd0532a9a9c486002158b7aed35a4", func := "loop.example/g00854/laws.FnExactShapeOf", spec := "fnExactShapeOf", apart := false }
def FnExactShapeOfSaid : Prop := fnExactShapeOfRow.holds Try.pinned (OpenSpec.ofChange fnExactShapeOfSpec)

/-- ITS FALSE NEIGHBOUR: 'it returns false'. Refute it at one input. -/
def fnExactShapeOfWrong : ChangeSpec := { name := "fnExactShapeOf", fn := fun _ => fun
  | [d] => { results := [.lit (.bool false)], args := [d] }
  | _ => none }
def FnExactShapeOfWrongFalsely : Prop := fnExactShapeOfRow.holds Try.pinned (OpenSpec.ofChange fnExactShapeOfWrong)

/-- 'laws.FnExactPatternOf': WHATEVER THE INPUT: true; the input reads as it did. -/
def fnExactPatternOfSpec : ChangeSpec := { name := "fnExactPatternOf", fn := fun _ => fun
  | [d] => { results := [.lit (.bool true)], args := [d] }
  | _ => none }
def fnExactPatternOfRow : OpenClaim := { program := "ytgoaikamolcffaa", sum := "79d951dc76873862f0e2adb0bbdd6cee589fd0532a9a9c486002158b7aed35a4", func := "loop.example/g00854/laws.FnExactPatternOf", spec := "fnExactPatternOf", recurses := true, apart := false }
def FnExactPatternOfSaid : Prop := fnExactPatternOfRow.holds Try.pinned (OpenSpec.ofChange fnExactPatternOfSpec)

/-- ITS FALSE NEIGHBOUR: 'it returns false'. Refute it at one input. -/
def fnExactPatternOfWrong : ChangeSpec := { name := "fnExactPatternOf", fn := fun _ => fun
  | [d] => { results := [.lit (.bool false)], args := [d] }
  | _ => none }
def FnExactPatternOfWrongFalsely : Prop := fnExactPatternOfRow.holds Try.pinned (OpenSpec.ofChange fnExactPatternOfWrong)

/-- 'laws.FnExactHighCardPoints': WHATEVER THE INPUT: true; the input reads as it did. -/
def fnExactHighCardPointsSpec : ChangeSpec := { name := "fnExactHighCardPoints", fn := fun _ => fun
  | [d] => { results := [.lit (.bool true)], args := [d] }
  | _ => none }
def fnExactHighCardPointsRow : OpenClaim := { program := "ytgoaikamolcffaa", sum := "79d951dc76873862f0e2adb0bbdd6cee589fd0532a9a9c486002158b7aed35a4", func := "loop.example/g00854/laws.FnExactHighCardPoints", spec := "fnExactHighCardPoints", unfollowed := true, recurses := true, apart := false }
def FnExactHighCardPointsSaid : Prop := fnExactHighCardPointsRow.holds Try.pinned (OpenSpec.ofChange fnExactHighCardPointsSpec)

/-- ITS FALSE NEIGHBOUR: 'it returns false'. Refute it at one input. -/
def fnExactHighCardPointsWrong : ChangeSpec := { name := "fnExactHighCardPoints", fn := fun _ => fun
  | [d] => { results := [.lit (.bool false)], args := [d] }
  | _ => none }
def FnExactHighCardPointsWrongFalsely : Prop := fnExactHighCardPointsRow.holds Try.pinned (OpenSpec.ofChange fnExactHighCardPointsWrong)

/-- 'laws.FnExactControlsOf': WHATEVER THE INPUT: true; the input reads as it did. -/
def fnExactControlsOfSpec : ChangeSpec := { name := "fnExactControlsOf", fn := fun _ => fun
  | [d] => { results := [.lit (.bool true)], args := [d] }
  | _ => none }
def fnExactControlsOfRow : OpenClaim := { program := "ytgoaikamolcffaa", sum := "79d951dc76873862f0e2adb0bbdd6cee589fd0532a9a9c486002158b7aed35a4", func := "loop.example/g00854/laws.FnExactControlsOf", spec := "fnExactControlsOf", unfollowed := true, recurses := true, apart := false }
def FnExactControlsOfSaid : Prop := fnExactControlsOfRow.holds Try.pinned (OpenSpec.ofChange fnExactControlsOfSpec)

/-- ITS FALSE NEIGHBOUR: 'it returns false'. Refute it at one input. -/
def fnExactControlsOfWrong : ChangeSpec := { name := "fnExactControlsOf", fn := fun _ => fun
  | [d] => { results := [.lit (.bool false)], args := [d] }
  | _ => none }
def FnExactControlsOfWrongFalsely : Prop := fnExactControlsOfRow.holds Try.pinned (OpenSpec.ofChange fnExactControlsOfWrong)

/-- 'laws.FnExactLosersOf': WHATEVER THE INPUT: true; the input reads as it did. -/
def fnExactLosersOfSpec : ChangeSpec := { name := "fnExactLosersOf", fn := fun _ => fun
  | [d] => { results := [.lit (.bool true)], args := [d] }
  | _ => none }
def fnExactLosersOfRow : OpenClaim := { program := "ytgoaikamolcffaa", sum := "79d951dc76873862f0e2adb0bbdd6cee589fd0532a9a9c486002158b7aed35a4", func := "loop.example/g00854/laws.FnExactLosersOf", spec := "fnExactLosersOf", unfollowed := true, recurses := true, apart := false }
def FnExactLosersOfSaid : Prop := fnExactLosersOfRow.holds Try.pinned (OpenSpec.ofChange fnExactLosersOfSpec)

/-- ITS FALSE NEIGHBOUR: 'it returns false'. Refute it at one input. -/
def fnExactLosersOfWrong : ChangeSpec := { name := "fnExactLosersOf", fn := fun _ => fun
  | [d] => { results := [.lit (.bool false)], args := [d] }
  | _ => none }
def FnExactLosersOfWrongFalsely : Prop := fnExactLosersOfRow.holds Try.pinned (OpenSpec.ofChange fnExactLosersOfWrong)

/-- 'laws.FnExactQuickTricks': WHATEVER THE INPUT: true; the input reads as it did. -/
def fnExactQuickTricksSpec : ChangeSpec := { name := "fnExactQuickTricks", fn := fun _ => fun
  | [d] => { results := [.lit (.bool true)], args := [d] }
  | _ => none }
def fnExactQuickTricksRow : OpenClaim := { program := "ytgoaikamolcffaa", sum := "79d951dc76873862f0e2adb0bbdd6cee589fd0532a9a9c486002158b7aed35a4", func := "loop.example/g00854/laws.FnExactQuickTricks", spec := "fnExactQuickTricks", unfollowed := true, recurses := true, apart := false }
def FnExactQuickTricksSaid : Prop := fnExactQuickTricksRow.holds Try.pinned (OpenSpec.ofChange fnExactQuickTricksSpec)

/-- ITS FALSE NEIGHBOUR: 'it returns false'. Refute it at one input. -/
def fnExactQuickTricksWrong : ChangeSpec := { name := "fnExactQuickTricks", fn := fun _ => fun
  | [d] => { results := [.lit (.bool false)], args := [d] }
  | _ => none }
def FnExactQuickTricksWrongFalsely : Prop := fnExactQuickTricksRow.holds Try.pinned (OpenSpec.ofChange fnExactQuickTricksWrong)

/-- 'laws.FnExactHonorsOf': WHATEVER THE INPUT: true; the input reads as it did. -/
def fnExactHonorsOfSpec : ChangeSpec := { name := "fnExactHonorsOf", fn := fun _ => fun
  | [d1, d2] => { results := [.lit (.bool true)], args := [d1, d2] }
  | _ => none }
def fnExactHonorsOfRow : OpenClaim := { program := "ytgoaikamolcffaa", sum := "79d951dc76873862f0e2adb0bbdd6cee589fd0532a9a9c486002158b7aed35a4", func := "loop.example/g00854/laws.FnExactHonorsOf", spec := "fnExactHonorsOf", unfollowed := true, recurses := true, apart := false }
def FnExactHonorsOfSaid : Prop := fnExactHonorsOfRow.holds Try.pinned (OpenSpec.ofChange fnExactHonorsOfSpec)

/-- ITS FALSE NEIGHBOUR: 'it returns false'. Refute it at one input. -/
def fnExactHonorsOfWrong : ChangeSpec := { name := "fnExactHonorsOf", fn := fun _ => fun
  | [d1, d2] => { results := [.lit (.bool false)], args := [d1, d2] }
  | _ => none }
def FnExactHonorsOfWrongFalsely : Prop := fnExactHonorsOfRow.holds Try.pinned (OpenSpec.ofChange fnExactHonorsOfWrong)

/-- 'laws.FnExactHandText': WHATEVER THE INPUT: true; the input reads as it did. -/
def fnExactHandTextSpec : ChangeSpec := { name := "fnExactHandText", fn := fun _ => fun
  | [d] => { results := [.lit (.bool true)], args := [d] }
  | _ => none }
def fnExactHandTextRow : OpenClaim := { program := "ytgoaikamolcffaa", sum := "79d951dc76873862f0e2adb0bbdd6cee589fd0532a9a9c486002158b7aed35a4", func := "loop.example/g00854/laws.FnExactHandText", spec := "fnExactHandText", inPlace := ["internal/abi.NoEscape", "internal/bytealg.MakeNoZero"], apart := false }
def FnExactHandTextSaid : Prop := fnExactHandTextRow.holds Try.pinned (OpenSpec.ofChange fnExactHandTextSpec)

/-- ITS FALSE NEIGHBOUR: 'it returns false'. Refute it at one input. -/
def fnExactHandTextWrong : ChangeSpec := { name := "fnExactHandText", fn := fun _ => fun
  | [d] => { results := [.lit (.bool false)], args := [d] }
  | _ => none }
def FnExactHandTextWrongFalsely : Prop := fnExactHandTextRow.holds Try.pinned (OpenSpec.ofChange fnExactHandTextWrong)

/- THE SECOND FORM. 'bulk': how many values and letters a reading holds, each counted each time it is reached (what is shared counts as often as it is met; a slice's spare places count too). A statement '..UptoSaid' is the law's where the arguments, and the package variables that the reading takes, are together of bulk at most 1048576: NARROWER than '..Said'. Prove '..Said' where nothing that the law and all that it calls make is longer than what came in: it says more and counts as full. Else prove '..UptoSaid'. A law counts once. -/
mutual
def uptoBulk {H : Type} : DataW H → Nat
  | .lit (.string bytes) => bytes.length + 1
  | .lit _ => 1
  | .nil => 1
  | .ptr d => uptoBulk d + 1
  | .slice elems spare => uptoBulkAll elems + uptoBulkAll spare + 1
  | .agg parts => uptoBulkAll parts + 1
  | .iface _ d => uptoBulk d + 1
  | .map entries => uptoBulkEntries entries + 1
  | .held _ => 1
def uptoBulkAll {H : Type} : List (DataW H) → Nat
  | [] => 0
  | d :: r => uptoBulk d + uptoBulkAll r
def uptoBulkEntries {H : Type} : List (Lit × DataW H) → Nat
  | [] => 0
  | x :: r => uptoBulkEntry x + uptoBulkEntries r
def uptoBulkEntry {H : Type} : Lit × DataW H → Nat
  | (.string bytes, d) => bytes.length + uptoBulk d + 1
  | (_, d) => uptoBulk d + 1
 end
def uptoSmall : (H : Type) → List (DataW H) → Bool := fun _ ds => decide (uptoBulkAll ds ≤ 1048576)
def OpenSpec.upto (s : _root_.Go.ChangeSpec) : _root_.Go.OpenSpec := { _root_.Go.OpenSpec.ofChange s with cond := some uptoSmall }

/-- 'laws.FnShapes', WHERE WHAT IT READS IS OF BULK AT MOST 1048576: true; the input reads as it did. -/
def fnShapesUptoRow : OpenClaim := { program := "ytgoaikamolcffaa", sum := "79d951dc76873862f0e2adb0bbdd6cee589fd0532a9a9c486002158b7aed35a4", func := "loop.example/g00854/laws.FnShapes", spec := "fnShapes", unfollowed := true, recurses := true, apart := false, narrowed := true }
def FnShapesUptoSaid : Prop := fnShapesUptoRow.holds Try.pinned (OpenSpec.upto fnShapesSpec)

/-- 'laws.FnHandParts', WHERE WHAT IT READS IS OF BULK AT MOST 1048576: true; the input reads as it did. -/
def fnHandPartsUptoRow : OpenClaim := { program := "ytgoaikamolcffaa", sum := "79d951dc76873862f0e2adb0bbdd6cee589fd0532a9a9c486002158b7aed35a4", func := "loop.example/g00854/laws.FnHandParts", spec := "fnHandParts", unfollowed := true, recurses := true, apart := false, narrowed := true }
def FnHandPartsUptoSaid : Prop := fnHandPartsUptoRow.holds Try.pinned (OpenSpec.upto fnHandPartsSpec)

/-- 'laws.FnExactShapeOf', WHERE WHAT IT READS IS OF BULK AT MOST 1048576: true; the input reads as it did. -/
def fnExactShapeOfUptoRow : OpenClaim := { program := "ytgoaikamolcffaa", sum := "79d951dc76873862f0e2adb0bbdd6cee589fd0532a9a9c486002158b7aed35a4", func := "loop.example/g00854/laws.FnExactShapeOf", spec := "fnExactShapeOf", apart := false, narrowed := true }
def FnExactShapeOfUptoSaid : Prop := fnExactShapeOfUptoRow.holds Try.pinned (OpenSpec.upto fnExactShapeOfSpec)

/-- 'laws.FnExactPatternOf', WHERE WHAT IT READS IS OF BULK AT MOST 1048576: true; the input reads as it did. -/
def fnExactPatternOfUptoRow : OpenClaim := { program := "ytgoaikamolcffaa", sum := "79d951dc76873862f0e2adb0bbdd6cee589fd0532a9a9c486002158b7aed35a4", func := "loop.example/g00854/laws.FnExactPatternOf", spec := "fnExactPatternOf", recurses := true, apart := false, narrowed := true }
def FnExactPatternOfUptoSaid : Prop := fnExactPatternOfUptoRow.holds Try.pinned (OpenSpec.upto fnExactPatternOfSpec)

/-- 'laws.FnExactHighCardPoints', WHERE WHAT IT READS IS OF BULK AT MOST 1048576: true; the input reads as it did. -/
def fnExactHighCardPointsUptoRow : OpenClaim := { program := "ytgoaikamolcffaa", sum := "79d951dc76873862f0e2adb0bbdd6cee589fd0532a9a9c486002158b7aed35a4", func := "loop.example/g00854/laws.FnExactHighCardPoints", spec := "fnExactHighCardPoints", unfollowed := true, recurses := true, apart := false, narrowed := true }
def FnExactHighCardPointsUptoSaid : Prop := fnExactHighCardPointsUptoRow.holds Try.pinned (OpenSpec.upto fnExactHighCardPointsSpec)

/-- 'laws.FnExactControlsOf', WHERE WHAT IT READS IS OF BULK AT MOST 1048576: true; the input reads as it did. -/
def fnExactControlsOfUptoRow : OpenClaim := { program := "ytgoaikamolcffaa", sum := "79d951dc76873862f0e2adb0bbdd6cee589fd0532a9a9c486002158b7aed35a4", func := "loop.example/g00854/laws.FnExactControlsOf", spec := "fnExactControlsOf", unfollowed := true, recurses := true, apart := false, narrowed := true }
def FnExactControlsOfUptoSaid : Prop := fnExactControlsOfUptoRow.holds Try.pinned (OpenSpec.upto fnExactControlsOfSpec)

/-- 'laws.FnExactLosersOf', WHERE WHAT IT READS IS OF BULK AT MOST 1048576: true; the input reads as it did. -/
def fnExactLosersOfUptoRow : OpenClaim := { program := "ytgoaikamolcffaa", sum := "79d951dc76873862f0e2adb0bbdd6cee589fd0532a9a9c486002158b7aed35a4", func := "loop.example/g00854/laws.FnExactLosersOf", spec := "fnExactLosersOf", unfollowed := true, recurses := true, apart := false, narrowed := true }
def FnExactLosersOfUptoSaid : Prop := fnExactLosersOfUptoRow.holds Try.pinned (OpenSpec.upto fnExactLosersOfSpec)

/-- 'laws.FnExactQuickTricks', WHERE WHAT IT READS IS OF BULK AT MOST 1048576: true; the input reads as it did. -/
def fnExactQuickTricksUptoRow : OpenClaim := { program := "ytgoaikamolcffaa", sum := "79d951dc76873862f0e2adb0bbdd6cee589fd0532a9a9c486002158b7aed35a4", func := "loop.example/g00854/laws.FnExactQuickTricks", spec := "fnExactQuickTricks", unfollowed := true, recurses := true, apart := false, narrowed := true }
def FnExactQuickTricksUptoSaid : Prop := fnExactQuickTricksUptoRow.holds Try.pinned (OpenSpec.upto fnExactQuickTricksSpec)

/-- 'laws.FnExactHonorsOf', WHERE WHAT IT READS IS OF BULK AT MOST 1048576: true; the input reads as it did. -/
def fnExactHonorsOfUptoRow : OpenClaim := { program := "ytgoaikamolcffaa", sum := "79d951dc76873862f0e2adb0bbdd6cee589fd0532a9a9c486002158b7aed35a4", func := "loop.example/g00854/laws.FnExactHonorsOf", spec := "fnExactHonorsOf", unfollowed := true, recurses := true, apart := false, narrowed := true }
def FnExactHonorsOfUptoSaid : Prop := fnExactHonorsOfUptoRow.holds Try.pinned (OpenSpec.upto fnExactHonorsOfSpec)

/-- 'laws.FnExactHandText', WHERE WHAT IT READS IS OF BULK AT MOST 1048576: true; the input reads as it did. -/
def fnExactHandTextUptoRow : OpenClaim := { program := "ytgoaikamolcffaa", sum := "79d951dc76873862f0e2adb0bbdd6cee589fd0532a9a9c486002158b7aed35a4", func := "loop.example/g00854/laws.FnExactHandText", spec := "fnExactHandText", inPlace := ["internal/abi.NoEscape", "internal/bytealg.MakeNoZero"], apart := false, narrowed := true }
def FnExactHandTextUptoSaid : Prop := fnExactHandTextUptoRow.holds Try.pinned (OpenSpec.upto fnExactHandTextSpec)

end Rows
end Go.Proofs.Ytgoaikamolcffaa
