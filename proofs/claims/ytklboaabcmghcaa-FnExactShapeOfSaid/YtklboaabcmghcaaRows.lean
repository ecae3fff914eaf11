/-
  No cell of these rows narrows 'for every input' (looked for: loops, veiled, ifaces, maps, wideKeys, modest, calm, conditions, laid).
  DERIVED. THE GIVEN ROWS OF THIS SEAT. 12 by the template 'for every input the law returns true; each argument reads behind the call as it read before'; 0 by the template 'total and deterministic' (their statements: YtklboaabcmghcaaTotals.lean).
  GIVEN WITH THE SEED: the statements are not yours to turn. If you find one false, say at which input.
  Laid BY PROGRAM, IN A SANDBOX (cutbox-rows.mjs): the forced cells as the released guide's own fill.sh prints them over the translation 293f1c4607038052… (all of the seat's roots in one cut). By AI agents, Wed Nov 11 2026. No macro, syntax, notation, axiom, sorry.
-/
import Derived.Test.YtklboaabcmghcaaChecked
import GoSem.Claim
import GoSem.ClaimJoined
import GoSem.ClaimMapViews
import Derived.JoinedTies
import Derived.KernelRfl
namespace Go.Proofs.Ytklboaabcmghcaa
/- THE CELL 'sum', in the pinned program and in every row, IS THE sha256 OF THE DUMP (.gsa) THAT YtklboaabcmghcaaProg.lean LOADS. Nothing in Lean hashes anything: it is a label: what it is worth is what the hold of that sum in a sandbox is worth. -/
noncomputable def Try.pinned : Pinned := { name := "ytklboaabcmghcaa", sum := "293f1c4607038052a293ad3c13543e9e30480437d99d838c83a9b0824aef7278", checked := Try.checked }
namespace Rows
def none {H : Type} : Left H := { results := [], args := [] }

/-- 'laws.FnExactShapeOf': WHATEVER THE INPUT: true; the input reads as it did. -/
def fnExactShapeOfSpec : ChangeSpec := { name := "fnExactShapeOf", fn := fun _ => fun
  | [d] => { results := [.lit (.bool true)], args := [d] }
  | _ => none }
def fnExactShapeOfRow : OpenClaim := { program := "ytklboaabcmghcaa", sum := "293f1c4607038052a293ad3c13543e9e30480437d99d838c83a9b0824aef7278", func := "loop.example/g00854/laws.FnExactShapeOf", spec := "fnExactShapeOf", apart := false }
def FnExactShapeOfSaid : Prop := fnExactShapeOfRow.holds Try.pinned (OpenSpec.ofChange fnExactShapeOfSpec)

/-- ITS FALSE NEIGHBOUR: 'it returns false'. Refute it at one input. -/
def fnExactShapeOfWrong : ChangeSpec := { name := "fnExactShapeOf", fn := fun _ => fun
  | [d] => { results := [.lit (.bool false)], args := [d] }
  | _ => none }
def FnExactShapeOfWrongFalsely : Prop := fnExactShapeOfRow.holds Try.pinned (OpenSpec.ofChange fnExactShapeOfWrong)

/-- 'laws.FnExactPatternOf': WHATEVER THE INPUT: true; the input reads as it did. -/
def fnExactPatternOfSpec : ChangeSpec := { name := "fnExactPatternOf", fn := fun _ => fun
  | [d] => { results := [.lit (.bool true)], args := [d] }
  | _ => none }
def fnExactPatternOfRow : OpenClaim := { program := "ytklboaabcmghcaa", sum := "293f1c4607038052a293ad3c13543e9e30480437d99d838c83a9b0824aef7278", func := "loop.example/g00854/laws.FnExactPatternOf", spec := "fnExactPatternOf", recurses := true, apart := false }
def FnExactPatternOfSaid : Prop := fnExactPatternOfRow.holds Try.pinned (OpenSpec.ofChange fnExactPatternOfSpec)

/-- ITS FALSE NEIGHBOUR: 'it returns false'. Refute it at one input. -/
def fnExactPatternOfWrong : ChangeSpec := { name := "fnExactPatternOf", fn := fun _ => fun
  | [d] => { results := [.lit (.bool false)], args := [d] }
  | _ => none }
def FnExactPatternOfWrongFalsely : Prop := fnExactPatternOfRow.holds Try.pinned (OpenSpec.ofChange fnExactPatternOfWrong)

/-- 'laws.FnExactHighCardPoints': WHATEVER THE INPUT: true; the input reads as it did. -/
def fnExactHighCardPointsSpec : ChangeSpec := { name := "fnExactHighCardPoints", fn := fun _ => fun
  | [d] => { results := [.lit (.bool true)], args := [d] }
  | _ => none }
def fnExactHighCardPointsRow : OpenClaim := { program := "ytklboaabcmghcaa", sum := "293f1c4607038052a293ad3c13543e9e30480437d99d838c83a9b0824aef7278", func := "loop.example/g00854/laws.FnExactHighCardPoints", spec := "fnExactHighCardPoints", unfollowed := true, recurses := true, apart := false }
def FnExactHighCardPointsSaid : Prop := fnExactHighCardPointsRow.holds Try.pinned (OpenSpec.ofChange fnExactHighCardPointsSpec)

/-- ITS FALSE NEIGHBOUR: 'it returns false'. Refute it at one input. -/
def fnExactHighCardPointsWrong : ChangeSpec := { name := "fnExactHighCardPoints", fn := fun _ => fun
  | [d] => { results := [.lit (.bool false)], args := [d] }
  | _ => none }
def FnExactHighCardPointsWrongFalsely : Prop := fnExactHighCardPointsRow.holds Try.pinned (OpenSpec.ofChange fnExactHighCardPointsWrong)

/-- 'laws.FnExactControlsOf': WHATEVER THE INPUT: true; the input reads as it did. -/
def fnExactControlsOfSpec : ChangeSpec := { name := "fnExactControlsOf", fn := fun _ => fun
  | [d] => { results := [.lit (.bool true)], args := [d] }
  | _ => none }
def fnExactControlsOfRow : OpenClaim := { program := "ytklboaabcmghcaa", sum := "293f1c4607038052a293ad3c13543e9e30480437d99d838c83a9b0824aef7278", func := "loop.example/g00854/laws.FnExactControlsOf", spec := "fnExactControlsOf", unfollowed := true, recurses := true, apart := false }
def FnExactControlsOfSaid : Prop := fnExactControlsOfRow.holds Try.pinned (OpenSpec.ofChange fnExactControlsOfSpec)

/-- ITS FALSE NEIGHBOUR: 'it returns false'. Refute it at one input. -/
def fnExactControlsOfWrong : ChangeSpec := { name := "fnExactControlsOf", fn := fun _ => fun
  | [d] => { results := [.lit (.bool false)], args := [d] }
  | _ => none }
def FnExactControlsOfWrongFalsely : Prop := fnExactControlsOfRow.holds Try.pinned (OpenSpec.ofChange fnExactControlsOfWrong)

/-- 'laws.FnExactLosersOf': WHATEVER THE INPUT: true; the input reads as it did. -/
def fnExactLosersOfSpec : ChangeSpec := { name := "fnExactLosersOf", fn := fun _ => fun
  | [d] => { results := [.lit (.bool true)], args := [d] }
  | _ => none }
def fnExactLosersOfRow : OpenClaim := { program := "ytklboaabcmghcaa", sum := "293f1c4607038052a293ad3c13543e9e30480437d99d838c83a9b0824aef7278", func := "loop.example/g00854/laws.FnExactLosersOf", spec := "fnExactLosersOf", unfollowed := true, recurses := true, apart := false }
def FnExactLosersOfSaid : Prop := fnExactLosersOfRow.holds Try.pinned (OpenSpec.ofChange fnExactLosersOfSpec)

/-- ITS FALSE NEIGHBOUR: 'it returns false'. Refute it at one input. -/
def fnExactLosersOfWrong : ChangeSpec := { name := "fnExactLosersOf", fn := fun _ => fun
  | [d] => { results := [.lit (.bool false)], args := [d] }
  | _ => none }
def FnExactLosersOfWrongFalsely : Prop := fnExactLosersOfRow.holds Try.pinned (OpenSpec.ofChange fnExactLosersOfWrong)

/-- 'laws.FnExactQuickTricks': WHATEVER THE INPUT: true; the input reads as it did. -/
def fnExactQuickTricksSpec : ChangeSpec := { name := "fnExactQuickTricks", fn := fun _ => fun
  | [d] => { results := [.lit (.bool true)], args := [d] }
  | _ => none }
def fnExactQuickTricksRow : OpenClaim := { program := "ytklboaabcmghcaa", sum := "293f1c4607038052a293ad3c13543e9e30480437d99d838c83a9b0824aef7278", func := "loop.example/g00854/laws.FnExactQuickTricks", spec := "fnExactQuickTricks", unfollowed := true, recurses := true, apart := false }
def FnExactQuickTricksSaid : Prop := fnExactQuickTricksRow.holds Try.pinned (OpenSpec.ofChange fnExactQuickTricksSpec)

/-- ITS FALSE NEIGHBOUR: 'it returns false'. Refute it at one input. -/
def fnExactQuickTricksWrong : ChangeSpec := { name := "fnExactQuickTricks", fn := fun _ => fun
  | [d] => { results := [.lit (.bool false)], args := [d] }
  | _ => none }
def FnExactQuickTricksWrongFalsely : Prop := fnExactQuickTricksRow.holds Try.pinned (OpenSpec.ofChange fnExactQuickTricksWrong)

/-- 'laws.FnExactHonorsOf': WHATEVER THE INPUT: true; the input reads as it did. -/
def fnExactHonorsOfSpec : ChangeSpec := { name := "fnExactHonorsOf", fn := fun _ => fun
  | [d1, d2] => { results := [.lit (.bool true)], args := [d1, d2] }
  | _ => none }
def fnExactHonorsOfRow : OpenClaim := { program := "ytklboaabcmghcaa", sum := "293f1c4607038052a293ad3c13543e9e30480437d99d838c83a9b0824aef7278", func := "loop.example/g00854/laws.FnExactHonorsOf", spec := "fnExactHonorsOf", unfollowed := true, recurses := true, apart := false }
def FnExactHonorsOfSaid : Prop := fnExactHonorsOfRow.holds Try.pinned (OpenSpec.ofChange fnExactHonorsOfSpec)

/-- ITS FALSE NEIGHBOUR: 'it returns false'. Refute it at one input. -/
def fnExactHonorsOfWrong : ChangeSpec := { name := "fnExactHonorsOf", fn := fun _ => fun
  | [d1, d2] => { results := [.lit (.bool false)], args := [d1, d2] }
  | _ => none }
def FnExactHonorsOfWrongFalsely : Prop := fnExactHonorsOfRow.holds Try.pinned (OpenSpec.ofChange fnExactHonorsOfWrong)

/-- 'laws.FnExactHandText': WHATEVER THE INPUT: true; the input reads as it did. -/
def fnExactHandTextSpec : ChangeSpec := { name := "fnExactHandText", fn := fun _ => fun
  | [d] => { results := [.lit (.bool true)], args := [d] }
  | _ => none }
def fnExactHandTextRow : OpenClaim := { program := "ytklboaabcmghcaa", sum := "293f1c4607038052a293ad3c13543e9e30480437d99d838c83a9b0824aef7278", func := "loop.example/g00854/laws.FnExactHandText", spec := "fnExactHandText", inPlace := ["internal/abi.NoEscape", "internal/bytealg.MakeNoZero"], apart := false }
def FnExactHandTextSaid : Prop := fnExactHandTextRow.holds Try.pinned (OpenSpec.ofChange fnExactHandTextSpec)

/-- ITS FALSE NEIGHBOUR: 'it returns false'. Refute it at one input. -/
def fnExactHandTextWrong : ChangeSpec := { name := "fnExactHandText", fn := fun _ => fun
  | [d] => { results := [.lit (.bool false)], args := [d] }
  | _ => none }
def FnExactHandTextWrongFalsely : Prop := fnExactHandTextRow.holds Try.pinned (OpenSpec.ofChange fnExactHandTextWrong)

/-- 'laws.FnExactIsDeal': WHATEVER THE INPUT: true; the input reads as it did. -/
def fnExactIsDealSpec : ChangeSpec := { name := "fnExactIsDeal", fn := fun _ => fun
  | [d] => { results := [.lit (.bool true)], args := [d] }
  | _ => none }
def fnExactIsDealRow : OpenClaim := { program := "ytklboaabcmghcaa", sum := "293f1c4607038052a293ad3c13543e9e30480437d99d838c83a9b0824aef7278", func := "loop.example/g00854/laws.FnExactIsDeal", spec := "fnExactIsDeal", apart := false }
def FnExactIsDealSaid : Prop := fnExactIsDealRow.holds Try.pinned (OpenSpec.ofChange fnExactIsDealSpec)

/-- ITS FALSE NEIGHBOUR: 'it returns false'. Refute it at one input. -/
def fnExactIsDealWrong : ChangeSpec := { name := "fnExactIsDeal", fn := fun _ => fun
  | [d] => { results := [.lit (.bool false)], args := [d] }
  | _ => none }
def FnExactIsDealWrongFalsely : Prop := fnExactIsDealRow.holds Try.pinned (OpenSpec.ofChange fnExactIsDealWrong)

/-- 'laws.FnExactCardsOfDeal': WHATEVER THE INPUT: true; the input reads as it did. -/
def fnExactCardsOfDealSpec : ChangeSpec := { name := "fnExactCardsOfDeal", fn := fun _ => fun
  | [d] => { results := [.lit (.bool true)], args := [d] }
  | _ => none }
def fnExactCardsOfDealRow : OpenClaim := { program := "ytklboaabcmghcaa", sum := "293f1c4607038052a293ad3c13543e9e30480437d99d838c83a9b0824aef7278", func := "loop.example/g00854/laws.FnExactCardsOfDeal", spec := "fnExactCardsOfDeal", recurses := true, apart := false }
def FnExactCardsOfDealSaid : Prop := fnExactCardsOfDealRow.holds Try.pinned (OpenSpec.ofChange fnExactCardsOfDealSpec)

/-- ITS FALSE NEIGHBOUR: 'it returns false'. Refute it at one input. -/
def fnExactCardsOfDealWrong : ChangeSpec := { name := "fnExactCardsOfDeal", fn := fun _ => fun
  | [d] => { results := [.lit (.bool false)], args := [d] }
  | _ => none }
def FnExactCardsOfDealWrongFalsely : Prop := fnExactCardsOfDealRow.holds Try.pinned (OpenSpec.ofChange fnExactCardsOfDealWrong)

/-- 'laws.FnExactHolderOf': WHATEVER THE INPUT: true; the input reads as it did. -/
def fnExactHolderOfSpec : ChangeSpec := { name := "fnExactHolderOf", fn := fun _ => fun
  | [d1, d2] => { results := [.lit (.bool true)], args := [d1, d2] }
  | _ => none }
def fnExactHolderOfRow : OpenClaim := { program := "ytklboaabcmghcaa", sum := "293f1c4607038052a293ad3c13543e9e30480437d99d838c83a9b0824aef7278", func := "loop.example/g00854/laws.FnExactHolderOf", spec := "fnExactHolderOf", apart := false }
def FnExactHolderOfSaid : Prop := fnExactHolderOfRow.holds Try.pinned (OpenSpec.ofChange fnExactHolderOfSpec)

/-- ITS FALSE NEIGHBOUR: 'it returns false'. Refute it at one input. -/
def fnExactHolderOfWrong : ChangeSpec := { name := "fnExactHolderOf", fn := fun _ => fun
  | [d1, d2] => { results := [.lit (.bool false)], args := [d1, d2] }
  | _ => none }
def FnExactHolderOfWrongFalsely : Prop := fnExactHolderOfRow.holds Try.pinned (OpenSpec.ofChange fnExactHolderOfWrong)

/-- 'laws.FnExactDealText': WHATEVER THE INPUT: true; the input reads as it did. -/
def fnExactDealTextSpec : ChangeSpec := { name := "fnExactDealText", fn := fun _ => fun
  | [d] => { results := [.lit (.bool true)], args := [d] }
  | _ => none }
def fnExactDealTextRow : OpenClaim := { program := "ytklboaabcmghcaa", sum := "293f1c4607038052a293ad3c13543e9e30480437d99d838c83a9b0824aef7278", func := "loop.example/g00854/laws.FnExactDealText", spec := "fnExactDealText", inPlace := ["internal/abi.NoEscape", "internal/bytealg.MakeNoZero"], unfollowed := true, recurses := true, apart := false }
def FnExactDealTextSaid : Prop := fnExactDealTextRow.holds Try.pinned (OpenSpec.ofChange fnExactDealTextSpec)

/-- ITS FALSE NEIGHBOUR: 'it returns false'. Refute it at one input. -/
def fnExactDealTextWrong : ChangeSpec := { name := "fnExactDealText", fn := fun _ => fun
  | [d] => { results := [.lit (.bool false)], args := [d] }
  | _ => none }
def FnExactDealTextWrongFalsely : Prop := fnExactDealTextRow.holds Try.pinned (OpenSpec.ofChange fnExactDealTextWrong)

/- THE SECOND FORM. 'bulk': how many values and letters a reading holds, each counted each time it is reached (what is shared counts as often as it is met; a slice's spare places count too). A statement '..UptoSaid' is the law's where the arguments, and the package variables that the reading takes, are together of bulk at most 1048576: NARROWER than '..Said'. Prove '..Said' where nothing that the law and all that it calls make is longer than what came in: it says more and counts as full. Else prove '..UptoSaid'. A law counts once. -/
mutual
def uptoBulk {H : Type} : DataW H → Nat
  | .lit (.string bytes) => bytes.length + 1
  | .lit _ => 1
  | .nil => 1
  | .ptr d => uptoBulk d + 1
  | .slice elems spare => uptoBulkAll elems + uptoBulkAll spare + 1
  | .agg parts => uptoBulkAll parts + 1
  | .iface _ d => uptoBulk d + 1
  | .map entries => uptoBulkEntries entries + 1
  | .held _ => 1
def uptoBulkAll {H : Type} : List (DataW H) → Nat
  | [] => 0
  | d :: r => uptoBulk d + uptoBulkAll r
def uptoBulkEntries {H : Type} : List (Lit × DataW H) → Nat
  | [] => 0
  | x :: r => uptoBulkEntry x + uptoBulkEntries r
def uptoBulkEntry {H : Type} : Lit × DataW H → Nat
  | (.string bytes, d) => bytes.length + uptoBulk d + 1
  | (_, d) => uptoBulk d + 1
 end
def uptoSmall : (H : Type) → List (DataW H) → Bool := fun _ ds => decide (uptoBulkAll ds ≤ 1048576)
def OpenSpec.upto (s : _root_.Go.ChangeSpec) : _root_.Go.OpenSpec := { _root_.Go.OpenSpec.ofChange s with cond := some uptoSmall }

/-- 'laws.FnExactShapeOf', WHERE WHAT IT READS IS OF BULK AT MOST 1048576: true; the input reads as it did. -/
def fnExactShapeOfUptoRow : OpenClaim := { program := "ytklboaabcmghcaa", sum := "293f1c4607038052a293ad3c13543e9e30480437d99d838c83a9b0824aef7278", func := "loop.example/g00854/laws.FnExactShapeOf", spec := "fnExactShapeOf", apart := false, narrowed := true }
def FnExactShapeOfUptoSaid : Prop := fnExactShapeOfUptoRow.holds Try.pinned (OpenSpec.upto fnExactShapeOfSpec)

/-- 'laws.FnExactPatternOf', WHERE WHAT IT READS IS OF BULK AT MOST 1048576: true; the input reads as it did. -/
def fnExactPatternOfUptoRow : OpenClaim := { program := "ytklboaabcmghcaa", sum := "293f1c4607038052a293ad3c13543e9e30480437d99d838c83a9b0824aef7278", func := "loop.example/g00854/laws.FnExactPatternOf", spec := "fnExactPatternOf", recurses := true, apart := false, narrowed := true }
def FnExactPatternOfUptoSaid : Prop := fnExactPatternOfUptoRow.holds Try.pinned (OpenSpec.upto fnExactPatternOfSpec)

/-- 'laws.FnExactHighCardPoints', WHERE WHAT IT READS IS OF BULK AT MOST 1048576: true; the input reads as it did. -/
def fnExactHighCardPointsUptoRow : OpenClaim := { program := "ytklboaabcmghcaa", sum := "293f1c4607038052a293ad3c13543e9e30480437d99d838c83a9b0824aef7278", func := "loop.example/g00854/laws.FnExactHighCardPoints", spec := "fnExactHighCardPoints", unfollowed := true, recurses := true, apart := false, narrowed := true }
def FnExactHighCardPointsUptoSaid : Prop := fnExactHighCardPointsUptoRow.holds Try.pinned (OpenSpec.upto fnExactHighCardPointsSpec)

/-- 'laws.FnExactControlsOf', WHERE WHAT IT READS IS OF BULK AT MOST 1048576: true; the input reads as it did. -/
def fnExactControlsOfUptoRow : OpenClaim := { program := "ytklboaabcmghcaa", sum := "293f1c4607038052a293ad3c13543e9e30480437d99d838c83a9b0824aef7278", func := "loop.example/g00854/laws.FnExactControlsOf", spec := "fnExactControlsOf", unfollowed := true, recurses := true, apart := false, narrowed := true }
def FnExactControlsOfUptoSaid : Prop := fnExactControlsOfUptoRow.holds Try.pinned (OpenSpec.upto fnExactControlsOfSpec)

/-- 'laws.FnExactLosersOf', WHERE WHAT IT READS IS OF BULK AT MOST 1048576: true; the input reads as it did. -/
def fnExactLosersOfUptoRow : OpenClaim := { program := "ytklboaabcmghcaa", sum := "293f1c4607038052a293ad3c13543e9e30480437d99d838c83a9b0824aef7278", func := "loop.example/g00854/laws.FnExactLosersOf", spec := "fnExactLosersOf", unfollowed := true, recurses := true, apart := false, narrowed := true }
def FnExactLosersOfUptoSaid : Prop := fnExactLosersOfUptoRow.holds Try.pinned (OpenSpec.upto fnExactLosersOfSpec)

/-- 'laws.FnExactQuickTricks', WHERE WHAT IT READS IS OF BULK AT MOST 1048576: true; the input reads as it did. -/
def fnExactQuickTricksUptoRow : OpenClaim := { program := "ytklboaabcmghcaa", sum := "293f1c4607038052a293ad3c13543e9e30480437d99d838c83a9b0824aef7278", func := "loop.example/g00854/laws.FnExactQuickTricks", spec := "fnExactQuickTricks", unfollowed := true, recurses := true, apart := false, narrowed := true }
def FnExactQuickTricksUptoSaid : Prop := fnExactQuickTricksUptoRow.holds Try.pinned (OpenSpec.upto fnExactQuickTricksSpec)

/-- 'laws.FnExactHonorsOf', WHERE WHAT IT READS IS OF BULK AT MOST 1048576: true; the input reads as it did. -/
def fnExactHonorsOfUptoRow : OpenClaim := { program := "ytklboaabcmghcaa", sum := "293f1c4607038052a293ad3c13543e9e30480437d99d838c83a9b0824aef7278", func := "loop.example/g00854/laws.FnExactHonorsOf", spec := "fnExactHonorsOf", unfollowed := true, recurses := true, apart := false, narrowed := true }
def FnExactHonorsOfUptoSaid : Prop := fnExactHonorsOfUptoRow.holds Try.pinned (OpenSpec.upto fnExactHonorsOfSpec)

/-- 'laws.FnExactHandText', WHERE WHAT IT READS IS OF BULK AT MOST 1048576: true; the input reads as it did. -/
def fnExactHandTextUptoRow : OpenClaim := { program := "ytklboaabcmghcaa", sum := "293f1c4607038052a293ad3c13543e9e30480437d99d838c83a9b0824aef7278", func := "loop.example/g00854/laws.FnExactHandText", spec := "fnExactHandText", inPlace := ["internal/abi.NoEscape", "internal/bytealg.MakeNoZero"], apart := false, narrowed := true }
def FnExactHandTextUptoSaid : Prop := fnExactHandTextUptoRow.holds Try.pinned (OpenSpec.upto fnExactHandTextSpec)

/-- 'laws.FnExactIsDeal', WHERE WHAT IT READS IS OF BULK AT MOST 1048576: true; the input reads as it did. -/
def fnExactIsDealUptoRow : OpenClaim := { program := "ytklboaabcmghcaa", sum := "293f1c4607038052a293ad3c13543e9e30480437d99d838c83a9b0824aef7278", func := "loop.example/g00854/laws.FnExactIsDeal", spec := "fnExactIsDeal", apart := false, narrowed := true }
def FnExactIsDealUptoSaid : Prop := fnExactIsDealUptoRow.holds Try.pinned (OpenSpec.upto fnExactIsDealSpec)

/-- 'laws.FnExactCardsOfDeal', WHERE WHAT IT READS IS OF BULK AT MOST 1048576: true; the input reads as it did. -/
def fnExactCardsOfDealUptoRow : OpenClaim := { program := "ytklboaabcmghcaa", sum := "293f1c4607038052a293ad3c13543e9e30480437d99d838c83a9b0824aef7278", func := "loop.example/g00854/laws.FnExactCardsOfDeal", spec := "fnExactCardsOfDeal", recurses := true, apart := false, narrowed := true }
def FnExactCardsOfDealUptoSaid : Prop := fnExactCardsOfDealUptoRow.holds Try.pinned (OpenSpec.upto fnExactCardsOfDealSpec)

/-- 'laws.FnExactHolderOf', WHERE WHAT IT READS IS OF BULK AT MOST 1048576: true; the input reads as it did. -/
def fnExactHolderOfUptoRow : OpenClaim := { program := "ytklboaabcmghcaa", sum := "293f1c4607038052a293ad3c13543e9e30480437d99d838c83a9b0824aef7278", func := "loop.example/g00854/laws.FnExactHolderOf", spec := "fnExactHolderOf", apart := false, narrowed := true }
def FnExactHolderOfUptoSaid : Prop := fnExactHolderOfUptoRow.holds Try.pinned (OpenSpec.upto fnExactHolderOfSpec)

/-- 'laws.FnExactDealText', WHERE WHAT IT READS IS OF BULK AT MOST 1048576: true; the input reads as it did. -/
def fnExactDealTextUptoRow : OpenClaim := { program := "ytklboaabcmghcaa", sum := "293f1c4607038052a293ad3c13543e9e30480437d99d838c83a9b0824aef7278", func := "loop.example/g00854/laws.FnExactDealText", spec := "fnExactDealText", inPlace := ["internal/abi.NoEscape", "internal/bytealg.MakeNoZero"], unfollowed := true, recurses := true, apart := false, narrowed := true }
def FnExactDealTextUptoSaid : Prop := fnExactDealTextUptoRow.holds Try.pinned (OpenSpec.upto fnExactDealTextSpec)

end Rows
end Go.Proofs.Ytklboaabcmghcaa
