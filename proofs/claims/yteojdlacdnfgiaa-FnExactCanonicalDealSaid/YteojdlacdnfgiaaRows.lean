/-
  No cell of these rows narrows 'for every input' (looked for: loops, veiled, ifaces, maps, wideKeys, modest, calm, conditions, laid).
  DERIVED. THE GIVEN ROWS OF THIS SEAT. 7 by the template 'for every input the law returns true; each argument reads behind the call as it read before'; 0 by the template 'total and deterministic' (their statements: YteojdlacdnfgiaaTotals.lean).
  GIVEN WITH THE SEED: the statements are not yours to turn. If you find one false, say at which input.
  Laid BY PROGRAM, IN A SANDBOX (cutbox-rows.mjs): the forced cells as the released guide's own fill.sh prints them over the translation b4772fbffd2bd121… (all of the seat's roots in one cut). By AI agents, Wed Nov 11 2026. No macro, syntax, notation, axiom, sorry.
-/
import Derived.Test.YteojdlacdnfgiaaChecked
import GoSem.Claim
import GoSem.ClaimJoined
import GoSem.ClaimMapViews
import Derived.JoinedTies
import Derived.KernelRfl
namespace Go.Proofs.Yteojdlacdnfgiaa
/- THE CELL 'sum', in the pinned program and in every row, IS THE sha256 OF THE DUMP (.gsa) THAT YteojdlacdnfgiaaProg.lean LOADS. Nothing in Lean hashes anything: it is a label: what it is worth is what the hold of that sum in a sandbox is worth. -/
noncomputable def Try.pinned : Pinned := { name := "yteojdlacdnfgiaa", sum := "b4772fbffd2bd12180312a36eade33fcef6410995250775039b2231ec68426f0", checked := Try.checked }
namespace Rows
def none {H : Type} : Left H := { results := [], args := [] }

/-- 'laws.FnShapes': WHATEVER THE INPUT: true; the input reads as it did. -/
def fnShapesSpec : ChangeSpec := { name := "fnShapes", fn := fun _ => fun
  | [d] => { results := [.lit (.bool true)], args := [d] }
  | _ => none }
def fnShapesRow : OpenClaim := { program := "yteojdlacdnfgiaa", sum := "b4772fbffd2bd12180312a36eade33fcef6410995250775039b2231ec68426f0", func := "loop.example/g00854/laws.FnShapes", spec := "fnShapes", unfollowed := true, recurses := true, apart := false }
def FnShapesSaid : Prop := fnShapesRow.holds Try.pinned (OpenSpec.ofChange fnShapesSpec)

/-- ITS FALSE NEIGHBOUR: 'it returns false'. Refute it at one input. -/
def fnShapesWrong : ChangeSpec := { name := "fnShapes", fn := fun _ => fun
  | [d] => { results := [.lit (.bool false)], args := [d] }
  | _ => none }
def FnShapesWrongFalsely : Prop := fnShapesRow.holds Try.pinned (OpenSpec.ofChange fnShapesWrong)

/-- 'laws.FnHandParts': WHATEVER THE INPUT: true; the input reads as it did. -/
def fnHandPartsSpec : ChangeSpec := { name := "fnHandParts", fn := fun _ => fun
  | [d] => { results := [.lit (.bool true)], args := [d] }
  | _ => none }
def fnHandPartsRow : OpenClaim := { program := "yteojdlacdnfgiaa", sum := "b4772fbffd2bd12180312a36eade33fcef6410995250775039b2231ec68426f0", func := "loop.example/g00854/laws.FnHandParts", spec := "fnHandParts", unfollowed := true, recurses := true, apart := false }
def FnHandPartsSaid : Prop := fnHandPartsRow.holds Try.pinned (OpenSpec.ofChange fnHandPartsSpec)

/-- ITS FALSE NEIGHBOUR: 'it returns false'. Refute it at one input. -/
def fnHandPartsWrong : ChangeSpec := { name := "fnHandParts", fn := fun _ => fun
  | [d] => { results := [.lit (.bool false)], args := [d] }
  | _ => none }
def FnHandPartsWrongFalsely : Prop := fnHandPartsRow.holds Try.pinned (OpenSpec.ofChange fnHandPartsWrong)

/-- 'laws.FnCanonicalDeal': WHATEVER THE INPUT: true; the input reads as it did. -/
def fnCanonicalDealSpec : ChangeSpec := { name := "fnCanonicalDeal", fn := fun _ => fun
  | [d] => { results := [.lit (.bool true)], args := [d] }
  | _ => none }
def fnCanonicalDealRow : OpenClaim := { program := "yteojdlacdnfgiaa", sum := "b4772fbffd2bd12180312a36eade33fcef6410995250775039b2231ec68426f0", func := "loop.example/g00854/laws.FnCanonicalDeal", spec := "fnCanonicalDeal", unfollowed := true, recurses := true, apart := false }
def FnCanonicalDealSaid : Prop := fnCanonicalDealRow.holds Try.pinned (OpenSpec.ofChange fnCanonicalDealSpec)

/-- ITS FALSE NEIGHBOUR: 'it returns false'. Refute it at one input. -/
def fnCanonicalDealWrong : ChangeSpec := { name := "fnCanonicalDeal", fn := fun _ => fun
  | [d] => { results := [.lit (.bool false)], args := [d] }
  | _ => none }
def FnCanonicalDealWrongFalsely : Prop := fnCanonicalDealRow.holds Try.pinned (OpenSpec.ofChange fnCanonicalDealWrong)

/-- 'laws.FnExactHonorsOf': WHATEVER THE INPUT: true; the input reads as it did. -/
def fnExactHonorsOfSpec : ChangeSpec := { name := "fnExactHonorsOf", fn := fun _ => fun
  | [d1, d2] => { results := [.lit (.bool true)], args := [d1, d2] }
  | _ => none }
def fnExactHonorsOfRow : OpenClaim := { program := "yteojdlacdnfgiaa", sum := "b4772fbffd2bd12180312a36eade33fcef6410995250775039b2231ec68426f0", func := "loop.example/g00854/laws.FnExactHonorsOf", spec := "fnExactHonorsOf", unfollowed := true, recurses := true, apart := false }
def FnExactHonorsOfSaid : Prop := fnExactHonorsOfRow.holds Try.pinned (OpenSpec.ofChange fnExactHonorsOfSpec)

/-- ITS FALSE NEIGHBOUR: 'it returns false'. Refute it at one input. -/
def fnExactHonorsOfWrong : ChangeSpec := { name := "fnExactHonorsOf", fn := fun _ => fun
  | [d1, d2] => { results := [.lit (.bool false)], args := [d1, d2] }
  | _ => none }
def FnExactHonorsOfWrongFalsely : Prop := fnExactHonorsOfRow.holds Try.pinned (OpenSpec.ofChange fnExactHonorsOfWrong)

/-- 'laws.FnExactSuitOrders': WHATEVER THE INPUT: true; the input reads as it did. -/
def fnExactSuitOrdersSpec : ChangeSpec := { name := "fnExactSuitOrders", fn := fun _ => fun
  | [d] => { results := [.lit (.bool true)], args := [d] }
  | _ => none }
def fnExactSuitOrdersRow : OpenClaim := { program := "yteojdlacdnfgiaa", sum := "b4772fbffd2bd12180312a36eade33fcef6410995250775039b2231ec68426f0", func := "loop.example/g00854/laws.FnExactSuitOrders", spec := "fnExactSuitOrders", unfollowed := true, recurses := true, apart := false }
def FnExactSuitOrdersSaid : Prop := fnExactSuitOrdersRow.holds Try.pinned (OpenSpec.ofChange fnExactSuitOrdersSpec)

/-- ITS FALSE NEIGHBOUR: 'it returns false'. Refute it at one input. -/
def fnExactSuitOrdersWrong : ChangeSpec := { name := "fnExactSuitOrders", fn := fun _ => fun
  | [d] => { results := [.lit (.bool false)], args := [d] }
  | _ => none }
def FnExactSuitOrdersWrongFalsely : Prop := fnExactSuitOrdersRow.holds Try.pinned (OpenSpec.ofChange fnExactSuitOrdersWrong)

/-- 'laws.FnExactCanonicalDeal': WHATEVER THE INPUT: true; the input reads as it did. -/
def fnExactCanonicalDealSpec : ChangeSpec := { name := "fnExactCanonicalDeal", fn := fun _ => fun
  | [d1, d2] => { results := [.lit (.bool true)], args := [d1, d2] }
  | _ => none }
def fnExactCanonicalDealRow : OpenClaim := { program := "yteojdlacdnfgiaa", sum := "b4772fbffd2bd12180312a36eade33fcef6410995250775039b2231ec68426f0", func := "loop.example/g00854/laws.FnExactCanonicalDeal", spec := "fnExactCanonicalDeal", unfollowed := true, recurses := true, apart := false }
def FnExactCanonicalDealSaid : Prop := fnExactCanonicalDealRow.holds Try.pinned (OpenSpec.ofChange fnExactCanonicalDealSpec)

/-- ITS FALSE NEIGHBOUR: 'it returns false'. Refute it at one input. -/
def fnExactCanonicalDealWrong : ChangeSpec := { name := "fnExactCanonicalDeal", fn := fun _ => fun
  | [d1, d2] => { results := [.lit (.bool false)], args := [d1, d2] }
  | _ => none }
def FnExactCanonicalDealWrongFalsely : Prop := fnExactCanonicalDealRow.holds Try.pinned (OpenSpec.ofChange fnExactCanonicalDealWrong)

/-- 'laws.FnExactSameUpToSuits': WHATEVER THE INPUT: true; the input reads as it did. -/
def fnExactSameUpToSuitsSpec : ChangeSpec := { name := "fnExactSameUpToSuits", fn := fun _ => fun
  | [d1, d2, d3] => { results := [.lit (.bool true)], args := [d1, d2, d3] }
  | _ => none }
def fnExactSameUpToSuitsRow : OpenClaim := { program := "yteojdlacdnfgiaa", sum := "b4772fbffd2bd12180312a36eade33fcef6410995250775039b2231ec68426f0", func := "loop.example/g00854/laws.FnExactSameUpToSuits", spec := "fnExactSameUpToSuits", unfollowed := true, recurses := true, apart := false }
def FnExactSameUpToSuitsSaid : Prop := fnExactSameUpToSuitsRow.holds Try.pinned (OpenSpec.ofChange fnExactSameUpToSuitsSpec)

/-- ITS FALSE NEIGHBOUR: 'it returns false'. Refute it at one input. -/
def fnExactSameUpToSuitsWrong : ChangeSpec := { name := "fnExactSameUpToSuits", fn := fun _ => fun
  | [d1, d2, d3] => { results := [.lit (.bool false)], args := [d1, d2, d3] }
  | _ => none }
def FnExactSameUpToSuitsWrongFalsely : Prop := fnExactSameUpToSuitsRow.holds Try.pinned (OpenSpec.ofChange fnExactSameUpToSuitsWrong)

/- THE SECOND FORM. 'bulk': how many values and letters a reading holds, each counted each time it is reached (what is shared counts as often as it is met; a slice's spare places count too). A statement '..UptoSaid' is the law's where the arguments, and the package variables that the reading takes, are together of bulk at most 1048576: NARROWER than '..Said'. Prove '..Said' where nothing that the law and all that it calls make is longer than what came in: it says more and counts as full. Else prove '..UptoSaid'. A law counts once. -/
mutual
def uptoBulk {H : Type} : DataW H → Nat
  | .lit (.string bytes) => bytes.length + 1
  | .lit _ => 1
  | .nil => 1
  | .ptr d => uptoBulk d + 1
  | .slice elems spare => uptoBulkAll elems + uptoBulkAll spare + 1
  | .agg parts => uptoBulkAll parts + 1
  | .iface _ d => uptoBulk d + 1
  | .map entries => uptoBulkEntries entries + 1
  | .held _ => 1
def uptoBulkAll {H : Type} : List (DataW H) → Nat
  | [] => 0
  | d :: r => uptoBulk d + uptoBulkAll r
def uptoBulkEntries {H : Type} : List (Lit × DataW H) → Nat
  | [] => 0
  | x :: r => uptoBulkEntry x + uptoBulkEntries r
def uptoBulkEntry {H : Type} : Lit × DataW H → Nat
  | (.string bytes, d) => bytes.length + uptoBulk d + 1
  | (_, d) => uptoBulk d + 1
 end
def uptoSmall : (H : Type) → List (DataW H) → Bool := fun _ ds => decide (uptoBulkAll ds ≤ 1048576)
def OpenSpec.upto (s : _root_.Go.ChangeSpec) : _root_.Go.OpenSpec := { _root_.Go.OpenSpec.ofChange s with cond := some uptoSmall }

/-- 'laws.FnShapes', WHERE WHAT IT READS IS OF BULK AT MOST 1048576: true; the input reads as it did. -/
def fnShapesUptoRow : OpenClaim := { program := "yteojdlacdnfgiaa", sum := "b4772fbffd2bd12180312a36eade33fcef6410995250775039b2231ec68426f0", func := "loop.example/g00854/laws.FnShapes", spec := "fnShapes", unfollowed := true, recurses := true, apart := false, narrowed := true }
def FnShapesUptoSaid : Prop := fnShapesUptoRow.holds Try.pinned (OpenSpec.upto fnShapesSpec)

/-- 'laws.FnHandParts', WHERE WHAT IT READS IS OF BULK AT MOST 1048576: true; the input reads as it did. -/
def fnHandPartsUptoRow : OpenClaim := { program := "yteojdlacdnfgiaa", sum := "b4772fbffd2bd12180312a36eade33fcef6410995250775039b2231ec68426f0", func := "loop.example/g00854/laws.FnHandParts", spec := "fnHandParts", unfollowed := true, recurses := true, apart := false, narrowed := true }
def FnHandPartsUptoSaid : Prop := fnHandPartsUptoRow.holds Try.pinned (OpenSpec.upto fnHandPartsSpec)

/-- 'laws.FnCanonicalDeal', WHERE WHAT IT READS IS OF BULK AT MOST 1048576: true; the input reads as it did. -/
def fnCanonicalDealUptoRow : OpenClaim := { program := "yteojdlacdnfgiaa", sum := "b4772fbffd2bd12180312a36eade33fcef6410995250775039b2231ec68426f0", func := "loop.example/g00854/laws.FnCanonicalDeal", spec := "fnCanonicalDeal", unfollowed := true, recurses := true, apart := false, narrowed := true }
def FnCanonicalDealUptoSaid : Prop := fnCanonicalDealUptoRow.holds Try.pinned (OpenSpec.upto fnCanonicalDealSpec)

/-- 'laws.FnExactHonorsOf', WHERE WHAT IT READS IS OF BULK AT MOST 1048576: true; the input reads as it did. -/
def fnExactHonorsOfUptoRow : OpenClaim := { program := "yteojdlacdnfgiaa", sum := "b4772fbffd2bd12180312a36eade33fcef6410995250775039b2231ec68426f0", func := "loop.example/g00854/laws.FnExactHonorsOf", spec := "fnExactHonorsOf", unfollowed := true, recurses := true, apart := false, narrowed := true }
def FnExactHonorsOfUptoSaid : Prop := fnExactHonorsOfUptoRow.holds Try.pinned (OpenSpec.upto fnExactHonorsOfSpec)

/-- 'laws.FnExactSuitOrders', WHERE WHAT IT READS IS OF BULK AT MOST 1048576: true; the input reads as it did. -/
def fnExactSuitOrdersUptoRow : OpenClaim := { program := "yteojdlacdnfgiaa", sum := "b4772fbffd2bd12180312a36eade33fcef6410995250775039b2231ec68426f0", func := "loop.example/g00854/laws.FnExactSuitOrders", spec := "fnExactSuitOrders", unfollowed := true, recurses := true, apart := false, narrowed := true }
def FnExactSuitOrdersUptoSaid : Prop := fnExactSuitOrdersUptoRow.holds Try.pinned (OpenSpec.upto fnExactSuitOrdersSpec)

/-- 'laws.FnExactCanonicalDeal', WHERE WHAT IT READS IS OF BULK AT MOST 1048576: true; the input reads as it did. -/
def fnExactCanonicalDealUptoRow : OpenClaim := { program := "yteojdlacdnfgiaa", sum := "b4772fbffd2bd12180312a36eade33fcef6410995250775039b2231ec68426f0", func := "loop.example/g00854/laws.FnExactCanonicalDeal", spec := "fnExactCanonicalDeal", unfollowed := true, recurses := true, apart := false, narrowed := true }
def FnExactCanonicalDealUptoSaid : Prop := fnExactCanonicalDealUptoRow.holds Try.pinned (OpenSpec.upto fnExactCanonicalDealSpec)

/-- 'laws.FnExactSameUpToSuits', WHERE WHAT IT READS IS OF BULK AT MOST 1048576: true; the input reads as it did. -/
def fnExactSameUpToSuitsUptoRow : OpenClaim := { program := "yteojdlacdnfgiaa", sum := "b4772fbffd2bd12180312a36eade33fcef6410995250775039b2231ec68426f0", func := "loop.example/g00854/laws.FnExactSameUpToSuits", spec := "fnExactSameUpToSuits", unfollowed := true, recurses := true, apart := false, narrowed := true }
def FnExactSameUpToSuitsUptoSaid : Prop := fnExactSameUpToSuitsUptoRow.holds Try.pinned (OpenSpec.upto fnExactSameUpToSuitsSpec)

end Rows
end Go.Proofs.Yteojdlacdnfgiaa
