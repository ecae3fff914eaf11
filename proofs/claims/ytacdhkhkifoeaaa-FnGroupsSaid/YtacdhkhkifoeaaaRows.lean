/-
  No cell of these rows narrows 'for every input' (looked for: loops, veiled, ifaces, maps, wideKeys, modest, calm, conditions, laid).
  DERIVED. THE GIVEN ROWS OF THIS SEAT. 11 by the template 'for every input the law returns true; each argument reads behind the call as it read before'; 0 by the template 'total and deterministic' (their statements: YtacdhkhkifoeaaaTotals.lean).
  GIVEN WITH THE SEED: the statements are not yours to turn. If you find one false, say at which input.
  Laid BY PROGRAM, IN A SANDBOX (cutbox-rows.mjs): the forced cells as the released guide's own fill.sh prints them over the translation c1a1d1204dddfe18… (all of the seat's roots in one cut). By AI agents, Wed Nov 11 2026. No macro, syntax, notation, axiom, sorry.
-/
import Derived.Test.YtacdhkhkifoeaaaChecked
import GoSem.Claim
import GoSem.ClaimJoined
import GoSem.ClaimMapViews
import Derived.JoinedTies
import Derived.KernelRfl
namespace Go.Proofs.Ytacdhkhkifoeaaa
/- THE CELL 'sum', in the pinned program and in every row, IS THE sha256 OF THE DUMP (.gsa) THAT YtacdhkhkifoeaaaProg.lean LOADS. Nothing in Lean hashes anything: it is a label: what it is worth is what the hold of that sum in a sandbox is worth. -/
noncomputable def Try.pinned : Pinned := { name := "ytacdhkhkifoeaaa", sum := "c1a1d1204dddfe1827cc507e19ef997c9165659e2dc73be4861e2a8b21f2fbaf", checked := Try.checked }
namespace Rows
def none {H : Type} : Left H := { results := [], args := [] }

/-- 'laws.FnRelative': WHATEVER THE INPUT: true; the input reads as it did. -/
def fnRelativeSpec : ChangeSpec := { name := "fnRelative", fn := fun _ => fun
  | [d] => { results := [.lit (.bool true)], args := [d] }
  | _ => none }
def fnRelativeRow : OpenClaim := { program := "ytacdhkhkifoeaaa", sum := "c1a1d1204dddfe1827cc507e19ef997c9165659e2dc73be4861e2a8b21f2fbaf", func := "loop.example/g00854/laws.FnRelative", spec := "fnRelative", unfollowed := true, recurses := true, apart := false }
def FnRelativeSaid : Prop := fnRelativeRow.holds Try.pinned (OpenSpec.ofChange fnRelativeSpec)

/-- ITS FALSE NEIGHBOUR: 'it returns false'. Refute it at one input. -/
def fnRelativeWrong : ChangeSpec := { name := "fnRelative", fn := fun _ => fun
  | [d] => { results := [.lit (.bool false)], args := [d] }
  | _ => none }
def FnRelativeWrongFalsely : Prop := fnRelativeRow.holds Try.pinned (OpenSpec.ofChange fnRelativeWrong)

/-- 'laws.FnGroups': WHATEVER THE INPUT: true; the input reads as it did. -/
def fnGroupsSpec : ChangeSpec := { name := "fnGroups", fn := fun _ => fun
  | [d] => { results := [.lit (.bool true)], args := [d] }
  | _ => none }
def fnGroupsRow : OpenClaim := { program := "ytacdhkhkifoeaaa", sum := "c1a1d1204dddfe1827cc507e19ef997c9165659e2dc73be4861e2a8b21f2fbaf", func := "loop.example/g00854/laws.FnGroups", spec := "fnGroups", unfollowed := true, recurses := true, apart := false }
def FnGroupsSaid : Prop := fnGroupsRow.holds Try.pinned (OpenSpec.ofChange fnGroupsSpec)

/-- ITS FALSE NEIGHBOUR: 'it returns false'. Refute it at one input. -/
def fnGroupsWrong : ChangeSpec := { name := "fnGroups", fn := fun _ => fun
  | [d] => { results := [.lit (.bool false)], args := [d] }
  | _ => none }
def FnGroupsWrongFalsely : Prop := fnGroupsRow.holds Try.pinned (OpenSpec.ofChange fnGroupsWrong)

/-- 'laws.FnCanonicalDeal': WHATEVER THE INPUT: true; the input reads as it did. -/
def fnCanonicalDealSpec : ChangeSpec := { name := "fnCanonicalDeal", fn := fun _ => fun
  | [d] => { results := [.lit (.bool true)], args := [d] }
  | _ => none }
def fnCanonicalDealRow : OpenClaim := { program := "ytacdhkhkifoeaaa", sum := "c1a1d1204dddfe1827cc507e19ef997c9165659e2dc73be4861e2a8b21f2fbaf", func := "loop.example/g00854/laws.FnCanonicalDeal", spec := "fnCanonicalDeal", unfollowed := true, recurses := true, apart := false }
def FnCanonicalDealSaid : Prop := fnCanonicalDealRow.holds Try.pinned (OpenSpec.ofChange fnCanonicalDealSpec)

/-- ITS FALSE NEIGHBOUR: 'it returns false'. Refute it at one input. -/
def fnCanonicalDealWrong : ChangeSpec := { name := "fnCanonicalDeal", fn := fun _ => fun
  | [d] => { results := [.lit (.bool false)], args := [d] }
  | _ => none }
def FnCanonicalDealWrongFalsely : Prop := fnCanonicalDealRow.holds Try.pinned (OpenSpec.ofChange fnCanonicalDealWrong)

/-- 'laws.FnExactHolderLists': WHATEVER THE INPUT: true; the input reads as it did. -/
def fnExactHolderListsSpec : ChangeSpec := { name := "fnExactHolderLists", fn := fun _ => fun
  | [d] => { results := [.lit (.bool true)], args := [d] }
  | _ => none }
def fnExactHolderListsRow : OpenClaim := { program := "ytacdhkhkifoeaaa", sum := "c1a1d1204dddfe1827cc507e19ef997c9165659e2dc73be4861e2a8b21f2fbaf", func := "loop.example/g00854/laws.FnExactHolderLists", spec := "fnExactHolderLists", unfollowed := true, recurses := true, apart := false }
def FnExactHolderListsSaid : Prop := fnExactHolderListsRow.holds Try.pinned (OpenSpec.ofChange fnExactHolderListsSpec)

/-- ITS FALSE NEIGHBOUR: 'it returns false'. Refute it at one input. -/
def fnExactHolderListsWrong : ChangeSpec := { name := "fnExactHolderLists", fn := fun _ => fun
  | [d] => { results := [.lit (.bool false)], args := [d] }
  | _ => none }
def FnExactHolderListsWrongFalsely : Prop := fnExactHolderListsRow.holds Try.pinned (OpenSpec.ofChange fnExactHolderListsWrong)

/-- 'laws.FnExactDealOfHolders': WHATEVER THE INPUT: true; the input reads as it did. -/
def fnExactDealOfHoldersSpec : ChangeSpec := { name := "fnExactDealOfHolders", fn := fun _ => fun
  | [d] => { results := [.lit (.bool true)], args := [d] }
  | _ => none }
def fnExactDealOfHoldersRow : OpenClaim := { program := "ytacdhkhkifoeaaa", sum := "c1a1d1204dddfe1827cc507e19ef997c9165659e2dc73be4861e2a8b21f2fbaf", func := "loop.example/g00854/laws.FnExactDealOfHolders", spec := "fnExactDealOfHolders", unfollowed := true, recurses := true, apart := false }
def FnExactDealOfHoldersSaid : Prop := fnExactDealOfHoldersRow.holds Try.pinned (OpenSpec.ofChange fnExactDealOfHoldersSpec)

/-- ITS FALSE NEIGHBOUR: 'it returns false'. Refute it at one input. -/
def fnExactDealOfHoldersWrong : ChangeSpec := { name := "fnExactDealOfHolders", fn := fun _ => fun
  | [d] => { results := [.lit (.bool false)], args := [d] }
  | _ => none }
def FnExactDealOfHoldersWrongFalsely : Prop := fnExactDealOfHoldersRow.holds Try.pinned (OpenSpec.ofChange fnExactDealOfHoldersWrong)

/-- 'laws.FnExactRelativeDeal': WHATEVER THE INPUT: true; the input reads as it did. -/
def fnExactRelativeDealSpec : ChangeSpec := { name := "fnExactRelativeDeal", fn := fun _ => fun
  | [d] => { results := [.lit (.bool true)], args := [d] }
  | _ => none }
def fnExactRelativeDealRow : OpenClaim := { program := "ytacdhkhkifoeaaa", sum := "c1a1d1204dddfe1827cc507e19ef997c9165659e2dc73be4861e2a8b21f2fbaf", func := "loop.example/g00854/laws.FnExactRelativeDeal", spec := "fnExactRelativeDeal", unfollowed := true, recurses := true, apart := false }
def FnExactRelativeDealSaid : Prop := fnExactRelativeDealRow.holds Try.pinned (OpenSpec.ofChange fnExactRelativeDealSpec)

/-- ITS FALSE NEIGHBOUR: 'it returns false'. Refute it at one input. -/
def fnExactRelativeDealWrong : ChangeSpec := { name := "fnExactRelativeDeal", fn := fun _ => fun
  | [d] => { results := [.lit (.bool false)], args := [d] }
  | _ => none }
def FnExactRelativeDealWrongFalsely : Prop := fnExactRelativeDealRow.holds Try.pinned (OpenSpec.ofChange fnExactRelativeDealWrong)

/-- 'laws.FnExactEquivalentCards': WHATEVER THE INPUT: true; the input reads as it did. -/
def fnExactEquivalentCardsSpec : ChangeSpec := { name := "fnExactEquivalentCards", fn := fun _ => fun
  | [d1, d2] => { results := [.lit (.bool true)], args := [d1, d2] }
  | _ => none }
def fnExactEquivalentCardsRow : OpenClaim := { program := "ytacdhkhkifoeaaa", sum := "c1a1d1204dddfe1827cc507e19ef997c9165659e2dc73be4861e2a8b21f2fbaf", func := "loop.example/g00854/laws.FnExactEquivalentCards", spec := "fnExactEquivalentCards", unfollowed := true, recurses := true, apart := false }
def FnExactEquivalentCardsSaid : Prop := fnExactEquivalentCardsRow.holds Try.pinned (OpenSpec.ofChange fnExactEquivalentCardsSpec)

/-- ITS FALSE NEIGHBOUR: 'it returns false'. Refute it at one input. -/
def fnExactEquivalentCardsWrong : ChangeSpec := { name := "fnExactEquivalentCards", fn := fun _ => fun
  | [d1, d2] => { results := [.lit (.bool false)], args := [d1, d2] }
  | _ => none }
def FnExactEquivalentCardsWrongFalsely : Prop := fnExactEquivalentCardsRow.holds Try.pinned (OpenSpec.ofChange fnExactEquivalentCardsWrong)

/-- 'laws.FnExactGroupsOf': WHATEVER THE INPUT: true; the input reads as it did. -/
def fnExactGroupsOfSpec : ChangeSpec := { name := "fnExactGroupsOf", fn := fun _ => fun
  | [d1, d2] => { results := [.lit (.bool true)], args := [d1, d2] }
  | _ => none }
def fnExactGroupsOfRow : OpenClaim := { program := "ytacdhkhkifoeaaa", sum := "c1a1d1204dddfe1827cc507e19ef997c9165659e2dc73be4861e2a8b21f2fbaf", func := "loop.example/g00854/laws.FnExactGroupsOf", spec := "fnExactGroupsOf", apart := false }
def FnExactGroupsOfSaid : Prop := fnExactGroupsOfRow.holds Try.pinned (OpenSpec.ofChange fnExactGroupsOfSpec)

/-- ITS FALSE NEIGHBOUR: 'it returns false'. Refute it at one input. -/
def fnExactGroupsOfWrong : ChangeSpec := { name := "fnExactGroupsOf", fn := fun _ => fun
  | [d1, d2] => { results := [.lit (.bool false)], args := [d1, d2] }
  | _ => none }
def FnExactGroupsOfWrongFalsely : Prop := fnExactGroupsOfRow.holds Try.pinned (OpenSpec.ofChange fnExactGroupsOfWrong)

/-- 'laws.FnExactSuitOrders': WHATEVER THE INPUT: true; the input reads as it did. -/
def fnExactSuitOrdersSpec : ChangeSpec := { name := "fnExactSuitOrders", fn := fun _ => fun
  | [d] => { results := [.lit (.bool true)], args := [d] }
  | _ => none }
def fnExactSuitOrdersRow : OpenClaim := { program := "ytacdhkhkifoeaaa", sum := "c1a1d1204dddfe1827cc507e19ef997c9165659e2dc73be4861e2a8b21f2fbaf", func := "loop.example/g00854/laws.FnExactSuitOrders", spec := "fnExactSuitOrders", unfollowed := true, recurses := true, apart := false }
def FnExactSuitOrdersSaid : Prop := fnExactSuitOrdersRow.holds Try.pinned (OpenSpec.ofChange fnExactSuitOrdersSpec)

/-- ITS FALSE NEIGHBOUR: 'it returns false'. Refute it at one input. -/
def fnExactSuitOrdersWrong : ChangeSpec := { name := "fnExactSuitOrders", fn := fun _ => fun
  | [d] => { results := [.lit (.bool false)], args := [d] }
  | _ => none }
def FnExactSuitOrdersWrongFalsely : Prop := fnExactSuitOrdersRow.holds Try.pinned (OpenSpec.ofChange fnExactSuitOrdersWrong)

/-- 'laws.FnExactCanonicalDeal': WHATEVER THE INPUT: true; the input reads as it did. -/
def fnExactCanonicalDealSpec : ChangeSpec := { name := "fnExactCanonicalDeal", fn := fun _ => fun
  | [d1, d2] => { results := [.lit (.bool true)], args := [d1, d2] }
  | _ => none }
def fnExactCanonicalDealRow : OpenClaim := { program := "ytacdhkhkifoeaaa", sum := "c1a1d1204dddfe1827cc507e19ef997c9165659e2dc73be4861e2a8b21f2fbaf", func := "loop.example/g00854/laws.FnExactCanonicalDeal", spec := "fnExactCanonicalDeal", unfollowed := true, recurses := true, apart := false }
def FnExactCanonicalDealSaid : Prop := fnExactCanonicalDealRow.holds Try.pinned (OpenSpec.ofChange fnExactCanonicalDealSpec)

/-- ITS FALSE NEIGHBOUR: 'it returns false'. Refute it at one input. -/
def fnExactCanonicalDealWrong : ChangeSpec := { name := "fnExactCanonicalDeal", fn := fun _ => fun
  | [d1, d2] => { results := [.lit (.bool false)], args := [d1, d2] }
  | _ => none }
def FnExactCanonicalDealWrongFalsely : Prop := fnExactCanonicalDealRow.holds Try.pinned (OpenSpec.ofChange fnExactCanonicalDealWrong)

/-- 'laws.FnExactSameUpToSuits': WHATEVER THE INPUT: true; the input reads as it did. -/
def fnExactSameUpToSuitsSpec : ChangeSpec := { name := "fnExactSameUpToSuits", fn := fun _ => fun
  | [d1, d2, d3] => { results := [.lit (.bool true)], args := [d1, d2, d3] }
  | _ => none }
def fnExactSameUpToSuitsRow : OpenClaim := { program := "ytacdhkhkifoeaaa", sum := "c1a1d1204dddfe1827cc507e19ef997c9165659e2dc73be4861e2a8b21f2fbaf", func := "loop.example/g00854/laws.FnExactSameUpToSuits", spec := "fnExactSameUpToSuits", unfollowed := true, recurses := true, apart := false }
def FnExactSameUpToSuitsSaid : Prop := fnExactSameUpToSuitsRow.holds Try.pinned (OpenSpec.ofChange fnExactSameUpToSuitsSpec)

/-- ITS FALSE NEIGHBOUR: 'it returns false'. Refute it at one input. -/
def fnExactSameUpToSuitsWrong : ChangeSpec := { name := "fnExactSameUpToSuits", fn := fun _ => fun
  | [d1, d2, d3] => { results := [.lit (.bool false)], args := [d1, d2, d3] }
  | _ => none }
def FnExactSameUpToSuitsWrongFalsely : Prop := fnExactSameUpToSuitsRow.holds Try.pinned (OpenSpec.ofChange fnExactSameUpToSuitsWrong)

/- THE SECOND FORM. 'bulk': how many values and letters a reading holds, each counted each time it is reached (what is shared counts as often as it is met; a slice's spare places count too). A statement '..UptoSaid' is the law's where the arguments, and the package variables that the reading takes, are together of bulk at most 1048576: NARROWER than '..Said'. Prove '..Said' where nothing that the law and all that it calls make is longer than what came in: it says more and counts as full. Else prove '..UptoSaid'. A law counts once. -/
mutual
def uptoBulk {H : Type} : DataW H → Nat
  | .lit (.string bytes) => bytes.length + 1
  | .lit _ => 1
  | .nil => 1
  | .ptr d => uptoBulk d + 1
  | .slice elems spare => uptoBulkAll elems + uptoBulkAll spare + 1
  | .agg parts => uptoBulkAll parts + 1
  | .iface _ d => uptoBulk d + 1
  | .map entries => uptoBulkEntries entries + 1
  | .held _ => 1
def uptoBulkAll {H : Type} : List (DataW H) → Nat
  | [] => 0
  | d :: r => uptoBulk d + uptoBulkAll r
def uptoBulkEntries {H : Type} : List (Lit × DataW H) → Nat
  | [] => 0
  | x :: r => uptoBulkEntry x + uptoBulkEntries r
def uptoBulkEntry {H : Type} : Lit × DataW H → Nat
  | (.string bytes, d) => bytes.length + uptoBulk d + 1
  | (_, d) => uptoBulk d + 1
 end
def uptoSmall : (H : Type) → List (DataW H) → Bool := fun _ ds => decide (uptoBulkAll ds ≤ 1048576)
def OpenSpec.upto (s : _root_.Go.ChangeSpec) : _root_.Go.OpenSpec := { _root_.Go.OpenSpec.ofChange s with cond := some uptoSmall }

/-- 'laws.FnRelative', WHERE WHAT IT READS IS OF BULK AT MOST 1048576: true; the input reads as it did. -/
def fnRelativeUptoRow : OpenClaim := { program := "ytacdhkhkifoeaaa", sum := "c1a1d1204dddfe1827cc507e19ef997c9165659e2dc73be4861e2a8b21f2fbaf", func := "loop.example/g00854/laws.FnRelative", spec := "fnRelative", unfollowed := true, recurses := true, apart := false, narrowed := true }
def FnRelativeUptoSaid : Prop := fnRelativeUptoRow.holds Try.pinned (OpenSpec.upto fnRelativeSpec)

/-- 'laws.FnGroups', WHERE WHAT IT READS IS OF BULK AT MOST 1048576: true; the input reads as it did. -/
def fnGroupsUptoRow : OpenClaim := { program := "ytacdhkhkifoeaaa", sum := "c1a1d1204dddfe1827cc507e19ef997c9165659e2dc73be4861e2a8b21f2fbaf", func := "loop.example/g00854/laws.FnGroups", spec := "fnGroups", unfollowed := true, recurses := true, apart := false, narrowed := true }
def FnGroupsUptoSaid : Prop := fnGroupsUptoRow.holds Try.pinned (OpenSpec.upto fnGroupsSpec)

/-- 'laws.FnCanonicalDeal', WHERE WHAT IT READS IS OF BULK AT MOST 1048576: true; the input reads as it did. -/
def fnCanonicalDealUptoRow : OpenClaim := { program := "ytacdhkhkifoeaaa", sum := "c1a1d1204dddfe1827cc507e19ef997c9165659e2dc73be4861e2a8b21f2fbaf", func := "loop.example/g00854/laws.FnCanonicalDeal", spec := "fnCanonicalDeal", unfollowed := true, recurses := true, apart := false, narrowed := true }
def FnCanonicalDealUptoSaid : Prop := fnCanonicalDealUptoRow.holds Try.pinned (OpenSpec.upto fnCanonicalDealSpec)

/-- 'laws.FnExactHolderLists', WHERE WHAT IT READS IS OF BULK AT MOST 1048576: true; the input reads as it did. -/
def fnExactHolderListsUptoRow : OpenClaim := { program := "ytacdhkhkifoeaaa", sum := "c1a1d1204dddfe1827cc507e19ef997c9165659e2dc73be4861e2a8b21f2fbaf", func := "loop.example/g00854/laws.FnExactHolderLists", spec := "fnExactHolderLists", unfollowed := true, recurses := true, apart := false, narrowed := true }
def FnExactHolderListsUptoSaid : Prop := fnExactHolderListsUptoRow.holds Try.pinned (OpenSpec.upto fnExactHolderListsSpec)

/-- 'laws.FnExactDealOfHolders', WHERE WHAT IT READS IS OF BULK AT MOST 1048576: true; the input reads as it did. -/
def fnExactDealOfHoldersUptoRow : OpenClaim := { program := "ytacdhkhkifoeaaa", sum := "c1a1d1204dddfe1827cc507e19ef997c9165659e2dc73be4861e2a8b21f2fbaf", func := "loop.example/g00854/laws.FnExactDealOfHolders", spec := "fnExactDealOfHolders", unfollowed := true, recurses := true, apart := false, narrowed := true }
def FnExactDealOfHoldersUptoSaid : Prop := fnExactDealOfHoldersUptoRow.holds Try.pinned (OpenSpec.upto fnExactDealOfHoldersSpec)

/-- 'laws.FnExactRelativeDeal', WHERE WHAT IT READS IS OF BULK AT MOST 1048576: true; the input reads as it did. -/
def fnExactRelativeDealUptoRow : OpenClaim := { program := "ytacdhkhkifoeaaa", sum := "c1a1d1204dddfe1827cc507e19ef997c9165659e2dc73be4861e2a8b21f2fbaf", func := "loop.example/g00854/laws.FnExactRelativeDeal", spec := "fnExactRelativeDeal", unfollowed := true, recurses := true, apart := false, narrowed := true }
def FnExactRelativeDealUptoSaid : Prop := fnExactRelativeDealUptoRow.holds Try.pinned (OpenSpec.upto fnExactRelativeDealSpec)

/-- 'laws.FnExactEquivalentCards', WHERE WHAT IT READS IS OF BULK AT MOST 1048576: true; the input reads as it did. -/
def fnExactEquivalentCardsUptoRow : OpenClaim := { program := "ytacdhkhkifoeaaa", sum := "c1a1d1204dddfe1827cc507e19ef997c9165659e2dc73be4861e2a8b21f2fbaf", func := "loop.example/g00854/laws.FnExactEquivalentCards", spec := "fnExactEquivalentCards", unfollowed := true, recurses := true, apart := false, narrowed := true }
def FnExactEquivalentCardsUptoSaid : Prop := fnExactEquivalentCardsUptoRow.holds Try.pinned (OpenSpec.upto fnExactEquivalentCardsSpec)

/-- 'laws.FnExactGroupsOf', WHERE WHAT IT READS IS OF BULK AT MOST 1048576: true; the input reads as it did. -/
def fnExactGroupsOfUptoRow : OpenClaim := { program := "ytacdhkhkifoeaaa", sum := "c1a1d1204dddfe1827cc507e19ef997c9165659e2dc73be4861e2a8b21f2fbaf", func := "loop.example/g00854/laws.FnExactGroupsOf", spec := "fnExactGroupsOf", apart := false, narrowed := true }
def FnExactGroupsOfUptoSaid : Prop := fnExactGroupsOfUptoRow.holds Try.pinned (OpenSpec.upto fnExactGroupsOfSpec)

/-- 'laws.FnExactSuitOrders', WHERE WHAT IT READS IS OF BULK AT MOST 1048576: true; the input reads as it did. -/
def fnExactSuitOrdersUptoRow : OpenClaim := { program := "ytacdhkhkifoeaaa", sum := "c1a1d1204dddfe1827cc507e19ef997c9165659e2dc73be4861e2a8b21f2fbaf", func := "loop.example/g00854/laws.FnExactSuitOrders", spec := "fnExactSuitOrders", unfollowed := true, recurses := true, apart := false, narrowed := true }
def FnExactSuitOrdersUptoSaid : Prop := fnExactSuitOrdersUptoRow.holds Try.pinned (OpenSpec.upto fnExactSuitOrdersSpec)

/-- 'laws.FnExactCanonicalDeal', WHERE WHAT IT READS IS OF BULK AT MOST 1048576: true; the input reads as it did. -/
def fnExactCanonicalDealUptoRow : OpenClaim := { program := "ytacdhkhkifoeaaa", sum := "c1a1d1204dddfe1827cc507e19ef997c9165659e2dc73be4861e2a8b21f2fbaf", func := "loop.example/g00854/laws.FnExactCanonicalDeal", spec := "fnExactCanonicalDeal", unfollowed := true, recurses := true, apart := false, narrowed := true }
def FnExactCanonicalDealUptoSaid : Prop := fnExactCanonicalDealUptoRow.holds Try.pinned (OpenSpec.upto fnExactCanonicalDealSpec)

/-- 'laws.FnExactSameUpToSuits', WHERE WHAT IT READS IS OF BULK AT MOST 1048576: true; the input reads as it did. -/
def fnExactSameUpToSuitsUptoRow : OpenClaim := { program := "ytacdhkhkifoeaaa", sum := "c1a1d1204dddfe1827cc507e19ef997c9165659e2dc73be4861e2a8b21f2fbaf", func := "loop.example/g00854/laws.FnExactSameUpToSuits", spec := "fnExactSameUpToSuits", unfollowed := true, recurses := true, apart := false, narrowed := true }
def FnExactSameUpToSuitsUptoSaid : Prop := fnExactSameUpToSuitsUptoRow.holds Try.pinned (OpenSpec.upto fnExactSameUpToSuitsSpec)

end Rows
end Go.Proofs.Ytacdhkhkifoeaaa
