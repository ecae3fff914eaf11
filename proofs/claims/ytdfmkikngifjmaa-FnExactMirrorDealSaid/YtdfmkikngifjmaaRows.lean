/-
  No cell of these rows narrows 'for every input' (looked for: loops, veiled, ifaces, maps, wideKeys, modest, calm, conditions, laid).
  DERIVED. THE GIVEN ROWS OF THIS SEAT. 12 by the template 'for every input the law returns true; each argument reads behind the call as it read before'; 0 by the template 'total and deterministic' (their statements: YtdfmkikngifjmaaTotals.lean).
  GIVEN WITH THE SEED: the statements are not yours to turn. If you find one false, say at which input.
  Laid BY PROGRAM, IN A SANDBOX (cutbox-rows.mjs): the forced cells as the released guide's own fill.sh prints them over the translation 264c8a3a8e91d1ff… (all of the seat's roots in one cut). By AI agents, Wed Nov 11 2026. No macro, syntax, notation, axiom, sorry.
-/
import Derived.Test.YtdfmkikngifjmaaChecked
import GoSem.Claim
import GoSem.ClaimJoined
import GoSem.ClaimMapViews
import Derived.JoinedTies
import Derived.KernelRfl
namespace Go.Proofs.Ytdfmkikngifjmaa
/- THE CELL 'sum', in the pinned program and in every row, IS THE sha256 OF THE DUMP (.gsa) THAT YtdfmkikngifjmaaProg.lean LOADS. Nothing in Lean hashes anything: it is a label: what it is worth is what the hold of that sum in a sandbox is worth. -/
noncomputable def Try.pinned : Pinned := { name := "ytdfmkikngifjmaa", sum := "264c8a3a8e91d1ff8c65e7bec31767bb3a998a3c57651d7679aa41b01454a416", checked := Try.checked }
namespace Rows
def none {H : Type} : Left H := { results := [], args := [] }

/-- 'laws.FnExactDealOfHolders': WHATEVER THE INPUT: true; the input reads as it did. -/
def fnExactDealOfHoldersSpec : ChangeSpec := { name := "fnExactDealOfHolders", fn := fun _ => fun
  | [d] => { results := [.lit (.bool true)], args := [d] }
  | _ => none }
def fnExactDealOfHoldersRow : OpenClaim := { program := "ytdfmkikngifjmaa", sum := "264c8a3a8e91d1ff8c65e7bec31767bb3a998a3c57651d7679aa41b01454a416", func := "loop.example/g00854/laws.FnExactDealOfHolders", spec := "fnExactDealOfHolders", unfollowed := true, recurses := true, apart := false }
def FnExactDealOfHoldersSaid : Prop := fnExactDealOfHoldersRow.holds Try.pinned (OpenSpec.ofChange fnExactDealOfHoldersSpec)

/-- ITS FALSE NEIGHBOUR: 'it returns false'. Refute it at one input. -/
def fnExactDealOfHoldersWrong : ChangeSpec := { name := "fnExactDealOfHolders", fn := fun _ => fun
  | [d] => { results := [.lit (.bool false)], args := [d] }
  | _ => none }
def FnExactDealOfHoldersWrongFalsely : Prop := fnExactDealOfHoldersRow.holds Try.pinned (OpenSpec.ofChange fnExactDealOfHoldersWrong)

/-- 'laws.FnRelative': WHATEVER THE INPUT: true; the input reads as it did. -/
def fnRelativeSpec : ChangeSpec := { name := "fnRelative", fn := fun _ => fun
  | [d] => { results := [.lit (.bool true)], args := [d] }
  | _ => none }
def fnRelativeRow : OpenClaim := { program := "ytdfmkikngifjmaa", sum := "264c8a3a8e91d1ff8c65e7bec31767bb3a998a3c57651d7679aa41b01454a416", func := "loop.example/g00854/laws.FnRelative", spec := "fnRelative", unfollowed := true, recurses := true, apart := false }
def FnRelativeSaid : Prop := fnRelativeRow.holds Try.pinned (OpenSpec.ofChange fnRelativeSpec)

/-- ITS FALSE NEIGHBOUR: 'it returns false'. Refute it at one input. -/
def fnRelativeWrong : ChangeSpec := { name := "fnRelative", fn := fun _ => fun
  | [d] => { results := [.lit (.bool false)], args := [d] }
  | _ => none }
def FnRelativeWrongFalsely : Prop := fnRelativeRow.holds Try.pinned (OpenSpec.ofChange fnRelativeWrong)

/-- 'laws.FnExactSuitOrders': WHATEVER THE INPUT: true; the input reads as it did. -/
def fnExactSuitOrdersSpec : ChangeSpec := { name := "fnExactSuitOrders", fn := fun _ => fun
  | [d] => { results := [.lit (.bool true)], args := [d] }
  | _ => none }
def fnExactSuitOrdersRow : OpenClaim := { program := "ytdfmkikngifjmaa", sum := "264c8a3a8e91d1ff8c65e7bec31767bb3a998a3c57651d7679aa41b01454a416", func := "loop.example/g00854/laws.FnExactSuitOrders", spec := "fnExactSuitOrders", unfollowed := true, recurses := true, apart := false }
def FnExactSuitOrdersSaid : Prop := fnExactSuitOrdersRow.holds Try.pinned (OpenSpec.ofChange fnExactSuitOrdersSpec)

/-- ITS FALSE NEIGHBOUR: 'it returns false'. Refute it at one input. -/
def fnExactSuitOrdersWrong : ChangeSpec := { name := "fnExactSuitOrders", fn := fun _ => fun
  | [d] => { results := [.lit (.bool false)], args := [d] }
  | _ => none }
def FnExactSuitOrdersWrongFalsely : Prop := fnExactSuitOrdersRow.holds Try.pinned (OpenSpec.ofChange fnExactSuitOrdersWrong)

/-- 'laws.FnExactCanonicalDeal': WHATEVER THE INPUT: true; the input reads as it did. -/
def fnExactCanonicalDealSpec : ChangeSpec := { name := "fnExactCanonicalDeal", fn := fun _ => fun
  | [d1, d2] => { results := [.lit (.bool true)], args := [d1, d2] }
  | _ => none }
def fnExactCanonicalDealRow : OpenClaim := { program := "ytdfmkikngifjmaa", sum := "264c8a3a8e91d1ff8c65e7bec31767bb3a998a3c57651d7679aa41b01454a416", func := "loop.example/g00854/laws.FnExactCanonicalDeal", spec := "fnExactCanonicalDeal", unfollowed := true, recurses := true, apart := false }
def FnExactCanonicalDealSaid : Prop := fnExactCanonicalDealRow.holds Try.pinned (OpenSpec.ofChange fnExactCanonicalDealSpec)

/-- ITS FALSE NEIGHBOUR: 'it returns false'. Refute it at one input. -/
def fnExactCanonicalDealWrong : ChangeSpec := { name := "fnExactCanonicalDeal", fn := fun _ => fun
  | [d1, d2] => { results := [.lit (.bool false)], args := [d1, d2] }
  | _ => none }
def FnExactCanonicalDealWrongFalsely : Prop := fnExactCanonicalDealRow.holds Try.pinned (OpenSpec.ofChange fnExactCanonicalDealWrong)

/-- 'laws.FnExactSameUpToSuits': WHATEVER THE INPUT: true; the input reads as it did. -/
def fnExactSameUpToSuitsSpec : ChangeSpec := { name := "fnExactSameUpToSuits", fn := fun _ => fun
  | [d1, d2, d3] => { results := [.lit (.bool true)], args := [d1, d2, d3] }
  | _ => none }
def fnExactSameUpToSuitsRow : OpenClaim := { program := "ytdfmkikngifjmaa", sum := "264c8a3a8e91d1ff8c65e7bec31767bb3a998a3c57651d7679aa41b01454a416", func := "loop.example/g00854/laws.FnExactSameUpToSuits", spec := "fnExactSameUpToSuits", unfollowed := true, recurses := true, apart := false }
def FnExactSameUpToSuitsSaid : Prop := fnExactSameUpToSuitsRow.holds Try.pinned (OpenSpec.ofChange fnExactSameUpToSuitsSpec)

/-- ITS FALSE NEIGHBOUR: 'it returns false'. Refute it at one input. -/
def fnExactSameUpToSuitsWrong : ChangeSpec := { name := "fnExactSameUpToSuits", fn := fun _ => fun
  | [d1, d2, d3] => { results := [.lit (.bool false)], args := [d1, d2, d3] }
  | _ => none }
def FnExactSameUpToSuitsWrongFalsely : Prop := fnExactSameUpToSuitsRow.holds Try.pinned (OpenSpec.ofChange fnExactSameUpToSuitsWrong)

/-- 'laws.FnCanonicalDeal': WHATEVER THE INPUT: true; the input reads as it did. -/
def fnCanonicalDealSpec : ChangeSpec := { name := "fnCanonicalDeal", fn := fun _ => fun
  | [d] => { results := [.lit (.bool true)], args := [d] }
  | _ => none }
def fnCanonicalDealRow : OpenClaim := { program := "ytdfmkikngifjmaa", sum := "264c8a3a8e91d1ff8c65e7bec31767bb3a998a3c57651d7679aa41b01454a416", func := "loop.example/g00854/laws.FnCanonicalDeal", spec := "fnCanonicalDeal", unfollowed := true, recurses := true, apart := false }
def FnCanonicalDealSaid : Prop := fnCanonicalDealRow.holds Try.pinned (OpenSpec.ofChange fnCanonicalDealSpec)

/-- ITS FALSE NEIGHBOUR: 'it returns false'. Refute it at one input. -/
def fnCanonicalDealWrong : ChangeSpec := { name := "fnCanonicalDeal", fn := fun _ => fun
  | [d] => { results := [.lit (.bool false)], args := [d] }
  | _ => none }
def FnCanonicalDealWrongFalsely : Prop := fnCanonicalDealRow.holds Try.pinned (OpenSpec.ofChange fnCanonicalDealWrong)

/-- 'laws.FnExactMirrorDeal': WHATEVER THE INPUT: true; the input reads as it did. -/
def fnExactMirrorDealSpec : ChangeSpec := { name := "fnExactMirrorDeal", fn := fun _ => fun
  | [d] => { results := [.lit (.bool true)], args := [d] }
  | _ => none }
def fnExactMirrorDealRow : OpenClaim := { program := "ytdfmkikngifjmaa", sum := "264c8a3a8e91d1ff8c65e7bec31767bb3a998a3c57651d7679aa41b01454a416", func := "loop.example/g00854/laws.FnExactMirrorDeal", spec := "fnExactMirrorDeal", unfollowed := true, recurses := true, apart := false }
def FnExactMirrorDealSaid : Prop := fnExactMirrorDealRow.holds Try.pinned (OpenSpec.ofChange fnExactMirrorDealSpec)

/-- ITS FALSE NEIGHBOUR: 'it returns false'. Refute it at one input. -/
def fnExactMirrorDealWrong : ChangeSpec := { name := "fnExactMirrorDeal", fn := fun _ => fun
  | [d] => { results := [.lit (.bool false)], args := [d] }
  | _ => none }
def FnExactMirrorDealWrongFalsely : Prop := fnExactMirrorDealRow.holds Try.pinned (OpenSpec.ofChange fnExactMirrorDealWrong)

/-- 'laws.FnExactRotateDeal': WHATEVER THE INPUT: true; the input reads as it did. -/
def fnExactRotateDealSpec : ChangeSpec := { name := "fnExactRotateDeal", fn := fun _ => fun
  | [d1, d2] => { results := [.lit (.bool true)], args := [d1, d2] }
  | _ => none }
def fnExactRotateDealRow : OpenClaim := { program := "ytdfmkikngifjmaa", sum := "264c8a3a8e91d1ff8c65e7bec31767bb3a998a3c57651d7679aa41b01454a416", func := "loop.example/g00854/laws.FnExactRotateDeal", spec := "fnExactRotateDeal", unfollowed := true, recurses := true, apart := false }
def FnExactRotateDealSaid : Prop := fnExactRotateDealRow.holds Try.pinned (OpenSpec.ofChange fnExactRotateDealSpec)

/-- ITS FALSE NEIGHBOUR: 'it returns false'. Refute it at one input. -/
def fnExactRotateDealWrong : ChangeSpec := { name := "fnExactRotateDeal", fn := fun _ => fun
  | [d1, d2] => { results := [.lit (.bool false)], args := [d1, d2] }
  | _ => none }
def FnExactRotateDealWrongFalsely : Prop := fnExactRotateDealRow.holds Try.pinned (OpenSpec.ofChange fnExactRotateDealWrong)

/-- 'laws.FnExactExchangeCards': WHATEVER THE INPUT: true; the input reads as it did. -/
def fnExactExchangeCardsSpec : ChangeSpec := { name := "fnExactExchangeCards", fn := fun _ => fun
  | [d1, d2, d3] => { results := [.lit (.bool true)], args := [d1, d2, d3] }
  | _ => none }
def fnExactExchangeCardsRow : OpenClaim := { program := "ytdfmkikngifjmaa", sum := "264c8a3a8e91d1ff8c65e7bec31767bb3a998a3c57651d7679aa41b01454a416", func := "loop.example/g00854/laws.FnExactExchangeCards", spec := "fnExactExchangeCards", unfollowed := true, recurses := true, apart := false }
def FnExactExchangeCardsSaid : Prop := fnExactExchangeCardsRow.holds Try.pinned (OpenSpec.ofChange fnExactExchangeCardsSpec)

/-- ITS FALSE NEIGHBOUR: 'it returns false'. Refute it at one input. -/
def fnExactExchangeCardsWrong : ChangeSpec := { name := "fnExactExchangeCards", fn := fun _ => fun
  | [d1, d2, d3] => { results := [.lit (.bool false)], args := [d1, d2, d3] }
  | _ => none }
def FnExactExchangeCardsWrongFalsely : Prop := fnExactExchangeCardsRow.holds Try.pinned (OpenSpec.ofChange fnExactExchangeCardsWrong)

/-- 'laws.FnExactPermuteSuits': WHATEVER THE INPUT: true; the input reads as it did. -/
def fnExactPermuteSuitsSpec : ChangeSpec := { name := "fnExactPermuteSuits", fn := fun _ => fun
  | [d1, d2] => { results := [.lit (.bool true)], args := [d1, d2] }
  | _ => none }
def fnExactPermuteSuitsRow : OpenClaim := { program := "ytdfmkikngifjmaa", sum := "264c8a3a8e91d1ff8c65e7bec31767bb3a998a3c57651d7679aa41b01454a416", func := "loop.example/g00854/laws.FnExactPermuteSuits", spec := "fnExactPermuteSuits", unfollowed := true, recurses := true, apart := false }
def FnExactPermuteSuitsSaid : Prop := fnExactPermuteSuitsRow.holds Try.pinned (OpenSpec.ofChange fnExactPermuteSuitsSpec)

/-- ITS FALSE NEIGHBOUR: 'it returns false'. Refute it at one input. -/
def fnExactPermuteSuitsWrong : ChangeSpec := { name := "fnExactPermuteSuits", fn := fun _ => fun
  | [d1, d2] => { results := [.lit (.bool false)], args := [d1, d2] }
  | _ => none }
def FnExactPermuteSuitsWrongFalsely : Prop := fnExactPermuteSuitsRow.holds Try.pinned (OpenSpec.ofChange fnExactPermuteSuitsWrong)

/-- 'laws.FnDealSymmetries': WHATEVER THE INPUT: true; the input reads as it did. -/
def fnDealSymmetriesSpec : ChangeSpec := { name := "fnDealSymmetries", fn := fun _ => fun
  | [d] => { results := [.lit (.bool true)], args := [d] }
  | _ => none }
def fnDealSymmetriesRow : OpenClaim := { program := "ytdfmkikngifjmaa", sum := "264c8a3a8e91d1ff8c65e7bec31767bb3a998a3c57651d7679aa41b01454a416", func := "loop.example/g00854/laws.FnDealSymmetries", spec := "fnDealSymmetries", unfollowed := true, recurses := true, apart := false }
def FnDealSymmetriesSaid : Prop := fnDealSymmetriesRow.holds Try.pinned (OpenSpec.ofChange fnDealSymmetriesSpec)

/-- ITS FALSE NEIGHBOUR: 'it returns false'. Refute it at one input. -/
def fnDealSymmetriesWrong : ChangeSpec := { name := "fnDealSymmetries", fn := fun _ => fun
  | [d] => { results := [.lit (.bool false)], args := [d] }
  | _ => none }
def FnDealSymmetriesWrongFalsely : Prop := fnDealSymmetriesRow.holds Try.pinned (OpenSpec.ofChange fnDealSymmetriesWrong)

/-- 'laws.FnExchange': WHATEVER THE INPUT: true; the input reads as it did. -/
def fnExchangeSpec : ChangeSpec := { name := "fnExchange", fn := fun _ => fun
  | [d] => { results := [.lit (.bool true)], args := [d] }
  | _ => none }
def fnExchangeRow : OpenClaim := { program := "ytdfmkikngifjmaa", sum := "264c8a3a8e91d1ff8c65e7bec31767bb3a998a3c57651d7679aa41b01454a416", func := "loop.example/g00854/laws.FnExchange", spec := "fnExchange", unfollowed := true, recurses := true, apart := false }
def FnExchangeSaid : Prop := fnExchangeRow.holds Try.pinned (OpenSpec.ofChange fnExchangeSpec)

/-- ITS FALSE NEIGHBOUR: 'it returns false'. Refute it at one input. -/
def fnExchangeWrong : ChangeSpec := { name := "fnExchange", fn := fun _ => fun
  | [d] => { results := [.lit (.bool false)], args := [d] }
  | _ => none }
def FnExchangeWrongFalsely : Prop := fnExchangeRow.holds Try.pinned (OpenSpec.ofChange fnExchangeWrong)

/- THE SECOND FORM. 'bulk': how many values and letters a reading holds, each counted each time it is reached (what is shared counts as often as it is met; a slice's spare places count too). A statement '..UptoSaid' is the law's where the arguments, and the package variables that the reading takes, are together of bulk at most 1048576: NARROWER than '..Said'. Prove '..Said' where nothing that the law and all that it calls make is longer than what came in: it says more and counts as full. Else prove '..UptoSaid'. A law counts once. -/
mutual
def uptoBulk {H : Type} : DataW H → Nat
  | .lit (.string bytes) => bytes.length + 1
  | .lit _ => 1
  | .nil => 1
  | .ptr d => uptoBulk d + 1
  | .slice elems spare => uptoBulkAll elems + uptoBulkAll spare + 1
  | .agg parts => uptoBulkAll parts + 1
  | .iface _ d => uptoBulk d + 1
  | .map entries => uptoBulkEntries entries + 1
  | .held _ => 1
def uptoBulkAll {H : Type} : List (DataW H) → Nat
  | [] => 0
  | d :: r => uptoBulk d + uptoBulkAll r
def uptoBulkEntries {H : Type} : List (Lit × DataW H) → Nat
  | [] => 0
  | x :: r => uptoBulkEntry x + uptoBulkEntries r
def uptoBulkEntry {H : Type} : Lit × DataW H → Nat
  | (.string bytes, d) => bytes.length + uptoBulk d + 1
  | (_, d) => uptoBulk d + 1
 end
def uptoSmall : (H : Type) → List (DataW H) → Bool := fun _ ds => decide (uptoBulkAll ds ≤ 1048576)
def OpenSpec.upto (s : _root_.Go.ChangeSpec) : _root_.Go.OpenSpec := { _root_.Go.OpenSpec.ofChange s with cond := some uptoSmall }

/-- 'laws.FnExactDealOfHolders', WHERE WHAT IT READS IS OF BULK AT MOST 1048576: true; the input reads as it did. -/
def fnExactDealOfHoldersUptoRow : OpenClaim := { program := "ytdfmkikngifjmaa", sum := "264c8a3a8e91d1ff8c65e7bec31767bb3a998a3c57651d7679aa41b01454a416", func := "loop.example/g00854/laws.FnExactDealOfHolders", spec := "fnExactDealOfHolders", unfollowed := true, recurses := true, apart := false, narrowed := true }
def FnExactDealOfHoldersUptoSaid : Prop := fnExactDealOfHoldersUptoRow.holds Try.pinned (OpenSpec.upto fnExactDealOfHoldersSpec)

/-- 'laws.FnRelative', WHERE WHAT IT READS IS OF BULK AT MOST 1048576: true; the input reads as it did. -/
def fnRelativeUptoRow : OpenClaim := { program := "ytdfmkikngifjmaa", sum := "264c8a3a8e91d1ff8c65e7bec31767bb3a998a3c57651d7679aa41b01454a416", func := "loop.example/g00854/laws.FnRelative", spec := "fnRelative", unfollowed := true, recurses := true, apart := false, narrowed := true }
def FnRelativeUptoSaid : Prop := fnRelativeUptoRow.holds Try.pinned (OpenSpec.upto fnRelativeSpec)

/-- 'laws.FnExactSuitOrders', WHERE WHAT IT READS IS OF BULK AT MOST 1048576: true; the input reads as it did. -/
def fnExactSuitOrdersUptoRow : OpenClaim := { program := "ytdfmkikngifjmaa", sum := "264c8a3a8e91d1ff8c65e7bec31767bb3a998a3c57651d7679aa41b01454a416", func := "loop.example/g00854/laws.FnExactSuitOrders", spec := "fnExactSuitOrders", unfollowed := true, recurses := true, apart := false, narrowed := true }
def FnExactSuitOrdersUptoSaid : Prop := fnExactSuitOrdersUptoRow.holds Try.pinned (OpenSpec.upto fnExactSuitOrdersSpec)

/-- 'laws.FnExactCanonicalDeal', WHERE WHAT IT READS IS OF BULK AT MOST 1048576: true; the input reads as it did. -/
def fnExactCanonicalDealUptoRow : OpenClaim := { program := "ytdfmkikngifjmaa", sum := "264c8a3a8e91d1ff8c65e7bec31767bb3a998a3c57651d7679aa41b01454a416", func := "loop.example/g00854/laws.FnExactCanonicalDeal", spec := "fnExactCanonicalDeal", unfollowed := true, recurses := true, apart := false, narrowed := true }
def FnExactCanonicalDealUptoSaid : Prop := fnExactCanonicalDealUptoRow.holds Try.pinned (OpenSpec.upto fnExactCanonicalDealSpec)

/-- 'laws.FnExactSameUpToSuits', WHERE WHAT IT READS IS OF BULK AT MOST 1048576: true; the input reads as it did. -/
def fnExactSameUpToSuitsUptoRow : OpenClaim := { program := "ytdfmkikngifjmaa", sum := "264c8a3a8e91d1ff8c65e7bec31767bb3a998a3c57651d7679aa41b01454a416", func := "loop.example/g00854/laws.FnExactSameUpToSuits", spec := "fnExactSameUpToSuits", unfollowed := true, recurses := true, apart := false, narrowed := true }
def FnExactSameUpToSuitsUptoSaid : Prop := fnExactSameUpToSuitsUptoRow.holds Try.pinned (OpenSpec.upto fnExactSameUpToSuitsSpec)

/-- 'laws.FnCanonicalDeal', WHERE WHAT IT READS IS OF BULK AT MOST 1048576: true; the input reads as it did. -/
def fnCanonicalDealUptoRow : OpenClaim := { program := "ytdfmkikngifjmaa", sum := "264c8a3a8e91d1ff8c65e7bec31767bb3a998a3c57651d7679aa41b01454a416", func := "loop.example/g00854/laws.FnCanonicalDeal", spec := "fnCanonicalDeal", unfollowed := true, recurses := true, apart := false, narrowed := true }
def FnCanonicalDealUptoSaid : Prop := fnCanonicalDealUptoRow.holds Try.pinned (OpenSpec.upto fnCanonicalDealSpec)

/-- 'laws.FnExactMirrorDeal', WHERE WHAT IT READS IS OF BULK AT MOST 1048576: true; the input reads as it did. -/
def fnExactMirrorDealUptoRow : OpenClaim := { program := "ytdfmkikngifjmaa", sum := "264c8a3a8e91d1ff8c65e7bec31767bb3a998a3c57651d7679aa41b01454a416", func := "loop.example/g00854/laws.FnExactMirrorDeal", spec := "fnExactMirrorDeal", unfollowed := true, recurses := true, apart := false, narrowed := true }
def FnExactMirrorDealUptoSaid : Prop := fnExactMirrorDealUptoRow.holds Try.pinned (OpenSpec.upto fnExactMirrorDealSpec)

/-- 'laws.FnExactRotateDeal', WHERE WHAT IT READS IS OF BULK AT MOST 1048576: true; the input reads as it did. -/
def fnExactRotateDealUptoRow : OpenClaim := { program := "ytdfmkikngifjmaa", sum := "264c8a3a8e91d1ff8c65e7bec31767bb3a998a3c57651d7679aa41b01454a416", func := "loop.example/g00854/laws.FnExactRotateDeal", spec := "fnExactRotateDeal", unfollowed := true, recurses := true, apart := false, narrowed := true }
def FnExactRotateDealUptoSaid : Prop := fnExactRotateDealUptoRow.holds Try.pinned (OpenSpec.upto fnExactRotateDealSpec)

/-- 'laws.FnExactExchangeCards', WHERE WHAT IT READS IS OF BULK AT MOST 1048576: true; the input reads as it did. -/
def fnExactExchangeCardsUptoRow : OpenClaim := { program := "ytdfmkikngifjmaa", sum := "264c8a3a8e91d1ff8c65e7bec31767bb3a998a3c57651d7679aa41b01454a416", func := "loop.example/g00854/laws.FnExactExchangeCards", spec := "fnExactExchangeCards", unfollowed := true, recurses := true, apart := false, narrowed := true }
def FnExactExchangeCardsUptoSaid : Prop := fnExactExchangeCardsUptoRow.holds Try.pinned (OpenSpec.upto fnExactExchangeCardsSpec)

/-- 'laws.FnExactPermuteSuits', WHERE WHAT IT READS IS OF BULK AT MOST 1048576: true; the input reads as it did. -/
def fnExactPermuteSuitsUptoRow : OpenClaim := { program := "ytdfmkikngifjmaa", sum := "264c8a3a8e91d1ff8c65e7bec31767bb3a998a3c57651d7679aa41b01454a416", func := "loop.example/g00854/laws.FnExactPermuteSuits", spec := "fnExactPermuteSuits", unfollowed := true, recurses := true, apart := false, narrowed := true }
def FnExactPermuteSuitsUptoSaid : Prop := fnExactPermuteSuitsUptoRow.holds Try.pinned (OpenSpec.upto fnExactPermuteSuitsSpec)

/-- 'laws.FnDealSymmetries', WHERE WHAT IT READS IS OF BULK AT MOST 1048576: true; the input reads as it did. -/
def fnDealSymmetriesUptoRow : OpenClaim := { program := "ytdfmkikngifjmaa", sum := "264c8a3a8e91d1ff8c65e7bec31767bb3a998a3c57651d7679aa41b01454a416", func := "loop.example/g00854/laws.FnDealSymmetries", spec := "fnDealSymmetries", unfollowed := true, recurses := true, apart := false, narrowed := true }
def FnDealSymmetriesUptoSaid : Prop := fnDealSymmetriesUptoRow.holds Try.pinned (OpenSpec.upto fnDealSymmetriesSpec)

/-- 'laws.FnExchange', WHERE WHAT IT READS IS OF BULK AT MOST 1048576: true; the input reads as it did. -/
def fnExchangeUptoRow : OpenClaim := { program := "ytdfmkikngifjmaa", sum := "264c8a3a8e91d1ff8c65e7bec31767bb3a998a3c57651d7679aa41b01454a416", func := "loop.example/g00854/laws.FnExchange", spec := "fnExchange", unfollowed := true, recurses := true, apart := false, narrowed := true }
def FnExchangeUptoSaid : Prop := fnExchangeUptoRow.holds Try.pinned (OpenSpec.upto fnExchangeSpec)

end Rows
end Go.Proofs.Ytdfmkikngifjmaa
