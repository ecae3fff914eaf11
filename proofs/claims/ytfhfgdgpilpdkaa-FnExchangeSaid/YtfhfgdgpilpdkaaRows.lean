/-
  No cell of these rows narrows 'for every input' (looked for: loops, veiled, ifaces, maps, wideKeys, modest, calm, conditions, laid).
  DERIVED. THE GIVEN ROWS OF THIS SEAT. 13 by the template 'for every input the law returns true; each argument reads behind the call as it read before'; 0 by the template 'total and deterministic' (their statements: YtfhfgdgpilpdkaaTotals.lean).
  GIVEN WITH THE SEED: the statements are not yours to turn. If you find one false, say at which input.
  Laid BY PROGRAM, IN A SANDBOX (cutbox-rows.mjs): the forced cells as the released guide's own fill.sh prints them over the translation 35d8d07eb6ea550d… (all of the seat's roots in one cut). By AI agents, Wed Nov 11 2026. No macro, syntax, notation, axiom, sorry.
-/
import Derived.Test.YtfhfgdgpilpdkaaChecked
import GoSem.Claim
import GoSem.ClaimJoined
import GoSem.ClaimMapViews
import Derived.JoinedTies
import Derived.KernelRfl
namespace Go.Proofs.Ytfhfgdgpilpdkaa
/- THE CELL 'sum', in the pinned program and in every row, IS THE sha256 OF THE DUMP (.gsa) THAT YtfhfgdgpilpdkaaProg.lean LOADS. Nothing in Lean hashes anything: it is a label: what it is worth is what the hold of that sum in a sandbox is worth. -/
noncomputable def Try.pinned : Pinned := { name := "ytfhfgdgpilpdkaa", sum := "35d8d07eb6ea550d87cfcea0b5961b8e3ba9d93161b688bd76ef49054a93a221", checked := Try.checked }
namespace Rows
def none {H : Type} : Left H := { results := [], args := [] }

/-- 'laws.FnDealSymmetries': WHATEVER THE INPUT: true; the input reads as it did. -/
def fnDealSymmetriesSpec : ChangeSpec := { name := "fnDealSymmetries", fn := fun _ => fun
  | [d] => { results := [.lit (.bool true)], args := [d] }
  | _ => none }
def fnDealSymmetriesRow : OpenClaim := { program := "ytfhfgdgpilpdkaa", sum := "35d8d07eb6ea550d87cfcea0b5961b8e3ba9d93161b688bd76ef49054a93a221", func := "loop.example/g00854/laws.FnDealSymmetries", spec := "fnDealSymmetries", unfollowed := true, recurses := true, apart := false }
def FnDealSymmetriesSaid : Prop := fnDealSymmetriesRow.holds Try.pinned (OpenSpec.ofChange fnDealSymmetriesSpec)

/-- ITS FALSE NEIGHBOUR: 'it returns false'. Refute it at one input. -/
def fnDealSymmetriesWrong : ChangeSpec := { name := "fnDealSymmetries", fn := fun _ => fun
  | [d] => { results := [.lit (.bool false)], args := [d] }
  | _ => none }
def FnDealSymmetriesWrongFalsely : Prop := fnDealSymmetriesRow.holds Try.pinned (OpenSpec.ofChange fnDealSymmetriesWrong)

/-- 'laws.FnExchange': WHATEVER THE INPUT: true; the input reads as it did. -/
def fnExchangeSpec : ChangeSpec := { name := "fnExchange", fn := fun _ => fun
  | [d] => { results := [.lit (.bool true)], args := [d] }
  | _ => none }
def fnExchangeRow : OpenClaim := { program := "ytfhfgdgpilpdkaa", sum := "35d8d07eb6ea550d87cfcea0b5961b8e3ba9d93161b688bd76ef49054a93a221", func := "loop.example/g00854/laws.FnExchange", spec := "fnExchange", unfollowed := true, recurses := true, apart := false }
def FnExchangeSaid : Prop := fnExchangeRow.holds Try.pinned (OpenSpec.ofChange fnExchangeSpec)

/-- ITS FALSE NEIGHBOUR: 'it returns false'. Refute it at one input. -/
def fnExchangeWrong : ChangeSpec := { name := "fnExchange", fn := fun _ => fun
  | [d] => { results := [.lit (.bool false)], args := [d] }
  | _ => none }
def FnExchangeWrongFalsely : Prop := fnExchangeRow.holds Try.pinned (OpenSpec.ofChange fnExchangeWrong)

/-- 'laws.FnBinomial': WHATEVER THE INPUT: true; the input reads as it did. -/
def fnBinomialSpec : ChangeSpec := { name := "fnBinomial", fn := fun _ => fun
  | [d] => { results := [.lit (.bool true)], args := [d] }
  | _ => none }
def fnBinomialRow : OpenClaim := { program := "ytfhfgdgpilpdkaa", sum := "35d8d07eb6ea550d87cfcea0b5961b8e3ba9d93161b688bd76ef49054a93a221", func := "loop.example/g00854/laws.FnBinomial", spec := "fnBinomial", apart := false }
def FnBinomialSaid : Prop := fnBinomialRow.holds Try.pinned (OpenSpec.ofChange fnBinomialSpec)

/-- ITS FALSE NEIGHBOUR: 'it returns false'. Refute it at one input. -/
def fnBinomialWrong : ChangeSpec := { name := "fnBinomial", fn := fun _ => fun
  | [d] => { results := [.lit (.bool false)], args := [d] }
  | _ => none }
def FnBinomialWrongFalsely : Prop := fnBinomialRow.holds Try.pinned (OpenSpec.ofChange fnBinomialWrong)

/-- 'laws.FnSubsets': WHATEVER THE INPUT: true; the input reads as it did. -/
def fnSubsetsSpec : ChangeSpec := { name := "fnSubsets", fn := fun _ => fun
  | [d] => { results := [.lit (.bool true)], args := [d] }
  | _ => none }
def fnSubsetsRow : OpenClaim := { program := "ytfhfgdgpilpdkaa", sum := "35d8d07eb6ea550d87cfcea0b5961b8e3ba9d93161b688bd76ef49054a93a221", func := "loop.example/g00854/laws.FnSubsets", spec := "fnSubsets", unfollowed := true, recurses := true, apart := false }
def FnSubsetsSaid : Prop := fnSubsetsRow.holds Try.pinned (OpenSpec.ofChange fnSubsetsSpec)

/-- ITS FALSE NEIGHBOUR: 'it returns false'. Refute it at one input. -/
def fnSubsetsWrong : ChangeSpec := { name := "fnSubsets", fn := fun _ => fun
  | [d] => { results := [.lit (.bool false)], args := [d] }
  | _ => none }
def FnSubsetsWrongFalsely : Prop := fnSubsetsRow.holds Try.pinned (OpenSpec.ofChange fnSubsetsWrong)

/-- 'laws.FnNumbers': WHATEVER THE INPUT: true; the input reads as it did. -/
def fnNumbersSpec : ChangeSpec := { name := "fnNumbers", fn := fun _ => fun
  | [d] => { results := [.lit (.bool true)], args := [d] }
  | _ => none }
def fnNumbersRow : OpenClaim := { program := "ytfhfgdgpilpdkaa", sum := "35d8d07eb6ea550d87cfcea0b5961b8e3ba9d93161b688bd76ef49054a93a221", func := "loop.example/g00854/laws.FnNumbers", spec := "fnNumbers", unfollowed := true, recurses := true, apart := false }
def FnNumbersSaid : Prop := fnNumbersRow.holds Try.pinned (OpenSpec.ofChange fnNumbersSpec)

/-- ITS FALSE NEIGHBOUR: 'it returns false'. Refute it at one input. -/
def fnNumbersWrong : ChangeSpec := { name := "fnNumbers", fn := fun _ => fun
  | [d] => { results := [.lit (.bool false)], args := [d] }
  | _ => none }
def FnNumbersWrongFalsely : Prop := fnNumbersRow.holds Try.pinned (OpenSpec.ofChange fnNumbersWrong)

/-- 'laws.FnExactBinomial': WHATEVER THE INPUT: true; the input reads as it did. -/
def fnExactBinomialSpec : ChangeSpec := { name := "fnExactBinomial", fn := fun _ => fun
  | [d1, d2] => { results := [.lit (.bool true)], args := [d1, d2] }
  | _ => none }
def fnExactBinomialRow : OpenClaim := { program := "ytfhfgdgpilpdkaa", sum := "35d8d07eb6ea550d87cfcea0b5961b8e3ba9d93161b688bd76ef49054a93a221", func := "loop.example/g00854/laws.FnExactBinomial", spec := "fnExactBinomial", apart := false }
def FnExactBinomialSaid : Prop := fnExactBinomialRow.holds Try.pinned (OpenSpec.ofChange fnExactBinomialSpec)

/-- ITS FALSE NEIGHBOUR: 'it returns false'. Refute it at one input. -/
def fnExactBinomialWrong : ChangeSpec := { name := "fnExactBinomial", fn := fun _ => fun
  | [d1, d2] => { results := [.lit (.bool false)], args := [d1, d2] }
  | _ => none }
def FnExactBinomialWrongFalsely : Prop := fnExactBinomialRow.holds Try.pinned (OpenSpec.ofChange fnExactBinomialWrong)

/-- 'laws.FnExactRankSubset': WHATEVER THE INPUT: true; the input reads as it did. -/
def fnExactRankSubsetSpec : ChangeSpec := { name := "fnExactRankSubset", fn := fun _ => fun
  | [d1, d2] => { results := [.lit (.bool true)], args := [d1, d2] }
  | _ => none }
def fnExactRankSubsetRow : OpenClaim := { program := "ytfhfgdgpilpdkaa", sum := "35d8d07eb6ea550d87cfcea0b5961b8e3ba9d93161b688bd76ef49054a93a221", func := "loop.example/g00854/laws.FnExactRankSubset", spec := "fnExactRankSubset", unfollowed := true, recurses := true, apart := false }
def FnExactRankSubsetSaid : Prop := fnExactRankSubsetRow.holds Try.pinned (OpenSpec.ofChange fnExactRankSubsetSpec)

/-- ITS FALSE NEIGHBOUR: 'it returns false'. Refute it at one input. -/
def fnExactRankSubsetWrong : ChangeSpec := { name := "fnExactRankSubset", fn := fun _ => fun
  | [d1, d2] => { results := [.lit (.bool false)], args := [d1, d2] }
  | _ => none }
def FnExactRankSubsetWrongFalsely : Prop := fnExactRankSubsetRow.holds Try.pinned (OpenSpec.ofChange fnExactRankSubsetWrong)

/-- 'laws.FnExactUnrankSubset': WHATEVER THE INPUT: true; the input reads as it did. -/
def fnExactUnrankSubsetSpec : ChangeSpec := { name := "fnExactUnrankSubset", fn := fun _ => fun
  | [d1, d2, d3] => { results := [.lit (.bool true)], args := [d1, d2, d3] }
  | _ => none }
def fnExactUnrankSubsetRow : OpenClaim := { program := "ytfhfgdgpilpdkaa", sum := "35d8d07eb6ea550d87cfcea0b5961b8e3ba9d93161b688bd76ef49054a93a221", func := "loop.example/g00854/laws.FnExactUnrankSubset", spec := "fnExactUnrankSubset", apart := false }
def FnExactUnrankSubsetSaid : Prop := fnExactUnrankSubsetRow.holds Try.pinned (OpenSpec.ofChange fnExactUnrankSubsetSpec)

/-- ITS FALSE NEIGHBOUR: 'it returns false'. Refute it at one input. -/
def fnExactUnrankSubsetWrong : ChangeSpec := { name := "fnExactUnrankSubset", fn := fun _ => fun
  | [d1, d2, d3] => { results := [.lit (.bool false)], args := [d1, d2, d3] }
  | _ => none }
def FnExactUnrankSubsetWrongFalsely : Prop := fnExactUnrankSubsetRow.holds Try.pinned (OpenSpec.ofChange fnExactUnrankSubsetWrong)

/-- 'laws.FnExactNextSubset': WHATEVER THE INPUT: true; the input reads as it did. -/
def fnExactNextSubsetSpec : ChangeSpec := { name := "fnExactNextSubset", fn := fun _ => fun
  | [d1, d2] => { results := [.lit (.bool true)], args := [d1, d2] }
  | _ => none }
def fnExactNextSubsetRow : OpenClaim := { program := "ytfhfgdgpilpdkaa", sum := "35d8d07eb6ea550d87cfcea0b5961b8e3ba9d93161b688bd76ef49054a93a221", func := "loop.example/g00854/laws.FnExactNextSubset", spec := "fnExactNextSubset", unfollowed := true, recurses := true, apart := false }
def FnExactNextSubsetSaid : Prop := fnExactNextSubsetRow.holds Try.pinned (OpenSpec.ofChange fnExactNextSubsetSpec)

/-- ITS FALSE NEIGHBOUR: 'it returns false'. Refute it at one input. -/
def fnExactNextSubsetWrong : ChangeSpec := { name := "fnExactNextSubset", fn := fun _ => fun
  | [d1, d2] => { results := [.lit (.bool false)], args := [d1, d2] }
  | _ => none }
def FnExactNextSubsetWrongFalsely : Prop := fnExactNextSubsetRow.holds Try.pinned (OpenSpec.ofChange fnExactNextSubsetWrong)

/-- 'laws.FnExactHandNumber': WHATEVER THE INPUT: true; the input reads as it did. -/
def fnExactHandNumberSpec : ChangeSpec := { name := "fnExactHandNumber", fn := fun _ => fun
  | [d] => { results := [.lit (.bool true)], args := [d] }
  | _ => none }
def fnExactHandNumberRow : OpenClaim := { program := "ytfhfgdgpilpdkaa", sum := "35d8d07eb6ea550d87cfcea0b5961b8e3ba9d93161b688bd76ef49054a93a221", func := "loop.example/g00854/laws.FnExactHandNumber", spec := "fnExactHandNumber", unfollowed := true, recurses := true, apart := false }
def FnExactHandNumberSaid : Prop := fnExactHandNumberRow.holds Try.pinned (OpenSpec.ofChange fnExactHandNumberSpec)

/-- ITS FALSE NEIGHBOUR: 'it returns false'. Refute it at one input. -/
def fnExactHandNumberWrong : ChangeSpec := { name := "fnExactHandNumber", fn := fun _ => fun
  | [d] => { results := [.lit (.bool false)], args := [d] }
  | _ => none }
def FnExactHandNumberWrongFalsely : Prop := fnExactHandNumberRow.holds Try.pinned (OpenSpec.ofChange fnExactHandNumberWrong)

/-- 'laws.FnExactHandOfNumber': WHATEVER THE INPUT: true; the input reads as it did. -/
def fnExactHandOfNumberSpec : ChangeSpec := { name := "fnExactHandOfNumber", fn := fun _ => fun
  | [d1, d2] => { results := [.lit (.bool true)], args := [d1, d2] }
  | _ => none }
def fnExactHandOfNumberRow : OpenClaim := { program := "ytfhfgdgpilpdkaa", sum := "35d8d07eb6ea550d87cfcea0b5961b8e3ba9d93161b688bd76ef49054a93a221", func := "loop.example/g00854/laws.FnExactHandOfNumber", spec := "fnExactHandOfNumber", apart := false }
def FnExactHandOfNumberSaid : Prop := fnExactHandOfNumberRow.holds Try.pinned (OpenSpec.ofChange fnExactHandOfNumberSpec)

/-- ITS FALSE NEIGHBOUR: 'it returns false'. Refute it at one input. -/
def fnExactHandOfNumberWrong : ChangeSpec := { name := "fnExactHandOfNumber", fn := fun _ => fun
  | [d1, d2] => { results := [.lit (.bool false)], args := [d1, d2] }
  | _ => none }
def FnExactHandOfNumberWrongFalsely : Prop := fnExactHandOfNumberRow.holds Try.pinned (OpenSpec.ofChange fnExactHandOfNumberWrong)

/-- 'laws.FnExactDealNumbers': WHATEVER THE INPUT: true; the input reads as it did. -/
def fnExactDealNumbersSpec : ChangeSpec := { name := "fnExactDealNumbers", fn := fun _ => fun
  | [d] => { results := [.lit (.bool true)], args := [d] }
  | _ => none }
def fnExactDealNumbersRow : OpenClaim := { program := "ytfhfgdgpilpdkaa", sum := "35d8d07eb6ea550d87cfcea0b5961b8e3ba9d93161b688bd76ef49054a93a221", func := "loop.example/g00854/laws.FnExactDealNumbers", spec := "fnExactDealNumbers", unfollowed := true, recurses := true, apart := false }
def FnExactDealNumbersSaid : Prop := fnExactDealNumbersRow.holds Try.pinned (OpenSpec.ofChange fnExactDealNumbersSpec)

/-- ITS FALSE NEIGHBOUR: 'it returns false'. Refute it at one input. -/
def fnExactDealNumbersWrong : ChangeSpec := { name := "fnExactDealNumbers", fn := fun _ => fun
  | [d] => { results := [.lit (.bool false)], args := [d] }
  | _ => none }
def FnExactDealNumbersWrongFalsely : Prop := fnExactDealNumbersRow.holds Try.pinned (OpenSpec.ofChange fnExactDealNumbersWrong)

/-- 'laws.FnExactDealOfNumbers': WHATEVER THE INPUT: true; the input reads as it did. -/
def fnExactDealOfNumbersSpec : ChangeSpec := { name := "fnExactDealOfNumbers", fn := fun _ => fun
  | [d1, d2] => { results := [.lit (.bool true)], args := [d1, d2] }
  | _ => none }
def fnExactDealOfNumbersRow : OpenClaim := { program := "ytfhfgdgpilpdkaa", sum := "35d8d07eb6ea550d87cfcea0b5961b8e3ba9d93161b688bd76ef49054a93a221", func := "loop.example/g00854/laws.FnExactDealOfNumbers", spec := "fnExactDealOfNumbers", unfollowed := true, recurses := true, apart := false }
def FnExactDealOfNumbersSaid : Prop := fnExactDealOfNumbersRow.holds Try.pinned (OpenSpec.ofChange fnExactDealOfNumbersSpec)

/-- ITS FALSE NEIGHBOUR: 'it returns false'. Refute it at one input. -/
def fnExactDealOfNumbersWrong : ChangeSpec := { name := "fnExactDealOfNumbers", fn := fun _ => fun
  | [d1, d2] => { results := [.lit (.bool false)], args := [d1, d2] }
  | _ => none }
def FnExactDealOfNumbersWrongFalsely : Prop := fnExactDealOfNumbersRow.holds Try.pinned (OpenSpec.ofChange fnExactDealOfNumbersWrong)

/- THE SECOND FORM. 'bulk': how many values and letters a reading holds, each counted each time it is reached (what is shared counts as often as it is met; a slice's spare places count too). A statement '..UptoSaid' is the law's where the arguments, and the package variables that the reading takes, are together of bulk at most 1048576: NARROWER than '..Said'. Prove '..Said' where nothing that the law and all that it calls make is longer than what came in: it says more and counts as full. Else prove '..UptoSaid'. A law counts once. -/
mutual
def uptoBulk {H : Type} : DataW H → Nat
  | .lit (.string bytes) => bytes.length + 1
  | .lit _ => 1
  | .nil => 1
  | .ptr d => uptoBulk d + 1
  | .slice elems spare => uptoBulkAll elems + uptoBulkAll spare + 1
  | .agg parts => uptoBulkAll parts + 1
  | .iface _ d => uptoBulk d + 1
  | .map entries => uptoBulkEntries entries + 1
  | .held _ => 1
def uptoBulkAll {H : Type} : List (DataW H) → Nat
  | [] => 0
  | d :: r => uptoBulk d + uptoBulkAll r
def uptoBulkEntries {H : Type} : List (Lit × DataW H) → Nat
  | [] => 0
  | x :: r => uptoBulkEntry x + uptoBulkEntries r
def uptoBulkEntry {H : Type} : Lit × DataW H → Nat
  | (.string bytes, d) => bytes.length + uptoBulk d + 1
  | (_, d) => uptoBulk d + 1
 end
def uptoSmall : (H : Type) → List (DataW H) → Bool := fun _ ds => decide (uptoBulkAll ds ≤ 1048576)
def OpenSpec.upto (s : _root_.Go.ChangeSpec) : _root_.Go.OpenSpec := { _root_.Go.OpenSpec.ofChange s with cond := some uptoSmall }

/-- 'laws.FnDealSymmetries', WHERE WHAT IT READS IS OF BULK AT MOST 1048576: true; the input reads as it did. -/
def fnDealSymmetriesUptoRow : OpenClaim := { program := "ytfhfgdgpilpdkaa", sum := "35d8d07eb6ea550d87cfcea0b5961b8e3ba9d93161b688bd76ef49054a93a221", func := "loop.example/g00854/laws.FnDealSymmetries", spec := "fnDealSymmetries", unfollowed := true, recurses := true, apart := false, narrowed := true }
def FnDealSymmetriesUptoSaid : Prop := fnDealSymmetriesUptoRow.holds Try.pinned (OpenSpec.upto fnDealSymmetriesSpec)

/-- 'laws.FnExchange', WHERE WHAT IT READS IS OF BULK AT MOST 1048576: true; the input reads as it did. -/
def fnExchangeUptoRow : OpenClaim := { program := "ytfhfgdgpilpdkaa", sum := "35d8d07eb6ea550d87cfcea0b5961b8e3ba9d93161b688bd76ef49054a93a221", func := "loop.example/g00854/laws.FnExchange", spec := "fnExchange", unfollowed := true, recurses := true, apart := false, narrowed := true }
def FnExchangeUptoSaid : Prop := fnExchangeUptoRow.holds Try.pinned (OpenSpec.upto fnExchangeSpec)

/-- 'laws.FnBinomial', WHERE WHAT IT READS IS OF BULK AT MOST 1048576: true; the input reads as it did. -/
def fnBinomialUptoRow : OpenClaim := { program := "ytfhfgdgpilpdkaa", sum := "35d8d07eb6ea550d87cfcea0b5961b8e3ba9d93161b688bd76ef49054a93a221", func := "loop.example/g00854/laws.FnBinomial", spec := "fnBinomial", apart := false, narrowed := true }
def FnBinomialUptoSaid : Prop := fnBinomialUptoRow.holds Try.pinned (OpenSpec.upto fnBinomialSpec)

/-- 'laws.FnSubsets', WHERE WHAT IT READS IS OF BULK AT MOST 1048576: true; the input reads as it did. -/
def fnSubsetsUptoRow : OpenClaim := { program := "ytfhfgdgpilpdkaa", sum := "35d8d07eb6ea550d87cfcea0b5961b8e3ba9d93161b688bd76ef49054a93a221", func := "loop.example/g00854/laws.FnSubsets", spec := "fnSubsets", unfollowed := true, recurses := true, apart := false, narrowed := true }
def FnSubsetsUptoSaid : Prop := fnSubsetsUptoRow.holds Try.pinned (OpenSpec.upto fnSubsetsSpec)

/-- 'laws.FnNumbers', WHERE WHAT IT READS IS OF BULK AT MOST 1048576: true; the input reads as it did. -/
def fnNumbersUptoRow : OpenClaim := { program := "ytfhfgdgpilpdkaa", sum := "35d8d07eb6ea550d87cfcea0b5961b8e3ba9d93161b688bd76ef49054a93a221", func := "loop.example/g00854/laws.FnNumbers", spec := "fnNumbers", unfollowed := true, recurses := true, apart := false, narrowed := true }
def FnNumbersUptoSaid : Prop := fnNumbersUptoRow.holds Try.pinned (OpenSpec.upto fnNumbersSpec)

/-- 'laws.FnExactBinomial', WHERE WHAT IT READS IS OF BULK AT MOST 1048576: true; the input reads as it did. -/
def fnExactBinomialUptoRow : OpenClaim := { program := "ytfhfgdgpilpdkaa", sum := "35d8d07eb6ea550d87cfcea0b5961b8e3ba9d93161b688bd76ef49054a93a221", func := "loop.example/g00854/laws.FnExactBinomial", spec := "fnExactBinomial", apart := false, narrowed := true }
def FnExactBinomialUptoSaid : Prop := fnExactBinomialUptoRow.holds Try.pinned (OpenSpec.upto fnExactBinomialSpec)

/-- 'laws.FnExactRankSubset', WHERE WHAT IT READS IS OF BULK AT MOST 1048576: true; the input reads as it did. -/
def fnExactRankSubsetUptoRow : OpenClaim := { program := "ytfhfgdgpilpdkaa", sum := "35d8d07eb6ea550d87cfcea0b5961b8e3ba9d93161b688bd76ef49054a93a221", func := "loop.example/g00854/laws.FnExactRankSubset", spec := "fnExactRankSubset", unfollowed := true, recurses := true, apart := false, narrowed := true }
def FnExactRankSubsetUptoSaid : Prop := fnExactRankSubsetUptoRow.holds Try.pinned (OpenSpec.upto fnExactRankSubsetSpec)

/-- 'laws.FnExactUnrankSubset', WHERE WHAT IT READS IS OF BULK AT MOST 1048576: true; the input reads as it did. -/
def fnExactUnrankSubsetUptoRow : OpenClaim := { program := "ytfhfgdgpilpdkaa", sum := "35d8d07eb6ea550d87cfcea0b5961b8e3ba9d93161b688bd76ef49054a93a221", func := "loop.example/g00854/laws.FnExactUnrankSubset", spec := "fnExactUnrankSubset", apart := false, narrowed := true }
def FnExactUnrankSubsetUptoSaid : Prop := fnExactUnrankSubsetUptoRow.holds Try.pinned (OpenSpec.upto fnExactUnrankSubsetSpec)

/-- 'laws.FnExactNextSubset', WHERE WHAT IT READS IS OF BULK AT MOST 1048576: true; the input reads as it did. -/
def fnExactNextSubsetUptoRow : OpenClaim := { program := "ytfhfgdgpilpdkaa", sum := "35d8d07eb6ea550d87cfcea0b5961b8e3ba9d93161b688bd76ef49054a93a221", func := "loop.example/g00854/laws.FnExactNextSubset", spec := "fnExactNextSubset", unfollowed := true, recurses := true, apart := false, narrowed := true }
def FnExactNextSubsetUptoSaid : Prop := fnExactNextSubsetUptoRow.holds Try.pinned (OpenSpec.upto fnExactNextSubsetSpec)

/-- 'laws.FnExactHandNumber', WHERE WHAT IT READS IS OF BULK AT MOST 1048576: true; the input reads as it did. -/
def fnExactHandNumberUptoRow : OpenClaim := { program := "ytfhfgdgpilpdkaa", sum := "35d8d07eb6ea550d87cfcea0b5961b8e3ba9d93161b688bd76ef49054a93a221", func := "loop.example/g00854/laws.FnExactHandNumber", spec := "fnExactHandNumber", unfollowed := true, recurses := true, apart := false, narrowed := true }
def FnExactHandNumberUptoSaid : Prop := fnExactHandNumberUptoRow.holds Try.pinned (OpenSpec.upto fnExactHandNumberSpec)

/-- 'laws.FnExactHandOfNumber', WHERE WHAT IT READS IS OF BULK AT MOST 1048576: true; the input reads as it did. -/
def fnExactHandOfNumberUptoRow : OpenClaim := { program := "ytfhfgdgpilpdkaa", sum := "35d8d07eb6ea550d87cfcea0b5961b8e3ba9d93161b688bd76ef49054a93a221", func := "loop.example/g00854/laws.FnExactHandOfNumber", spec := "fnExactHandOfNumber", apart := false, narrowed := true }
def FnExactHandOfNumberUptoSaid : Prop := fnExactHandOfNumberUptoRow.holds Try.pinned (OpenSpec.upto fnExactHandOfNumberSpec)

/-- 'laws.FnExactDealNumbers', WHERE WHAT IT READS IS OF BULK AT MOST 1048576: true; the input reads as it did. -/
def fnExactDealNumbersUptoRow : OpenClaim := { program := "ytfhfgdgpilpdkaa", sum := "35d8d07eb6ea550d87cfcea0b5961b8e3ba9d93161b688bd76ef49054a93a221", func := "loop.example/g00854/laws.FnExactDealNumbers", spec := "fnExactDealNumbers", unfollowed := true, recurses := true, apart := false, narrowed := true }
def FnExactDealNumbersUptoSaid : Prop := fnExactDealNumbersUptoRow.holds Try.pinned (OpenSpec.upto fnExactDealNumbersSpec)

/-- 'laws.FnExactDealOfNumbers', WHERE WHAT IT READS IS OF BULK AT MOST 1048576: true; the input reads as it did. -/
def fnExactDealOfNumbersUptoRow : OpenClaim := { program := "ytfhfgdgpilpdkaa", sum := "35d8d07eb6ea550d87cfcea0b5961b8e3ba9d93161b688bd76ef49054a93a221", func := "loop.example/g00854/laws.FnExactDealOfNumbers", spec := "fnExactDealOfNumbers", unfollowed := true, recurses := true, apart := false, narrowed := true }
def FnExactDealOfNumbersUptoSaid : Prop := fnExactDealOfNumbersUptoRow.holds Try.pinned (OpenSpec.upto fnExactDealOfNumbersSpec)

end Rows
end Go.Proofs.Ytfhfgdgpilpdkaa
