/-
  No cell of these rows narrows 'for every input' (looked for: loops, veiled, ifaces, maps, wideKeys, modest, calm, conditions, laid).
  DERIVED. THE GIVEN ROWS OF THIS SEAT. 10 by the template 'for every input the law returns true; each argument reads behind the call as it read before'; 0 by the template 'total and deterministic' (their statements: YtefhdmobhfbhhaaTotals.lean).
  GIVEN WITH THE SEED: the statements are not yours to turn. If you find one false, say at which input.
  Laid BY PROGRAM, IN A SANDBOX (cutbox-rows.mjs): the forced cells as the released guide's own fill.sh prints them over the translation 803c67747066245f… (all of the seat's roots in one cut). By AI agents, Wed Nov 11 2026. No macro, syntax, notation, axiom, sorry.
-/
import Derived.Test.YtefhdmobhfbhhaaChecked
import GoSem.Claim
import GoSem.ClaimJoined
import GoSem.ClaimMapViews
import Derived.JoinedTies
import Derived.KernelRfl
namespace Go.Proofs.Ytefhdmobhfbhhaa
/- THE CELL 'sum', in the pinned program and in every row, IS THE sha256 OF THE DUMP (.gsa) THAT YtefhdmobhfbhhaaProg.lean LOADS. Nothing in Lean hashes anything: it is a label: what it is worth is what the hold of that sum in a sandbox is worth. -/
noncomputable def Try.pinned : Pinned := { name := "ytefhdmobhfbhhaa", sum := "803c67747066245fdef59b2a692e916c4e949d83bae6b26bc1b69103d9e741a0", checked := Try.checked }
namespace Rows
def none {H : Type} : Left H := { results := [], args := [] }

/-- 'laws.FnDealSymmetries': WHATEVER THE INPUT: true; the input reads as it did. -/
def fnDealSymmetriesSpec : ChangeSpec := { name := "fnDealSymmetries", fn := fun _ => fun
  | [d] => { results := [.lit (.bool true)], args := [d] }
  | _ => none }
def fnDealSymmetriesRow : OpenClaim := { program := "ytefhdmobhfbhhaa", sum := "803c67747066245fdef59b2a692e916c4e949d83bae6b26bc1b69103d9e741a0", func := "loop.example/g00854/laws.FnDealSymmetries", spec := "fnDealSymmetries", unfollowed := true, recurses := true, apart := false }
def FnDealSymmetriesSaid : Prop := fnDealSymmetriesRow.holds Try.pinned (OpenSpec.ofChange fnDealSymmetriesSpec)

/-- ITS FALSE NEIGHBOUR: 'it returns false'. Refute it at one input. -/
def fnDealSymmetriesWrong : ChangeSpec := { name := "fnDealSymmetries", fn := fun _ => fun
  | [d] => { results := [.lit (.bool false)], args := [d] }
  | _ => none }
def FnDealSymmetriesWrongFalsely : Prop := fnDealSymmetriesRow.holds Try.pinned (OpenSpec.ofChange fnDealSymmetriesWrong)

/-- 'laws.FnExchange': WHATEVER THE INPUT: true; the input reads as it did. -/
def fnExchangeSpec : ChangeSpec := { name := "fnExchange", fn := fun _ => fun
  | [d] => { results := [.lit (.bool true)], args := [d] }
  | _ => none }
def fnExchangeRow : OpenClaim := { program := "ytefhdmobhfbhhaa", sum := "803c67747066245fdef59b2a692e916c4e949d83bae6b26bc1b69103d9e741a0", func := "loop.example/g00854/laws.FnExchange", spec := "fnExchange", unfollowed := true, recurses := true, apart := false }
def FnExchangeSaid : Prop := fnExchangeRow.holds Try.pinned (OpenSpec.ofChange fnExchangeSpec)

/-- ITS FALSE NEIGHBOUR: 'it returns false'. Refute it at one input. -/
def fnExchangeWrong : ChangeSpec := { name := "fnExchange", fn := fun _ => fun
  | [d] => { results := [.lit (.bool false)], args := [d] }
  | _ => none }
def FnExchangeWrongFalsely : Prop := fnExchangeRow.holds Try.pinned (OpenSpec.ofChange fnExchangeWrong)

/-- 'laws.FnExactIsDeal': WHATEVER THE INPUT: true; the input reads as it did. -/
def fnExactIsDealSpec : ChangeSpec := { name := "fnExactIsDeal", fn := fun _ => fun
  | [d] => { results := [.lit (.bool true)], args := [d] }
  | _ => none }
def fnExactIsDealRow : OpenClaim := { program := "ytefhdmobhfbhhaa", sum := "803c67747066245fdef59b2a692e916c4e949d83bae6b26bc1b69103d9e741a0", func := "loop.example/g00854/laws.FnExactIsDeal", spec := "fnExactIsDeal", apart := false }
def FnExactIsDealSaid : Prop := fnExactIsDealRow.holds Try.pinned (OpenSpec.ofChange fnExactIsDealSpec)

/-- ITS FALSE NEIGHBOUR: 'it returns false'. Refute it at one input. -/
def fnExactIsDealWrong : ChangeSpec := { name := "fnExactIsDeal", fn := fun _ => fun
  | [d] => { results := [.lit (.bool false)], args := [d] }
  | _ => none }
def FnExactIsDealWrongFalsely : Prop := fnExactIsDealRow.holds Try.pinned (OpenSpec.ofChange fnExactIsDealWrong)

/-- 'laws.FnExactCardsOfDeal': WHATEVER THE INPUT: true; the input reads as it did. -/
def fnExactCardsOfDealSpec : ChangeSpec := { name := "fnExactCardsOfDeal", fn := fun _ => fun
  | [d] => { results := [.lit (.bool true)], args := [d] }
  | _ => none }
def fnExactCardsOfDealRow : OpenClaim := { program := "ytefhdmobhfbhhaa", sum := "803c67747066245fdef59b2a692e916c4e949d83bae6b26bc1b69103d9e741a0", func := "loop.example/g00854/laws.FnExactCardsOfDeal", spec := "fnExactCardsOfDeal", recurses := true, apart := false }
def FnExactCardsOfDealSaid : Prop := fnExactCardsOfDealRow.holds Try.pinned (OpenSpec.ofChange fnExactCardsOfDealSpec)

/-- ITS FALSE NEIGHBOUR: 'it returns false'. Refute it at one input. -/
def fnExactCardsOfDealWrong : ChangeSpec := { name := "fnExactCardsOfDeal", fn := fun _ => fun
  | [d] => { results := [.lit (.bool false)], args := [d] }
  | _ => none }
def FnExactCardsOfDealWrongFalsely : Prop := fnExactCardsOfDealRow.holds Try.pinned (OpenSpec.ofChange fnExactCardsOfDealWrong)

/-- 'laws.FnExactHolderOf': WHATEVER THE INPUT: true; the input reads as it did. -/
def fnExactHolderOfSpec : ChangeSpec := { name := "fnExactHolderOf", fn := fun _ => fun
  | [d1, d2] => { results := [.lit (.bool true)], args := [d1, d2] }
  | _ => none }
def fnExactHolderOfRow : OpenClaim := { program := "ytefhdmobhfbhhaa", sum := "803c67747066245fdef59b2a692e916c4e949d83bae6b26bc1b69103d9e741a0", func := "loop.example/g00854/laws.FnExactHolderOf", spec := "fnExactHolderOf", apart := false }
def FnExactHolderOfSaid : Prop := fnExactHolderOfRow.holds Try.pinned (OpenSpec.ofChange fnExactHolderOfSpec)

/-- ITS FALSE NEIGHBOUR: 'it returns false'. Refute it at one input. -/
def fnExactHolderOfWrong : ChangeSpec := { name := "fnExactHolderOf", fn := fun _ => fun
  | [d1, d2] => { results := [.lit (.bool false)], args := [d1, d2] }
  | _ => none }
def FnExactHolderOfWrongFalsely : Prop := fnExactHolderOfRow.holds Try.pinned (OpenSpec.ofChange fnExactHolderOfWrong)

/-- 'laws.FnExactExchangeCards': WHATEVER THE INPUT: true; the input reads as it did. -/
def fnExactExchangeCardsSpec : ChangeSpec := { name := "fnExactExchangeCards", fn := fun _ => fun
  | [d1, d2, d3] => { results := [.lit (.bool true)], args := [d1, d2, d3] }
  | _ => none }
def fnExactExchangeCardsRow : OpenClaim := { program := "ytefhdmobhfbhhaa", sum := "803c67747066245fdef59b2a692e916c4e949d83bae6b26bc1b69103d9e741a0", func := "loop.example/g00854/laws.FnExactExchangeCards", spec := "fnExactExchangeCards", unfollowed := true, recurses := true, apart := false }
def FnExactExchangeCardsSaid : Prop := fnExactExchangeCardsRow.holds Try.pinned (OpenSpec.ofChange fnExactExchangeCardsSpec)

/-- ITS FALSE NEIGHBOUR: 'it returns false'. Refute it at one input. -/
def fnExactExchangeCardsWrong : ChangeSpec := { name := "fnExactExchangeCards", fn := fun _ => fun
  | [d1, d2, d3] => { results := [.lit (.bool false)], args := [d1, d2, d3] }
  | _ => none }
def FnExactExchangeCardsWrongFalsely : Prop := fnExactExchangeCardsRow.holds Try.pinned (OpenSpec.ofChange fnExactExchangeCardsWrong)

/-- 'laws.FnExactRotateDeal': WHATEVER THE INPUT: true; the input reads as it did. -/
def fnExactRotateDealSpec : ChangeSpec := { name := "fnExactRotateDeal", fn := fun _ => fun
  | [d1, d2] => { results := [.lit (.bool true)], args := [d1, d2] }
  | _ => none }
def fnExactRotateDealRow : OpenClaim := { program := "ytefhdmobhfbhhaa", sum := "803c67747066245fdef59b2a692e916c4e949d83bae6b26bc1b69103d9e741a0", func := "loop.example/g00854/laws.FnExactRotateDeal", spec := "fnExactRotateDeal", unfollowed := true, recurses := true, apart := false }
def FnExactRotateDealSaid : Prop := fnExactRotateDealRow.holds Try.pinned (OpenSpec.ofChange fnExactRotateDealSpec)

/-- ITS FALSE NEIGHBOUR: 'it returns false'. Refute it at one input. -/
def fnExactRotateDealWrong : ChangeSpec := { name := "fnExactRotateDeal", fn := fun _ => fun
  | [d1, d2] => { results := [.lit (.bool false)], args := [d1, d2] }
  | _ => none }
def FnExactRotateDealWrongFalsely : Prop := fnExactRotateDealRow.holds Try.pinned (OpenSpec.ofChange fnExactRotateDealWrong)

/-- 'laws.FnExactMirrorDeal': WHATEVER THE INPUT: true; the input reads as it did. -/
def fnExactMirrorDealSpec : ChangeSpec := { name := "fnExactMirrorDeal", fn := fun _ => fun
  | [d] => { results := [.lit (.bool true)], args := [d] }
  | _ => none }
def fnExactMirrorDealRow : OpenClaim := { program := "ytefhdmobhfbhhaa", sum := "803c67747066245fdef59b2a692e916c4e949d83bae6b26bc1b69103d9e741a0", func := "loop.example/g00854/laws.FnExactMirrorDeal", spec := "fnExactMirrorDeal", unfollowed := true, recurses := true, apart := false }
def FnExactMirrorDealSaid : Prop := fnExactMirrorDealRow.holds Try.pinned (OpenSpec.ofChange fnExactMirrorDealSpec)

/-- ITS FALSE NEIGHBOUR: 'it returns false'. Refute it at one input. -/
def fnExactMirrorDealWrong : ChangeSpec := { name := "fnExactMirrorDeal", fn := fun _ => fun
  | [d] => { results := [.lit (.bool false)], args := [d] }
  | _ => none }
def FnExactMirrorDealWrongFalsely : Prop := fnExactMirrorDealRow.holds Try.pinned (OpenSpec.ofChange fnExactMirrorDealWrong)

/-- 'laws.FnExactPermuteSuits': WHATEVER THE INPUT: true; the input reads as it did. -/
def fnExactPermuteSuitsSpec : ChangeSpec := { name := "fnExactPermuteSuits", fn := fun _ => fun
  | [d1, d2] => { results := [.lit (.bool true)], args := [d1, d2] }
  | _ => none }
def fnExactPermuteSuitsRow : OpenClaim := { program := "ytefhdmobhfbhhaa", sum := "803c67747066245fdef59b2a692e916c4e949d83bae6b26bc1b69103d9e741a0", func := "loop.example/g00854/laws.FnExactPermuteSuits", spec := "fnExactPermuteSuits", unfollowed := true, recurses := true, apart := false }
def FnExactPermuteSuitsSaid : Prop := fnExactPermuteSuitsRow.holds Try.pinned (OpenSpec.ofChange fnExactPermuteSuitsSpec)

/-- ITS FALSE NEIGHBOUR: 'it returns false'. Refute it at one input. -/
def fnExactPermuteSuitsWrong : ChangeSpec := { name := "fnExactPermuteSuits", fn := fun _ => fun
  | [d1, d2] => { results := [.lit (.bool false)], args := [d1, d2] }
  | _ => none }
def FnExactPermuteSuitsWrongFalsely : Prop := fnExactPermuteSuitsRow.holds Try.pinned (OpenSpec.ofChange fnExactPermuteSuitsWrong)

/-- 'laws.FnExactDealText': WHATEVER THE INPUT: true; the input reads as it did. -/
def fnExactDealTextSpec : ChangeSpec := { name := "fnExactDealText", fn := fun _ => fun
  | [d] => { results := [.lit (.bool true)], args := [d] }
  | _ => none }
def fnExactDealTextRow : OpenClaim := { program := "ytefhdmobhfbhhaa", sum := "803c67747066245fdef59b2a692e916c4e949d83bae6b26bc1b69103d9e741a0", func := "loop.example/g00854/laws.FnExactDealText", spec := "fnExactDealText", inPlace := ["internal/abi.NoEscape", "internal/bytealg.MakeNoZero"], unfollowed := true, recurses := true, apart := false }
def FnExactDealTextSaid : Prop := fnExactDealTextRow.holds Try.pinned (OpenSpec.ofChange fnExactDealTextSpec)

/-- ITS FALSE NEIGHBOUR: 'it returns false'. Refute it at one input. -/
def fnExactDealTextWrong : ChangeSpec := { name := "fnExactDealText", fn := fun _ => fun
  | [d] => { results := [.lit (.bool false)], args := [d] }
  | _ => none }
def FnExactDealTextWrongFalsely : Prop := fnExactDealTextRow.holds Try.pinned (OpenSpec.ofChange fnExactDealTextWrong)

/- THE SECOND FORM. 'bulk': how many values and letters a reading holds, each counted each time it is reached (what is shared counts as often as it is met; a slice's spare places count too). A statement '..UptoSaid' is the law's where the arguments, and the package variables that the reading takes, are together of bulk at most 1048576: NARROWER than '..Said'. Prove '..Said' where nothing that the law and all that it calls make is longer than what came in: it says more and counts as full. Else prove '..UptoSaid'. A law counts once. -/
mutual
def uptoBulk {H : Type} : DataW H → Nat
  | .lit (.string bytes) => bytes.length + 1
  | .lit _ => 1
  | .nil => 1
  | .ptr d => uptoBulk d + 1
  | .slice elems spare => uptoBulkAll elems + uptoBulkAll spare + 1
  | .agg parts => uptoBulkAll parts + 1
  | .iface _ d => uptoBulk d + 1
  | .map entries => uptoBulkEntries entries + 1
  | .held _ => 1
def uptoBulkAll {H : Type} : List (DataW H) → Nat
  | [] => 0
  | d :: r => uptoBulk d + uptoBulkAll r
def uptoBulkEntries {H : Type} : List (Lit × DataW H) → Nat
  | [] => 0
  | x :: r => uptoBulkEntry x + uptoBulkEntries r
def uptoBulkEntry {H : Type} : Lit × DataW H → Nat
  | (.string bytes, d) => bytes.length + uptoBulk d + 1
  | (_, d) => uptoBulk d + 1
 end
def uptoSmall : (H : Type) → List (DataW H) → Bool := fun _ ds => decide (uptoBulkAll ds ≤ 1048576)
def OpenSpec.upto (s : _root_.Go.ChangeSpec) : _root_.Go.OpenSpec := { _root_.Go.OpenSpec.ofChange s with cond := some uptoSmall }

/-- 'laws.FnDealSymmetries', WHERE WHAT IT READS IS OF BULK AT MOST 1048576: true; the input reads as it did. -/
def fnDealSymmetriesUptoRow : OpenClaim := { program := "ytefhdmobhfbhhaa", sum := "803c67747066245fdef59b2a692e916c4e949d83bae6b26bc1b69103d9e741a0", func := "loop.example/g00854/laws.FnDealSymmetries", spec := "fnDealSymmetries", unfollowed := true, recurses := true, apart := false, narrowed := true }
def FnDealSymmetriesUptoSaid : Prop := fnDealSymmetriesUptoRow.holds Try.pinned (OpenSpec.upto fnDealSymmetriesSpec)

/-- 'laws.FnExchange', WHERE WHAT IT READS IS OF BULK AT MOST 1048576: true; the input reads as it did. -/
def fnExchangeUptoRow : OpenClaim := { program := "ytefhdmobhfbhhaa", sum := "803c67747066245fdef59b2a692e916c4e949d83bae6b26bc1b69103d9e741a0", func := "loop.example/g00854/laws.FnExchange", spec := "fnExchange", unfollowed := true, recurses := true, apart := false, narrowed := true }
def FnExchangeUptoSaid : Prop := fnExchangeUptoRow.holds Try.pinned (OpenSpec.upto fnExchangeSpec)

/-- 'laws.FnExactIsDeal', WHERE WHAT IT READS IS OF BULK AT MOST 1048576: true; the input reads as it did. -/
def fnExactIsDealUptoRow : OpenClaim := { program := "ytefhdmobhfbhhaa", sum := "803c67747066245fdef59b2a692e916c4e949d83bae6b26bc1b69103d9e741a0", func := "loop.example/g00854/laws.FnExactIsDeal", spec := "fnExactIsDeal", apart := false, narrowed := true }
def FnExactIsDealUptoSaid : Prop := fnExactIsDealUptoRow.holds Try.pinned (OpenSpec.upto fnExactIsDealSpec)

/-- 'laws.FnExactCardsOfDeal', WHERE WHAT IT READS IS OF BULK AT MOST 1048576: true; the input reads as it did. -/
def fnExactCardsOfDealUptoRow : OpenClaim := { program := "ytefhdmobhfbhhaa", sum := "803c67747066245fdef59b2a692e916c4e949d83bae6b26bc1b69103d9e741a0", func := "loop.example/g00854/laws.FnExactCardsOfDeal", spec := "fnExactCardsOfDeal", recurses := true, apart := false, narrowed := true }
def FnExactCardsOfDealUptoSaid : Prop := fnExactCardsOfDealUptoRow.holds Try.pinned (OpenSpec.upto fnExactCardsOfDealSpec)

/-- 'laws.FnExactHolderOf', WHERE WHAT IT READS IS OF BULK AT MOST 1048576: true; the input reads as it did. -/
def fnExactHolderOfUptoRow : OpenClaim := { program := "ytefhdmobhfbhhaa", sum := "803c67747066245fdef59b2a692e916c4e949d83bae6b26bc1b69103d9e741a0", func := "loop.example/g00854/laws.FnExactHolderOf", spec := "fnExactHolderOf", apart := false, narrowed := true }
def FnExactHolderOfUptoSaid : Prop := fnExactHolderOfUptoRow.holds Try.pinned (OpenSpec.upto fnExactHolderOfSpec)

/-- 'laws.FnExactExchangeCards', WHERE WHAT IT READS IS OF BULK AT MOST 1048576: true; the input reads as it did. -/
def fnExactExchangeCardsUptoRow : OpenClaim := { program := "ytefhdmobhfbhhaa", sum := "803c67747066245fdef59b2a692e916c4e949d83bae6b26bc1b69103d9e741a0", func := "loop.example/g00854/laws.FnExactExchangeCards", spec := "fnExactExchangeCards", unfollowed := true, recurses := true, apart := false, narrowed := true }
def FnExactExchangeCardsUptoSaid : Prop := fnExactExchangeCardsUptoRow.holds Try.pinned (OpenSpec.upto fnExactExchangeCardsSpec)

/-- 'laws.FnExactRotateDeal', WHERE WHAT IT READS IS OF BULK AT MOST 1048576: true; the input reads as it did. -/
def fnExactRotateDealUptoRow : OpenClaim := { program := "ytefhdmobhfbhhaa", sum := "803c67747066245fdef59b2a692e916c4e949d83bae6b26bc1b69103d9e741a0", func := "loop.example/g00854/laws.FnExactRotateDeal", spec := "fnExactRotateDeal", unfollowed := true, recurses := true, apart := false, narrowed := true }
def FnExactRotateDealUptoSaid : Prop := fnExactRotateDealUptoRow.holds Try.pinned (OpenSpec.upto fnExactRotateDealSpec)

/-- 'laws.FnExactMirrorDeal', WHERE WHAT IT READS IS OF BULK AT MOST 1048576: true; the input reads as it did. -/
def fnExactMirrorDealUptoRow : OpenClaim := { program := "ytefhdmobhfbhhaa", sum := "803c67747066245fdef59b2a692e916c4e949d83bae6b26bc1b69103d9e741a0", func := "loop.example/g00854/laws.FnExactMirrorDeal", spec := "fnExactMirrorDeal", unfollowed := true, recurses := true, apart := false, narrowed := true }
def FnExactMirrorDealUptoSaid : Prop := fnExactMirrorDealUptoRow.holds Try.pinned (OpenSpec.upto fnExactMirrorDealSpec)

/-- 'laws.FnExactPermuteSuits', WHERE WHAT IT READS IS OF BULK AT MOST 1048576: true; the input reads as it did. -/
def fnExactPermuteSuitsUptoRow : OpenClaim := { program := "ytefhdmobhfbhhaa", sum := "803c67747066245fdef59b2a692e916c4e949d83bae6b26bc1b69103d9e741a0", func := "loop.example/g00854/laws.FnExactPermuteSuits", spec := "fnExactPermuteSuits", unfollowed := true, recurses := true, apart := false, narrowed := true }
def FnExactPermuteSuitsUptoSaid : Prop := fnExactPermuteSuitsUptoRow.holds Try.pinned (OpenSpec.upto fnExactPermuteSuitsSpec)

/-- 'laws.FnExactDealText', WHERE WHAT IT READS IS OF BULK AT MOST 1048576: true; the input reads as it did. -/
def fnExactDealTextUptoRow : OpenClaim := { program := "ytefhdmobhfbhhaa", sum := "803c67747066245fdef59b2a692e916c4e949d83bae6b26bc1b69103d9e741a0", func := "loop.example/g00854/laws.FnExactDealText", spec := "fnExactDealText", inPlace := ["internal/abi.NoEscape", "internal/bytealg.MakeNoZero"], unfollowed := true, recurses := true, apart := false, narrowed := true }
def FnExactDealTextUptoSaid : Prop := fnExactDealTextUptoRow.holds Try.pinned (OpenSpec.upto fnExactDealTextSpec)

end Rows
end Go.Proofs.Ytefhdmobhfbhhaa
