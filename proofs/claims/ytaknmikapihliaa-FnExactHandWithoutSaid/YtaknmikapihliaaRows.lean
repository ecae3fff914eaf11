/-
  No cell of these rows narrows 'for every input' (looked for: loops, veiled, ifaces, maps, wideKeys, modest, calm, conditions, laid).
  DERIVED. THE GIVEN ROWS OF THIS SEAT. 5 by the template 'for every input the law returns true; each argument reads behind the call as it read before'; 0 by the template 'total and deterministic' (their statements: YtaknmikapihliaaTotals.lean).
  GIVEN WITH THE SEED: the statements are not yours to turn. If you find one false, say at which input.
  Laid BY PROGRAM, IN A SANDBOX (cutbox-rows.mjs): the forced cells as the released guide's own fill.sh prints them over the translation d54808e78bca9a72… (all of the seat's roots in one cut). By AI agents, Wed Nov 11 2026. No macro, syntax, notation, axiom, sorry.
-/
import Derived.Test.YtaknmikapihliaaChecked
import GoSem.Claim
import GoSem.ClaimJoined
import GoSem.ClaimMapViews
import Derived.JoinedTies
import Derived.KernelRfl
namespace Go.Proofs.Ytaknmikapihliaa
/- THE CELL 'sum', in the pinned program and in every row, IS THE sha256 OF THE DUMP (.gsa) THAT YtaknmikapihliaaProg.lean LOADS. Nothing in Lean hashes anything: it is a label: what it is worth is what the hold of that sum in a sandbox is worth. -/
noncomputable def Try.pinned : Pinned := { name := "ytaknmikapihliaa", sum := "d54808e78bca9a720795928c7f8fb820a74c34bc463f07acbe753fd2231ee2a7", checked := Try.checked }
namespace Rows
def none {H : Type} : Left H := { results := [], args := [] }

/-- 'laws.FnHands': WHATEVER THE INPUT: true; the input reads as it did. -/
def fnHandsSpec : ChangeSpec := { name := "fnHands", fn := fun _ => fun
  | [d] => { results := [.lit (.bool true)], args := [d] }
  | _ => none }
def fnHandsRow : OpenClaim := { program := "ytaknmikapihliaa", sum := "d54808e78bca9a720795928c7f8fb820a74c34bc463f07acbe753fd2231ee2a7", func := "loop.example/g00854/laws.FnHands", spec := "fnHands", apart := false }
def FnHandsSaid : Prop := fnHandsRow.holds Try.pinned (OpenSpec.ofChange fnHandsSpec)

/-- ITS FALSE NEIGHBOUR: 'it returns false'. Refute it at one input. -/
def fnHandsWrong : ChangeSpec := { name := "fnHands", fn := fun _ => fun
  | [d] => { results := [.lit (.bool false)], args := [d] }
  | _ => none }
def FnHandsWrongFalsely : Prop := fnHandsRow.holds Try.pinned (OpenSpec.ofChange fnHandsWrong)

/-- 'laws.FnExactIsHand': WHATEVER THE INPUT: true; the input reads as it did. -/
def fnExactIsHandSpec : ChangeSpec := { name := "fnExactIsHand", fn := fun _ => fun
  | [d] => { results := [.lit (.bool true)], args := [d] }
  | _ => none }
def fnExactIsHandRow : OpenClaim := { program := "ytaknmikapihliaa", sum := "d54808e78bca9a720795928c7f8fb820a74c34bc463f07acbe753fd2231ee2a7", func := "loop.example/g00854/laws.FnExactIsHand", spec := "fnExactIsHand", apart := false }
def FnExactIsHandSaid : Prop := fnExactIsHandRow.holds Try.pinned (OpenSpec.ofChange fnExactIsHandSpec)

/-- ITS FALSE NEIGHBOUR: 'it returns false'. Refute it at one input. -/
def fnExactIsHandWrong : ChangeSpec := { name := "fnExactIsHand", fn := fun _ => fun
  | [d] => { results := [.lit (.bool false)], args := [d] }
  | _ => none }
def FnExactIsHandWrongFalsely : Prop := fnExactIsHandRow.holds Try.pinned (OpenSpec.ofChange fnExactIsHandWrong)

/-- 'laws.FnExactCardsOfSuit': WHATEVER THE INPUT: true; the input reads as it did. -/
def fnExactCardsOfSuitSpec : ChangeSpec := { name := "fnExactCardsOfSuit", fn := fun _ => fun
  | [d1, d2] => { results := [.lit (.bool true)], args := [d1, d2] }
  | _ => none }
def fnExactCardsOfSuitRow : OpenClaim := { program := "ytaknmikapihliaa", sum := "d54808e78bca9a720795928c7f8fb820a74c34bc463f07acbe753fd2231ee2a7", func := "loop.example/g00854/laws.FnExactCardsOfSuit", spec := "fnExactCardsOfSuit", apart := false }
def FnExactCardsOfSuitSaid : Prop := fnExactCardsOfSuitRow.holds Try.pinned (OpenSpec.ofChange fnExactCardsOfSuitSpec)

/-- ITS FALSE NEIGHBOUR: 'it returns false'. Refute it at one input. -/
def fnExactCardsOfSuitWrong : ChangeSpec := { name := "fnExactCardsOfSuit", fn := fun _ => fun
  | [d1, d2] => { results := [.lit (.bool false)], args := [d1, d2] }
  | _ => none }
def FnExactCardsOfSuitWrongFalsely : Prop := fnExactCardsOfSuitRow.holds Try.pinned (OpenSpec.ofChange fnExactCardsOfSuitWrong)

/-- 'laws.FnExactHandWith': WHATEVER THE INPUT: true; the input reads as it did. -/
def fnExactHandWithSpec : ChangeSpec := { name := "fnExactHandWith", fn := fun _ => fun
  | [d1, d2] => { results := [.lit (.bool true)], args := [d1, d2] }
  | _ => none }
def fnExactHandWithRow : OpenClaim := { program := "ytaknmikapihliaa", sum := "d54808e78bca9a720795928c7f8fb820a74c34bc463f07acbe753fd2231ee2a7", func := "loop.example/g00854/laws.FnExactHandWith", spec := "fnExactHandWith", apart := false }
def FnExactHandWithSaid : Prop := fnExactHandWithRow.holds Try.pinned (OpenSpec.ofChange fnExactHandWithSpec)

/-- ITS FALSE NEIGHBOUR: 'it returns false'. Refute it at one input. -/
def fnExactHandWithWrong : ChangeSpec := { name := "fnExactHandWith", fn := fun _ => fun
  | [d1, d2] => { results := [.lit (.bool false)], args := [d1, d2] }
  | _ => none }
def FnExactHandWithWrongFalsely : Prop := fnExactHandWithRow.holds Try.pinned (OpenSpec.ofChange fnExactHandWithWrong)

/-- 'laws.FnExactHandWithout': WHATEVER THE INPUT: true; the input reads as it did. -/
def fnExactHandWithoutSpec : ChangeSpec := { name := "fnExactHandWithout", fn := fun _ => fun
  | [d1, d2] => { results := [.lit (.bool true)], args := [d1, d2] }
  | _ => none }
def fnExactHandWithoutRow : OpenClaim := { program := "ytaknmikapihliaa", sum := "d54808e78bca9a720795928c7f8fb820a74c34bc463f07acbe753fd2231ee2a7", func := "loop.example/g00854/laws.FnExactHandWithout", spec := "fnExactHandWithout", apart := false }
def FnExactHandWithoutSaid : Prop := fnExactHandWithoutRow.holds Try.pinned (OpenSpec.ofChange fnExactHandWithoutSpec)

/-- ITS FALSE NEIGHBOUR: 'it returns false'. Refute it at one input. -/
def fnExactHandWithoutWrong : ChangeSpec := { name := "fnExactHandWithout", fn := fun _ => fun
  | [d1, d2] => { results := [.lit (.bool false)], args := [d1, d2] }
  | _ => none }
def FnExactHandWithoutWrongFalsely : Prop := fnExactHandWithoutRow.holds Try.pinned (OpenSpec.ofChange fnExactHandWithoutWrong)

/- THE SECOND FORM. 'bulk': how many values and letters a reading holds, each counted each time it is reached (what is shared counts as often as it is met; a slice's spare places count too). A statement '..UptoSaid' is the law's where the arguments, and the package variables that the reading takes, are together of bulk at most 1048576: NARROWER than '..Said'. Prove '..Said' where nothing that the law and all that it calls make is longer than what came in: it says more and counts as full. Else prove '..UptoSaid'. A law counts once. -/
mutual
def uptoBulk {H : Type} : DataW H → Nat
  | .lit (.string bytes) => bytes.length + 1
  | .lit _ => 1
  | .nil => 1
  | .ptr d => uptoBulk d + 1
  | .slice elems spare => uptoBulkAll elems + uptoBulkAll spare + 1
  | .agg parts => uptoBulkAll parts + 1
  | .iface _ d => uptoBulk d + 1
  | .map entries => uptoBulkEntries entries + 1
  | .held _ => 1
def uptoBulkAll {H : Type} : List (DataW H) → Nat
  | [] => 0
  | d :: r => uptoBulk d + uptoBulkAll r
def uptoBulkEntries {H : Type} : List (Lit × DataW H) → Nat
  | [] => 0
  | x :: r => uptoBulkEntry x + uptoBulkEntries r
def uptoBulkEntry {H : Type} : Lit × DataW H → Nat
  | (.string bytes, d) => bytes.length + uptoBulk d + 1
  | (_, d) => uptoBulk d + 1
 end
def uptoSmall : (H : Type) → List (DataW H) → Bool := fun _ ds => decide (uptoBulkAll ds ≤ 1048576)
def OpenSpec.upto (s : _root_.Go.ChangeSpec) : _root_.Go.OpenSpec := { _root_.Go.OpenSpec.ofChange s with cond := some uptoSmall }

/-- 'laws.FnHands', WHERE WHAT IT READS IS OF BULK AT MOST 1048576: true; the input reads as it did. -/
def fnHandsUptoRow : OpenClaim := { program := "ytaknmikapihliaa", sum := "d54808e78bca9a720795928c7f8fb820a74c34bc463f07acbe753fd2231ee2a7", func := "loop.example/g00854/laws.FnHands", spec := "fnHands", apart := false, narrowed := true }
def FnHandsUptoSaid : Prop := fnHandsUptoRow.holds Try.pinned (OpenSpec.upto fnHandsSpec)

/-- 'laws.FnExactIsHand', WHERE WHAT IT READS IS OF BULK AT MOST 1048576: true; the input reads as it did. -/
def fnExactIsHandUptoRow : OpenClaim := { program := "ytaknmikapihliaa", sum := "d54808e78bca9a720795928c7f8fb820a74c34bc463f07acbe753fd2231ee2a7", func := "loop.example/g00854/laws.FnExactIsHand", spec := "fnExactIsHand", apart := false, narrowed := true }
def FnExactIsHandUptoSaid : Prop := fnExactIsHandUptoRow.holds Try.pinned (OpenSpec.upto fnExactIsHandSpec)

/-- 'laws.FnExactCardsOfSuit', WHERE WHAT IT READS IS OF BULK AT MOST 1048576: true; the input reads as it did. -/
def fnExactCardsOfSuitUptoRow : OpenClaim := { program := "ytaknmikapihliaa", sum := "d54808e78bca9a720795928c7f8fb820a74c34bc463f07acbe753fd2231ee2a7", func := "loop.example/g00854/laws.FnExactCardsOfSuit", spec := "fnExactCardsOfSuit", apart := false, narrowed := true }
def FnExactCardsOfSuitUptoSaid : Prop := fnExactCardsOfSuitUptoRow.holds Try.pinned (OpenSpec.upto fnExactCardsOfSuitSpec)

/-- 'laws.FnExactHandWith', WHERE WHAT IT READS IS OF BULK AT MOST 1048576: true; the input reads as it did. -/
def fnExactHandWithUptoRow : OpenClaim := { program := "ytaknmikapihliaa", sum := "d54808e78bca9a720795928c7f8fb820a74c34bc463f07acbe753fd2231ee2a7", func := "loop.example/g00854/laws.FnExactHandWith", spec := "fnExactHandWith", apart := false, narrowed := true }
def FnExactHandWithUptoSaid : Prop := fnExactHandWithUptoRow.holds Try.pinned (OpenSpec.upto fnExactHandWithSpec)

/-- 'laws.FnExactHandWithout', WHERE WHAT IT READS IS OF BULK AT MOST 1048576: true; the input reads as it did. -/
def fnExactHandWithoutUptoRow : OpenClaim := { program := "ytaknmikapihliaa", sum := "d54808e78bca9a720795928c7f8fb820a74c34bc463f07acbe753fd2231ee2a7", func := "loop.example/g00854/laws.FnExactHandWithout", spec := "fnExactHandWithout", apart := false, narrowed := true }
def FnExactHandWithoutUptoSaid : Prop := fnExactHandWithoutUptoRow.holds Try.pinned (OpenSpec.upto fnExactHandWithoutSpec)

end Rows
end Go.Proofs.Ytaknmikapihliaa
