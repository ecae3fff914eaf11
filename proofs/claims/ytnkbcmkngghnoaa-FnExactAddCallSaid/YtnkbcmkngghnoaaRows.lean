/-
  No cell of these rows narrows 'for every input' (looked for: loops, veiled, ifaces, maps, wideKeys, modest, calm, conditions, laid).
  DERIVED. THE GIVEN ROWS OF THIS SEAT. 10 by the template 'for every input the law returns true; each argument reads behind the call as it read before'; 0 by the template 'total and deterministic' (their statements: YtnkbcmkngghnoaaTotals.lean).
  GIVEN WITH THE SEED: the statements are not yours to turn. If you find one false, say at which input.
  Laid BY PROGRAM, IN A SANDBOX (cutbox-rows.mjs): the forced cells as the released guide's own fill.sh prints them over the translation 8373b1351c0c12dc… (all of the seat's roots in one cut). By AI agents, Wed Nov 11 2026. No macro, syntax, notation, axiom, sorry.
-/
import Derived.Test.YtnkbcmkngghnoaaChecked
import GoSem.Claim
import GoSem.ClaimJoined
import GoSem.ClaimMapViews
import Derived.JoinedTies
import Derived.KernelRfl
namespace Go.Proofs.Ytnkbcmkngghnoaa
/- THE CELL 'sum', in the pinned program and in every row, IS THE sha256 OF THE DUMP (.gsa) THAT YtnkbcmkngghnoaaProg.lean LOADS. Nothing in Lean hashes anything: it is a label: what it is worth is what the hold of that sum in a sandbox is worth. -/
noncomputable def Try.pinned : Pinned := { name := "ytnkbcmkngghnoaa", sum := "8373b1351c0c12dcc43444d6a5f8c16c21711916d62b231c94df22c338c313f6", checked := Try.checked }
namespace Rows
def none {H : Type} : Left H := { results := [], args := [] }

/-- 'laws.FnAuctionGrows': WHATEVER THE INPUT: true; the input reads as it did. -/
def fnAuctionGrowsSpec : ChangeSpec := { name := "fnAuctionGrows", fn := fun _ => fun
  | [d] => { results := [.lit (.bool true)], args := [d] }
  | _ => none }
def fnAuctionGrowsRow : OpenClaim := { program := "ytnkbcmkngghnoaa", sum := "8373b1351c0c12dcc43444d6a5f8c16c21711916d62b231c94df22c338c313f6", func := "loop.example/g00854/laws.FnAuctionGrows", spec := "fnAuctionGrows", apart := false }
def FnAuctionGrowsSaid : Prop := fnAuctionGrowsRow.holds Try.pinned (OpenSpec.ofChange fnAuctionGrowsSpec)

/-- ITS FALSE NEIGHBOUR: 'it returns false'. Refute it at one input. -/
def fnAuctionGrowsWrong : ChangeSpec := { name := "fnAuctionGrows", fn := fun _ => fun
  | [d] => { results := [.lit (.bool false)], args := [d] }
  | _ => none }
def FnAuctionGrowsWrongFalsely : Prop := fnAuctionGrowsRow.holds Try.pinned (OpenSpec.ofChange fnAuctionGrowsWrong)

/-- 'laws.FnAuctionContract': WHATEVER THE INPUT: true; the input reads as it did. -/
def fnAuctionContractSpec : ChangeSpec := { name := "fnAuctionContract", fn := fun _ => fun
  | [d] => { results := [.lit (.bool true)], args := [d] }
  | _ => none }
def fnAuctionContractRow : OpenClaim := { program := "ytnkbcmkngghnoaa", sum := "8373b1351c0c12dcc43444d6a5f8c16c21711916d62b231c94df22c338c313f6", func := "loop.example/g00854/laws.FnAuctionContract", spec := "fnAuctionContract", apart := false }
def FnAuctionContractSaid : Prop := fnAuctionContractRow.holds Try.pinned (OpenSpec.ofChange fnAuctionContractSpec)

/-- ITS FALSE NEIGHBOUR: 'it returns false'. Refute it at one input. -/
def fnAuctionContractWrong : ChangeSpec := { name := "fnAuctionContract", fn := fun _ => fun
  | [d] => { results := [.lit (.bool false)], args := [d] }
  | _ => none }
def FnAuctionContractWrongFalsely : Prop := fnAuctionContractRow.holds Try.pinned (OpenSpec.ofChange fnAuctionContractWrong)

/-- 'laws.FnDealerTurns': WHATEVER THE INPUT: true; the input reads as it did. -/
def fnDealerTurnsSpec : ChangeSpec := { name := "fnDealerTurns", fn := fun _ => fun
  | [d] => { results := [.lit (.bool true)], args := [d] }
  | _ => none }
def fnDealerTurnsRow : OpenClaim := { program := "ytnkbcmkngghnoaa", sum := "8373b1351c0c12dcc43444d6a5f8c16c21711916d62b231c94df22c338c313f6", func := "loop.example/g00854/laws.FnDealerTurns", spec := "fnDealerTurns", apart := false }
def FnDealerTurnsSaid : Prop := fnDealerTurnsRow.holds Try.pinned (OpenSpec.ofChange fnDealerTurnsSpec)

/-- ITS FALSE NEIGHBOUR: 'it returns false'. Refute it at one input. -/
def fnDealerTurnsWrong : ChangeSpec := { name := "fnDealerTurns", fn := fun _ => fun
  | [d] => { results := [.lit (.bool false)], args := [d] }
  | _ => none }
def FnDealerTurnsWrongFalsely : Prop := fnDealerTurnsRow.holds Try.pinned (OpenSpec.ofChange fnDealerTurnsWrong)

/-- 'laws.FnExactIsAuction': WHATEVER THE INPUT: true; the input reads as it did. -/
def fnExactIsAuctionSpec : ChangeSpec := { name := "fnExactIsAuction", fn := fun _ => fun
  | [d] => { results := [.lit (.bool true)], args := [d] }
  | _ => none }
def fnExactIsAuctionRow : OpenClaim := { program := "ytnkbcmkngghnoaa", sum := "8373b1351c0c12dcc43444d6a5f8c16c21711916d62b231c94df22c338c313f6", func := "loop.example/g00854/laws.FnExactIsAuction", spec := "fnExactIsAuction", apart := false }
def FnExactIsAuctionSaid : Prop := fnExactIsAuctionRow.holds Try.pinned (OpenSpec.ofChange fnExactIsAuctionSpec)

/-- ITS FALSE NEIGHBOUR: 'it returns false'. Refute it at one input. -/
def fnExactIsAuctionWrong : ChangeSpec := { name := "fnExactIsAuction", fn := fun _ => fun
  | [d] => { results := [.lit (.bool false)], args := [d] }
  | _ => none }
def FnExactIsAuctionWrongFalsely : Prop := fnExactIsAuctionRow.holds Try.pinned (OpenSpec.ofChange fnExactIsAuctionWrong)

/-- 'laws.FnExactAuctionEnded': WHATEVER THE INPUT: true; the input reads as it did. -/
def fnExactAuctionEndedSpec : ChangeSpec := { name := "fnExactAuctionEnded", fn := fun _ => fun
  | [d] => { results := [.lit (.bool true)], args := [d] }
  | _ => none }
def fnExactAuctionEndedRow : OpenClaim := { program := "ytnkbcmkngghnoaa", sum := "8373b1351c0c12dcc43444d6a5f8c16c21711916d62b231c94df22c338c313f6", func := "loop.example/g00854/laws.FnExactAuctionEnded", spec := "fnExactAuctionEnded", apart := false }
def FnExactAuctionEndedSaid : Prop := fnExactAuctionEndedRow.holds Try.pinned (OpenSpec.ofChange fnExactAuctionEndedSpec)

/-- ITS FALSE NEIGHBOUR: 'it returns false'. Refute it at one input. -/
def fnExactAuctionEndedWrong : ChangeSpec := { name := "fnExactAuctionEnded", fn := fun _ => fun
  | [d] => { results := [.lit (.bool false)], args := [d] }
  | _ => none }
def FnExactAuctionEndedWrongFalsely : Prop := fnExactAuctionEndedRow.holds Try.pinned (OpenSpec.ofChange fnExactAuctionEndedWrong)

/-- 'laws.FnExactSeatToCall': WHATEVER THE INPUT: true; the input reads as it did. -/
def fnExactSeatToCallSpec : ChangeSpec := { name := "fnExactSeatToCall", fn := fun _ => fun
  | [d] => { results := [.lit (.bool true)], args := [d] }
  | _ => none }
def fnExactSeatToCallRow : OpenClaim := { program := "ytnkbcmkngghnoaa", sum := "8373b1351c0c12dcc43444d6a5f8c16c21711916d62b231c94df22c338c313f6", func := "loop.example/g00854/laws.FnExactSeatToCall", spec := "fnExactSeatToCall", apart := false }
def FnExactSeatToCallSaid : Prop := fnExactSeatToCallRow.holds Try.pinned (OpenSpec.ofChange fnExactSeatToCallSpec)

/-- ITS FALSE NEIGHBOUR: 'it returns false'. Refute it at one input. -/
def fnExactSeatToCallWrong : ChangeSpec := { name := "fnExactSeatToCall", fn := fun _ => fun
  | [d] => { results := [.lit (.bool false)], args := [d] }
  | _ => none }
def FnExactSeatToCallWrongFalsely : Prop := fnExactSeatToCallRow.holds Try.pinned (OpenSpec.ofChange fnExactSeatToCallWrong)

/-- 'laws.FnExactLegalCalls': WHATEVER THE INPUT: true; the input reads as it did. -/
def fnExactLegalCallsSpec : ChangeSpec := { name := "fnExactLegalCalls", fn := fun _ => fun
  | [d] => { results := [.lit (.bool true)], args := [d] }
  | _ => none }
def fnExactLegalCallsRow : OpenClaim := { program := "ytnkbcmkngghnoaa", sum := "8373b1351c0c12dcc43444d6a5f8c16c21711916d62b231c94df22c338c313f6", func := "loop.example/g00854/laws.FnExactLegalCalls", spec := "fnExactLegalCalls", apart := false }
def FnExactLegalCallsSaid : Prop := fnExactLegalCallsRow.holds Try.pinned (OpenSpec.ofChange fnExactLegalCallsSpec)

/-- ITS FALSE NEIGHBOUR: 'it returns false'. Refute it at one input. -/
def fnExactLegalCallsWrong : ChangeSpec := { name := "fnExactLegalCalls", fn := fun _ => fun
  | [d] => { results := [.lit (.bool false)], args := [d] }
  | _ => none }
def FnExactLegalCallsWrongFalsely : Prop := fnExactLegalCallsRow.holds Try.pinned (OpenSpec.ofChange fnExactLegalCallsWrong)

/-- 'laws.FnExactAddCall': WHATEVER THE INPUT: true; the input reads as it did. -/
def fnExactAddCallSpec : ChangeSpec := { name := "fnExactAddCall", fn := fun _ => fun
  | [d1, d2] => { results := [.lit (.bool true)], args := [d1, d2] }
  | _ => none }
def fnExactAddCallRow : OpenClaim := { program := "ytnkbcmkngghnoaa", sum := "8373b1351c0c12dcc43444d6a5f8c16c21711916d62b231c94df22c338c313f6", func := "loop.example/g00854/laws.FnExactAddCall", spec := "fnExactAddCall", apart := false }
def FnExactAddCallSaid : Prop := fnExactAddCallRow.holds Try.pinned (OpenSpec.ofChange fnExactAddCallSpec)

/-- ITS FALSE NEIGHBOUR: 'it returns false'. Refute it at one input. -/
def fnExactAddCallWrong : ChangeSpec := { name := "fnExactAddCall", fn := fun _ => fun
  | [d1, d2] => { results := [.lit (.bool false)], args := [d1, d2] }
  | _ => none }
def FnExactAddCallWrongFalsely : Prop := fnExactAddCallRow.holds Try.pinned (OpenSpec.ofChange fnExactAddCallWrong)

/-- 'laws.FnExactContractOf': WHATEVER THE INPUT: true; the input reads as it did. -/
def fnExactContractOfSpec : ChangeSpec := { name := "fnExactContractOf", fn := fun _ => fun
  | [d] => { results := [.lit (.bool true)], args := [d] }
  | _ => none }
def fnExactContractOfRow : OpenClaim := { program := "ytnkbcmkngghnoaa", sum := "8373b1351c0c12dcc43444d6a5f8c16c21711916d62b231c94df22c338c313f6", func := "loop.example/g00854/laws.FnExactContractOf", spec := "fnExactContractOf", apart := false }
def FnExactContractOfSaid : Prop := fnExactContractOfRow.holds Try.pinned (OpenSpec.ofChange fnExactContractOfSpec)

/-- ITS FALSE NEIGHBOUR: 'it returns false'. Refute it at one input. -/
def fnExactContractOfWrong : ChangeSpec := { name := "fnExactContractOf", fn := fun _ => fun
  | [d] => { results := [.lit (.bool false)], args := [d] }
  | _ => none }
def FnExactContractOfWrongFalsely : Prop := fnExactContractOfRow.holds Try.pinned (OpenSpec.ofChange fnExactContractOfWrong)

/-- 'laws.FnExactIsContract': WHATEVER THE INPUT: true; the input reads as it did. -/
def fnExactIsContractSpec : ChangeSpec := { name := "fnExactIsContract", fn := fun _ => fun
  | [d] => { results := [.lit (.bool true)], args := [d] }
  | _ => none }
def fnExactIsContractRow : OpenClaim := { program := "ytnkbcmkngghnoaa", sum := "8373b1351c0c12dcc43444d6a5f8c16c21711916d62b231c94df22c338c313f6", func := "loop.example/g00854/laws.FnExactIsContract", spec := "fnExactIsContract", apart := false }
def FnExactIsContractSaid : Prop := fnExactIsContractRow.holds Try.pinned (OpenSpec.ofChange fnExactIsContractSpec)

/-- ITS FALSE NEIGHBOUR: 'it returns false'. Refute it at one input. -/
def fnExactIsContractWrong : ChangeSpec := { name := "fnExactIsContract", fn := fun _ => fun
  | [d] => { results := [.lit (.bool false)], args := [d] }
  | _ => none }
def FnExactIsContractWrongFalsely : Prop := fnExactIsContractRow.holds Try.pinned (OpenSpec.ofChange fnExactIsContractWrong)

/- THE SECOND FORM. 'bulk': how many values and letters a reading holds, each counted each time it is reached (what is shared counts as often as it is met; a slice's spare places count too). A statement '..UptoSaid' is the law's where the arguments, and the package variables that the reading takes, are together of bulk at most 1048576: NARROWER than '..Said'. Prove '..Said' where nothing that the law and all that it calls make is longer than what came in: it says more and counts as full. Else prove '..UptoSaid'. A law counts once. -/
mutual
def uptoBulk {H : Type} : DataW H → Nat
  | .lit (.string bytes) => bytes.length + 1
  | .lit _ => 1
  | .nil => 1
  | .ptr d => uptoBulk d + 1
  | .slice elems spare => uptoBulkAll elems + uptoBulkAll spare + 1
  | .agg parts => uptoBulkAll parts + 1
  | .iface _ d => uptoBulk d + 1
  | .map entries => uptoBulkEntries entries + 1
  | .held _ => 1
def uptoBulkAll {H : Type} : List (DataW H) → Nat
  | [] => 0
  | d :: r => uptoBulk d + uptoBulkAll r
def uptoBulkEntries {H : Type} : List (Lit × DataW H) → Nat
  | [] => 0
  | x :: r => uptoBulkEntry x + uptoBulkEntries r
def uptoBulkEntry {H : Type} : Lit × DataW H → Nat
  | (.string bytes, d) => bytes.length + uptoBulk d + 1
  | (_, d) => uptoBulk d + 1
 end
def uptoSmall : (H : Type) → List (DataW H) → Bool := fun _ ds => decide (uptoBulkAll ds ≤ 1048576)
def OpenSpec.upto (s : _root_.Go.ChangeSpec) : _root_.Go.OpenSpec := { _root_.Go.OpenSpec.ofChange s with cond := some uptoSmall }

/-- 'laws.FnAuctionGrows', WHERE WHAT IT READS IS OF BULK AT MOST 1048576: true; the input reads as it did. -/
def fnAuctionGrowsUptoRow : OpenClaim := { program := "ytnkbcmkngghnoaa", sum := "8373b1351c0c12dcc43444d6a5f8c16c21711916d62b231c94df22c338c313f6", func := "loop.example/g00854/laws.FnAuctionGrows", spec := "fnAuctionGrows", apart := false, narrowed := true }
def FnAuctionGrowsUptoSaid : Prop := fnAuctionGrowsUptoRow.holds Try.pinned (OpenSpec.upto fnAuctionGrowsSpec)

/-- 'laws.FnAuctionContract', WHERE WHAT IT READS IS OF BULK AT MOST 1048576: true; the input reads as it did. -/
def fnAuctionContractUptoRow : OpenClaim := { program := "ytnkbcmkngghnoaa", sum := "8373b1351c0c12dcc43444d6a5f8c16c21711916d62b231c94df22c338c313f6", func := "loop.example/g00854/laws.FnAuctionContract", spec := "fnAuctionContract", apart := false, narrowed := true }
def FnAuctionContractUptoSaid : Prop := fnAuctionContractUptoRow.holds Try.pinned (OpenSpec.upto fnAuctionContractSpec)

/-- 'laws.FnDealerTurns', WHERE WHAT IT READS IS OF BULK AT MOST 1048576: true; the input reads as it did. -/
def fnDealerTurnsUptoRow : OpenClaim := { program := "ytnkbcmkngghnoaa", sum := "8373b1351c0c12dcc43444d6a5f8c16c21711916d62b231c94df22c338c313f6", func := "loop.example/g00854/laws.FnDealerTurns", spec := "fnDealerTurns", apart := false, narrowed := true }
def FnDealerTurnsUptoSaid : Prop := fnDealerTurnsUptoRow.holds Try.pinned (OpenSpec.upto fnDealerTurnsSpec)

/-- 'laws.FnExactIsAuction', WHERE WHAT IT READS IS OF BULK AT MOST 1048576: true; the input reads as it did. -/
def fnExactIsAuctionUptoRow : OpenClaim := { program := "ytnkbcmkngghnoaa", sum := "8373b1351c0c12dcc43444d6a5f8c16c21711916d62b231c94df22c338c313f6", func := "loop.example/g00854/laws.FnExactIsAuction", spec := "fnExactIsAuction", apart := false, narrowed := true }
def FnExactIsAuctionUptoSaid : Prop := fnExactIsAuctionUptoRow.holds Try.pinned (OpenSpec.upto fnExactIsAuctionSpec)

/-- 'laws.FnExactAuctionEnded', WHERE WHAT IT READS IS OF BULK AT MOST 1048576: true; the input reads as it did. -/
def fnExactAuctionEndedUptoRow : OpenClaim := { program := "ytnkbcmkngghnoaa", sum := "8373b1351c0c12dcc43444d6a5f8c16c21711916d62b231c94df22c338c313f6", func := "loop.example/g00854/laws.FnExactAuctionEnded", spec := "fnExactAuctionEnded", apart := false, narrowed := true }
def FnExactAuctionEndedUptoSaid : Prop := fnExactAuctionEndedUptoRow.holds Try.pinned (OpenSpec.upto fnExactAuctionEndedSpec)

/-- 'laws.FnExactSeatToCall', WHERE WHAT IT READS IS OF BULK AT MOST 1048576: true; the input reads as it did. -/
def fnExactSeatToCallUptoRow : OpenClaim := { program := "ytnkbcmkngghnoaa", sum := "8373b1351c0c12dcc43444d6a5f8c16c21711916d62b231c94df22c338c313f6", func := "loop.example/g00854/laws.FnExactSeatToCall", spec := "fnExactSeatToCall", apart := false, narrowed := true }
def FnExactSeatToCallUptoSaid : Prop := fnExactSeatToCallUptoRow.holds Try.pinned (OpenSpec.upto fnExactSeatToCallSpec)

/-- 'laws.FnExactLegalCalls', WHERE WHAT IT READS IS OF BULK AT MOST 1048576: true; the input reads as it did. -/
def fnExactLegalCallsUptoRow : OpenClaim := { program := "ytnkbcmkngghnoaa", sum := "8373b1351c0c12dcc43444d6a5f8c16c21711916d62b231c94df22c338c313f6", func := "loop.example/g00854/laws.FnExactLegalCalls", spec := "fnExactLegalCalls", apart := false, narrowed := true }
def FnExactLegalCallsUptoSaid : Prop := fnExactLegalCallsUptoRow.holds Try.pinned (OpenSpec.upto fnExactLegalCallsSpec)

/-- 'laws.FnExactAddCall', WHERE WHAT IT READS IS OF BULK AT MOST 1048576: true; the input reads as it did. -/
def fnExactAddCallUptoRow : OpenClaim := { program := "ytnkbcmkngghnoaa", sum := "8373b1351c0c12dcc43444d6a5f8c16c21711916d62b231c94df22c338c313f6", func := "loop.example/g00854/laws.FnExactAddCall", spec := "fnExactAddCall", apart := false, narrowed := true }
def FnExactAddCallUptoSaid : Prop := fnExactAddCallUptoRow.holds Try.pinned (OpenSpec.upto fnExactAddCallSpec)

/-- 'laws.FnExactContractOf', WHERE WHAT IT READS IS OF BULK AT MOST 1048576: true; the input reads as it did. -/
def fnExactContractOfUptoRow : OpenClaim := { program := "ytnkbcmkngghnoaa", sum := "8373b1351c0c12dcc43444d6a5f8c16c21711916d62b231c94df22c338c313f6", func := "loop.example/g00854/laws.FnExactContractOf", spec := "fnExactContractOf", apart := false, narrowed := true }
def FnExactContractOfUptoSaid : Prop := fnExactContractOfUptoRow.holds Try.pinned (OpenSpec.upto fnExactContractOfSpec)

/-- 'laws.FnExactIsContract', WHERE WHAT IT READS IS OF BULK AT MOST 1048576: true; the input reads as it did. -/
def fnExactIsContractUptoRow : OpenClaim := { program := "ytnkbcmkngghnoaa", sum := "8373b1351c0c12dcc43444d6a5f8c16c21711916d62b231c94df22c338c313f6", func := "loop.example/g00854/laws.FnExactIsContract", spec := "fnExactIsContract", apart := false, narrowed := true }
def FnExactIsContractUptoSaid : Prop := fnExactIsContractUptoRow.holds Try.pinned (OpenSpec.upto fnExactIsContractSpec)

end Rows
end Go.Proofs.Ytnkbcmkngghnoaa
