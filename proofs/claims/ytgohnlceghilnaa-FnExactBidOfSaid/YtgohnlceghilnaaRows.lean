/-
  No cell of these rows narrows 'for every input' (looked for: loops, veiled, ifaces, maps, wideKeys, modest, calm, conditions, laid).
  DERIVED. THE GIVEN ROWS OF THIS SEAT. 7 by the template 'for every input the law returns true; each argument reads behind the call as it read before'; 0 by the template 'total and deterministic' (their statements: YtgohnlceghilnaaTotals.lean).
  GIVEN WITH THE SEED: the statements are not yours to turn. If you find one false, say at which input.
  Laid BY PROGRAM, IN A SANDBOX (cutbox-rows.mjs): the forced cells as the released guide's own fill.sh prints them over the translation fa24e6b2837597e9… (all of the seat's roots in one cut). By AI agents, Wed Nov 11 2026. No macro, syntax, notation, axiom, sorry.
-/
import Derived.Test.YtgohnlceghilnaaChecked
import GoSem.Claim
import GoSem.ClaimJoined
import GoSem.ClaimMapViews
import Derived.JoinedTies
import Derived.KernelRfl
namespace Go.Proofs.Ytgohnlceghilnaa
/- THE CELL 'sum', in the pinned program and in every row, IS THE sha256 OF THE DUMP (.gsa) THAT YtgohnlceghilnaaProg.lean LOADS. Nothing in Lean hashes anything: it is a label: what it is worth is what the hold of that sum in a sandbox is worth. -/
noncomputable def Try.pinned : Pinned := { name := "ytgohnlceghilnaa", sum := "fa24e6b2837597e9c3e8a9cf8bde720616ddab50ce06b84f5439a8d872ed61d0", checked := Try.checked }
namespace Rows
def none {H : Type} : Left H := { results := [], args := [] }

/-- 'laws.FnBids': WHATEVER THE INPUT: true; the input reads as it did. -/
def fnBidsSpec : ChangeSpec := { name := "fnBids", fn := fun _ => fun
  | [d] => { results := [.lit (.bool true)], args := [d] }
  | _ => none }
def fnBidsRow : OpenClaim := { program := "ytgohnlceghilnaa", sum := "fa24e6b2837597e9c3e8a9cf8bde720616ddab50ce06b84f5439a8d872ed61d0", func := "loop.example/g00854/laws.FnBids", spec := "fnBids", apart := false }
def FnBidsSaid : Prop := fnBidsRow.holds Try.pinned (OpenSpec.ofChange fnBidsSpec)

/-- ITS FALSE NEIGHBOUR: 'it returns false'. Refute it at one input. -/
def fnBidsWrong : ChangeSpec := { name := "fnBids", fn := fun _ => fun
  | [d] => { results := [.lit (.bool false)], args := [d] }
  | _ => none }
def FnBidsWrongFalsely : Prop := fnBidsRow.holds Try.pinned (OpenSpec.ofChange fnBidsWrong)

/-- 'laws.FnExactIsCall': WHATEVER THE INPUT: true; the input reads as it did. -/
def fnExactIsCallSpec : ChangeSpec := { name := "fnExactIsCall", fn := fun _ => fun
  | [d] => { results := [.lit (.bool true)], args := [d] }
  | _ => none }
def fnExactIsCallRow : OpenClaim := { program := "ytgohnlceghilnaa", sum := "fa24e6b2837597e9c3e8a9cf8bde720616ddab50ce06b84f5439a8d872ed61d0", func := "loop.example/g00854/laws.FnExactIsCall", spec := "fnExactIsCall", apart := false }
def FnExactIsCallSaid : Prop := fnExactIsCallRow.holds Try.pinned (OpenSpec.ofChange fnExactIsCallSpec)

/-- ITS FALSE NEIGHBOUR: 'it returns false'. Refute it at one input. -/
def fnExactIsCallWrong : ChangeSpec := { name := "fnExactIsCall", fn := fun _ => fun
  | [d] => { results := [.lit (.bool false)], args := [d] }
  | _ => none }
def FnExactIsCallWrongFalsely : Prop := fnExactIsCallRow.holds Try.pinned (OpenSpec.ofChange fnExactIsCallWrong)

/-- 'laws.FnExactLevelOf': WHATEVER THE INPUT: true; the input reads as it did. -/
def fnExactLevelOfSpec : ChangeSpec := { name := "fnExactLevelOf", fn := fun _ => fun
  | [d] => { results := [.lit (.bool true)], args := [d] }
  | _ => none }
def fnExactLevelOfRow : OpenClaim := { program := "ytgohnlceghilnaa", sum := "fa24e6b2837597e9c3e8a9cf8bde720616ddab50ce06b84f5439a8d872ed61d0", func := "loop.example/g00854/laws.FnExactLevelOf", spec := "fnExactLevelOf", apart := false }
def FnExactLevelOfSaid : Prop := fnExactLevelOfRow.holds Try.pinned (OpenSpec.ofChange fnExactLevelOfSpec)

/-- ITS FALSE NEIGHBOUR: 'it returns false'. Refute it at one input. -/
def fnExactLevelOfWrong : ChangeSpec := { name := "fnExactLevelOf", fn := fun _ => fun
  | [d] => { results := [.lit (.bool false)], args := [d] }
  | _ => none }
def FnExactLevelOfWrongFalsely : Prop := fnExactLevelOfRow.holds Try.pinned (OpenSpec.ofChange fnExactLevelOfWrong)

/-- 'laws.FnExactStrainOf': WHATEVER THE INPUT: true; the input reads as it did. -/
def fnExactStrainOfSpec : ChangeSpec := { name := "fnExactStrainOf", fn := fun _ => fun
  | [d] => { results := [.lit (.bool true)], args := [d] }
  | _ => none }
def fnExactStrainOfRow : OpenClaim := { program := "ytgohnlceghilnaa", sum := "fa24e6b2837597e9c3e8a9cf8bde720616ddab50ce06b84f5439a8d872ed61d0", func := "loop.example/g00854/laws.FnExactStrainOf", spec := "fnExactStrainOf", apart := false }
def FnExactStrainOfSaid : Prop := fnExactStrainOfRow.holds Try.pinned (OpenSpec.ofChange fnExactStrainOfSpec)

/-- ITS FALSE NEIGHBOUR: 'it returns false'. Refute it at one input. -/
def fnExactStrainOfWrong : ChangeSpec := { name := "fnExactStrainOf", fn := fun _ => fun
  | [d] => { results := [.lit (.bool false)], args := [d] }
  | _ => none }
def FnExactStrainOfWrongFalsely : Prop := fnExactStrainOfRow.holds Try.pinned (OpenSpec.ofChange fnExactStrainOfWrong)

/-- 'laws.FnExactBidOf': WHATEVER THE INPUT: true; the input reads as it did. -/
def fnExactBidOfSpec : ChangeSpec := { name := "fnExactBidOf", fn := fun _ => fun
  | [d1, d2] => { results := [.lit (.bool true)], args := [d1, d2] }
  | _ => none }
def fnExactBidOfRow : OpenClaim := { program := "ytgohnlceghilnaa", sum := "fa24e6b2837597e9c3e8a9cf8bde720616ddab50ce06b84f5439a8d872ed61d0", func := "loop.example/g00854/laws.FnExactBidOf", spec := "fnExactBidOf", apart := false }
def FnExactBidOfSaid : Prop := fnExactBidOfRow.holds Try.pinned (OpenSpec.ofChange fnExactBidOfSpec)

/-- ITS FALSE NEIGHBOUR: 'it returns false'. Refute it at one input. -/
def fnExactBidOfWrong : ChangeSpec := { name := "fnExactBidOf", fn := fun _ => fun
  | [d1, d2] => { results := [.lit (.bool false)], args := [d1, d2] }
  | _ => none }
def FnExactBidOfWrongFalsely : Prop := fnExactBidOfRow.holds Try.pinned (OpenSpec.ofChange fnExactBidOfWrong)

/-- 'laws.FnExactLowestBid': WHATEVER THE INPUT: true; the input reads as it did. -/
def fnExactLowestBidSpec : ChangeSpec := { name := "fnExactLowestBid", fn := fun _ => fun
  | [d1, d2] => { results := [.lit (.bool true)], args := [d1, d2] }
  | _ => none }
def fnExactLowestBidRow : OpenClaim := { program := "ytgohnlceghilnaa", sum := "fa24e6b2837597e9c3e8a9cf8bde720616ddab50ce06b84f5439a8d872ed61d0", func := "loop.example/g00854/laws.FnExactLowestBid", spec := "fnExactLowestBid", apart := false }
def FnExactLowestBidSaid : Prop := fnExactLowestBidRow.holds Try.pinned (OpenSpec.ofChange fnExactLowestBidSpec)

/-- ITS FALSE NEIGHBOUR: 'it returns false'. Refute it at one input. -/
def fnExactLowestBidWrong : ChangeSpec := { name := "fnExactLowestBid", fn := fun _ => fun
  | [d1, d2] => { results := [.lit (.bool false)], args := [d1, d2] }
  | _ => none }
def FnExactLowestBidWrongFalsely : Prop := fnExactLowestBidRow.holds Try.pinned (OpenSpec.ofChange fnExactLowestBidWrong)

/-- 'laws.FnExactIsJump': WHATEVER THE INPUT: true; the input reads as it did. -/
def fnExactIsJumpSpec : ChangeSpec := { name := "fnExactIsJump", fn := fun _ => fun
  | [d1, d2] => { results := [.lit (.bool true)], args := [d1, d2] }
  | _ => none }
def fnExactIsJumpRow : OpenClaim := { program := "ytgohnlceghilnaa", sum := "fa24e6b2837597e9c3e8a9cf8bde720616ddab50ce06b84f5439a8d872ed61d0", func := "loop.example/g00854/laws.FnExactIsJump", spec := "fnExactIsJump", apart := false }
def FnExactIsJumpSaid : Prop := fnExactIsJumpRow.holds Try.pinned (OpenSpec.ofChange fnExactIsJumpSpec)

/-- ITS FALSE NEIGHBOUR: 'it returns false'. Refute it at one input. -/
def fnExactIsJumpWrong : ChangeSpec := { name := "fnExactIsJump", fn := fun _ => fun
  | [d1, d2] => { results := [.lit (.bool false)], args := [d1, d2] }
  | _ => none }
def FnExactIsJumpWrongFalsely : Prop := fnExactIsJumpRow.holds Try.pinned (OpenSpec.ofChange fnExactIsJumpWrong)

/- THE SECOND FORM. 'bulk': how many values and letters a reading holds, each counted each time it is reached (what is shared counts as often as it is met; a slice's spare places count too). A statement '..UptoSaid' is the law's where the arguments, and the package variables that the reading takes, are together of bulk at most 1048576: NARROWER than '..Said'. Prove '..Said' where nothing that the law and all that it calls make is longer than what came in: it says more and counts as full. Else prove '..UptoSaid'. A law counts once. -/
mutual
def uptoBulk {H : Type} : DataW H → Nat
  | .lit (.string bytes) => bytes.length + 1
  | .lit _ => 1
  | .nil => 1
  | .ptr d => uptoBulk d + 1
  | .slice elems spare => uptoBulkAll elems + uptoBulkAll spare + 1
  | .agg parts => uptoBulkAll parts + 1
  | .iface _ d => uptoBulk d + 1
  | .map entries => uptoBulkEntries entries + 1
  | .held _ => 1
def uptoBulkAll {H : Type} : List (DataW H) → Nat
  | [] => 0
  | d :: r => uptoBulk d + uptoBulkAll r
def uptoBulkEntries {H : Type} : List (Lit × DataW H) → Nat
  | [] => 0
  | x :: r => uptoBulkEntry x + uptoBulkEntries r
def uptoBulkEntry {H : Type} : Lit × DataW H → Nat
  | (.string bytes, d) => bytes.length + uptoBulk d + 1
  | (_, d) => uptoBulk d + 1
 end
def uptoSmall : (H : Type) → List (DataW H) → Bool := fun _ ds => decide (uptoBulkAll ds ≤ 1048576)
def OpenSpec.upto (s : _root_.Go.ChangeSpec) : _root_.Go.OpenSpec := { _root_.Go.OpenSpec.ofChange s with cond := some uptoSmall }

/-- 'laws.FnBids', WHERE WHAT IT READS IS OF BULK AT MOST 1048576: true; the input reads as it did. -/
def fnBidsUptoRow : OpenClaim := { program := "ytgohnlceghilnaa", sum := "fa24e6b2837597e9c3e8a9cf8bde720616ddab50ce06b84f5439a8d872ed61d0", func := "loop.example/g00854/laws.FnBids", spec := "fnBids", apart := false, narrowed := true }
def FnBidsUptoSaid : Prop := fnBidsUptoRow.holds Try.pinned (OpenSpec.upto fnBidsSpec)

/-- 'laws.FnExactIsCall', WHERE WHAT IT READS IS OF BULK AT MOST 1048576: true; the input reads as it did. -/
def fnExactIsCallUptoRow : OpenClaim := { program := "ytgohnlceghilnaa", sum := "fa24e6b2837597e9c3e8a9cf8bde720616ddab50ce06b84f5439a8d872ed61d0", func := "loop.example/g00854/laws.FnExactIsCall", spec := "fnExactIsCall", apart := false, narrowed := true }
def FnExactIsCallUptoSaid : Prop := fnExactIsCallUptoRow.holds Try.pinned (OpenSpec.upto fnExactIsCallSpec)

/-- 'laws.FnExactLevelOf', WHERE WHAT IT READS IS OF BULK AT MOST 1048576: true; the input reads as it did. -/
def fnExactLevelOfUptoRow : OpenClaim := { program := "ytgohnlceghilnaa", sum := "fa24e6b2837597e9c3e8a9cf8bde720616ddab50ce06b84f5439a8d872ed61d0", func := "loop.example/g00854/laws.FnExactLevelOf", spec := "fnExactLevelOf", apart := false, narrowed := true }
def FnExactLevelOfUptoSaid : Prop := fnExactLevelOfUptoRow.holds Try.pinned (OpenSpec.upto fnExactLevelOfSpec)

/-- 'laws.FnExactStrainOf', WHERE WHAT IT READS IS OF BULK AT MOST 1048576: true; the input reads as it did. -/
def fnExactStrainOfUptoRow : OpenClaim := { program := "ytgohnlceghilnaa", sum := "fa24e6b2837597e9c3e8a9cf8bde720616ddab50ce06b84f5439a8d872ed61d0", func := "loop.example/g00854/laws.FnExactStrainOf", spec := "fnExactStrainOf", apart := false, narrowed := true }
def FnExactStrainOfUptoSaid : Prop := fnExactStrainOfUptoRow.holds Try.pinned (OpenSpec.upto fnExactStrainOfSpec)

/-- 'laws.FnExactBidOf', WHERE WHAT IT READS IS OF BULK AT MOST 1048576: true; the input reads as it did. -/
def fnExactBidOfUptoRow : OpenClaim := { program := "ytgohnlceghilnaa", sum := "fa24e6b2837597e9c3e8a9cf8bde720616ddab50ce06b84f5439a8d872ed61d0", func := "loop.example/g00854/laws.FnExactBidOf", spec := "fnExactBidOf", apart := false, narrowed := true }
def FnExactBidOfUptoSaid : Prop := fnExactBidOfUptoRow.holds Try.pinned (OpenSpec.upto fnExactBidOfSpec)

/-- 'laws.FnExactLowestBid', WHERE WHAT IT READS IS OF BULK AT MOST 1048576: true; the input reads as it did. -/
def fnExactLowestBidUptoRow : OpenClaim := { program := "ytgohnlceghilnaa", sum := "fa24e6b2837597e9c3e8a9cf8bde720616ddab50ce06b84f5439a8d872ed61d0", func := "loop.example/g00854/laws.FnExactLowestBid", spec := "fnExactLowestBid", apart := false, narrowed := true }
def FnExactLowestBidUptoSaid : Prop := fnExactLowestBidUptoRow.holds Try.pinned (OpenSpec.upto fnExactLowestBidSpec)

/-- 'laws.FnExactIsJump', WHERE WHAT IT READS IS OF BULK AT MOST 1048576: true; the input reads as it did. -/
def fnExactIsJumpUptoRow : OpenClaim := { program := "ytgohnlceghilnaa", sum := "fa24e6b2837597e9c3e8a9cf8bde720616ddab50ce06b84f5439a8d872ed61d0", func := "loop.example/g00854/laws.FnExactIsJump", spec := "fnExactIsJump", apart := false, narrowed := true }
def FnExactIsJumpUptoSaid : Prop := fnExactIsJumpUptoRow.holds Try.pinned (OpenSpec.upto fnExactIsJumpSpec)

end Rows
end Go.Proofs.Ytgohnlceghilnaa
