/- Chapter 3: the law's contract of the program's PermuteSuits. -/
import Derived.Test.YtdfmkikngifjmaaLaw3p
import Derived.Test.YtdfmkikngifjmaaPermJ
namespace Go.Proofs.Ytdfmkikngifjmaa.Lib1
open Go.RowKit
set_option maxRecDepth 100000

theorem impl_PermuteSuits : ImplDDS 53 permV permE := fun A n c zss lo hi T m d to lo' hi' w h ht _ => permuteSuits A n c zss lo hi T m d to lo' hi' w h.1 ht
theorem len_of_arg {w : World} {a : Option Addr} {len cap : Nat} {zs : List Int}
    (h : (a = none ∧ len = 0 ∧ cap = 0 ∧ zs = []) ∨ ∃ x, a = some x ∧ len ≤ cap ∧ cap ≤ maxLen ∧ zs.length = cap ∧ (∀ i, i < zs.length → w.cell? (x.add i) = some (.int .i64 (zs.getD i 0))) ∧ ∀ n ∈ zs, (Lit.int .i64 n).wf = true) : len ≤ 9223372036854775807 := by
  rcases h with ⟨_, rfl, _, _⟩ | ⟨x, _, hl, hc, _⟩
  · omega
  · unfold maxLen at hc; omega

end Go.Proofs.Ytdfmkikngifjmaa.Lib1
