/- The library's Sort over a slice of int64 of the call's own. -/
import Derived.Test.YteojdlacdnfgiaaTwo
import Derived.Test.YteojdlacdnfgiaaBase1
import Derived.Test.YteojdlacdnfgiaaShelfS
import Derived.Sort.OwnSortedInts
import Derived.Shelf.SortM.SortNone
namespace Go.Proofs.Yteojdlacdnfgiaa.Lib1
open Go.RowKit
set_option maxRecDepth 100000

theorem sort64 {w : World} {base : Nat} {v : Value} {ss : List Int} (h : OwnV w base v ss) (hn : ss.length ≤ 1048576) (hb : base ≤ w.heap.size) :
    Calls Try.prog 50 #[v] w fun e w' => e = .returned (.tuple #[]) ∧ OwnV w' base v (sortI ss) ∧ Below base w w' := by
  rcases h.2 with ⟨rfl, h0⟩ | ⟨g, cap, cur, rfl, hg, hh, h1, h2, h3, ht⟩
  · have : ss = [] := List.eq_nil_of_length_eq_zero h0
    subst this
    have c := AnyM.slices_Sort_int_none Try.laysSort none 0 w
    exact c.mono fun e w' ⟨he, hw⟩ => ⟨he, by rw [show sortI [] = [] by simp [sortI]]; exact OwnV.nil_ _ _, by rw [hw]; exact Below.refl _ _⟩
  · have hH := holds_of_blockI hh (by rw [Nat.mul_one] at ht; exact ht)
    have c := AnyM.slices_Sort_int Try.laysSort g 0 cap ss w hH (lt_of_block hh) (by omega)
    refine c.mono fun e w' ⟨he, n, os, hw⟩ => ⟨he, ?_, ?_⟩
    · rw [hw]
      have o := ownsRow_sortedI (n := n) (os := os) (ts := sortI ss) (sortI_length ss) hg hh h1 h2 h3
      unfold OwnV
      rw [sortI_length]
      exact o
    · rw [hw]
      exact (Below.refl base w).grown (grownBy_sortedI _) hb (by intro k hk; injection hk with hk; omega)

end Go.Proofs.Yteojdlacdnfgiaa.Lib1
