/- Chapter 2: the program's PatternOf, over the library's Sort and Reverse taken by their contracts. -/
import Derived.Test.YteojdlacdnfgiaaShapeI
import Derived.Test.YteojdlacdnfgiaaSortI
import Derived.Test.YteojdlacdnfgiaaShelfG
namespace Go.Proofs.Yteojdlacdnfgiaa.Lib1
open Go.RowKit
set_option maxRecDepth 100000

/-! ### The library's two functions, over a slice of the call's own -/
theorem rev64 {w : World} {base : Nat} {v : Value} {ss : List Int} (h : OwnV w base v ss) (hn : ss.length ≤ 1048576) (hb : base ≤ w.heap.size) :
    Calls Try.prog 51 #[v] w fun e w' => e = .returned (.tuple #[]) ∧ OwnV w' base v ss.reverse ∧ Below base w w' := by
  rcases h.2 with ⟨rfl, h0⟩ | ⟨g, cap, cur, rfl, hg, hh, h1, h2, h3, ht⟩
  · have : ss = [] := List.eq_nil_of_length_eq_zero h0
    subst this
    have c := AnyG.slices_Reverse_int_empty Try.laysRev none 0 w
    exact c.mono fun e w' ⟨he, hw⟩ => ⟨he, OwnV.nil_ _ _, by rw [hw]; exact Below.refl _ _⟩
  · have hH := holds_of_blockI hh (by rw [Nat.mul_one] at ht; exact ht)
    have c := AnyG.slices_Reverse_int Try.laysRev g 0 cap ss w hH (by omega)
    refine c.mono fun e w' ⟨he, n, hw⟩ => ⟨he, ?_, ?_⟩
    · rw [hw, ← Sort.grow_empty (Sort.putRow (Value.int .i64) (Sort.ahead w n) g 0 ss.reverse.toArray)]
      have o := ownsRow_sortedI (n := n) (os := #[]) (ts := ss.reverse) (by simp) hg hh h1 h2 h3
      unfold OwnV
      rw [List.length_reverse]
      exact o
    · rw [hw, ← Sort.grow_empty (Sort.putRow (Value.int .i64) (Sort.ahead w n) g 0 ss.reverse.toArray)]
      exact (Below.refl base w).grown (grownBy_sortedI _) hb (by intro k hk; injection hk with hk; omega)

theorem shapeR (A : Option Addr) (n c : Nat) (zs : List Int) (lo hi : Nat) (w : World) (h : Rd w lo hi A n zs) :
    Calls Try.prog 12 #[.slice A n c] w (RetV w (shapeV zs)) := by
  cases hz : handB zs
  · rw [show shapeV zs = [] by simp [shapeV, hz]]
    go_enter Try.func12, Try.ntmps12
    go_wp2_with (go_at_call 47; refine (impl_IsHand A n c zs lo hi _ h).mono ?_; rintro e w' ⟨rfl, rfl⟩)
    go_ret
    exact ⟨_, rfl, OwnV.nil_ _ _, Below.refl _ _⟩
  · rw [show shapeV zs = shapeF zs by simp [shapeV, hz]]
    exact shapeO A n c zs lo hi w h hz
theorem pattern_sort (zs : List Int) : (sortI (shapeV zs)).reverse = patternV zs := by
  rw [down_merge]; unfold shapeV patternV; split <;> rfl
theorem impl_PatternOf : ImplS 13 patternV := by
  intro A n c zs lo hi w h _ _ _
  have hp := Lib.hid (pattern_sort zs)
  have l4 := shapeV_le zs
  have l5 : (sortI (shapeV zs)).length ≤ 4 := by rw [sortI_length]; exact l4
  go_enter Try.func13, Try.ntmps13
  go_wp2_with fail
  refine (shapeR A n c zs lo hi _ h).mono ?_
  rintro e w1 ⟨v, rfl, o1, b1⟩
  go_wp2_with fail
  refine (sort64 o1 (by omega) b1.size).mono ?_
  rintro e w2 ⟨rfl, o2, b2⟩
  have b12 := b1.trans b2
  go_wp2_with fail
  refine (rev64 o2 (by omega) b12.size).mono ?_
  rintro e w3 ⟨rfl, o3, b3⟩
  have b13 := b12.trans b3
  rw [hp.out] at o3
  go_wp2_with fail
  go_ret
  exact RetS.of_own o3 b13

end Go.Proofs.Yteojdlacdnfgiaa.Lib1
