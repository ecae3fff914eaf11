/- Chapter 2: the program's PatternOf, over the library's Sort and Reverse taken by their contracts. -/
import Derived.Test.YtgoaikamolcffaaShapeI
import Derived.Test.YtgoaikamolcffaaShelfG
import Derived.Sort.OwnSortedInts
import Derived.Shelf.SortM.SortNone
namespace Go.Proofs.Ytgoaikamolcffaa.Lib1
open Go.RowKit
set_option maxRecDepth 100000

/-! ### A falling list is known by its numbers -/
def ind (a z : Int) : Int := if z = a then 1 else 0
theorem ind_out {a : Int} : ∀ l : List Int, a ∉ l → sumF (ind a) l = 0
  | [], _ => rfl
  | z :: l, h => by
    have h1 : z ≠ a := fun e => h (by simp [e])
    have ih := ind_out l (fun e => h (List.mem_cons_of_mem _ e))
    simp only [sumF, ih, ind, if_neg h1]; rfl
theorem ind_nonneg (a : Int) (z : Int) : 0 ≤ ind a z := by unfold ind; split <;> omega
theorem mem_of_same {a : Int} {l k : List Int} (h : sumF (ind a) l = sumF (ind a) k) (ha : a ∈ l) : a ∈ k := by
  by_cases hk : a ∈ k
  · exact hk
  · have h1 := sumF_mem (ind_nonneg a) l a ha
    rw [h, ind_out k hk] at h1
    simp [ind] at h1
theorem falling_eq : ∀ l k : List Int, l.Pairwise (· ≥ ·) → k.Pairwise (· ≥ ·) → (∀ f, sumF f l = sumF f k) → l = k
  | [], [], _, _, _ => rfl
  | [], b :: k, _, _, h => by have := mem_of_same (h (ind b)).symm (by simp); simp at this
  | a :: l, [], _, _, h => by have := mem_of_same (h (ind a)) (by simp); simp at this
  | a :: l, b :: k, hl, hk, h => by
    rw [List.pairwise_cons] at hl hk
    have h1 : a ≤ b := by
      rcases List.mem_cons.1 (mem_of_same (h (ind a)) (by simp)) with e | e
      · omega
      · exact hk.1 a e
    have h2 : b ≤ a := by
      rcases List.mem_cons.1 (mem_of_same (h (ind b)).symm (by simp)) with e | e
      · omega
      · exact hl.1 b e
    have e : a = b := by omega
    subst e
    rw [falling_eq l k hl.2 hk.2 (fun f => by have := h f; simp only [sumF] at this; omega)]
theorem sumF_perm (f : Int → Int) {l k : List Int} (h : l.Perm k) : sumF f l = sumF f k := by
  induction h with
  | nil => rfl
  | cons x _ ih => simp only [sumF, ih]
  | swap x y l => simp only [sumF]; omega
  | trans _ _ ih1 ih2 => rw [ih1, ih2]
theorem sumF_reverse (f : Int → Int) (l : List Int) : sumF f l.reverse = sumF f l := sumF_perm f (List.reverse_perm l)
def sortI (l : List Int) : List Int := l.mergeSort fun x y => decide (x ≤ y)
theorem down_merge (l : List Int) : (sortI l).reverse = downF l := by
  apply falling_eq
  · rw [List.pairwise_reverse]
    have h := List.pairwise_mergeSort (le := fun x y : Int => decide (x ≤ y)) (by intro a b c; simp; omega) (by intro a b; simp; omega) l
    exact h.imp (by intro a b hab; simpa using hab)
  · exact downF_down l
  · intro f
    rw [sumF_reverse, downF_sum]
    exact sumF_perm f (List.mergeSort_perm l _)
theorem sortI_length (l : List Int) : (sortI l).length = l.length := by simp [sortI]

/-! ### The library's two functions, over a slice of the call's own -/
theorem sort64 {w : World} {base : Nat} {v : Value} {ss : List Int} (h : OwnV w base v ss) (hn : ss.length ≤ 1048576) (hb : base ≤ w.heap.size) :
    Calls Try.prog 43 #[v] w fun e w' => e = .returned (.tuple #[]) ∧ OwnV w' base v (sortI ss) ∧ Below base w w' := by
  rcases h.2 with ⟨rfl, h0⟩ | ⟨g, cap, cur, rfl, hg, hh, h1, h2, h3, ht⟩
  · have : ss = [] := List.eq_nil_of_length_eq_zero h0
    subst this
    have c := AnyM.slices_Sort_int_none Try.laysSort none 0 w
    exact c.mono fun e w' ⟨he, hw⟩ => ⟨he, by rw [show sortI [] = [] by simp [sortI]]; exact OwnV.nil_ _ _, by rw [hw]; exact Below.refl _ _⟩
  · have hH := holds_of_blockI hh (by rw [Nat.mul_one] at ht; exact ht)
    have c := AnyM.slices_Sort_int Try.laysSort g 0 cap ss w hH (lt_of_block hh) (by omega)
    refine c.mono fun e w' ⟨he, n, os, hw⟩ => ⟨he, ?_, ?_⟩
    · rw [hw]
      have o := ownsRow_sortedI (n := n) (os := os) (ts := sortI ss) (sortI_length ss) hg hh h1 h2 h3
      unfold OwnV
      rw [sortI_length]
      exact o
    · rw [hw]
      exact (Below.refl base w).grown (grownBy_sortedI _) hb (by intro k hk; injection hk with hk; omega)
theorem rev64 {w : World} {base : Nat} {v : Value} {ss : List Int} (h : OwnV w base v ss) (hn : ss.length ≤ 1048576) (hb : base ≤ w.heap.size) :
    Calls Try.prog 44 #[v] w fun e w' => e = .returned (.tuple #[]) ∧ OwnV w' base v ss.reverse ∧ Below base w w' := by
  rcases h.2 with ⟨rfl, h0⟩ | ⟨g, cap, cur, rfl, hg, hh, h1, h2, h3, ht⟩
  · have : ss = [] := List.eq_nil_of_length_eq_zero h0
    subst this
    have c := AnyG.slices_Reverse_int_empty Try.laysRev none 0 w
    exact c.mono fun e w' ⟨he, hw⟩ => ⟨he, OwnV.nil_ _ _, by rw [hw]; exact Below.refl _ _⟩
  · have hH := holds_of_blockI hh (by rw [Nat.mul_one] at ht; exact ht)
    have c := AnyG.slices_Reverse_int Try.laysRev g 0 cap ss w hH (by omega)
    refine c.mono fun e w' ⟨he, n, hw⟩ => ⟨he, ?_, ?_⟩
    · rw [hw, ← Sort.grow_empty (Sort.putRow (Value.int .i64) (Sort.ahead w n) g 0 ss.reverse.toArray)]
      have o := ownsRow_sortedI (n := n) (os := #[]) (ts := ss.reverse) (by simp) hg hh h1 h2 h3
      unfold OwnV
      rw [List.length_reverse]
      exact o
    · rw [hw, ← Sort.grow_empty (Sort.putRow (Value.int .i64) (Sort.ahead w n) g 0 ss.reverse.toArray)]
      exact (Below.refl base w).grown (grownBy_sortedI _) hb (by intro k hk; injection hk with hk; omega)

theorem shapeR (A : Option Addr) (n c : Nat) (zs : List Int) (lo hi : Nat) (w : World) (h : Rd w lo hi A n zs) :
    Calls Try.prog 15 #[.slice A n c] w (RetV w (shapeV zs)) := by
  cases hz : handB zs
  · rw [show shapeV zs = [] by simp [shapeV, hz]]
    go_enter Try.func15, Try.ntmps15
    go_wp2_with (go_at_call 40; refine (impl_IsHand A n c zs lo hi _ h).mono ?_; rintro e w' ⟨rfl, rfl⟩)
    go_ret
    exact ⟨_, rfl, OwnV.nil_ _ _, Below.refl _ _⟩
  · rw [show shapeV zs = shapeF zs by simp [shapeV, hz]]
    exact shapeO A n c zs lo hi w h hz
theorem pattern_sort (zs : List Int) : (sortI (shapeV zs)).reverse = patternV zs := by
  rw [down_merge]; unfold shapeV patternV; split <;> rfl
theorem impl_PatternOf : ImplS 16 patternV := by
  intro A n c zs lo hi w h _ _ _
  have hp := Lib.hid (pattern_sort zs)
  have l4 := shapeV_le zs
  have l5 : (sortI (shapeV zs)).length ≤ 4 := by rw [sortI_length]; exact l4
  go_enter Try.func16, Try.ntmps16
  go_wp2_with fail
  refine (shapeR A n c zs lo hi _ h).mono ?_
  rintro e w1 ⟨v, rfl, o1, b1⟩
  go_wp2_with fail
  refine (sort64 o1 (by omega) b1.size).mono ?_
  rintro e w2 ⟨rfl, o2, b2⟩
  have b12 := b1.trans b2
  go_wp2_with fail
  refine (rev64 o2 (by omega) b12.size).mono ?_
  rintro e w3 ⟨rfl, o3, b3⟩
  have b13 := b12.trans b3
  rw [hp.out] at o3
  go_wp2_with fail
  go_ret
  exact RetS.of_own o3 b13

end Go.Proofs.Ytgoaikamolcffaa.Lib1
