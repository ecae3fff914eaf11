/- The exact laws of chapter 4 of the functions over card lists, hands and numbers. (Written by wip/gen4.py.) -/
import Derived.Test.YtfhfgdgpilpdkaaSubI4
namespace Go.Proofs.Ytfhfgdgpilpdkaa.Lib1
open Go.RowKit
set_option maxRecDepth 100000

set_option maxHeartbeats 400000 in
theorem markBig (A : Option Addr) (n c s : Nat) (zs : List Int) (lo hi : Nat) (w : World) (h : Own w lo hi A n zs) (hn : n ≤ 1048576) (hs : s ≤ 8388608) :
    Calls Try.prog 52 #[.slice A n c, .int .i64 (s : Int)] w fun e w' => e = .returned (.int .i64 ((s + n : Nat) : Int)) ∧ Own w' lo hi A n (marks s n) ∧ Chg w w' lo hi ∧ w.heap.size = w'.heap.size := by
  have hl := h.1
  go_enter Try.func52, Try.ntmps52
  go_wp2
  go_loopw [1, 5] (fun m i wr => ∃ k : Nat, k ≤ n ∧ i = .int .i64 k ∧ m = .int .i64 ((s + k : Nat) : Int) ∧ Own wr lo hi A n (marked s k zs) ∧ Chg w wr lo hi ∧ Hid (w.heap.size = wr.heap.size)) (fun _ i _ => n - (intOf i).toNat)
  case atStart => exact ⟨0, Nat.zero_le _, rfl, rfl, by simpa [marked, marks] using h, Chg.refl _ _ _, rfl⟩
  case round =>
    obtain ⟨k, hk, rfl, rfl, ho, hch, hsz⟩ := hrel
    by_cases hlt : k < n
    · obtain ⟨b, cs, rfl, h1, h2, hb, hc⟩ := ho.2 (by omega)
      have hcell : wr.cell? ⟨b, k, none⟩ = some (.int .i64 ((marked s k zs).getD k 0)) := by rw [cell_of_row wr b k cs _ _ hb]; exact hc k hlt
      have hfr : wr.frozen? ⟨b, k, none⟩ = false := by simp [World.frozen?, hb]
      generalize (marked s k zs).getD k 0 = z at hcell
      have hkl : (k : Int) < (n : Int) := by omega
      have ho' := ho.store (zs' := marked s (k + 1) zs) (z := ((s + k : Nat) : Int)) hlt (by rw [marked_length _ _ _ (by omega)]; exact hl) (fun j hj => by
        rw [marked_getD, marked_getD]
        by_cases e : j = k
        · subst e; simp
        · rw [if_neg e]; by_cases e2 : j < k
          · rw [if_pos e2, if_pos (by omega)]
          · rw [if_neg e2, if_neg (by omega)])
      have hch' := hch.store (k := k) h1 h2 (.int .i64 ((s + k : Nat) : Int))
      have hsz' : Hid (w.heap.size = (wr.setCell ⟨b, k, none⟩ (.int .i64 ((s + k : Nat) : Int))).heap.size) := by
        show _ = _; rw [hsz.out]; simp [World.setCell]
      clear hc hb ho hch hsz
      go_wp2
      go_roundw
      case rel => exact ⟨k + 1, by omega, by go_num, by go_num, ho', hch', hsz'⟩
      case measure => simp [intOf]; omega
    · obtain rfl : k = n := by omega
      have hf : Own wr lo hi A k (marks s k) := by
        have e := marked_all s zs
        rw [hl] at e
        rw [← e]; exact ho
      clear ho
      go_wp2
      go_ret
      exact ⟨rfl, hf, hch, hsz⟩

theorem markK (A : Option Addr) (n c : Nat) (k : Int) (zs : List Int) (lo hi : Nat) (w : World) (h : Own w lo hi A n zs) (hn : n ≤ 1048576) (h0 : 0 ≤ k) (h1 : k ≤ 8388608) :
    Calls Try.prog 52 #[.slice A n c, .int .i64 k] w fun e w' => e = .returned (.int .i64 (k + (n : Int))) ∧ Own w' lo hi A n (marks k.toNat n) ∧ Chg w w' lo hi ∧ w.heap.size = w'.heap.size := by
  obtain ⟨s, rfl⟩ := Int.eq_ofNat_of_zero_le h0
  exact (markBig A n c s zs lo hi w h hn (by omega)).mono fun _ _ ⟨he, hr⟩ => ⟨by rw [he]; simp, by simpa using hr⟩

set_option maxHeartbeats 4000000 in
theorem law_HandNumber (A0 : Option Addr) (n0 c0 : Nat) (zs0 : List Int) (w : World) (h0 : Rd w 0 w.heap.size A0 n0 zs0) :
    Calls Try.prog 12 #[.slice A0 n0 c0] w fun e w' => e = .returned (.bool true) ∧ Below w.heap.size w w' := by
  by_cases hn0 : 1048576 < n0
  · have hb0 : (1048576 : Int) < (n0 : Int) := by omega
    go_enter Try.func12, Try.ntmps12
    go_wp2
    go_ret
    exact ⟨rfl, Below.refl _ _⟩
  have hb0 : ¬ (1048576 : Int) < (n0 : Int) := by omega
  have hm0 : n0 ≤ 1048576 := by omega
  clear hn0
  have bl := Below.refl w.heap.size w
  go_enter Try.func12, Try.ntmps12
  go_wp2_with fail
  refine (toInt64S A0 n0 c0 zs0 _ _ _ h0 hm0).mono ?_
  rintro e w1 ⟨rfl, o1, c1⟩
  have h0_1 := h0.still c1
  have b1 := Chg.above bl c1 (by omega) (by omega)
  have t1 : w.heap.size ≤ w1.heap.size := c1.size
  clear h0 c1
  go_wp2_with fail
  refine (spec_HandNumber _ n0 n0 zs0 _ _ _ o1.rd hm0).mono ?_
  rintro e w2 ⟨rfl, c2⟩
  have h0_2 := h0_1.still c2
  have b2 := Chg.above b1 c2 (by omega) (by omega)
  have t2 : w1.heap.size ≤ w2.heap.size := c2.size
  clear h0_1 o1 b1 c2
  go_wp2_with fail
  refine (toInt64S A0 n0 c0 zs0 _ _ _ h0_2 hm0).mono ?_
  rintro e w3 ⟨rfl, o3, c3⟩
  have h0_3 := h0_2.still c3
  have b3 := Chg.above b2 c3 (by omega) (by omega)
  have t3 : w2.heap.size ≤ w3.heap.size := c3.size
  clear h0_2 b2 c3
  go_wp2_with fail
  refine (impl_HandNumber _ n0 n0 zs0 _ _ _ o3.rd (Nat.le_refl _) (Plain.at_ _ _ _).nil).mono ?_
  rintro e w4 ⟨rfl, c4⟩
  have h0_4 := h0_3.still c4
  have x0_4 := o3.still c4
  have b4 := Chg.above b3 c4 (by omega) (by omega)
  have t4 : w3.heap.size ≤ w4.heap.size := c4.size
  clear h0_3 o3 b3 c4
  go_wp2_with fail
  refine (toInt64S A0 n0 c0 zs0 _ _ _ h0_4 hm0).mono ?_
  rintro e w5 ⟨rfl, o5, c5⟩
  have h0_5 := h0_4.still c5
  have x0_5 := x0_4.still c5
  have b5 := Chg.above b4 c5 (by omega) (by omega)
  have t5 : w4.heap.size ≤ w5.heap.size := c5.size
  clear h0_4 x0_4 b4 c5
  go_wp2_with fail
  refine (eqInt64S _ _ n0 n0 n0 n0 zs0 _ _ _ _ _ x0_5.rd o5.rd hm0).mono ?_
  rintro e w6 ⟨rfl, c6⟩
  have h0_6 := h0_5.still c6
  have x0_6 := x0_5.still c6
  have b6 := Chg.above b5 c6 (by omega) (by omega)
  have t6 : w5.heap.size ≤ w6.heap.size := c6.size
  clear h0_5 x0_5 b5 c6
  go_wp2_with fail
  go_ret
  exact ⟨rfl, b6⟩

set_option maxHeartbeats 4000000 in
theorem law_RankSubset (A0 : Option Addr) (n0 c0 : Nat) (zs0 : List Int) (A1 : Option Addr) (n1 c1 : Nat) (zs1 : List Int) (w : World) (h0 : Rd w 0 w.heap.size A0 n0 zs0) (h1 : Rd w 0 w.heap.size A1 n1 zs1) :
    Calls Try.prog 9 #[.slice A0 n0 c0, .slice A1 n1 c1] w fun e w' => e = .returned (.bool true) ∧ Below w.heap.size w w' := by
  by_cases hn0 : 1048576 < n0
  · have hb0 : (1048576 : Int) < (n0 : Int) := by omega
    go_enter Try.func9, Try.ntmps9
    go_wp2
    go_ret
    exact ⟨rfl, Below.refl _ _⟩
  have hb0 : ¬ (1048576 : Int) < (n0 : Int) := by omega
  have hm0 : n0 ≤ 1048576 := by omega
  by_cases hn1 : 1048576 < n1
  · have hb1 : (1048576 : Int) < (n1 : Int) := by omega
    go_enter Try.func9, Try.ntmps9
    go_wp2
    go_ret
    exact ⟨rfl, Below.refl _ _⟩
  have hb1 : ¬ (1048576 : Int) < (n1 : Int) := by omega
  have hm1 : n1 ≤ 1048576 := by omega
  clear hn0 hn1
  have bl := Below.refl w.heap.size w
  go_enter Try.func9, Try.ntmps9
  go_wp2_with fail
  refine (toInt64S A0 n0 c0 zs0 _ _ _ h0 hm0).mono ?_
  rintro e w1 ⟨rfl, o1, c1⟩
  have h0_1 := h0.still c1
  have h1_1 := h1.still c1
  have b1 := Chg.above bl c1 (by omega) (by omega)
  have t1 : w.heap.size ≤ w1.heap.size := c1.size
  clear h0 h1 c1
  go_wp2_with fail
  refine (toInt64S A1 n1 c1 zs1 _ _ _ h1_1 hm1).mono ?_
  rintro e w2 ⟨rfl, o2, c2⟩
  have h0_2 := h0_1.still c2
  have h1_2 := h1_1.still c2
  have s0_2 := o1.still c2
  have b2 := Chg.above b1 c2 (by omega) (by omega)
  have t2 : w1.heap.size ≤ w2.heap.size := c2.size
  clear h0_1 h1_1 o1 b1 c2
  go_wp2_with fail
  refine (spec_RankSubset _ _ n0 n0 n1 n1 zs0 zs1 _ _ _ _ _ s0_2.rd o2.rd hm0 hm1).mono ?_
  rintro e w3 ⟨rfl, c3⟩
  have h0_3 := h0_2.still c3
  have h1_3 := h1_2.still c3
  have b3 := Chg.above b2 c3 (by omega) (by omega)
  have t3 : w2.heap.size ≤ w3.heap.size := c3.size
  clear h0_2 h1_2 s0_2 o2 b2 c3
  go_wp2_with fail
  refine (toInt64S A0 n0 c0 zs0 _ _ _ h0_3 hm0).mono ?_
  rintro e w4 ⟨rfl, o4, c4⟩
  have h0_4 := h0_3.still c4
  have h1_4 := h1_3.still c4
  have b4 := Chg.above b3 c4 (by omega) (by omega)
  have t4 : w3.heap.size ≤ w4.heap.size := c4.size
  clear h0_3 h1_3 b3 c4
  go_wp2_with fail
  refine (toInt64S A1 n1 c1 zs1 _ _ _ h1_4 hm1).mono ?_
  rintro e w5 ⟨rfl, o5, c5⟩
  have h0_5 := h0_4.still c5
  have h1_5 := h1_4.still c5
  have x0_5 := o4.still c5
  have b5 := Chg.above b4 c5 (by omega) (by omega)
  have t5 : w4.heap.size ≤ w5.heap.size := c5.size
  clear h0_4 h1_4 o4 b4 c5
  go_wp2_with fail
  refine (impl_RankSubset _ _ n0 n0 n1 n1 zs0 zs1 _ _ _ _ _ x0_5.rd o5.rd hm0 hm1 (Plain.at_ _ _ _).nil (Nat.le_refl _) (Plain.at_ _ _ _).nil).mono ?_
  rintro e w6 ⟨rfl, c6⟩
  have h0_6 := h0_5.still c6
  have h1_6 := h1_5.still c6
  have x0_6 := x0_5.still c6
  have x1_6 := o5.still c6
  have b6 := Chg.above b5 c6 (by omega) (by omega)
  have t6 : w5.heap.size ≤ w6.heap.size := c6.size
  clear h0_5 h1_5 x0_5 o5 b5 c6
  go_wp2_with fail
  refine (toInt64S A0 n0 c0 zs0 _ _ _ h0_6 hm0).mono ?_
  rintro e w7 ⟨rfl, o7, c7⟩
  have h0_7 := h0_6.still c7
  have h1_7 := h1_6.still c7
  have x0_7 := x0_6.still c7
  have x1_7 := x1_6.still c7
  have b7 := Chg.above b6 c7 (by omega) (by omega)
  have t7 : w6.heap.size ≤ w7.heap.size := c7.size
  clear h0_6 h1_6 x0_6 x1_6 b6 c7
  go_wp2_with fail
  refine (eqInt64S _ _ n0 n0 n0 n0 zs0 _ _ _ _ _ x0_7.rd o7.rd hm0).mono ?_
  rintro e w8 ⟨rfl, c8⟩
  have h0_8 := h0_7.still c8
  have h1_8 := h1_7.still c8
  have x0_8 := x0_7.still c8
  have x1_8 := x1_7.still c8
  have b8 := Chg.above b7 c8 (by omega) (by omega)
  have t8 : w7.heap.size ≤ w8.heap.size := c8.size
  clear h0_7 h1_7 x0_7 x1_7 b7 c8
  go_wp2_with fail
  refine (toInt64S A1 n1 c1 zs1 _ _ _ h1_8 hm1).mono ?_
  rintro e w9 ⟨rfl, o9, c9⟩
  have h0_9 := h0_8.still c9
  have h1_9 := h1_8.still c9
  have x0_9 := x0_8.still c9
  have x1_9 := x1_8.still c9
  have b9 := Chg.above b8 c9 (by omega) (by omega)
  have t9 : w8.heap.size ≤ w9.heap.size := c9.size
  clear h0_8 h1_8 x0_8 x1_8 b8 c9
  go_wp2_with fail
  refine (eqInt64S _ _ n1 n1 n1 n1 zs1 _ _ _ _ _ x1_9.rd o9.rd hm1).mono ?_
  rintro e w10 ⟨rfl, c10⟩
  have h0_10 := h0_9.still c10
  have h1_10 := h1_9.still c10
  have x0_10 := x0_9.still c10
  have x1_10 := x1_9.still c10
  have b10 := Chg.above b9 c10 (by omega) (by omega)
  have t10 : w9.heap.size ≤ w10.heap.size := c10.size
  clear h0_9 h1_9 x0_9 x1_9 b9 c10
  go_wp2_with fail
  go_ret
  exact ⟨rfl, b10⟩

set_option maxHeartbeats 4000000 in
theorem law_UnrankSubset (A0 : Option Addr) (n0 c0 : Nat) (zs0 : List Int) (a1 : Int) (a2 : Int) (w : World) (h0 : Rd w 0 w.heap.size A0 n0 zs0) :
    Calls Try.prog 10 #[.slice A0 n0 c0, .int .i64 a1, .int .i64 a2] w fun e w' => e = .returned (.bool true) ∧ Below w.heap.size w w' := by
  by_cases hn0 : 1048576 < n0
  · have hb0 : (1048576 : Int) < (n0 : Int) := by omega
    go_enter Try.func10, Try.ntmps10
    go_wp2
    go_ret
    exact ⟨rfl, Below.refl _ _⟩
  have hb0 : ¬ (1048576 : Int) < (n0 : Int) := by omega
  have hm0 : n0 ≤ 1048576 := by omega
  clear hn0
  have bl := Below.refl w.heap.size w
  have hmv : (unrV zs0 a1 a2).length ≤ 1048576 := by have := unrV_len zs0 a1 a2; have := h0.1; omega
  go_enter Try.func10, Try.ntmps10
  go_wp2_with fail
  refine (toInt64S A0 n0 c0 zs0 _ _ _ h0 hm0).mono ?_
  rintro e w1 ⟨rfl, o1, c1⟩
  have h0_1 := h0.still c1
  have b1 := Chg.above bl c1 (by omega) (by omega)
  have t1 : w.heap.size ≤ w1.heap.size := c1.size
  clear h0 c1
  go_wp2_with fail
  refine (spec_UnrankSubset _ n0 n0 a1 a2 zs0 _ _ _ o1.rd hm0).mono ?_
  rintro e w2 ⟨W2, d2, rfl, _, _, q2, c2⟩
  have h0_2 := h0_1.still c2
  have b2 := Chg.above b1 c2 (by omega) (by omega)
  have t2 : w1.heap.size ≤ w2.heap.size := c2.size
  clear h0_1 o1 b1 c2
  go_wp2_with fail
  refine (toInt64S A0 n0 c0 zs0 _ _ _ h0_2 hm0).mono ?_
  rintro e w3 ⟨rfl, o3, c3⟩
  have h0_3 := h0_2.still c3
  have W_3 := q2.still c3
  have b3 := Chg.above b2 c3 (by omega) (by omega)
  have t3 : w2.heap.size ≤ w3.heap.size := c3.size
  clear h0_2 q2 b2 c3
  go_wp2_with fail
  refine (impl_UnrankSubset _ n0 n0 a1 a2 zs0 _ _ _ o3.rd hm0).mono ?_
  rintro e w4 ⟨W4, d4, rfl, _, _, q4, c4⟩
  have h0_4 := h0_3.still c4
  have W_4 := W_3.still c4
  have x0_4 := o3.still c4
  have b4 := Chg.above b3 c4 (by omega) (by omega)
  have t4 : w3.heap.size ≤ w4.heap.size := c4.size
  clear h0_3 W_3 o3 b3 c4
  go_wp2_with fail
  refine (eqInt64S _ _ _ _ _ _ (unrV zs0 a1 a2) _ _ _ _ _ q4.rd W_4.rd hmv).mono ?_
  rintro e w5 ⟨rfl, c5⟩
  have h0_5 := h0_4.still c5
  have W_5 := W_4.still c5
  have x0_5 := x0_4.still c5
  have G_5 := q4.still c5
  have b5 := Chg.above b4 c5 (by omega) (by omega)
  have t5 : w4.heap.size ≤ w5.heap.size := c5.size
  clear h0_4 W_4 x0_4 q4 b4 c5
  go_wp2_with fail
  refine (toInt64S A0 n0 c0 zs0 _ _ _ h0_5 hm0).mono ?_
  rintro e w6 ⟨rfl, o6, c6⟩
  have h0_6 := h0_5.still c6
  have W_6 := W_5.still c6
  have x0_6 := x0_5.still c6
  have G_6 := G_5.still c6
  have b6 := Chg.above b5 c6 (by omega) (by omega)
  have t6 : w5.heap.size ≤ w6.heap.size := c6.size
  clear h0_5 W_5 x0_5 G_5 b5 c6
  go_wp2_with fail
  refine (eqInt64S _ _ n0 n0 n0 n0 zs0 _ _ _ _ _ x0_6.rd o6.rd hm0).mono ?_
  rintro e w7 ⟨rfl, c7⟩
  have h0_7 := h0_6.still c7
  have W_7 := W_6.still c7
  have x0_7 := x0_6.still c7
  have G_7 := G_6.still c7
  have b7 := Chg.above b6 c7 (by omega) (by omega)
  have t7 : w6.heap.size ≤ w7.heap.size := c7.size
  clear h0_6 W_6 x0_6 G_6 b6 c7
  go_wp2_with fail
  refine (mark1 _ n0 n0 zs0 _ _ _ x0_7 hm0).mono ?_
  rintro e w8 ⟨rfl, _, c8, z8⟩
  have h0_8 := h0_7.chg c8 (by omega)
  have W_8 := W_7.chg c8 (by omega)
  have G_8 := G_7.chg c8 (by omega)
  have b8 := Chg.above b7 c8 (by omega) (by omega)
  have t8 : w7.heap.size ≤ w8.heap.size := c8.size
  clear h0_7 W_7 x0_7 G_7 b7 c8
  clear z8
  go_wp2_with fail
  refine (eqInt64S _ _ _ _ _ _ (unrV zs0 a1 a2) _ _ _ _ _ G_8.rd W_8.rd hmv).mono ?_
  rintro e w9 ⟨rfl, c9⟩
  have h0_9 := h0_8.still c9
  have W_9 := W_8.still c9
  have G_9 := G_8.still c9
  have b9 := Chg.above b8 c9 (by omega) (by omega)
  have t9 : w8.heap.size ≤ w9.heap.size := c9.size
  clear h0_8 W_8 G_8 b8 c9
  go_wp2_with fail
  refine (mark1 _ _ _ (unrV zs0 a1 a2) _ _ _ G_9 hmv).mono ?_
  rintro e w10 ⟨rfl, m10, c10, z10⟩
  have h0_10 := h0_9.chg c10 (by omega)
  have W_10 := W_9.chg c10 (by omega)
  have b10 := Chg.above b9 c10 (by omega) (by omega)
  have t10 : w9.heap.size ≤ w10.heap.size := c10.size
  clear h0_9 W_9 G_9 b9 c10
  clear z10
  go_wp2_with fail
  refine (held1 _ _ _ _ _ _ m10.rd hmv).mono ?_
  rintro e w' ⟨rfl, rfl⟩
  go_wp2_with fail
  refine (toInt64S A0 n0 c0 zs0 _ _ _ h0_10 hm0).mono ?_
  rintro e w11 ⟨rfl, o11, c11⟩
  have h0_11 := h0_10.still c11
  have W_11 := W_10.still c11
  have M_11 := m10.still c11
  have b11 := Chg.above b10 c11 (by omega) (by omega)
  have t11 : w10.heap.size ≤ w11.heap.size := c11.size
  clear h0_10 W_10 m10 b10 c11
  go_wp2_with fail
  refine (impl_UnrankSubset _ n0 n0 a1 a2 zs0 _ _ _ o11.rd hm0).mono ?_
  rintro e w12 ⟨W12, d12, rfl, _, _, q12, c12⟩
  have h0_12 := h0_11.still c12
  have W_12 := W_11.still c12
  have M_12 := M_11.still c12
  have y0_12 := o11.still c12
  have b12 := Chg.above b11 c12 (by omega) (by omega)
  have t12 : w11.heap.size ≤ w12.heap.size := c12.size
  clear h0_11 W_11 M_11 o11 b11 c12
  go_wp2_with fail
  refine (eqInt64S _ _ _ _ _ _ (unrV zs0 a1 a2) _ _ _ _ _ q12.rd W_12.rd hmv).mono ?_
  rintro e w13 ⟨rfl, c13⟩
  have h0_13 := h0_12.still c13
  have W_13 := W_12.still c13
  have M_13 := M_12.still c13
  have y0_13 := y0_12.still c13
  have K_13 := q12.still c13
  have b13 := Chg.above b12 c13 (by omega) (by omega)
  have t13 : w12.heap.size ≤ w13.heap.size := c13.size
  clear h0_12 W_12 M_12 y0_12 q12 b12 c13
  go_wp2_with fail
  refine (held1 _ _ _ _ _ _ M_13.rd hmv).mono ?_
  rintro e w' ⟨rfl, rfl⟩
  go_wp2_with fail
  go_ret
  exact ⟨rfl, b13⟩

set_option maxHeartbeats 4000000 in
theorem law_NextSubset (A0 : Option Addr) (n0 c0 : Nat) (zs0 : List Int) (A1 : Option Addr) (n1 c1 : Nat) (zs1 : List Int) (w : World) (h0 : Rd w 0 w.heap.size A0 n0 zs0) (h1 : Rd w 0 w.heap.size A1 n1 zs1) :
    Calls Try.prog 11 #[.slice A0 n0 c0, .slice A1 n1 c1] w fun e w' => e = .returned (.bool true) ∧ Below w.heap.size w w' := by
  by_cases hn0 : 1048576 < n0
  · have hb0 : (1048576 : Int) < (n0 : Int) := by omega
    go_enter Try.func11, Try.ntmps11
    go_wp2
    go_ret
    exact ⟨rfl, Below.refl _ _⟩
  have hb0 : ¬ (1048576 : Int) < (n0 : Int) := by omega
  have hm0 : n0 ≤ 1048576 := by omega
  by_cases hn1 : 1048576 < n1
  · have hb1 : (1048576 : Int) < (n1 : Int) := by omega
    go_enter Try.func11, Try.ntmps11
    go_wp2
    go_ret
    exact ⟨rfl, Below.refl _ _⟩
  have hb1 : ¬ (1048576 : Int) < (n1 : Int) := by omega
  have hm1 : n1 ≤ 1048576 := by omega
  clear hn0 hn1
  have bl := Below.refl w.heap.size w
  have hmv : (nextV zs0 zs1).length ≤ 1048576 := by
    have := h0.1
    unfold nextV
    split
    · have := unrV_len zs0 zs1.length (rnkV zs0 zs1 + 1); omega
    · simp
  go_enter Try.func11, Try.ntmps11
  go_wp2_with fail
  refine (toInt64S A0 n0 c0 zs0 _ _ _ h0 hm0).mono ?_
  rintro e w1 ⟨rfl, o1, c1⟩
  have h0_1 := h0.still c1
  have h1_1 := h1.still c1
  have b1 := Chg.above bl c1 (by omega) (by omega)
  have t1 : w.heap.size ≤ w1.heap.size := c1.size
  clear h0 h1 c1
  go_wp2_with fail
  refine (toInt64S A1 n1 c1 zs1 _ _ _ h1_1 hm1).mono ?_
  rintro e w2 ⟨rfl, o2, c2⟩
  have h0_2 := h0_1.still c2
  have h1_2 := h1_1.still c2
  have s0_2 := o1.still c2
  have b2 := Chg.above b1 c2 (by omega) (by omega)
  have t2 : w1.heap.size ≤ w2.heap.size := c2.size
  clear h0_1 h1_1 o1 b1 c2
  go_wp2_with fail
  refine (spec_NextSubset _ _ n0 n0 n1 n1 zs0 zs1 _ _ _ _ _ s0_2.rd o2.rd hm0 hm1).mono ?_
  rintro e w3 ⟨W3, d3, rfl, _, _, q3, c3⟩
  have h0_3 := h0_2.still c3
  have h1_3 := h1_2.still c3
  have b3 := Chg.above b2 c3 (by omega) (by omega)
  have t3 : w2.heap.size ≤ w3.heap.size := c3.size
  clear h0_2 h1_2 s0_2 o2 b2 c3
  go_wp2_with fail
  refine (toInt64S A0 n0 c0 zs0 _ _ _ h0_3 hm0).mono ?_
  rintro e w4 ⟨rfl, o4, c4⟩
  have h0_4 := h0_3.still c4
  have h1_4 := h1_3.still c4
  have W_4 := q3.still c4
  have b4 := Chg.above b3 c4 (by omega) (by omega)
  have t4 : w3.heap.size ≤ w4.heap.size := c4.size
  clear h0_3 h1_3 q3 b3 c4
  go_wp2_with fail
  refine (toInt64S A1 n1 c1 zs1 _ _ _ h1_4 hm1).mono ?_
  rintro e w5 ⟨rfl, o5, c5⟩
  have h0_5 := h0_4.still c5
  have h1_5 := h1_4.still c5
  have W_5 := W_4.still c5
  have x0_5 := o4.still c5
  have b5 := Chg.above b4 c5 (by omega) (by omega)
  have t5 : w4.heap.size ≤ w5.heap.size := c5.size
  clear h0_4 h1_4 W_4 o4 b4 c5
  go_wp2_with fail
  refine (impl_NextSubset _ _ n0 n0 n1 n1 zs0 zs1 _ _ _ _ _ x0_5.rd o5.rd hm0 hm1 (Plain.at_ _ _ _).nil (Nat.le_refl _) (Plain.at_ _ _ _).nil).mono ?_
  rintro e w6 ⟨W6, d6, rfl, _, _, q6, c6⟩
  have h0_6 := h0_5.still c6
  have h1_6 := h1_5.still c6
  have W_6 := W_5.still c6
  have x0_6 := x0_5.still c6
  have x1_6 := o5.still c6
  have b6 := Chg.above b5 c6 (by omega) (by omega)
  have t6 : w5.heap.size ≤ w6.heap.size := c6.size
  clear h0_5 h1_5 W_5 x0_5 o5 b5 c6
  go_wp2_with fail
  refine (eqInt64S _ _ _ _ _ _ (nextV zs0 zs1) _ _ _ _ _ q6.rd W_6.rd hmv).mono ?_
  rintro e w7 ⟨rfl, c7⟩
  have h0_7 := h0_6.still c7
  have h1_7 := h1_6.still c7
  have W_7 := W_6.still c7
  have x0_7 := x0_6.still c7
  have x1_7 := x1_6.still c7
  have G_7 := q6.still c7
  have b7 := Chg.above b6 c7 (by omega) (by omega)
  have t7 : w6.heap.size ≤ w7.heap.size := c7.size
  clear h0_6 h1_6 W_6 x0_6 x1_6 q6 b6 c7
  go_wp2_with fail
  refine (toInt64S A0 n0 c0 zs0 _ _ _ h0_7 hm0).mono ?_
  rintro e w8 ⟨rfl, o8, c8⟩
  have h0_8 := h0_7.still c8
  have h1_8 := h1_7.still c8
  have W_8 := W_7.still c8
  have x0_8 := x0_7.still c8
  have x1_8 := x1_7.still c8
  have G_8 := G_7.still c8
  have b8 := Chg.above b7 c8 (by omega) (by omega)
  have t8 : w7.heap.size ≤ w8.heap.size := c8.size
  clear h0_7 h1_7 W_7 x0_7 x1_7 G_7 b7 c8
  go_wp2_with fail
  refine (eqInt64S _ _ n0 n0 n0 n0 zs0 _ _ _ _ _ x0_8.rd o8.rd hm0).mono ?_
  rintro e w9 ⟨rfl, c9⟩
  have h0_9 := h0_8.still c9
  have h1_9 := h1_8.still c9
  have W_9 := W_8.still c9
  have x0_9 := x0_8.still c9
  have x1_9 := x1_8.still c9
  have G_9 := G_8.still c9
  have b9 := Chg.above b8 c9 (by omega) (by omega)
  have t9 : w8.heap.size ≤ w9.heap.size := c9.size
  clear h0_8 h1_8 W_8 x0_8 x1_8 G_8 b8 c9
  go_wp2_with fail
  refine (toInt64S A1 n1 c1 zs1 _ _ _ h1_9 hm1).mono ?_
  rintro e w10 ⟨rfl, o10, c10⟩
  have h0_10 := h0_9.still c10
  have h1_10 := h1_9.still c10
  have W_10 := W_9.still c10
  have x0_10 := x0_9.still c10
  have x1_10 := x1_9.still c10
  have G_10 := G_9.still c10
  have b10 := Chg.above b9 c10 (by omega) (by omega)
  have t10 : w9.heap.size ≤ w10.heap.size := c10.size
  clear h0_9 h1_9 W_9 x0_9 x1_9 G_9 b9 c10
  go_wp2_with fail
  refine (eqInt64S _ _ n1 n1 n1 n1 zs1 _ _ _ _ _ x1_10.rd o10.rd hm1).mono ?_
  rintro e w11 ⟨rfl, c11⟩
  have h0_11 := h0_10.still c11
  have h1_11 := h1_10.still c11
  have W_11 := W_10.still c11
  have x0_11 := x0_10.still c11
  have x1_11 := x1_10.still c11
  have G_11 := G_10.still c11
  have b11 := Chg.above b10 c11 (by omega) (by omega)
  have t11 : w10.heap.size ≤ w11.heap.size := c11.size
  clear h0_10 h1_10 W_10 x0_10 x1_10 G_10 b10 c11
  go_wp2_with fail
  refine (mark1 _ n0 n0 zs0 _ _ _ x0_11 hm0).mono ?_
  rintro e w12 ⟨rfl, _, c12, z12⟩
  have h0_12 := h0_11.chg c12 (by omega)
  have h1_12 := h1_11.chg c12 (by omega)
  have W_12 := W_11.chg c12 (by omega)
  have x1_12 := x1_11.chg c12 (by omega)
  have G_12 := G_11.chg c12 (by omega)
  have b12 := Chg.above b11 c12 (by omega) (by omega)
  have t12 : w11.heap.size ≤ w12.heap.size := c12.size
  clear h0_11 h1_11 W_11 x0_11 x1_11 G_11 b11 c12
  clear z12
  go_wp2_with fail
  refine (markK _ n1 n1 _ zs1 _ _ _ x1_12 hm1 (by omega) (by omega)).mono ?_
  rintro e w13 ⟨rfl, _, c13, z13⟩
  have h0_13 := h0_12.chg c13 (by omega)
  have h1_13 := h1_12.chg c13 (by omega)
  have W_13 := W_12.chg c13 (by omega)
  have G_13 := G_12.chg c13 (by omega)
  have b13 := Chg.above b12 c13 (by omega) (by omega)
  have t13 : w12.heap.size ≤ w13.heap.size := c13.size
  clear h0_12 h1_12 W_12 x1_12 G_12 b12 c13
  clear z13
  go_wp2_with fail
  refine (eqInt64S _ _ _ _ _ _ (nextV zs0 zs1) _ _ _ _ _ G_13.rd W_13.rd hmv).mono ?_
  rintro e w14 ⟨rfl, c14⟩
  have h0_14 := h0_13.still c14
  have h1_14 := h1_13.still c14
  have W_14 := W_13.still c14
  have G_14 := G_13.still c14
  have b14 := Chg.above b13 c14 (by omega) (by omega)
  have t14 : w13.heap.size ≤ w14.heap.size := c14.size
  clear h0_13 h1_13 W_13 G_13 b13 c14
  go_wp2_with fail
  refine (mark1 _ _ _ (nextV zs0 zs1) _ _ _ G_14 hmv).mono ?_
  rintro e w15 ⟨rfl, m15, c15, z15⟩
  have h0_15 := h0_14.chg c15 (by omega)
  have h1_15 := h1_14.chg c15 (by omega)
  have W_15 := W_14.chg c15 (by omega)
  have b15 := Chg.above b14 c15 (by omega) (by omega)
  have t15 : w14.heap.size ≤ w15.heap.size := c15.size
  clear h0_14 h1_14 W_14 G_14 b14 c15
  clear z15
  go_wp2_with fail
  refine (held1 _ _ _ _ _ _ m15.rd hmv).mono ?_
  rintro e w' ⟨rfl, rfl⟩
  go_wp2_with fail
  refine (toInt64S A0 n0 c0 zs0 _ _ _ h0_15 hm0).mono ?_
  rintro e w16 ⟨rfl, o16, c16⟩
  have h0_16 := h0_15.still c16
  have h1_16 := h1_15.still c16
  have W_16 := W_15.still c16
  have M_16 := m15.still c16
  have b16 := Chg.above b15 c16 (by omega) (by omega)
  have t16 : w15.heap.size ≤ w16.heap.size := c16.size
  clear h0_15 h1_15 W_15 m15 b15 c16
  go_wp2_with fail
  refine (toInt64S A1 n1 c1 zs1 _ _ _ h1_16 hm1).mono ?_
  rintro e w17 ⟨rfl, o17, c17⟩
  have h0_17 := h0_16.still c17
  have h1_17 := h1_16.still c17
  have W_17 := W_16.still c17
  have M_17 := M_16.still c17
  have y0_17 := o16.still c17
  have b17 := Chg.above b16 c17 (by omega) (by omega)
  have t17 : w16.heap.size ≤ w17.heap.size := c17.size
  clear h0_16 h1_16 W_16 M_16 o16 b16 c17
  go_wp2_with fail
  refine (impl_NextSubset _ _ n0 n0 n1 n1 zs0 zs1 _ _ _ _ _ y0_17.rd o17.rd hm0 hm1 (Plain.at_ _ _ _).nil (Nat.le_refl _) (Plain.at_ _ _ _).nil).mono ?_
  rintro e w18 ⟨W18, d18, rfl, _, _, q18, c18⟩
  have h0_18 := h0_17.still c18
  have h1_18 := h1_17.still c18
  have W_18 := W_17.still c18
  have M_18 := M_17.still c18
  have y0_18 := y0_17.still c18
  have y1_18 := o17.still c18
  have b18 := Chg.above b17 c18 (by omega) (by omega)
  have t18 : w17.heap.size ≤ w18.heap.size := c18.size
  clear h0_17 h1_17 W_17 M_17 y0_17 o17 b17 c18
  go_wp2_with fail
  refine (eqInt64S _ _ _ _ _ _ (nextV zs0 zs1) _ _ _ _ _ q18.rd W_18.rd hmv).mono ?_
  rintro e w19 ⟨rfl, c19⟩
  have h0_19 := h0_18.still c19
  have h1_19 := h1_18.still c19
  have W_19 := W_18.still c19
  have M_19 := M_18.still c19
  have y0_19 := y0_18.still c19
  have y1_19 := y1_18.still c19
  have K_19 := q18.still c19
  have b19 := Chg.above b18 c19 (by omega) (by omega)
  have t19 : w18.heap.size ≤ w19.heap.size := c19.size
  clear h0_18 h1_18 W_18 M_18 y0_18 y1_18 q18 b18 c19
  go_wp2_with fail
  refine (held1 _ _ _ _ _ _ M_19.rd hmv).mono ?_
  rintro e w' ⟨rfl, rfl⟩
  go_wp2_with fail
  go_ret
  exact ⟨rfl, b19⟩

set_option maxHeartbeats 4000000 in
theorem law_HandOfNumber (a0 : Int) (a1 : Int) (w : World) :
    Calls Try.prog 13 #[.int .i64 a0, .int .i64 a1] w fun e w' => e = .returned (.bool true) ∧ Below w.heap.size w w' := by
  have bl := Below.refl w.heap.size w
  have hmv : (handOfV a0 a1).length ≤ 1048576 := by
    unfold handOfV
    split
    · have := unrV_len (allL 52) a0 a1; rw [allL_length] at this; omega
    · simp
  go_enter Try.func13, Try.ntmps13
  go_wp2_with fail
  refine (spec_HandOfNumber a0 a1 _).mono ?_
  rintro e w1 ⟨W1, d1, rfl, _, _, q1, c1⟩
  have b1 := Chg.above bl c1 (by omega) (by omega)
  have t1 : w.heap.size ≤ w1.heap.size := c1.size
  clear c1
  go_wp2_with fail
  refine (impl_HandOfNumber a0 a1 _).mono ?_
  rintro e w2 ⟨W2, d2, rfl, _, _, q2, c2⟩
  have W_2 := q1.still c2
  have b2 := Chg.above b1 c2 (by omega) (by omega)
  have t2 : w1.heap.size ≤ w2.heap.size := c2.size
  clear q1 b1 c2
  go_wp2_with fail
  refine (eqInt64S _ _ _ _ _ _ (handOfV a0 a1) _ _ _ _ _ q2.rd W_2.rd hmv).mono ?_
  rintro e w3 ⟨rfl, c3⟩
  have W_3 := W_2.still c3
  have G_3 := q2.still c3
  have b3 := Chg.above b2 c3 (by omega) (by omega)
  have t3 : w2.heap.size ≤ w3.heap.size := c3.size
  clear W_2 q2 b2 c3
  go_wp2_with fail
  refine (mark1 _ _ _ (handOfV a0 a1) _ _ _ G_3 hmv).mono ?_
  rintro e w4 ⟨rfl, m4, c4, z4⟩
  have W_4 := W_3.chg c4 (by omega)
  have b4 := Chg.above b3 c4 (by omega) (by omega)
  have t4 : w3.heap.size ≤ w4.heap.size := c4.size
  clear W_3 G_3 b3 c4
  clear z4
  go_wp2_with fail
  refine (held1 _ _ _ _ _ _ m4.rd hmv).mono ?_
  rintro e w' ⟨rfl, rfl⟩
  go_wp2_with fail
  refine (impl_HandOfNumber a0 a1 _).mono ?_
  rintro e w5 ⟨W5, d5, rfl, _, _, q5, c5⟩
  have W_5 := W_4.still c5
  have M_5 := m4.still c5
  have b5 := Chg.above b4 c5 (by omega) (by omega)
  have t5 : w4.heap.size ≤ w5.heap.size := c5.size
  clear W_4 m4 b4 c5
  go_wp2_with fail
  refine (eqInt64S _ _ _ _ _ _ (handOfV a0 a1) _ _ _ _ _ q5.rd W_5.rd hmv).mono ?_
  rintro e w6 ⟨rfl, c6⟩
  have W_6 := W_5.still c6
  have M_6 := M_5.still c6
  have K_6 := q5.still c6
  have b6 := Chg.above b5 c6 (by omega) (by omega)
  have t6 : w5.heap.size ≤ w6.heap.size := c6.size
  clear W_5 M_5 q5 b5 c6
  go_wp2_with fail
  refine (held1 _ _ _ _ _ _ M_6.rd hmv).mono ?_
  rintro e w' ⟨rfl, rfl⟩
  go_wp2_with fail
  go_ret
  exact ⟨rfl, b6⟩

end Go.Proofs.Ytfhfgdgpilpdkaa.Lib1
