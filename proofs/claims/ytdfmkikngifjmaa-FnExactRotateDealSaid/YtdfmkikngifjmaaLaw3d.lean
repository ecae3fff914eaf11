/- The exact laws of chapter 3 of the functions that hand back a deal, each out of a contract of the program's function and the model's. (Written by wip/gen3.py.) -/
import Derived.Test.YtdfmkikngifjmaaLaw3
namespace Go.Proofs.Ytdfmkikngifjmaa.Lib1
open Go.RowKit
set_option maxRecDepth 100000

/-- A deal, or none: few rows, short ones. -/
def Few (R : List (List Int)) : Prop := R.length ≤ 4 ∧ ∀ j, (R.getD j []).length ≤ 13
theorem Few.cnt {R : List (List Int)} (h : Few R) : ∀ k, cnt R k ≤ 13 * k
  | 0 => Nat.le_refl _
  | k + 1 => by have := Few.cnt h k; have := h.2 k; simp only [Lib1.cnt]; omega
theorem few_nil : Few [] := ⟨by simp, fun j => by simp⟩
theorem deal_few {zss : List (List Int)} (h : dealB zss = true) : ∀ j, (zss.getD j []).length ≤ 13 := by
  obtain ⟨h4, hr, _⟩ := (deal_iff zss).1 h
  intro j
  by_cases hj : j < 4
  · exact hand_len (hr j hj).1
  · rw [List.getD_eq_getElem?_getD, List.getElem?_eq_none (by omega)]; simp
theorem mirror_few (zss : List (List Int)) : Few (mirrorV zss) := by
  unfold mirrorV
  cases h : dealB zss
  · exact few_nil
  · have h4 := ((deal_iff zss).1 h).1
    have hf := deal_few h
    refine ⟨by simp [swapR_length, h4], fun j => ?_⟩
    simp only [if_true]
    rw [swapR_getD zss 1 3 j (by omega) (by omega)]
    split
    · exact hf _
    · split <;> exact hf _
theorem rotTo_getD (zss : List (List Int)) (k : Int) : ∀ s j, (rotTo zss k s).getD j [] = if j < s then rotRow zss k j else []
  | 0, j => by simp [rotTo]
  | s + 1, j => by
    rw [rotTo, getD_snoc, rotTo_length, rotTo_getD zss k s j]
    by_cases h : j < s
    · rw [if_pos h, if_pos h, if_pos (by omega)]
    · rw [if_neg h]
      by_cases e : j = s
      · subst e; rw [if_pos rfl, if_pos (by omega)]
      · rw [if_neg e, if_neg (by omega)]
theorem rot_few (zss : List (List Int)) (k : Int) : Few (rotV zss k) := by
  unfold rotV
  cases h : dealB zss
  · exact few_nil
  · cases hk : inB k 0 3
    · exact few_nil
    · have hf := deal_few h
      refine ⟨by simp [rotTo_length], fun j => ?_⟩
      simp only [Bool.and_self, if_true]
      rw [rotTo_getD]
      split
      · exact hf _
      · simp
theorem permRows_getD (zss : List (List Int)) (to : List Int) : ∀ s j, (permRows zss to s).getD j [] = if j < s then permF (zss.getD j []) to else []
  | 0, j => by simp [permRows]
  | s + 1, j => by
    rw [permRows, getD_snoc, permRows_length, permRows_getD zss to s j]
    by_cases h : j < s
    · rw [if_pos h, if_pos h, if_pos (by omega)]
    · rw [if_neg h]
      by_cases e : j = s
      · subst e; rw [if_pos rfl, if_pos (by omega)]
      · rw [if_neg e, if_neg (by omega)]
theorem perm_few (zss : List (List Int)) (to : List Int) : Few (permV zss to) := by
  unfold permV
  cases h : dealB zss
  · exact few_nil
  · cases hk : orderB to
    · exact few_nil
    · have hf := deal_few h
      refine ⟨by simp [permRows_length], fun j => ?_⟩
      simp only [Bool.and_self, if_true]
      rw [permRows_getD]
      split
      · rw [permF, permTo_len]; exact hf _
      · simp

set_option maxHeartbeats 4000000 in
theorem law_MirrorDeal (I : ImplDD 47 mirrorV) (A : Option Addr) (n c : Nat) (zss : List (List Int)) (w : World) (h : RdR w 0 w.heap.size A n zss) (hL : Lens n zss) :
    Calls Try.prog 9 #[.agg #[.slice A n c]] w fun e w' => e = .returned (.bool true) ∧ Below w.heap.size w w' := by
  have hbx := Lib.hid (box_at w (.slice A n c) 44)
  have ca := Lib.hid (Chg.of_alloc w (.cells #[.slice A n c] 44) 0 0)
  have few := mirror_few zss
  generalize hRR : mirrorV zss = R at few
  have HRR := Lib.hid hRR
  clear hRR
  have hRc : 1 + cnt R R.length ≤ 1048576 := by have := few.cnt R.length; have := few.1; omega
  have hRn : R.length ≤ 1048576 := by have := few.1; omega
  have hRl : ∀ j, j < R.length → (R.getD j []).length ≤ 1048576 := fun j _ => by have := few.2 j; omega
  have hcp : ¬ (1 : Int) + (cnt R R.length : Int) < 0 := by omega
  clear few
  go_enter Try.func9, Try.ntmps9
  go_wp2_with fail
  refine (szDeal A n c 1048576 zss _ _ _ (h.still ca.out) (by omega) (by omega) hL).mono ?_
  rintro e w1 ⟨v, rfl, hv, c1⟩
  have k1 := Lib.hid (ca.out.trans c1)
  have b1 := box_still hbx.out c1
  have hw1 : w.heap.size < w1.heap.size := lt_of_cell b1
  clear c1
  by_cases hv0 : v < 0
  · go_wp2_with fail
    go_ret
    exact ⟨rfl, k1.out.to_below⟩
  · obtain ⟨hn, hl, hc⟩ := hv.le (by omega) rfl
    have hlt : ¬ v < 0 := hv0
    have hkn : ¬ (1 : Int) + (cnt zss n : Int) < 0 := by omega
    clear hv
    go_wp2_with fail
    refine (toDeal A n c zss _ _ _ (h.still k1.out) hn hl).mono ?_
    rintro e w2 ⟨g2, rfl, o2, c2⟩
    have k2 := Lib.hid (k1.out.trans c2)
    have b2 := box_still b1 c2
    have z2 := c2.size
    clear c2 b1
    go_wp2_with fail
    refine (spec_MirrorDeal _ n n zss _ _ _ o2.rd hn hl).mono ?_
    rw [HRR.out]
    rintro e w3 ⟨W, cw, rfl, _, ow, c3⟩
    have bw3 := box_at w3 (.slice W R.length cw) 25
    have ca3 := Chg.of_alloc w3 (.cells #[.slice W R.length cw] 25) 0 0
    have z3 := c3.size
    have z3a : (w3.alloc (.cells #[.slice W R.length cw] 25)).heap.size = w3.heap.size + 1 := by simp
    have k3 := Lib.hid ((k2.out.trans c3).trans ca3)
    have b3 := box_still (box_still b2 c3) ca3
    have ow3 := ow.still ca3
    clear c3 b2 o2 ow ca3
    go_wp2_with fail
    generalize w3.alloc (.cells #[.slice W R.length cw] 25) = v3 at bw3 k3 b3 ow3 z3a
    refine (toDeal A n c zss _ _ _ (h.still k3.out) hn hl).mono ?_
    rintro e w4 ⟨g4, rfl, o4, c4⟩
    have bx4 := box_at w4 (.slice (some ⟨g4, 0, none⟩) n n) 25
    have ca4 := Chg.of_alloc w4 (.cells #[.slice (some ⟨g4, 0, none⟩) n n] 25) 0 0
    have z4 := c4.size
    have z5 : (w4.alloc (.cells #[.slice (some ⟨g4, 0, none⟩) n n] 25)).heap.size = w4.heap.size + 1 := by simp
    have k4 := Lib.hid ((k3.out.trans c4).trans ca4)
    have b4 := box_still (box_still b3 c4) ca4
    have bw4 := box_still (box_still bw3 c4) ca4
    have ow4 := (ow3.still c4).still ca4
    have o4' := o4.still ca4
    clear c4 b3 bw3 o4 ow3 ca4
    go_wp2_with fail
    generalize w4.alloc (.cells #[.slice (some ⟨g4, 0, none⟩) n n] 25) = w5 at bx4 k4 b4 bw4 o4' ow4 z5
    refine (I _ n n zss _ _ _ ⟨o4'.rd, Nat.le_refl _, Plain.at_ _ _ _, hn, hl, hc⟩).mono ?_
    rw [HRR.out]
    rintro e w6 ⟨G, cg, rfl, _, og, c6⟩
    have bg6 := box_at w6 (.slice G R.length cg) 25
    have ca6 := Chg.of_alloc w6 (.cells #[.slice G R.length cg] 25) 0 0
    have z6 := c6.size
    have z6a : (w6.alloc (.cells #[.slice G R.length cg] 25)).heap.size = w6.heap.size + 1 := by simp
    have k6 := Lib.hid ((k4.out.trans c6).trans ca6)
    have b6 := box_still (box_still b4 c6) ca6
    have bw6 := box_still (box_still bw4 c6) ca6
    have bx6 := box_still (box_still bx4 c6) ca6
    have o6 := (o4'.still c6).still ca6
    have ow6 := (ow4.still c6).still ca6
    have og6 := og.still ca6
    clear c6 ca6 b4 bw4 bx4 o4' ow4 og
    go_wp2_with fail
    generalize w6.alloc (.cells #[.slice G R.length cg] 25) = v6 at bg6 k6 b6 bw6 bx6 o6 ow6 og6 z6a
    refine (eqDeal _ _ _ _ _ _ R _ _ _ _ _ og6.rd ow6.rd hRn hRl).mono ?_
    rintro e w7 ⟨rfl, c7⟩
    have k7 := Lib.hid (k6.out.trans c7)
    have b7 := box_still b6 c7
    have bw7 := box_still bw6 c7
    have bx7 := box_still bx6 c7
    have bg7 := box_still bg6 c7
    have o7 := o6.still c7
    have ow7 := ow6.still c7
    have og7 := og6.still c7
    have z7 := c7.size
    clear c7 b6 bw6 bx6 bg6 o6 ow6 og6
    go_wp2_with fail
    go_region_with (first | (go_at_call 38; refine (toDeal A n c zss _ _ _ ((h.still k7.out).still (Chg.drewN w7 1 0 0)) hn hl).mono ?_; rintro e w8 ⟨g8, rfl, o8, c8⟩; have d8 := (Chg.drewN w7 1 0 0).trans c8; have x8 := box_still bx7 d8; have o78 := o7.still d8) | (go_at_call 19; refine (eqDeal _ _ n n _ _ zss _ _ _ _ _ o78.rd o8.rd hn hl).mono ?_; rintro e w9 ⟨rfl, c9⟩))
    all_goals
      have d9 := d8.trans c9
      have k9 := Lib.hid (k7.out.trans d9)
      have b9 := box_still b7 d9
      have bw9 := box_still bw7 d9
      have bx9 := box_still bx7 d9
      have bg9 := box_still bg7 d9
      have o9 := o7.still d9
      have ow9 := ow7.still d9
      have og9 := og7.still d9
      have z9 := d9.size
      clear d9 d8 c9 c8 x8 o78 o8 b7 bw7 bx7 bg7 o7 ow7 og7
      go_wp2_with fail
      refine (markDeal1 _ n _ zss _ _ _ o9 hn hc).mono ?_
      rintro e w10 ⟨rfl, _, c10⟩
      have b10 := cell_above b9 c10 (.inl (by show w.heap.size < v3.heap.size; omega))
      have bw10 := cell_above bw9 c10 (.inl (by show w3.heap.size < v3.heap.size; omega))
      have bg10 := cell_above bg9 c10 (.inr (by show w4.heap.size ≤ w6.heap.size; omega))
      have ow10 := ow9.chg c10 (.inl (by omega))
      have og10 := og9.chg c10 (.inr (by omega))
      have kB := Lib.hid (Chg.above k9.out.to_below c10 (by omega) (.inl (by omega)))
      have z10 := c10.size
      clear c10 b9 bw9 bx9 bg9 o9 ow9 og9
      go_wp2_with fail
      refine (eqDeal _ _ _ _ _ _ R _ _ _ _ _ og10.rd ow10.rd hRn hRl).mono ?_
      rintro e w11 ⟨rfl, c11⟩
      have b11 := box_still b10 c11
      have bw11 := box_still bw10 c11
      have bg11 := box_still bg10 c11
      have ow11 := ow10.still c11
      have og11 := og10.still c11
      have kB11 := Lib.hid (Chg.above kB.out c11 (by omega) (.inr rfl))
      have z11 := c11.size
      clear c11 b10 bw10 bg10 ow10 og10 kB
      go_wp2_with fail
      refine (markDeal1 _ _ _ R _ _ _ og11 hRn hRc).mono ?_
      rintro e w12 ⟨rfl, og12, c12⟩
      have b12 := cell_above b11 c12 (.inl (by show w.heap.size < w5.heap.size; omega))
      have bw12 := cell_above bw11 c12 (.inl (by show w3.heap.size < w5.heap.size; omega))
      have bg12 := cell_above bg11 c12 (.inr (by show w6.heap.size ≤ w6.heap.size; omega))
      have ow12 := ow11.chg c12 (.inl (by omega))
      have kB12 := Lib.hid (Chg.above kB11.out c12 (by omega) (.inl (by omega)))
      have z12 := c12.size
      clear c12 b11 bw11 bg11 ow11 og11 kB11
      go_wp2_with fail
      refine (heldDeal1 _ _ _ R _ _ _ rfl og12.rd hRn hRc).mono ?_
      rintro e w13 ⟨rfl, c13⟩
      have b13 := box_still b12 c13
      have bw13 := box_still bw12 c13
      have bg13 := box_still bg12 c13
      have ow13 := ow12.still c13
      have og13 := og12.still c13
      have kB13 := Lib.hid (Chg.above kB12.out c13 (by omega) (.inr rfl))
      have z13 := c13.size
      clear c13 b12 bw12 bg12 ow12 og12 kB12
      go_wp2_with fail
      refine (toDeal A n c zss _ _ _ (h.below kB13.out (Nat.le_refl _)) hn hl).mono ?_
      rintro e w14 ⟨g14, rfl, o14, c14⟩
      have bw14 := box_still bw13 c14
      have bg14 := box_still bg13 c14
      have ow14 := ow13.still c14
      have og14 := og13.still c14
      have kB14 := Lib.hid (Chg.above kB13.out c14 (by omega) (.inr rfl))
      have z14 := c14.size
      clear c14 b13 bw13 bg13 ow13 og13 kB13
      go_wp2_with fail
      refine (I _ n n zss _ _ _ ⟨o14.rd, Nat.le_refl _, Plain.at_ _ _ _, hn, hl, hc⟩).mono ?_
      rw [HRR.out]
      rintro e w15 ⟨K, ck, rfl, _, ok, c15⟩
      have bk15 := box_at w15 (.slice K R.length ck) 25
      have ca15 := Chg.of_alloc w15 (.cells #[.slice K R.length ck] 25) 0 0
      have d15 := c15.trans ca15
      have bw15 := box_still bw14 d15
      have bg15 := box_still bg14 d15
      have ow15 := ow14.still d15
      have og15 := og14.still d15
      have ok15 := ok.still ca15
      have kB15 := Lib.hid (Chg.above kB14.out d15 (by omega) (.inr rfl))
      have z15 := d15.size
      clear c15 ca15 d15 bw14 bg14 o14 ow14 og14 ok kB14
      go_wp2_with fail
      generalize w15.alloc (.cells #[.slice K R.length ck] 25) = v15 at bk15 bw15 bg15 ow15 og15 ok15 kB15 z15
      refine (eqDeal _ _ _ _ _ _ R _ _ _ _ _ ok15.rd ow15.rd hRn hRl).mono ?_
      rintro e w16 ⟨rfl, c16⟩
      have bg16 := box_still bg15 c16
      have og16 := og15.still c16
      have kB16 := Lib.hid (Chg.above kB15.out c16 (by omega) (.inr rfl))
      have z16 := c16.size
      clear c16 bk15 bw15 bg15 ow15 og15 ok15 kB15
      go_wp2_with fail
      refine (heldDeal1 _ _ _ R _ _ _ rfl og16.rd hRn hRc).mono ?_
      rintro e w17 ⟨rfl, c17⟩
      have kB17 := Lib.hid (Chg.above kB16.out c17 (by omega) (.inr rfl))
      clear c17 bg16 og16 kB16
      go_wp2_with fail
      go_ret
      exact ⟨rfl, kB17.out⟩

set_option maxHeartbeats 4000000 in
theorem law_RotateDeal (I : ImplDDI 49 rotV rotE) (A : Option Addr) (n c : Nat) (x : Int) (zss : List (List Int)) (w : World) (h : RdR w 0 w.heap.size A n zss) (hL : Lens n zss) :
    Calls Try.prog 10 #[.agg #[.slice A n c], .int .i64 x] w fun e w' => e = .returned (.bool true) ∧ Below w.heap.size w w' := by
  have hbx := Lib.hid (box_at w (.slice A n c) 44)
  have ca := Lib.hid (Chg.of_alloc w (.cells #[.slice A n c] 44) 0 0)
  have few := rot_few zss x
  generalize hRR : rotV zss x = R at few
  have HRR := Lib.hid hRR
  clear hRR
  generalize hEE : rotE zss x = er
  have HEE := Lib.hid hEE
  clear hEE
  have hee : (er == er) = true := by simp
  have hRc : 1 + cnt R R.length ≤ 1048576 := by have := few.cnt R.length; have := few.1; omega
  have hRn : R.length ≤ 1048576 := by have := few.1; omega
  have hRl : ∀ j, j < R.length → (R.getD j []).length ≤ 1048576 := fun j _ => by have := few.2 j; omega
  have hcp : ¬ (1 : Int) + (cnt R R.length : Int) < 0 := by omega
  clear few
  go_enter Try.func10, Try.ntmps10
  go_wp2_with fail
  refine (szDeal A n c 1048576 zss _ _ _ (h.still ca.out) (by omega) (by omega) hL).mono ?_
  rintro e w1 ⟨v, rfl, hv, c1⟩
  have k1 := Lib.hid (ca.out.trans c1)
  have b1 := box_still hbx.out c1
  have hw1 : w.heap.size < w1.heap.size := lt_of_cell b1
  clear c1
  by_cases hv0 : v < 0
  · go_wp2_with fail
    go_ret
    exact ⟨rfl, k1.out.to_below⟩
  · obtain ⟨hn, hl, hc⟩ := hv.le (by omega) rfl
    have hlt : ¬ v < 0 := hv0
    have hkn : ¬ (1 : Int) + (cnt zss n : Int) < 0 := by omega
    clear hv
    go_wp2_with fail
    refine (toDeal A n c zss _ _ _ (h.still k1.out) hn hl).mono ?_
    rintro e w2 ⟨g2, rfl, o2, c2⟩
    have k2 := Lib.hid (k1.out.trans c2)
    have b2 := box_still b1 c2
    have z2 := c2.size
    clear c2 b1
    go_wp2_with fail
    refine (spec_RotateDeal _ n n x zss _ _ _ o2.rd hn hl).mono ?_
    rw [HRR.out, HEE.out]
    rintro e w3 ⟨W, cw, rfl, _, ow, c3⟩
    have bw3 := box_at w3 (.slice W R.length cw) 25
    have ca3 := Chg.of_alloc w3 (.cells #[.slice W R.length cw] 25) 0 0
    have z3 := c3.size
    have z3a : (w3.alloc (.cells #[.slice W R.length cw] 25)).heap.size = w3.heap.size + 1 := by simp
    have k3 := Lib.hid ((k2.out.trans c3).trans ca3)
    have b3 := box_still (box_still b2 c3) ca3
    have ow3 := ow.still ca3
    clear c3 b2 o2 ow ca3
    go_wp2_with fail
    generalize w3.alloc (.cells #[.slice W R.length cw] 25) = v3 at bw3 k3 b3 ow3 z3a
    refine (toDeal A n c zss _ _ _ (h.still k3.out) hn hl).mono ?_
    rintro e w4 ⟨g4, rfl, o4, c4⟩
    have bx4 := box_at w4 (.slice (some ⟨g4, 0, none⟩) n n) 25
    have ca4 := Chg.of_alloc w4 (.cells #[.slice (some ⟨g4, 0, none⟩) n n] 25) 0 0
    have z4 := c4.size
    have z5 : (w4.alloc (.cells #[.slice (some ⟨g4, 0, none⟩) n n] 25)).heap.size = w4.heap.size + 1 := by simp
    have k4 := Lib.hid ((k3.out.trans c4).trans ca4)
    have b4 := box_still (box_still b3 c4) ca4
    have bw4 := box_still (box_still bw3 c4) ca4
    have ow4 := (ow3.still c4).still ca4
    have o4' := o4.still ca4
    clear c4 b3 bw3 o4 ow3 ca4
    go_wp2_with fail
    generalize w4.alloc (.cells #[.slice (some ⟨g4, 0, none⟩) n n] 25) = w5 at bx4 k4 b4 bw4 o4' ow4 z5
    refine (I _ n n x zss _ _ _ ⟨o4'.rd, Nat.le_refl _, Plain.at_ _ _ _, hn, hl, hc⟩).mono ?_
    rw [HRR.out, HEE.out]
    rintro e w6 ⟨G, cg, rfl, _, og, c6⟩
    have bg6 := box_at w6 (.slice G R.length cg) 25
    have ca6 := Chg.of_alloc w6 (.cells #[.slice G R.length cg] 25) 0 0
    have z6 := c6.size
    have z6a : (w6.alloc (.cells #[.slice G R.length cg] 25)).heap.size = w6.heap.size + 1 := by simp
    have k6 := Lib.hid ((k4.out.trans c6).trans ca6)
    have b6 := box_still (box_still b4 c6) ca6
    have bw6 := box_still (box_still bw4 c6) ca6
    have bx6 := box_still (box_still bx4 c6) ca6
    have o6 := (o4'.still c6).still ca6
    have ow6 := (ow4.still c6).still ca6
    have og6 := og.still ca6
    clear c6 ca6 b4 bw4 bx4 o4' ow4 og
    go_wp2_with fail
    generalize w6.alloc (.cells #[.slice G R.length cg] 25) = v6 at bg6 k6 b6 bw6 bx6 o6 ow6 og6 z6a
    refine (eqDeal _ _ _ _ _ _ R _ _ _ _ _ og6.rd ow6.rd hRn hRl).mono ?_
    rintro e w7 ⟨rfl, c7⟩
    have k7 := Lib.hid (k6.out.trans c7)
    have b7 := box_still b6 c7
    have bw7 := box_still bw6 c7
    have bx7 := box_still bx6 c7
    have bg7 := box_still bg6 c7
    have o7 := o6.still c7
    have ow7 := ow6.still c7
    have og7 := og6.still c7
    have z7 := c7.size
    clear c7 b6 bw6 bx6 bg6 o6 ow6 og6
    go_wp2_with fail
    go_region_with (first | (go_at_call 38; refine (toDeal A n c zss _ _ _ ((h.still k7.out).still (Chg.drewN w7 1 0 0)) hn hl).mono ?_; rintro e w8 ⟨g8, rfl, o8, c8⟩; have d8 := (Chg.drewN w7 1 0 0).trans c8; have x8 := box_still bx7 d8; have o78 := o7.still d8) | (go_at_call 19; refine (eqDeal _ _ n n _ _ zss _ _ _ _ _ o78.rd o8.rd hn hl).mono ?_; rintro e w9 ⟨rfl, c9⟩))
    all_goals
      have d9 := d8.trans c9
      have k9 := Lib.hid (k7.out.trans d9)
      have b9 := box_still b7 d9
      have bw9 := box_still bw7 d9
      have bx9 := box_still bx7 d9
      have bg9 := box_still bg7 d9
      have o9 := o7.still d9
      have ow9 := ow7.still d9
      have og9 := og7.still d9
      have z9 := d9.size
      clear d9 d8 c9 c8 x8 o78 o8 b7 bw7 bx7 bg7 o7 ow7 og7
      go_wp2_with fail
      refine (markDeal1 _ n _ zss _ _ _ o9 hn hc).mono ?_
      rintro e w10 ⟨rfl, _, c10⟩
      have b10 := cell_above b9 c10 (.inl (by show w.heap.size < v3.heap.size; omega))
      have bw10 := cell_above bw9 c10 (.inl (by show w3.heap.size < v3.heap.size; omega))
      have bg10 := cell_above bg9 c10 (.inr (by show w4.heap.size ≤ w6.heap.size; omega))
      have ow10 := ow9.chg c10 (.inl (by omega))
      have og10 := og9.chg c10 (.inr (by omega))
      have kB := Lib.hid (Chg.above k9.out.to_below c10 (by omega) (.inl (by omega)))
      have z10 := c10.size
      clear c10 b9 bw9 bx9 bg9 o9 ow9 og9
      go_wp2_with fail
      refine (eqDeal _ _ _ _ _ _ R _ _ _ _ _ og10.rd ow10.rd hRn hRl).mono ?_
      rintro e w11 ⟨rfl, c11⟩
      have b11 := box_still b10 c11
      have bw11 := box_still bw10 c11
      have bg11 := box_still bg10 c11
      have ow11 := ow10.still c11
      have og11 := og10.still c11
      have kB11 := Lib.hid (Chg.above kB.out c11 (by omega) (.inr rfl))
      have z11 := c11.size
      clear c11 b10 bw10 bg10 ow10 og10 kB
      go_wp2_with fail
      refine (markDeal1 _ _ _ R _ _ _ og11 hRn hRc).mono ?_
      rintro e w12 ⟨rfl, og12, c12⟩
      have b12 := cell_above b11 c12 (.inl (by show w.heap.size < w5.heap.size; omega))
      have bw12 := cell_above bw11 c12 (.inl (by show w3.heap.size < w5.heap.size; omega))
      have bg12 := cell_above bg11 c12 (.inr (by show w6.heap.size ≤ w6.heap.size; omega))
      have ow12 := ow11.chg c12 (.inl (by omega))
      have kB12 := Lib.hid (Chg.above kB11.out c12 (by omega) (.inl (by omega)))
      have z12 := c12.size
      clear c12 b11 bw11 bg11 ow11 og11 kB11
      go_wp2_with fail
      refine (heldDeal1 _ _ _ R _ _ _ rfl og12.rd hRn hRc).mono ?_
      rintro e w13 ⟨rfl, c13⟩
      have b13 := box_still b12 c13
      have bw13 := box_still bw12 c13
      have bg13 := box_still bg12 c13
      have ow13 := ow12.still c13
      have og13 := og12.still c13
      have kB13 := Lib.hid (Chg.above kB12.out c13 (by omega) (.inr rfl))
      have z13 := c13.size
      clear c13 b12 bw12 bg12 ow12 og12 kB12
      go_wp2_with fail
      refine (toDeal A n c zss _ _ _ (h.below kB13.out (Nat.le_refl _)) hn hl).mono ?_
      rintro e w14 ⟨g14, rfl, o14, c14⟩
      have bw14 := box_still bw13 c14
      have bg14 := box_still bg13 c14
      have ow14 := ow13.still c14
      have og14 := og13.still c14
      have kB14 := Lib.hid (Chg.above kB13.out c14 (by omega) (.inr rfl))
      have z14 := c14.size
      clear c14 b13 bw13 bg13 ow13 og13 kB13
      go_wp2_with fail
      refine (I _ n n x zss _ _ _ ⟨o14.rd, Nat.le_refl _, Plain.at_ _ _ _, hn, hl, hc⟩).mono ?_
      rw [HRR.out, HEE.out]
      rintro e w15 ⟨K, ck, rfl, _, ok, c15⟩
      have bk15 := box_at w15 (.slice K R.length ck) 25
      have ca15 := Chg.of_alloc w15 (.cells #[.slice K R.length ck] 25) 0 0
      have d15 := c15.trans ca15
      have bw15 := box_still bw14 d15
      have bg15 := box_still bg14 d15
      have ow15 := ow14.still d15
      have og15 := og14.still d15
      have ok15 := ok.still ca15
      have kB15 := Lib.hid (Chg.above kB14.out d15 (by omega) (.inr rfl))
      have z15 := d15.size
      clear c15 ca15 d15 bw14 bg14 o14 ow14 og14 ok kB14
      go_wp2_with fail
      generalize w15.alloc (.cells #[.slice K R.length ck] 25) = v15 at bk15 bw15 bg15 ow15 og15 ok15 kB15 z15
      refine (eqDeal _ _ _ _ _ _ R _ _ _ _ _ ok15.rd ow15.rd hRn hRl).mono ?_
      rintro e w16 ⟨rfl, c16⟩
      have bg16 := box_still bg15 c16
      have og16 := og15.still c16
      have kB16 := Lib.hid (Chg.above kB15.out c16 (by omega) (.inr rfl))
      have z16 := c16.size
      clear c16 bk15 bw15 bg15 ow15 og15 ok15 kB15
      go_wp2_with fail
      refine (heldDeal1 _ _ _ R _ _ _ rfl og16.rd hRn hRc).mono ?_
      rintro e w17 ⟨rfl, c17⟩
      have kB17 := Lib.hid (Chg.above kB16.out c17 (by omega) (.inr rfl))
      clear c17 bg16 og16 kB16
      go_wp2_with fail
      go_ret
      exact ⟨rfl, kB17.out⟩

end Go.Proofs.Ytdfmkikngifjmaa.Lib1
