/- The exact law of HolderLists. (Written by wip/gen5.py.) -/
import Derived.Test.YtacdhkhkifoeaaaEx5
import Derived.Test.YtacdhkhkifoeaaaHlI5
namespace Go.Proofs.Ytacdhkhkifoeaaa.Lib1
open Go.RowKit
set_option maxRecDepth 100000

theorem hl_room (zss : List (List Int)) : Room (hlV zss) := by
  unfold hlV
  split
  · refine room_of (n := 4) (m := 13) (by rw [listsTo_length]; omega) (fun j => ?_) (by omega) (by omega)
    rw [listsTo_getD]; split
    · exact listQ_len _ _
    · simp
  · exact room_of (n := 0) (m := 0) (by simp) (fun j => by simp) (by omega) (by omega)

set_option maxHeartbeats 4000000 in
theorem law_HolderLists (A0 : Option Addr) (n0 c0 : Nat) (zss0 : List (List Int)) (w : World) (h0 : RdR w 0 w.heap.size A0 n0 zss0) (l0 : Lens n0 zss0) :
    Calls Try.prog 6 #[.agg #[.slice A0 n0 c0]] w fun e w' => e = .returned (.bool true) ∧ Below w.heap.size w w' := by
  have few := hl_room zss0
  generalize hRR : hlV zss0 = R at few
  have HRR := Lib.hid hRR
  clear hRR
  have hRc : 1 + cnt R R.length ≤ 1048576 := few.1
  have hRn : R.length ≤ 1048576 := few.2.1
  have hRl : ∀ j, j < R.length → (R.getD j []).length ≤ 1048576 := few.2.2
  have hcp : ¬ (1 : Int) + (cnt R R.length : Int) < 0 := by omega
  clear few
  have bl := Below.refl w.heap.size w
  go_enter Try.func6, Try.ntmps6
  have x1 := box_at w (.slice A0 n0 c0) 51
  have a1 := Chg.of_alloc w (.cells #[.slice A0 n0 c0] 51) 0 0
  have h0_1 := h0.still a1
  have b1 := Chg.above bl a1 (by omega) (by omega)
  have t1 : w.heap.size < (w.alloc (.cells #[.slice A0 n0 c0] 51)).heap.size := by simp
  clear h0 a1
  go_wp2_with fail
  generalize w.alloc (.cells #[.slice A0 n0 c0] 51) = v1 at h0_1 x1 b1 t1
  refine (szDeal A0 n0 c0 1048576 zss0 _ _ _ h0_1 (by omega) (by omega) l0).mono ?_
  rintro e w2 ⟨u2, rfl, hu2, c2⟩
  have h0_2 := h0_1.still c2
  have e0_3 := box_still x1 c2
  have b2 := Chg.above b1 c2 (by omega) (by omega)
  have t2 : v1.heap.size ≤ w2.heap.size := c2.size
  clear h0_1 x1 b1 c2
  by_cases hv2 : u2 < 0
  · go_wp2_with fail
    go_ret
    exact ⟨rfl, b2⟩
  obtain ⟨hm0, hl0, hc0⟩ := hu2.le (by omega) rfl
  have hlt2 : ¬ u2 < 0 := hv2
  clear hv2 hu2
  have hkn0 : ¬ (1 : Int) + (cnt zss0 n0 : Int) < 0 := by omega
  go_wp2_with fail
  refine (toDeal A0 n0 c0 zss0 _ _ _ h0_2 hm0 hl0).mono ?_
  rintro e w3 ⟨g3, rfl, o3, c3⟩
  have h0_4 := h0_2.still c3
  have e0_5 := box_still e0_3 c3
  have b3 := Chg.above b2 c3 (by omega) (by omega)
  have t3 : w2.heap.size ≤ w3.heap.size := c3.size
  clear h0_2 e0_3 b2 c3
  go_wp2_with fail
  refine (spec_HolderLists _ n0 n0 zss0 _ _ _ o3.rd hm0 hl0).mono ?_
  rw [HRR.out]
  rintro e w4 ⟨W4, d4, rfl, _, q4, c4⟩
  clear o3
  have h0_6 := h0_4.still c4
  have e0_7 := box_still e0_5 c4
  have b4 := Chg.above b3 c4 (by omega) (by omega)
  have t4 : w3.heap.size ≤ w4.heap.size := c4.size
  clear h0_4 e0_5 b3 c4
  go_wp2_with fail
  refine (toDeal A0 n0 c0 zss0 _ _ _ h0_6 hm0 hl0).mono ?_
  rintro e w5 ⟨g5, rfl, o5, c5⟩
  have h0_8 := h0_6.still c5
  have e0_9 := box_still e0_7 c5
  have W_10 := q4.still c5
  have b5 := Chg.above b4 c5 (by omega) (by omega)
  have t5 : w4.heap.size ≤ w5.heap.size := c5.size
  clear h0_6 e0_7 q4 b4 c5
  have x6 := box_at w5 (.slice (some ⟨g5, 0, none⟩) n0 n0) 26
  have a6 := Chg.of_alloc w5 (.cells #[.slice (some ⟨g5, 0, none⟩) n0 n0] 26) 0 0
  have h0_11 := h0_8.still a6
  have e0_12 := box_still e0_9 a6
  have W_13 := W_10.still a6
  have x0_14 := o5.still a6
  have b6 := Chg.above b5 a6 (by omega) (by omega)
  have t6 : w5.heap.size < (w5.alloc (.cells #[.slice (some ⟨g5, 0, none⟩) n0 n0] 26)).heap.size := by simp
  clear h0_8 e0_9 W_10 o5 b5 a6
  go_wp2_with fail
  generalize w5.alloc (.cells #[.slice (some ⟨g5, 0, none⟩) n0 n0] 26) = v6 at h0_11 e0_12 W_13 x0_14 x6 b6 t6
  refine (impl_HolderLists _ n0 n0 zss0 _ _ _ x0_14.rd).mono ?_
  rw [HRR.out]
  rintro e w7 ⟨W7, d7, rfl, _, q7, c7⟩
  have h0_15 := h0_11.still c7
  have e0_16 := box_still e0_12 c7
  have W_17 := W_13.still c7
  have x0_18 := x0_14.still c7
  have bx0_19 := box_still x6 c7
  have b7 := Chg.above b6 c7 (by omega) (by omega)
  have t7 : v6.heap.size ≤ w7.heap.size := c7.size
  clear h0_11 e0_12 W_13 x0_14 x6 b6 c7
  go_wp2_with fail
  refine (eqInt64SS _ _ R.length R.length _ _ R _ _ _ _ _ q7.rd W_17.rd hRn hRl).mono ?_
  rintro e w8 ⟨rfl, c8⟩
  have h0_20 := h0_15.still c8
  have e0_21 := box_still e0_16 c8
  have W_22 := W_17.still c8
  have x0_23 := x0_18.still c8
  have bx0_24 := box_still bx0_19 c8
  have G_25 := q7.still c8
  have b8 := Chg.above b7 c8 (by omega) (by omega)
  have t8 : w7.heap.size ≤ w8.heap.size := c8.size
  clear h0_15 e0_16 W_17 x0_18 bx0_19 q7 b7 c8
  go_wp2_with fail
  go_region_with (first | (go_at_call 38; refine (toDeal A0 n0 c0 zss0 _ _ _ (h0_20.still (Chg.drewN w8 1 0 0)) hm0 hl0).mono ?_; rintro e w9 ⟨g9, rfl, o9, c9⟩; have d9 := (Chg.drewN w8 1 0 0).trans c9; have y9 := box_still bx0_24 d9; have p9 := x0_23.still d9) | (go_at_call 40; refine (eqDeal _ _ n0 n0 _ _ zss0 _ _ _ _ _ p9.rd o9.rd hm0 hl0).mono ?_; rintro e w10 ⟨rfl, c10⟩))
  all_goals
    have d10 := d9.trans c10
    clear c9 y9 p9 o9 d9 c10
    have h0_26 := h0_20.still d10
    have e0_27 := box_still e0_21 d10
    have W_28 := W_22.still d10
    have x0_29 := x0_23.still d10
    have bx0_30 := box_still bx0_24 d10
    have G_31 := G_25.still d10
    have b10 := Chg.above b8 d10 (by omega) (by omega)
    have t10 : w8.heap.size ≤ w10.heap.size := d10.size
    clear h0_20 e0_21 W_22 x0_23 bx0_24 G_25 b8 d10
    go_wp2_with fail
    refine (markDeal1 _ n0 _ zss0 _ _ _ x0_29 hm0 hc0).mono ?_
    rintro e w11 ⟨rfl, _, c11⟩
    clear x0_29
    clear bx0_30
    have h0_32 := h0_26.chg c11 (by omega)
    have e0_33 := cell_above e0_27 c11 (by dsimp only; omega)
    have W_34 := W_28.chg c11 (by omega)
    have G_35 := G_31.chg c11 (by omega)
    have b11 := Chg.above b10 c11 (by omega) (by omega)
    have t11 : w10.heap.size ≤ w11.heap.size := c11.size
    clear h0_26 e0_27 W_28 G_31 b10 c11
    go_wp2_with fail
    refine (eqInt64SS _ _ R.length R.length _ _ R _ _ _ _ _ G_35.rd W_34.rd hRn hRl).mono ?_
    rintro e w12 ⟨rfl, c12⟩
    have h0_36 := h0_32.still c12
    have e0_37 := box_still e0_33 c12
    have W_38 := W_34.still c12
    have G_39 := G_35.still c12
    have b12 := Chg.above b11 c12 (by omega) (by omega)
    have t12 : w11.heap.size ≤ w12.heap.size := c12.size
    clear h0_32 e0_33 W_34 G_35 b11 c12
    go_wp2_with fail
    refine (markRows1 _ R.length _ R _ _ _ G_39 hRn hRc).mono ?_
    rintro e w13 ⟨rfl, m13, c13⟩
    clear G_39
    have h0_40 := h0_36.chg c13 (by omega)
    have e0_41 := cell_above e0_37 c13 (by dsimp only; omega)
    have W_42 := W_38.chg c13 (by omega)
    have b13 := Chg.above b12 c13 (by omega) (by omega)
    have t13 : w12.heap.size ≤ w13.heap.size := c13.size
    clear h0_36 e0_37 W_38 b12 c13
    go_wp2_with fail
    refine (heldRows1 _ R.length _ R _ _ _ rfl m13.rd hRn hRc).mono ?_
    rintro e w' ⟨rfl, rfl⟩
    go_wp2_with fail
    refine (toDeal A0 n0 c0 zss0 _ _ _ h0_40 hm0 hl0).mono ?_
    rintro e w15 ⟨g15, rfl, o15, c15⟩
    have h0_43 := h0_40.still c15
    have e0_44 := box_still e0_41 c15
    have W_45 := W_42.still c15
    have M_46 := m13.still c15
    have b15 := Chg.above b13 c15 (by omega) (by omega)
    have t15 : w13.heap.size ≤ w15.heap.size := c15.size
    clear h0_40 e0_41 W_42 m13 b13 c15
    go_wp2_with fail
    refine (impl_HolderLists _ n0 n0 zss0 _ _ _ o15.rd).mono ?_
    rw [HRR.out]
    rintro e w16 ⟨W16, d16, rfl, _, q16, c16⟩
    have h0_47 := h0_43.still c16
    have e0_48 := box_still e0_44 c16
    have W_49 := W_45.still c16
    have M_50 := M_46.still c16
    have y0_51 := o15.still c16
    have b16 := Chg.above b15 c16 (by omega) (by omega)
    have t16 : w15.heap.size ≤ w16.heap.size := c16.size
    clear h0_43 e0_44 W_45 M_46 o15 b15 c16
    go_wp2_with fail
    refine (eqInt64SS _ _ R.length R.length _ _ R _ _ _ _ _ q16.rd W_49.rd hRn hRl).mono ?_
    rintro e w17 ⟨rfl, c17⟩
    have h0_52 := h0_47.still c17
    have e0_53 := box_still e0_48 c17
    have W_54 := W_49.still c17
    have M_55 := M_50.still c17
    have y0_56 := y0_51.still c17
    have K_57 := q16.still c17
    have b17 := Chg.above b16 c17 (by omega) (by omega)
    have t17 : w16.heap.size ≤ w17.heap.size := c17.size
    clear h0_47 e0_48 W_49 M_50 y0_51 q16 b16 c17
    go_wp2_with fail
    refine (heldRows1 _ R.length _ R _ _ _ rfl M_55.rd hRn hRc).mono ?_
    rintro e w' ⟨rfl, rfl⟩
    go_wp2_with fail
    go_ret
    exact ⟨rfl, b17⟩

end Go.Proofs.Ytacdhkhkifoeaaa.Lib1
