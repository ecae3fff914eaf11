/- The exact law of CanonicalDeal. (Written by wip/gen5.py.) -/
import Derived.Test.YteojdlacdnfgiaaEx5
import Derived.Test.YteojdlacdnfgiaaCdI5
import Derived.Test.YteojdlacdnfgiaaCanT5
namespace Go.Proofs.Yteojdlacdnfgiaa.Lib1
open Go.RowKit
set_option maxRecDepth 100000

theorem can_few (zss : List (List Int)) (strain : Int) : Few (canV zss strain) := by
  unfold canV
  cases h : dealB zss
  · exact few_nil
  · cases hs : inB strain 0 4
    · exact few_nil
    · have hc := can_deal h hs
      simp only [Bool.and_self, if_true]
      exact ⟨by rw [((deal_iff _).1 hc).1]; omega, deal_few hc⟩

set_option maxHeartbeats 4000000 in
theorem law_CanonicalDeal (A0 : Option Addr) (n0 c0 : Nat) (zss0 : List (List Int)) (a1 : Int) (w : World) (h0 : RdR w 0 w.heap.size A0 n0 zss0) (l0 : Lens n0 zss0) :
    Calls Try.prog 8 #[.agg #[.slice A0 n0 c0], .int .i64 a1] w fun e w' => e = .returned (.bool true) ∧ Below w.heap.size w w' := by
  have few := room_few (can_few zss0 a1)
  generalize hRR : canV zss0 a1 = R at few
  have HRR := Lib.hid hRR
  clear hRR
  have hRc : 1 + cnt R R.length ≤ 1048576 := few.1
  have hRn : R.length ≤ 1048576 := few.2.1
  have hRl : ∀ j, j < R.length → (R.getD j []).length ≤ 1048576 := few.2.2
  have hcp : ¬ (1 : Int) + (cnt R R.length : Int) < 0 := by omega
  clear few
  have bl := Below.refl w.heap.size w
  go_enter Try.func8, Try.ntmps8
  have x1 := box_at w (.slice A0 n0 c0) 50
  have a1 := Chg.of_alloc w (.cells #[.slice A0 n0 c0] 50) 0 0
  have h0_1 := h0.still a1
  have b1 := Chg.above bl a1 (by omega) (by omega)
  have t1 : w.heap.size < (w.alloc (.cells #[.slice A0 n0 c0] 50)).heap.size := by simp
  clear h0 a1
  go_wp2_with fail
  generalize w.alloc (.cells #[.slice A0 n0 c0] 50) = v1 at h0_1 x1 b1 t1
  refine (szDeal A0 n0 c0 1048576 zss0 _ _ _ h0_1 (by omega) (by omega) l0).mono ?_
  rintro e w2 ⟨u2, rfl, hu2, c2⟩
  have h0_2 := h0_1.still c2
  have e0_3 := box_still x1 c2
  have b2 := Chg.above b1 c2 (by omega) (by omega)
  have t2 : v1.heap.size ≤ w2.heap.size := c2.size
  clear h0_1 x1 b1 c2
  by_cases hv2 : u2 < 0
  · go_wp2_with fail
    go_ret
    exact ⟨rfl, b2⟩
  obtain ⟨hm0, hl0, hc0⟩ := hu2.le (by omega) rfl
  have hlt2 : ¬ u2 < 0 := hv2
  clear hv2 hu2
  have hkn0 : ¬ (1 : Int) + (cnt zss0 n0 : Int) < 0 := by omega
  go_wp2_with fail
  refine (toDeal A0 n0 c0 zss0 _ _ _ h0_2 hm0 hl0).mono ?_
  rintro e w3 ⟨g3, rfl, o3, c3⟩
  have h0_4 := h0_2.still c3
  have e0_5 := box_still e0_3 c3
  have b3 := Chg.above b2 c3 (by omega) (by omega)
  have t3 : w2.heap.size ≤ w3.heap.size := c3.size
  clear h0_2 e0_3 b2 c3
  go_wp2_with fail
  refine (spec_CanonicalDeal _ n0 n0 a1 zss0 _ _ _ o3.rd hl0).mono ?_
  rw [HRR.out]
  rintro e w4 ⟨W4, d4, rfl, _, q4, c4⟩
  clear o3
  have h0_6 := h0_4.still c4
  have e0_7 := box_still e0_5 c4
  have b4 := Chg.above b3 c4 (by omega) (by omega)
  have t4 : w3.heap.size ≤ w4.heap.size := c4.size
  clear h0_4 e0_5 b3 c4
  have x5 := box_at w4 (.slice W4 R.length d4) 36
  have a5 := Chg.of_alloc w4 (.cells #[.slice W4 R.length d4] 36) 0 0
  have h0_8 := h0_6.still a5
  have e0_9 := box_still e0_7 a5
  have W_10 := q4.still a5
  have b5 := Chg.above b4 a5 (by omega) (by omega)
  have t5 : w4.heap.size < (w4.alloc (.cells #[.slice W4 R.length d4] 36)).heap.size := by simp
  clear h0_6 e0_7 q4 b4 a5
  go_wp2_with fail
  generalize w4.alloc (.cells #[.slice W4 R.length d4] 36) = v5 at h0_8 e0_9 W_10 x5 b5 t5
  refine (toDeal A0 n0 c0 zss0 _ _ _ h0_8 hm0 hl0).mono ?_
  rintro e w6 ⟨g6, rfl, o6, c6⟩
  have h0_11 := h0_8.still c6
  have e0_12 := box_still e0_9 c6
  have W_13 := W_10.still c6
  have bW_14 := box_still x5 c6
  have b6 := Chg.above b5 c6 (by omega) (by omega)
  have t6 : v5.heap.size ≤ w6.heap.size := c6.size
  clear h0_8 e0_9 W_10 x5 b5 c6
  have x7 := box_at w6 (.slice (some ⟨g6, 0, none⟩) n0 n0) 36
  have a7 := Chg.of_alloc w6 (.cells #[.slice (some ⟨g6, 0, none⟩) n0 n0] 36) 0 0
  have h0_15 := h0_11.still a7
  have e0_16 := box_still e0_12 a7
  have W_17 := W_13.still a7
  have bW_18 := box_still bW_14 a7
  have x0_19 := o6.still a7
  have b7 := Chg.above b6 a7 (by omega) (by omega)
  have t7 : w6.heap.size < (w6.alloc (.cells #[.slice (some ⟨g6, 0, none⟩) n0 n0] 36)).heap.size := by simp
  clear h0_11 e0_12 W_13 bW_14 o6 b6 a7
  go_wp2_with fail
  generalize w6.alloc (.cells #[.slice (some ⟨g6, 0, none⟩) n0 n0] 36) = v7 at h0_15 e0_16 W_17 bW_18 x0_19 x7 b7 t7
  refine (impl_CanonicalDeal _ n0 n0 a1 zss0 _ _ _ x0_19.rd).mono ?_
  rw [HRR.out]
  rintro e w8 ⟨W8, d8, rfl, _, q8, c8⟩
  have h0_20 := h0_15.still c8
  have e0_21 := box_still e0_16 c8
  have W_22 := W_17.still c8
  have bW_23 := box_still bW_18 c8
  have x0_24 := x0_19.still c8
  have bx0_25 := box_still x7 c8
  have b8 := Chg.above b7 c8 (by omega) (by omega)
  have t8 : v7.heap.size ≤ w8.heap.size := c8.size
  clear h0_15 e0_16 W_17 bW_18 x0_19 x7 b7 c8
  have x9 := box_at w8 (.slice W8 R.length d8) 36
  have a9 := Chg.of_alloc w8 (.cells #[.slice W8 R.length d8] 36) 0 0
  have h0_26 := h0_20.still a9
  have e0_27 := box_still e0_21 a9
  have W_28 := W_22.still a9
  have bW_29 := box_still bW_23 a9
  have x0_30 := x0_24.still a9
  have bx0_31 := box_still bx0_25 a9
  have G_32 := q8.still a9
  have b9 := Chg.above b8 a9 (by omega) (by omega)
  have t9 : w8.heap.size < (w8.alloc (.cells #[.slice W8 R.length d8] 36)).heap.size := by simp
  clear h0_20 e0_21 W_22 bW_23 x0_24 bx0_25 q8 b8 a9
  go_wp2_with fail
  generalize w8.alloc (.cells #[.slice W8 R.length d8] 36) = v9 at h0_26 e0_27 W_28 bW_29 x0_30 bx0_31 G_32 x9 b9 t9
  refine (eqDeal _ _ R.length R.length _ _ R _ _ _ _ _ G_32.rd W_28.rd hRn hRl).mono ?_
  rintro e w10 ⟨rfl, c10⟩
  have h0_33 := h0_26.still c10
  have e0_34 := box_still e0_27 c10
  have W_35 := W_28.still c10
  have bW_36 := box_still bW_29 c10
  have x0_37 := x0_30.still c10
  have bx0_38 := box_still bx0_31 c10
  have G_39 := G_32.still c10
  have bG_40 := box_still x9 c10
  have b10 := Chg.above b9 c10 (by omega) (by omega)
  have t10 : v9.heap.size ≤ w10.heap.size := c10.size
  clear h0_26 e0_27 W_28 bW_29 x0_30 bx0_31 G_32 x9 b9 c10
  go_wp2_with fail
  go_region_with (first | (go_at_call 40; refine (toDeal A0 n0 c0 zss0 _ _ _ (h0_33.still (Chg.drewN w10 1 0 0)) hm0 hl0).mono ?_; rintro e w11 ⟨g11, rfl, o11, c11⟩; have d11 := (Chg.drewN w10 1 0 0).trans c11; have y11 := box_still bx0_38 d11; have p11 := x0_37.still d11) | (go_at_call 41; refine (eqDeal _ _ n0 n0 _ _ zss0 _ _ _ _ _ p11.rd o11.rd hm0 hl0).mono ?_; rintro e w12 ⟨rfl, c12⟩))
  all_goals
    have d12 := d11.trans c12
    clear c11 y11 p11 o11 d11 c12
    have h0_41 := h0_33.still d12
    have e0_42 := box_still e0_34 d12
    have W_43 := W_35.still d12
    have bW_44 := box_still bW_36 d12
    have x0_45 := x0_37.still d12
    have bx0_46 := box_still bx0_38 d12
    have G_47 := G_39.still d12
    have bG_48 := box_still bG_40 d12
    have b12 := Chg.above b10 d12 (by omega) (by omega)
    have t12 : w10.heap.size ≤ w12.heap.size := d12.size
    clear h0_33 e0_34 W_35 bW_36 x0_37 bx0_38 G_39 bG_40 b10 d12
    go_wp2_with fail
    refine (markDeal1 _ n0 _ zss0 _ _ _ x0_45 hm0 hc0).mono ?_
    rintro e w13 ⟨rfl, _, c13⟩
    clear x0_45
    clear bx0_46
    have h0_49 := h0_41.chg c13 (by omega)
    have e0_50 := cell_above e0_42 c13 (by dsimp only; omega)
    have W_51 := W_43.chg c13 (by omega)
    have bW_52 := cell_above bW_44 c13 (by dsimp only; omega)
    have G_53 := G_47.chg c13 (by omega)
    have bG_54 := cell_above bG_48 c13 (by dsimp only; omega)
    have b13 := Chg.above b12 c13 (by omega) (by omega)
    have t13 : w12.heap.size ≤ w13.heap.size := c13.size
    clear h0_41 e0_42 W_43 bW_44 G_47 bG_48 b12 c13
    go_wp2_with fail
    refine (eqDeal _ _ R.length R.length _ _ R _ _ _ _ _ G_53.rd W_51.rd hRn hRl).mono ?_
    rintro e w14 ⟨rfl, c14⟩
    have h0_55 := h0_49.still c14
    have e0_56 := box_still e0_50 c14
    have W_57 := W_51.still c14
    have bW_58 := box_still bW_52 c14
    have G_59 := G_53.still c14
    have bG_60 := box_still bG_54 c14
    have b14 := Chg.above b13 c14 (by omega) (by omega)
    have t14 : w13.heap.size ≤ w14.heap.size := c14.size
    clear h0_49 e0_50 W_51 bW_52 G_53 bG_54 b13 c14
    go_wp2_with fail
    refine (markDeal1 _ R.length _ R _ _ _ G_59 hRn hRc).mono ?_
    rintro e w15 ⟨rfl, m15, c15⟩
    clear G_59
    have h0_61 := h0_55.chg c15 (by omega)
    have e0_62 := cell_above e0_56 c15 (by dsimp only; omega)
    have W_63 := W_57.chg c15 (by omega)
    have bW_64 := cell_above bW_58 c15 (by dsimp only; omega)
    have bG_65 := cell_above bG_60 c15 (by dsimp only; omega)
    have b15 := Chg.above b14 c15 (by omega) (by omega)
    have t15 : w14.heap.size ≤ w15.heap.size := c15.size
    clear h0_55 e0_56 W_57 bW_58 bG_60 b14 c15
    go_wp2_with fail
    refine (heldDeal1 _ R.length _ R _ _ _ rfl m15.rd hRn hRc).mono ?_
    rintro e w16 ⟨rfl, c16⟩
    have h0_66 := h0_61.still c16
    have e0_67 := box_still e0_62 c16
    have W_68 := W_63.still c16
    have bW_69 := box_still bW_64 c16
    have bG_70 := box_still bG_65 c16
    have M_71 := m15.still c16
    have b16 := Chg.above b15 c16 (by omega) (by omega)
    have t16 : w15.heap.size ≤ w16.heap.size := c16.size
    clear h0_61 e0_62 W_63 bW_64 bG_65 m15 b15 c16
    go_wp2_with fail
    refine (toDeal A0 n0 c0 zss0 _ _ _ h0_66 hm0 hl0).mono ?_
    rintro e w17 ⟨g17, rfl, o17, c17⟩
    have h0_72 := h0_66.still c17
    have e0_73 := box_still e0_67 c17
    have W_74 := W_68.still c17
    have bW_75 := box_still bW_69 c17
    have bG_76 := box_still bG_70 c17
    have M_77 := M_71.still c17
    have b17 := Chg.above b16 c17 (by omega) (by omega)
    have t17 : w16.heap.size ≤ w17.heap.size := c17.size
    clear h0_66 e0_67 W_68 bW_69 bG_70 M_71 b16 c17
    go_wp2_with fail
    refine (impl_CanonicalDeal _ n0 n0 a1 zss0 _ _ _ o17.rd).mono ?_
    rw [HRR.out]
    rintro e w18 ⟨W18, d18, rfl, _, q18, c18⟩
    have h0_78 := h0_72.still c18
    have e0_79 := box_still e0_73 c18
    have W_80 := W_74.still c18
    have bW_81 := box_still bW_75 c18
    have bG_82 := box_still bG_76 c18
    have M_83 := M_77.still c18
    have y0_84 := o17.still c18
    have b18 := Chg.above b17 c18 (by omega) (by omega)
    have t18 : w17.heap.size ≤ w18.heap.size := c18.size
    clear h0_72 e0_73 W_74 bW_75 bG_76 M_77 o17 b17 c18
    have x19 := box_at w18 (.slice W18 R.length d18) 36
    have a19 := Chg.of_alloc w18 (.cells #[.slice W18 R.length d18] 36) 0 0
    have h0_85 := h0_78.still a19
    have e0_86 := box_still e0_79 a19
    have W_87 := W_80.still a19
    have bW_88 := box_still bW_81 a19
    have bG_89 := box_still bG_82 a19
    have M_90 := M_83.still a19
    have y0_91 := y0_84.still a19
    have K_92 := q18.still a19
    have b19 := Chg.above b18 a19 (by omega) (by omega)
    have t19 : w18.heap.size < (w18.alloc (.cells #[.slice W18 R.length d18] 36)).heap.size := by simp
    clear h0_78 e0_79 W_80 bW_81 bG_82 M_83 y0_84 q18 b18 a19
    go_wp2_with fail
    generalize w18.alloc (.cells #[.slice W18 R.length d18] 36) = v19 at h0_85 e0_86 W_87 bW_88 bG_89 M_90 y0_91 K_92 x19 b19 t19
    refine (eqDeal _ _ R.length R.length _ _ R _ _ _ _ _ K_92.rd W_87.rd hRn hRl).mono ?_
    rintro e w20 ⟨rfl, c20⟩
    have h0_93 := h0_85.still c20
    have e0_94 := box_still e0_86 c20
    have W_95 := W_87.still c20
    have bW_96 := box_still bW_88 c20
    have bG_97 := box_still bG_89 c20
    have M_98 := M_90.still c20
    have y0_99 := y0_91.still c20
    have K_100 := K_92.still c20
    have bK_101 := box_still x19 c20
    have b20 := Chg.above b19 c20 (by omega) (by omega)
    have t20 : v19.heap.size ≤ w20.heap.size := c20.size
    clear h0_85 e0_86 W_87 bW_88 bG_89 M_90 y0_91 K_92 x19 b19 c20
    go_wp2_with fail
    refine (heldDeal1 _ R.length _ R _ _ _ rfl M_98.rd hRn hRc).mono ?_
    rintro e w21 ⟨rfl, c21⟩
    have h0_102 := h0_93.still c21
    have e0_103 := box_still e0_94 c21
    have W_104 := W_95.still c21
    have bW_105 := box_still bW_96 c21
    have bG_106 := box_still bG_97 c21
    have M_107 := M_98.still c21
    have y0_108 := y0_99.still c21
    have K_109 := K_100.still c21
    have bK_110 := box_still bK_101 c21
    have b21 := Chg.above b20 c21 (by omega) (by omega)
    have t21 : w20.heap.size ≤ w21.heap.size := c21.size
    clear h0_93 e0_94 W_95 bW_96 bG_97 M_98 y0_99 K_100 bK_101 b20 c21
    go_wp2_with fail
    go_ret
    exact ⟨rfl, b21⟩

end Go.Proofs.Yteojdlacdnfgiaa.Lib1
