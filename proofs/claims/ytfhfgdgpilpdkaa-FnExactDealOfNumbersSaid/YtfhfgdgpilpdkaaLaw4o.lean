/- The exact law of DealOfNumbers. (Written by wip/gen4o.py.) -/
import Derived.Test.YtfhfgdgpilpdkaaDealS4
import Derived.Test.YtfhfgdgpilpdkaaLaw4
import Derived.Test.YtfhfgdgpilpdkaaLaw3d
namespace Go.Proofs.Ytfhfgdgpilpdkaa.Lib1
open Go.RowKit
set_option maxRecDepth 100000

theorem dealOf_rows (n : Nat) : ∀ (ms L : List Int) (R : List (List Int)), L.Nodup → L.length = n * (ms.length + 1) → dealOf n L ms = some R → R.length = ms.length + 1 ∧ ∀ r ∈ R, r.length = n
  | [], L, R, _, hl, h => by
    simp [dealOf] at h
    subst h
    simp at hl ⊢
    exact hl
  | m :: ms, L, R, nd, hl, h => by
    unfold dealOf at h
    split at h
    · rename_i hm
      obtain ⟨R', h1, h2⟩ := Option.map_eq_some_iff.1 h
      have hu := unrank_length L n m.toNat (by omega)
      have hr := restL_len nd (unrank_sub L n m.toNat)
      have ih := dealOf_rows n ms (restL L (unrankN L n m.toNat)) R' (nd.sublist (restL_sub _ _)) (by rw [List.length_cons, Nat.mul_succ] at hl; omega) h1
      subst h2
      refine ⟨by simp [ih.1], fun r hr' => ?_⟩
      rcases List.mem_cons.1 hr' with rfl | q
      · exact hu
      · exact ih.2 r q
    · cases h
theorem do_few (L M : List Int) : Few (doV L M) := by
  unfold doV
  split
  · rename_i h
    unfold doC at h
    split at h
    · rename_i hr
      split at h
      · rename_i hk
        split at h
        · rename_i hs
          obtain ⟨R, hR⟩ := Option.isSome_iff_exists.1 hs
          rw [hR]
          have hl := rising_len hr
          obtain ⟨e1, e2⟩ := dealOf_rows (L.length / 4) M L R (pair_nodup (rising_pair hr)) (by rw [hk.2]; omega) hR
          refine ⟨by show R.length ≤ 4; rw [e1, hk.2]; omega, fun j => ?_⟩
          show (R.getD j []).length ≤ 13
          by_cases hj : j < R.length
          · rw [getD_row hj, e2 _ (List.getElem_mem _)]; omega
          · rw [List.getD_eq_getElem?_getD, List.getElem?_eq_none (by omega)]; simp
        · omega
      · omega
    · omega
  · exact few_nil

set_option maxHeartbeats 8000000 in
theorem law_DealOfNumbers (A0 : Option Addr) (n0 c0 : Nat) (zs0 : List Int) (A1 : Option Addr) (n1 c1 : Nat) (zs1 : List Int) (w : World) (h0 : Rd w 0 w.heap.size A0 n0 zs0) (h1 : Rd w 0 w.heap.size A1 n1 zs1) :
    Calls Try.prog 15 #[.slice A0 n0 c0, .slice A1 n1 c1] w fun e w' => e = .returned (.bool true) ∧ Below w.heap.size w w' := by
  by_cases hn0 : 1048576 < n0
  · have hb0 : (1048576 : Int) < (n0 : Int) := by omega
    go_enter Try.func15, Try.ntmps15
    go_wp2
    go_ret
    exact ⟨rfl, Below.refl _ _⟩
  have hb0 : ¬ (1048576 : Int) < (n0 : Int) := by omega
  have hm0 : n0 ≤ 1048576 := by omega
  by_cases hn1 : 1048576 < n1
  · have hb1 : (1048576 : Int) < (n1 : Int) := by omega
    go_enter Try.func15, Try.ntmps15
    go_wp2
    go_ret
    exact ⟨rfl, Below.refl _ _⟩
  have hb1 : ¬ (1048576 : Int) < (n1 : Int) := by omega
  have hm1 : n1 ≤ 1048576 := by omega
  clear hn0 hn1
  have bl := Below.refl w.heap.size w
  have few := do_few zs0 zs1
  generalize hRR : doV zs0 zs1 = R at few
  have HRR := Lib.hid hRR
  generalize hCC : doC zs0 zs1 = CC
  have HCC := Lib.hid hCC
  clear hRR hCC
  have hRc : 1 + cnt R R.length ≤ 1048576 := by have := few.cnt R.length; have := few.1; omega
  have hRn : R.length ≤ 1048576 := by have := few.1; omega
  have hRl : ∀ j, j < R.length → (R.getD j []).length ≤ 1048576 := fun j _ => by have := few.2 j; omega
  have hcp : ¬ (1 : Int) + (cnt R R.length : Int) < 0 := by omega
  clear few
  go_enter Try.func15, Try.ntmps15
  go_wp2_with fail
  refine (toInt64S A0 n0 c0 zs0 _ _ _ h0 hm0).mono ?_
  rintro e w1 ⟨rfl, o1, c1⟩
  have h0_1 := h0.still c1
  have h1_2 := h1.still c1
  have b1 := Chg.above bl c1 (by omega) (by omega)
  have t1 : w.heap.size ≤ w1.heap.size := c1.size
  clear h0 h1 c1
  go_wp2_with fail
  refine (toInt64S A1 n1 c1 zs1 _ _ _ h1_2 hm1).mono ?_
  rintro e w2 ⟨rfl, o2, c2⟩
  have h0_3 := h0_1.still c2
  have h1_4 := h1_2.still c2
  have s0_5 := o1.still c2
  have b2 := Chg.above b1 c2 (by omega) (by omega)
  have t2 : w1.heap.size ≤ w2.heap.size := c2.size
  clear h0_1 h1_2 o1 b1 c2
  go_wp2_with fail
  refine (spec_DealOfNumbers _ _ n0 n0 n1 n1 zs0 zs1 _ _ _ _ _ s0_5.rd (Plain.at_ _ _ _).nil o2.rd hm0 hm1).mono ?_
  rw [HRR.out, HCC.out]
  rintro e w3 ⟨W3, d3, rfl, _, q3, c3⟩
  clear s0_5
  clear o2
  have h0_6 := h0_3.still c3
  have h1_7 := h1_4.still c3
  have b3 := Chg.above b2 c3 (by omega) (by omega)
  have t3 : w2.heap.size ≤ w3.heap.size := c3.size
  clear h0_3 h1_4 b2 c3
  have x3 := box_at w3 (.slice W3 R.length d3) 26
  have a3 := Chg.of_alloc w3 (.cells #[.slice W3 R.length d3] 26) 0 0
  have h0_8 := h0_6.still a3
  have h1_9 := h1_7.still a3
  have W_10 := q3.still a3
  have bb3 := Chg.above b3 a3 (by omega) (by omega)
  have tt3 : w3.heap.size < (w3.alloc (.cells #[.slice W3 R.length d3] 26)).heap.size := by simp
  clear h0_6 h1_7 q3 b3 a3
  go_wp2_with fail
  generalize w3.alloc (.cells #[.slice W3 R.length d3] 26) = v3 at h0_8 h1_9 W_10 x3 bb3 tt3
  refine (toInt64S A0 n0 c0 zs0 _ _ _ h0_8 hm0).mono ?_
  rintro e w4 ⟨rfl, o4, c4⟩
  have h0_11 := h0_8.still c4
  have h1_12 := h1_9.still c4
  have W_13 := W_10.still c4
  have bW_14 := box_still x3 c4
  have b4 := Chg.above bb3 c4 (by omega) (by omega)
  have t4 : v3.heap.size ≤ w4.heap.size := c4.size
  clear h0_8 h1_9 W_10 x3 bb3 c4
  go_wp2_with fail
  refine (toInt64S A1 n1 c1 zs1 _ _ _ h1_12 hm1).mono ?_
  rintro e w5 ⟨rfl, o5, c5⟩
  have h0_15 := h0_11.still c5
  have h1_16 := h1_12.still c5
  have W_17 := W_13.still c5
  have bW_18 := box_still bW_14 c5
  have x0_19 := o4.still c5
  have b5 := Chg.above b4 c5 (by omega) (by omega)
  have t5 : w4.heap.size ≤ w5.heap.size := c5.size
  clear h0_11 h1_12 W_13 bW_14 o4 b4 c5
  go_wp2_with fail
  refine (impl_DealOfNumbers _ _ n0 n0 n1 n1 zs0 zs1 _ _ _ _ (x0_19.more (Nat.le_refl _) (by omega)) (Plain.at_ _ _ _).nil o5.rd hm0 hm1).mono ?_
  rw [HRR.out, HCC.out]
  rintro e w6 ⟨W6, d6, rfl, _, q6, c6⟩
  have h0_20 := h0_15.still c6
  have h1_21 := h1_16.still c6
  have W_22 := W_17.still c6
  have bW_23 := box_still bW_18 c6
  have x0_24 := x0_19.still c6
  have x1_25 := o5.still c6
  have b6 := Chg.above b5 c6 (by omega) (by omega)
  have t6 : w5.heap.size ≤ w6.heap.size := c6.size
  clear h0_15 h1_16 W_17 bW_18 x0_19 o5 b5 c6
  have x6 := box_at w6 (.slice W6 R.length d6) 26
  have a6 := Chg.of_alloc w6 (.cells #[.slice W6 R.length d6] 26) 0 0
  have h0_26 := h0_20.still a6
  have h1_27 := h1_21.still a6
  have W_28 := W_22.still a6
  have bW_29 := box_still bW_23 a6
  have x0_30 := x0_24.still a6
  have x1_31 := x1_25.still a6
  have G_32 := q6.still a6
  have bb6 := Chg.above b6 a6 (by omega) (by omega)
  have tt6 : w6.heap.size < (w6.alloc (.cells #[.slice W6 R.length d6] 26)).heap.size := by simp
  clear h0_20 h1_21 W_22 bW_23 x0_24 x1_25 q6 b6 a6
  go_wp2_with fail
  generalize w6.alloc (.cells #[.slice W6 R.length d6] 26) = v6 at h0_26 h1_27 W_28 bW_29 x0_30 x1_31 G_32 x6 bb6 tt6
  refine (eqDeal _ _ R.length R.length _ _ R _ _ _ _ _ G_32.rd W_28.rd hRn hRl).mono ?_
  rintro e w7 ⟨rfl, c7⟩
  have h0_33 := h0_26.still c7
  have h1_34 := h1_27.still c7
  have W_35 := W_28.still c7
  have bW_36 := box_still bW_29 c7
  have x0_37 := x0_30.still c7
  have x1_38 := x1_31.still c7
  have G_39 := G_32.still c7
  have bG_40 := box_still x6 c7
  have b7 := Chg.above bb6 c7 (by omega) (by omega)
  have t7 : v6.heap.size ≤ w7.heap.size := c7.size
  clear h0_26 h1_27 W_28 bW_29 x0_30 x1_31 G_32 x6 bb6 c7
  go_wp2_with fail
  refine (toInt64S A0 n0 c0 zs0 _ _ _ h0_33 hm0).mono ?_
  rintro e w8 ⟨rfl, o8, c8⟩
  have h0_41 := h0_33.still c8
  have h1_42 := h1_34.still c8
  have W_43 := W_35.still c8
  have bW_44 := box_still bW_36 c8
  have x0_45 := x0_37.still c8
  have x1_46 := x1_38.still c8
  have G_47 := G_39.still c8
  have bG_48 := box_still bG_40 c8
  have b8 := Chg.above b7 c8 (by omega) (by omega)
  have t8 : w7.heap.size ≤ w8.heap.size := c8.size
  clear h0_33 h1_34 W_35 bW_36 x0_37 x1_38 G_39 bG_40 b7 c8
  go_wp2_with fail
  refine (eqInt64S _ _ n0 n0 n0 n0 zs0 _ _ _ _ _ x0_45.rd o8.rd hm0).mono ?_
  rintro e w9 ⟨rfl, c9⟩
  have h0_49 := h0_41.still c9
  have h1_50 := h1_42.still c9
  have W_51 := W_43.still c9
  have bW_52 := box_still bW_44 c9
  have x0_53 := x0_45.still c9
  have x1_54 := x1_46.still c9
  have G_55 := G_47.still c9
  have bG_56 := box_still bG_48 c9
  have b9 := Chg.above b8 c9 (by omega) (by omega)
  have t9 : w8.heap.size ≤ w9.heap.size := c9.size
  clear h0_41 h1_42 W_43 bW_44 x0_45 x1_46 G_47 bG_48 b8 c9
  go_wp2_with fail
  refine (toInt64S A1 n1 c1 zs1 _ _ _ h1_50 hm1).mono ?_
  rintro e w10 ⟨rfl, o10, c10⟩
  have h0_57 := h0_49.still c10
  have h1_58 := h1_50.still c10
  have W_59 := W_51.still c10
  have bW_60 := box_still bW_52 c10
  have x0_61 := x0_53.still c10
  have x1_62 := x1_54.still c10
  have G_63 := G_55.still c10
  have bG_64 := box_still bG_56 c10
  have b10 := Chg.above b9 c10 (by omega) (by omega)
  have t10 : w9.heap.size ≤ w10.heap.size := c10.size
  clear h0_49 h1_50 W_51 bW_52 x0_53 x1_54 G_55 bG_56 b9 c10
  go_wp2_with fail
  refine (eqInt64S _ _ n1 n1 n1 n1 zs1 _ _ _ _ _ x1_62.rd o10.rd hm1).mono ?_
  rintro e w11 ⟨rfl, c11⟩
  have h0_65 := h0_57.still c11
  have h1_66 := h1_58.still c11
  have W_67 := W_59.still c11
  have bW_68 := box_still bW_60 c11
  have x0_69 := x0_61.still c11
  have x1_70 := x1_62.still c11
  have G_71 := G_63.still c11
  have bG_72 := box_still bG_64 c11
  have b11 := Chg.above b10 c11 (by omega) (by omega)
  have t11 : w10.heap.size ≤ w11.heap.size := c11.size
  clear h0_57 h1_58 W_59 bW_60 x0_61 x1_62 G_63 bG_64 b10 c11
  go_wp2_with fail
  refine (mark1 _ n0 n0 zs0 _ _ _ x0_69 hm0).mono ?_
  rintro e w12 ⟨rfl, _, c12, z12⟩
  clear x0_69
  have h0_73 := h0_65.chg c12 (by omega)
  have h1_74 := h1_66.chg c12 (by omega)
  have W_75 := W_67.chg c12 (by omega)
  have bW_76 := cell_above bW_68 c12 (by dsimp only; omega)
  have x1_77 := x1_70.chg c12 (by omega)
  have G_78 := G_71.chg c12 (by omega)
  have bG_79 := cell_above bG_72 c12 (by dsimp only; omega)
  have b12 := Chg.above b11 c12 (by omega) (by omega)
  have t12 : w11.heap.size ≤ w12.heap.size := c12.size
  clear h0_65 h1_66 W_67 bW_68 x1_70 G_71 bG_72 b11 c12
  clear z12
  go_wp2_with fail
  refine (markK _ n1 n1 _ zs1 _ _ _ x1_77 hm1 (by omega) (by omega)).mono ?_
  rintro e w13 ⟨rfl, _, c13, z13⟩
  clear x1_77
  have h0_80 := h0_73.chg c13 (by omega)
  have h1_81 := h1_74.chg c13 (by omega)
  have W_82 := W_75.chg c13 (by omega)
  have bW_83 := cell_above bW_76 c13 (by dsimp only; omega)
  have G_84 := G_78.chg c13 (by omega)
  have bG_85 := cell_above bG_79 c13 (by dsimp only; omega)
  have b13 := Chg.above b12 c13 (by omega) (by omega)
  have t13 : w12.heap.size ≤ w13.heap.size := c13.size
  clear h0_73 h1_74 W_75 bW_76 G_78 bG_79 b12 c13
  clear z13
  go_wp2_with fail
  refine (eqDeal _ _ R.length R.length _ _ R _ _ _ _ _ G_84.rd W_82.rd hRn hRl).mono ?_
  rintro e w14 ⟨rfl, c14⟩
  have h0_86 := h0_80.still c14
  have h1_87 := h1_81.still c14
  have W_88 := W_82.still c14
  have bW_89 := box_still bW_83 c14
  have G_90 := G_84.still c14
  have bG_91 := box_still bG_85 c14
  have b14 := Chg.above b13 c14 (by omega) (by omega)
  have t14 : w13.heap.size ≤ w14.heap.size := c14.size
  clear h0_80 h1_81 W_82 bW_83 G_84 bG_85 b13 c14
  go_wp2_with fail
  refine (markDeal1 _ R.length _ R _ _ _ G_90 hRn hRc).mono ?_
  rintro e w15 ⟨rfl, m15, c15⟩
  clear G_90
  have h0_92 := h0_86.chg c15 (by omega)
  have h1_93 := h1_87.chg c15 (by omega)
  have W_94 := W_88.chg c15 (by omega)
  have bW_95 := cell_above bW_89 c15 (by dsimp only; omega)
  have bG_96 := cell_above bG_91 c15 (by dsimp only; omega)
  have b15 := Chg.above b14 c15 (by omega) (by omega)
  have t15 : w14.heap.size ≤ w15.heap.size := c15.size
  clear h0_86 h1_87 W_88 bW_89 bG_91 b14 c15
  go_wp2_with fail
  refine (heldDeal1 _ R.length _ R _ _ _ rfl m15.rd hRn hRc).mono ?_
  rintro e w16 ⟨rfl, c16⟩
  have h0_97 := h0_92.still c16
  have h1_98 := h1_93.still c16
  have W_99 := W_94.still c16
  have bW_100 := box_still bW_95 c16
  have bG_101 := box_still bG_96 c16
  have M_102 := m15.still c16
  have b16 := Chg.above b15 c16 (by omega) (by omega)
  have t16 : w15.heap.size ≤ w16.heap.size := c16.size
  clear h0_92 h1_93 W_94 bW_95 bG_96 m15 b15 c16
  go_wp2_with fail
  refine (toInt64S A0 n0 c0 zs0 _ _ _ h0_97 hm0).mono ?_
  rintro e w17 ⟨rfl, o17, c17⟩
  have h0_103 := h0_97.still c17
  have h1_104 := h1_98.still c17
  have W_105 := W_99.still c17
  have bW_106 := box_still bW_100 c17
  have bG_107 := box_still bG_101 c17
  have M_108 := M_102.still c17
  have b17 := Chg.above b16 c17 (by omega) (by omega)
  have t17 : w16.heap.size ≤ w17.heap.size := c17.size
  clear h0_97 h1_98 W_99 bW_100 bG_101 M_102 b16 c17
  go_wp2_with fail
  refine (toInt64S A1 n1 c1 zs1 _ _ _ h1_104 hm1).mono ?_
  rintro e w18 ⟨rfl, o18, c18⟩
  have h0_109 := h0_103.still c18
  have h1_110 := h1_104.still c18
  have W_111 := W_105.still c18
  have bW_112 := box_still bW_106 c18
  have bG_113 := box_still bG_107 c18
  have M_114 := M_108.still c18
  have y0_115 := o17.still c18
  have b18 := Chg.above b17 c18 (by omega) (by omega)
  have t18 : w17.heap.size ≤ w18.heap.size := c18.size
  clear h0_103 h1_104 W_105 bW_106 bG_107 M_108 o17 b17 c18
  go_wp2_with fail
  refine (impl_DealOfNumbers _ _ n0 n0 n1 n1 zs0 zs1 _ _ _ _ (y0_115.more (Nat.le_refl _) (by omega)) (Plain.at_ _ _ _).nil o18.rd hm0 hm1).mono ?_
  rw [HRR.out, HCC.out]
  rintro e w19 ⟨W19, d19, rfl, _, q19, c19⟩
  have h0_116 := h0_109.still c19
  have h1_117 := h1_110.still c19
  have W_118 := W_111.still c19
  have bW_119 := box_still bW_112 c19
  have bG_120 := box_still bG_113 c19
  have M_121 := M_114.still c19
  have y0_122 := y0_115.still c19
  have y1_123 := o18.still c19
  have b19 := Chg.above b18 c19 (by omega) (by omega)
  have t19 : w18.heap.size ≤ w19.heap.size := c19.size
  clear h0_109 h1_110 W_111 bW_112 bG_113 M_114 y0_115 o18 b18 c19
  have x19 := box_at w19 (.slice W19 R.length d19) 26
  have a19 := Chg.of_alloc w19 (.cells #[.slice W19 R.length d19] 26) 0 0
  have h0_124 := h0_116.still a19
  have h1_125 := h1_117.still a19
  have W_126 := W_118.still a19
  have bW_127 := box_still bW_119 a19
  have bG_128 := box_still bG_120 a19
  have M_129 := M_121.still a19
  have y0_130 := y0_122.still a19
  have y1_131 := y1_123.still a19
  have K_132 := q19.still a19
  have bb19 := Chg.above b19 a19 (by omega) (by omega)
  have tt19 : w19.heap.size < (w19.alloc (.cells #[.slice W19 R.length d19] 26)).heap.size := by simp
  clear h0_116 h1_117 W_118 bW_119 bG_120 M_121 y0_122 y1_123 q19 b19 a19
  go_wp2_with fail
  generalize w19.alloc (.cells #[.slice W19 R.length d19] 26) = v19 at h0_124 h1_125 W_126 bW_127 bG_128 M_129 y0_130 y1_131 K_132 x19 bb19 tt19
  refine (eqDeal _ _ R.length R.length _ _ R _ _ _ _ _ K_132.rd W_126.rd hRn hRl).mono ?_
  rintro e w20 ⟨rfl, c20⟩
  have h0_133 := h0_124.still c20
  have h1_134 := h1_125.still c20
  have W_135 := W_126.still c20
  have bW_136 := box_still bW_127 c20
  have bG_137 := box_still bG_128 c20
  have M_138 := M_129.still c20
  have y0_139 := y0_130.still c20
  have y1_140 := y1_131.still c20
  have K_141 := K_132.still c20
  have bK_142 := box_still x19 c20
  have b20 := Chg.above bb19 c20 (by omega) (by omega)
  have t20 : v19.heap.size ≤ w20.heap.size := c20.size
  clear h0_124 h1_125 W_126 bW_127 bG_128 M_129 y0_130 y1_131 K_132 x19 bb19 c20
  go_wp2_with fail
  refine (heldDeal1 _ R.length _ R _ _ _ rfl M_138.rd hRn hRc).mono ?_
  rintro e w21 ⟨rfl, c21⟩
  have h0_143 := h0_133.still c21
  have h1_144 := h1_134.still c21
  have W_145 := W_135.still c21
  have bW_146 := box_still bW_136 c21
  have bG_147 := box_still bG_137 c21
  have M_148 := M_138.still c21
  have y0_149 := y0_139.still c21
  have y1_150 := y1_140.still c21
  have K_151 := K_141.still c21
  have bK_152 := box_still bK_142 c21
  have b21 := Chg.above b20 c21 (by omega) (by omega)
  have t21 : w20.heap.size ≤ w21.heap.size := c21.size
  clear h0_133 h1_134 W_135 bW_136 bG_137 M_138 y0_139 y1_140 K_141 bK_142 b20 c21
  go_wp2_with fail
  go_ret
  exact ⟨rfl, b21⟩
end Go.Proofs.Ytfhfgdgpilpdkaa.Lib1
