/- Chapter 7: the exact law ReadAuction. (Written by wip/gen7y7.py.) -/
import Derived.Test.YtnkbcmkngghnoaaDoorExA7
import Derived.Test.YtnkbcmkngghnoaaDoorImR7
namespace Go.Proofs.YtnkbcmkngghnoaaDoor.Lib1
open Go.RowKit
set_option maxRecDepth 100000

theorem len_read (s : ByteArray) : (rdA s).2.1.length ≤ 1048576 := by
  rcases rdA_cases s with ⟨d, cs, h1, _, h3⟩ | ⟨_, h3⟩
  · rw [h3]
    have := valid_319 (aucB_iff.1 h1).2
    show cs.length ≤ _
    omega
  · rw [h3]; simp
set_option maxHeartbeats 8000000 in
theorem law_ReadAuction7 (s : ByteArray) (w : World) (hE : EnvR w) :
    Calls Tryd.prog 6 #[.string s] w fun e w' => e = .returned (.bool true) ∧ Below w.heap.size w w' := by
  by_cases hn : 1048576 < s.size
  · have hb : (1048576 : Int) < (s.size : Int) := by omega
    go_enter Tryd.func6, Tryd.ntmps6
    go_wp2
    go_ret
    exact ⟨rfl, Below.refl _ _⟩
  have hm : s.size ≤ 1048576 := by omega
  have hb : ¬ (1048576 : Int) < (s.size : Int) := by omega
  have HE := Lib.hid hE
  have hRn := len_read s
  generalize hRR : (rdA s).2.1 = R at hRn
  have HRR := Lib.hid hRR
  clear hRR
  obtain ⟨D, hD⟩ : ∃ D, D = (rdA s).1 := ⟨_, rfl⟩
  have HD := Lib.hid hD
  obtain ⟨K, hK⟩ : ∃ K, K = (rdA s).2.2 := ⟨_, rfl⟩
  have HK := Lib.hid hK
  clear hD hK hE
  have hKK : (K == K) = true := by simp
  have hneg : ¬ (1 : Int) + (R.length : Int) < 0 := by omega
  have bl := Below.refl w.heap.size w
  go_enter Tryd.func6, Tryd.ntmps6
  go_wp2_with fail
  refine (spec_ReadAuction s _ hm).mono ?_
  rw [HRR.out, ← HD.out, ← HK.out]
  unfold RetAB
  rintro e w1 ⟨u1, rfl, q1, r1⟩
  obtain ⟨G1, e1, rfl, _, _, j1⟩ := q1.form
  have c1 := Chg.of_below r1 0 0
  clear q1 r1
  have b1 := Chg.above bl c1 (by omega) (by omega)
  have t1 : w.heap.size ≤ w1.heap.size := c1.size
  clear bl c1
  have x2 := SBox.row w1 26 #[.int .i64 0, .slice none 0 0] #[.int .i64 D, .slice G1 R.length e1]
  have a2 := chg_row w1 26 #[.int .i64 0, .slice none 0 0] #[.int .i64 D, .slice G1 R.length e1]
  have z2 : w1.heap.size < ((w1.alloc (.cells #[.int .i64 0, .slice none 0 0] 26)).setRow w1.heap.size #[.int .i64 D, .slice G1 R.length e1]).heap.size := by rw [row_size]; omega
  have W_2 := j1.still a2
  have b3 := Chg.above b1 a2 (by omega) (by omega)
  clear j1 b1 a2
  go_wp2_with (first | (refine wpList_store_row rfl 26 _ _ rfl w1.heap.size #[.int .i64 D, .slice G1 R.length e1] rfl rfl 26 #[.int .i64 0, .slice none 0 0] (heap_alloc_new _ _) (auc_info _ _ _ _) rfl (auc_cells _ _ _ _) ?_; generalize (w1.alloc (.cells #[.int .i64 0, .slice none 0 0] 26)).setRow w1.heap.size #[.int .i64 D, .slice G1 R.length e1] = v2 at W_2 x2 b3 z2 ⊢) | (refine wpList_load_row rfl 26 _ rfl w1.heap.size rfl 26 #[.int .i64 D, .slice G1 R.length e1] (0, 0) _ x2 Tryd.underlying26 rfl (auc_info _ _ _ _) ?_))
  refine (impl_ReadAuction s _ hm (HE.out.below b3)).mono ?_
  rw [HRR.out, ← HD.out, ← HK.out]
  unfold RetAB
  rintro e w3 ⟨u3, rfl, q3, r3⟩
  obtain ⟨G3, e3, rfl, _, _, j3⟩ := q3.form
  have c3 := Chg.of_below r3 0 0
  clear q3 r3
  have W_4 := W_2.still c3
  have bW_5 := x2.still c3
  have b6 := Chg.above b3 c3 (by omega) (by omega)
  have t6 : v2.heap.size ≤ w3.heap.size := c3.size
  clear W_2 x2 b3 c3
  have x4 := SBox.row w3 26 #[.int .i64 0, .slice none 0 0] #[.int .i64 D, .slice G3 R.length e3]
  have a4 := chg_row w3 26 #[.int .i64 0, .slice none 0 0] #[.int .i64 D, .slice G3 R.length e3]
  have z4 : w3.heap.size < ((w3.alloc (.cells #[.int .i64 0, .slice none 0 0] 26)).setRow w3.heap.size #[.int .i64 D, .slice G3 R.length e3]).heap.size := by rw [row_size]; omega
  have W_7 := W_4.still a4
  have bW_8 := bW_5.still a4
  have G_9 := j3.still a4
  have b10 := Chg.above b6 a4 (by omega) (by omega)
  clear W_4 bW_5 j3 b6 a4
  go_wp2_with (first | (refine wpList_store_row rfl 26 _ _ rfl w3.heap.size #[.int .i64 D, .slice G3 R.length e3] rfl rfl 26 #[.int .i64 0, .slice none 0 0] (heap_alloc_new _ _) (auc_info _ _ _ _) rfl (auc_cells _ _ _ _) ?_; generalize (w3.alloc (.cells #[.int .i64 0, .slice none 0 0] 26)).setRow w3.heap.size #[.int .i64 D, .slice G3 R.length e3] = v4 at W_7 bW_8 G_9 x4 b10 z4 ⊢) | (refine wpList_load_row rfl 26 _ rfl w1.heap.size rfl 26 #[.int .i64 D, .slice G1 R.length e1] (0, 0) _ bW_8 Tryd.underlying26 rfl (auc_info _ _ _ _) ?_) | (refine wpList_load_row rfl 26 _ rfl w3.heap.size rfl 26 #[.int .i64 D, .slice G3 R.length e3] (0, 0) _ x4 Tryd.underlying26 rfl (auc_info _ _ _ _) ?_))
  refine (eqAuction _ _ _ R.length R.length _ _ R _ _ _ _ _ G_9.rd W_7.rd hRn).mono ?_
  rintro e w5 ⟨rfl, c5⟩
  have W_11 := W_7.still c5
  have bW_12 := bW_8.still c5
  have G_13 := G_9.still c5
  have bG_14 := x4.still c5
  have b15 := Chg.above b10 c5 (by omega) (by omega)
  have t15 : v4.heap.size ≤ w5.heap.size := c5.size
  clear W_7 bW_8 G_9 x4 b10 c5
  go_wp2_with (first | (refine wpList_load_row rfl 26 _ rfl w1.heap.size rfl 26 #[.int .i64 D, .slice G1 R.length e1] (0, 0) _ bW_12 Tryd.underlying26 rfl (auc_info _ _ _ _) ?_) | (refine wpList_load_row rfl 26 _ rfl w3.heap.size rfl 26 #[.int .i64 D, .slice G3 R.length e3] (0, 0) _ bG_14 Tryd.underlying26 rfl (auc_info _ _ _ _) ?_))
  refine (markAuction _ _ R.length _ R _ _ _ G_13 hRn).mono ?_
  rintro e w6 ⟨rfl, m6, c6⟩
  clear G_13
  have W_16 := W_11.chg c6 (by omega)
  have bW_17 := bW_12.chg c6 (by omega)
  have bG_18 := bG_14.chg c6 (by omega)
  have b19 := Chg.above b15 c6 (by omega) (by omega)
  have t19 : w5.heap.size ≤ w6.heap.size := c6.size
  clear W_11 bW_12 bG_14 b15 c6
  go_wp2_with (first | (refine wpList_load_row rfl 26 _ rfl w1.heap.size rfl 26 #[.int .i64 D, .slice G1 R.length e1] (0, 0) _ bW_17 Tryd.underlying26 rfl (auc_info _ _ _ _) ?_) | (refine wpList_load_row rfl 26 _ rfl w3.heap.size rfl 26 #[.int .i64 D, .slice G3 R.length e3] (0, 0) _ bG_18 Tryd.underlying26 rfl (auc_info _ _ _ _) ?_))
  refine (heldAuction _ _ R.length _ _ _ _ m6.rd hRn).mono ?_
  rintro e w7 ⟨rfl, c7⟩
  have W_20 := W_16.still c7
  have bW_21 := bW_17.still c7
  have bG_22 := bG_18.still c7
  have M_23 := m6.still c7
  have b24 := Chg.above b19 c7 (by omega) (by omega)
  have t24 : w6.heap.size ≤ w7.heap.size := c7.size
  clear W_16 bW_17 bG_18 m6 b19 c7
  go_wp2_with (first | (refine wpList_load_row rfl 26 _ rfl w1.heap.size rfl 26 #[.int .i64 D, .slice G1 R.length e1] (0, 0) _ bW_21 Tryd.underlying26 rfl (auc_info _ _ _ _) ?_) | (refine wpList_load_row rfl 26 _ rfl w3.heap.size rfl 26 #[.int .i64 D, .slice G3 R.length e3] (0, 0) _ bG_22 Tryd.underlying26 rfl (auc_info _ _ _ _) ?_))
  refine (impl_ReadAuction s _ hm (HE.out.below b24)).mono ?_
  rw [HRR.out, ← HD.out, ← HK.out]
  unfold RetAB
  rintro e w8 ⟨u8, rfl, q8, r8⟩
  obtain ⟨G8, e8, rfl, _, _, j8⟩ := q8.form
  have c8 := Chg.of_below r8 0 0
  clear q8 r8
  have W_25 := W_20.still c8
  have bW_26 := bW_21.still c8
  have bG_27 := bG_22.still c8
  have M_28 := M_23.still c8
  have b29 := Chg.above b24 c8 (by omega) (by omega)
  have t29 : w7.heap.size ≤ w8.heap.size := c8.size
  clear W_20 bW_21 bG_22 M_23 b24 c8
  have x9 := SBox.row w8 26 #[.int .i64 0, .slice none 0 0] #[.int .i64 D, .slice G8 R.length e8]
  have a9 := chg_row w8 26 #[.int .i64 0, .slice none 0 0] #[.int .i64 D, .slice G8 R.length e8]
  have z9 : w8.heap.size < ((w8.alloc (.cells #[.int .i64 0, .slice none 0 0] 26)).setRow w8.heap.size #[.int .i64 D, .slice G8 R.length e8]).heap.size := by rw [row_size]; omega
  have W_30 := W_25.still a9
  have bW_31 := bW_26.still a9
  have bG_32 := bG_27.still a9
  have M_33 := M_28.still a9
  have K_34 := j8.still a9
  have b35 := Chg.above b29 a9 (by omega) (by omega)
  clear W_25 bW_26 bG_27 M_28 j8 b29 a9
  go_wp2_with (first | (refine wpList_store_row rfl 26 _ _ rfl w8.heap.size #[.int .i64 D, .slice G8 R.length e8] rfl rfl 26 #[.int .i64 0, .slice none 0 0] (heap_alloc_new _ _) (auc_info _ _ _ _) rfl (auc_cells _ _ _ _) ?_; generalize (w8.alloc (.cells #[.int .i64 0, .slice none 0 0] 26)).setRow w8.heap.size #[.int .i64 D, .slice G8 R.length e8] = v9 at W_30 bW_31 bG_32 M_33 K_34 x9 b35 z9 ⊢) | (refine wpList_load_row rfl 26 _ rfl w1.heap.size rfl 26 #[.int .i64 D, .slice G1 R.length e1] (0, 0) _ bW_31 Tryd.underlying26 rfl (auc_info _ _ _ _) ?_) | (refine wpList_load_row rfl 26 _ rfl w3.heap.size rfl 26 #[.int .i64 D, .slice G3 R.length e3] (0, 0) _ bG_32 Tryd.underlying26 rfl (auc_info _ _ _ _) ?_) | (refine wpList_load_row rfl 26 _ rfl w8.heap.size rfl 26 #[.int .i64 D, .slice G8 R.length e8] (0, 0) _ x9 Tryd.underlying26 rfl (auc_info _ _ _ _) ?_))
  refine (eqAuction _ _ _ R.length R.length _ _ R _ _ _ _ _ K_34.rd W_30.rd hRn).mono ?_
  rintro e w10 ⟨rfl, c10⟩
  have W_36 := W_30.still c10
  have bW_37 := bW_31.still c10
  have bG_38 := bG_32.still c10
  have M_39 := M_33.still c10
  have K_40 := K_34.still c10
  have bK_41 := x9.still c10
  have b42 := Chg.above b35 c10 (by omega) (by omega)
  have t42 : v9.heap.size ≤ w10.heap.size := c10.size
  clear W_30 bW_31 bG_32 M_33 K_34 x9 b35 c10
  go_wp2_with (first | (refine wpList_load_row rfl 26 _ rfl w1.heap.size rfl 26 #[.int .i64 D, .slice G1 R.length e1] (0, 0) _ bW_37 Tryd.underlying26 rfl (auc_info _ _ _ _) ?_) | (refine wpList_load_row rfl 26 _ rfl w3.heap.size rfl 26 #[.int .i64 D, .slice G3 R.length e3] (0, 0) _ bG_38 Tryd.underlying26 rfl (auc_info _ _ _ _) ?_) | (refine wpList_load_row rfl 26 _ rfl w8.heap.size rfl 26 #[.int .i64 D, .slice G8 R.length e8] (0, 0) _ bK_41 Tryd.underlying26 rfl (auc_info _ _ _ _) ?_))
  refine (heldAuction _ _ R.length _ _ _ _ M_39.rd hRn).mono ?_
  rintro e w11 ⟨rfl, c11⟩
  have W_43 := W_36.still c11
  have bW_44 := bW_37.still c11
  have bG_45 := bG_38.still c11
  have M_46 := M_39.still c11
  have K_47 := K_40.still c11
  have bK_48 := bK_41.still c11
  have b49 := Chg.above b42 c11 (by omega) (by omega)
  have t49 : w10.heap.size ≤ w11.heap.size := c11.size
  clear W_36 bW_37 bG_38 M_39 K_40 bK_41 b42 c11
  go_wp2_with (first | (refine wpList_load_row rfl 26 _ rfl w1.heap.size rfl 26 #[.int .i64 D, .slice G1 R.length e1] (0, 0) _ bW_44 Tryd.underlying26 rfl (auc_info _ _ _ _) ?_) | (refine wpList_load_row rfl 26 _ rfl w3.heap.size rfl 26 #[.int .i64 D, .slice G3 R.length e3] (0, 0) _ bG_45 Tryd.underlying26 rfl (auc_info _ _ _ _) ?_) | (refine wpList_load_row rfl 26 _ rfl w8.heap.size rfl 26 #[.int .i64 D, .slice G8 R.length e8] (0, 0) _ bK_48 Tryd.underlying26 rfl (auc_info _ _ _ _) ?_))
  go_ret
  exact ⟨rfl, b49⟩

end Go.Proofs.YtnkbcmkngghnoaaDoor.Lib1
