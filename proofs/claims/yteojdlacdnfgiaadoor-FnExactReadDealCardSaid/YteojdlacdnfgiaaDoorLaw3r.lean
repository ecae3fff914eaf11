/- The exact law of ReadDeal. (Written by wip/gen3r.py.) -/
import Derived.Test.YteojdlacdnfgiaaDoorReadDI
import Derived.Test.YteojdlacdnfgiaaDoorLaw3d
namespace Go.Proofs.YteojdlacdnfgiaaDoor.Lib1
open Go.RowKit
set_option maxRecDepth 100000

theorem rdd_few (l : List UInt8) : Few (rdDV l) := by
  unfold rdDV
  split
  · rename_i h
    simp only [rdDB, Bool.and_eq_true] at h
    have hd := h.2.2
    refine ⟨by rw [((deal_iff _).1 hd).1]; exact Nat.le_refl _, deal_few hd⟩
  · exact few_nil

set_option maxHeartbeats 8000000 in
theorem law_ReadDeal (s : ByteArray) (w : World) (hk0 : KM w) :
    Calls Tryd.prog 6 #[.string s] w fun e w' => e = .returned (.bool true) ∧ Below w.heap.size w w' := by
  have hk := Lib.hid hk0
  clear hk0
  by_cases hn : 1048576 < s.size
  · have hb : (1048576 : Int) < (s.size : Int) := by omega
    go_enter Tryd.func6, Tryd.ntmps6
    go_wp2
    go_ret
    exact ⟨rfl, Below.refl _ _⟩
  have hb : ¬ (1048576 : Int) < (s.size : Int) := by omega
  have hm : s.size ≤ 1048576 := by omega
  clear hn
  have bl := Below.refl w.heap.size w
  have few := rdd_few s.data.toList
  generalize hRR : rdDV s.data.toList = R at few
  have HRR := Lib.hid hRR
  generalize hCC : rdDB s.data.toList = CC
  have HCC := Lib.hid hCC
  clear hRR hCC
  have hRc : 1 + cnt R R.length ≤ 1048576 := by have := few.cnt R.length; have := few.1; omega
  have hRn : R.length ≤ 1048576 := by have := few.1; omega
  have hRl : ∀ j, j < R.length → (R.getD j []).length ≤ 1048576 := fun j _ => by have := few.2 j; omega
  have hcp : ¬ (1 : Int) + (cnt R R.length : Int) < 0 := by omega
  clear few
  go_enter Tryd.func6, Tryd.ntmps6
  go_wp2_with fail
  refine (spec_ReadDeal s _ hm).mono ?_
  rw [HRR.out, HCC.out]
  rintro e w1 ⟨W1, d1, rfl, _, q1, c1⟩
  have b1 := Chg.above bl c1 (by omega) (by omega)
  have t1 : w.heap.size ≤ w1.heap.size := c1.size
  clear c1
  have x1 := box_at w1 (.slice W1 R.length d1) 35
  have a1 := Chg.of_alloc w1 (.cells #[.slice W1 R.length d1] 35) 0 0
  have W_1 := q1.still a1
  have bb1 := Chg.above b1 a1 (by omega) (by omega)
  have tt1 : w1.heap.size < (w1.alloc (.cells #[.slice W1 R.length d1] 35)).heap.size := by simp
  clear q1 b1 a1
  go_wp2_with fail
  generalize w1.alloc (.cells #[.slice W1 R.length d1] 35) = v1 at W_1 x1 bb1 tt1
  refine (impl_ReadDeal s _ hm (hk.out.below bb1)).mono ?_
  rw [HRR.out, HCC.out]
  rintro e w2 ⟨W2, d2, rfl, _, q2, c2⟩
  have W_2 := W_1.still c2
  have bW_3 := box_still x1 c2
  have b2 := Chg.above bb1 c2 (by omega) (by omega)
  have t2 : v1.heap.size ≤ w2.heap.size := c2.size
  clear W_1 x1 bb1 c2
  have x2 := box_at w2 (.slice W2 R.length d2) 35
  have a2 := Chg.of_alloc w2 (.cells #[.slice W2 R.length d2] 35) 0 0
  have W_4 := W_2.still a2
  have bW_5 := box_still bW_3 a2
  have G_6 := q2.still a2
  have bb2 := Chg.above b2 a2 (by omega) (by omega)
  have tt2 : w2.heap.size < (w2.alloc (.cells #[.slice W2 R.length d2] 35)).heap.size := by simp
  clear W_2 bW_3 q2 b2 a2
  go_wp2_with fail
  generalize w2.alloc (.cells #[.slice W2 R.length d2] 35) = v2 at W_4 bW_5 G_6 x2 bb2 tt2
  refine (eqDeal _ _ R.length R.length _ _ R _ _ _ _ _ G_6.rd W_4.rd hRn hRl).mono ?_
  rintro e w3 ⟨rfl, c3⟩
  have W_7 := W_4.still c3
  have bW_8 := box_still bW_5 c3
  have G_9 := G_6.still c3
  have bG_10 := box_still x2 c3
  have b3 := Chg.above bb2 c3 (by omega) (by omega)
  have t3 : v2.heap.size ≤ w3.heap.size := c3.size
  clear W_4 bW_5 G_6 x2 bb2 c3
  go_wp2_with fail
  refine (markDeal1 _ R.length _ R _ _ _ G_9 hRn hRc).mono ?_
  rintro e w4 ⟨rfl, m4, c4⟩
  clear G_9
  have W_11 := W_7.chg c4 (by omega)
  have bW_12 := cell_above bW_8 c4 (by dsimp only; omega)
  have bG_13 := cell_above bG_10 c4 (by dsimp only; omega)
  have b4 := Chg.above b3 c4 (by omega) (by omega)
  have t4 : w3.heap.size ≤ w4.heap.size := c4.size
  clear W_7 bW_8 bG_10 b3 c4
  go_wp2_with fail
  refine (heldDeal1 _ R.length _ R _ _ _ rfl m4.rd hRn hRc).mono ?_
  rintro e w5 ⟨rfl, c5⟩
  have W_14 := W_11.still c5
  have bW_15 := box_still bW_12 c5
  have bG_16 := box_still bG_13 c5
  have M_17 := m4.still c5
  have b5 := Chg.above b4 c5 (by omega) (by omega)
  have t5 : w4.heap.size ≤ w5.heap.size := c5.size
  clear W_11 bW_12 bG_13 m4 b4 c5
  go_wp2_with fail
  refine (impl_ReadDeal s _ hm (hk.out.below b5)).mono ?_
  rw [HRR.out, HCC.out]
  rintro e w6 ⟨W6, d6, rfl, _, q6, c6⟩
  have W_18 := W_14.still c6
  have bW_19 := box_still bW_15 c6
  have bG_20 := box_still bG_16 c6
  have M_21 := M_17.still c6
  have b6 := Chg.above b5 c6 (by omega) (by omega)
  have t6 : w5.heap.size ≤ w6.heap.size := c6.size
  clear W_14 bW_15 bG_16 M_17 b5 c6
  have x6 := box_at w6 (.slice W6 R.length d6) 35
  have a6 := Chg.of_alloc w6 (.cells #[.slice W6 R.length d6] 35) 0 0
  have W_22 := W_18.still a6
  have bW_23 := box_still bW_19 a6
  have bG_24 := box_still bG_20 a6
  have M_25 := M_21.still a6
  have K_26 := q6.still a6
  have bb6 := Chg.above b6 a6 (by omega) (by omega)
  have tt6 : w6.heap.size < (w6.alloc (.cells #[.slice W6 R.length d6] 35)).heap.size := by simp
  clear W_18 bW_19 bG_20 M_21 q6 b6 a6
  go_wp2_with fail
  generalize w6.alloc (.cells #[.slice W6 R.length d6] 35) = v6 at W_22 bW_23 bG_24 M_25 K_26 x6 bb6 tt6
  refine (eqDeal _ _ R.length R.length _ _ R _ _ _ _ _ K_26.rd W_22.rd hRn hRl).mono ?_
  rintro e w7 ⟨rfl, c7⟩
  have W_27 := W_22.still c7
  have bW_28 := box_still bW_23 c7
  have bG_29 := box_still bG_24 c7
  have M_30 := M_25.still c7
  have K_31 := K_26.still c7
  have bK_32 := box_still x6 c7
  have b7 := Chg.above bb6 c7 (by omega) (by omega)
  have t7 : v6.heap.size ≤ w7.heap.size := c7.size
  clear W_22 bW_23 bG_24 M_25 K_26 x6 bb6 c7
  go_wp2_with fail
  refine (heldDeal1 _ R.length _ R _ _ _ rfl M_30.rd hRn hRc).mono ?_
  rintro e w8 ⟨rfl, c8⟩
  have W_33 := W_27.still c8
  have bW_34 := box_still bW_28 c8
  have bG_35 := box_still bG_29 c8
  have M_36 := M_30.still c8
  have K_37 := K_31.still c8
  have bK_38 := box_still bK_32 c8
  have b8 := Chg.above b7 c8 (by omega) (by omega)
  have t8 : w7.heap.size ≤ w8.heap.size := c8.size
  clear W_27 bW_28 bG_29 M_30 K_31 bK_32 b7 c8
  go_wp2_with fail
  go_ret
  exact ⟨rfl, b8⟩
end Go.Proofs.YteojdlacdnfgiaaDoor.Lib1
