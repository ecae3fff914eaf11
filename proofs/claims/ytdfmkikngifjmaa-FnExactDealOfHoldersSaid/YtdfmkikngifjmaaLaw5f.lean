/- The exact law of DealOfHolders; an argument that is a slice of slices. (Written by wip/gen5.py.) -/
import Derived.Test.YtdfmkikngifjmaaEx5
import Derived.Test.YtdfmkikngifjmaaDohJ5
import Derived.Test.YtdfmkikngifjmaaDealArg
namespace Go.Proofs.Ytdfmkikngifjmaa.Lib1
open Go.RowKit Go.ChangeShapes Go.WideShapes Go.Deep
set_option maxRecDepth 100000

theorem doh_few (L : List (List Int)) : Few (dohV L) := by
  unfold dohV
  cases h : hlB L
  · exact few_nil
  · cases hd : dealB (madeRows L)
    · exact few_nil
    · simp only [Bool.and_self, if_true]
      exact ⟨by rw [((deal_iff _).1 hd).1]; omega, deal_few hd⟩

set_option maxHeartbeats 4000000 in
theorem law_DealOfHolders (A0 : Option Addr) (n0 c0 : Nat) (zss0 : List (List Int)) (w : World) (h0 : RdR w 0 w.heap.size A0 n0 zss0) (l0 : Lens n0 zss0) :
    Calls Try.prog 3 #[.slice A0 n0 c0] w fun e w' => e = .returned (.bool true) ∧ Below w.heap.size w w' := by
  have few := room_few (doh_few zss0)
  generalize hRR : dohV zss0 = R at few
  have HRR := Lib.hid hRR
  clear hRR
  have hRc : 1 + cnt R R.length ≤ 1048576 := few.1
  have hRn : R.length ≤ 1048576 := few.2.1
  have hRl : ∀ j, j < R.length → (R.getD j []).length ≤ 1048576 := few.2.2
  have hcp : ¬ (1 : Int) + (cnt R R.length : Int) < 0 := by omega
  clear few
  have bl := Below.refl w.heap.size w
  go_enter Try.func3, Try.ntmps3
  go_wp2_with fail
  refine (szInt64SS A0 n0 c0 1048576 zss0 _ _ _ h0 (by omega) (by omega) l0).mono ?_
  rintro e w' ⟨u1, rfl, hu1, rfl⟩
  by_cases hv1 : u1 < 0
  · go_wp2_with fail
    go_ret
    exact ⟨rfl, bl⟩
  obtain ⟨hm0, hl0, hc0⟩ := hu1.le (by omega) rfl
  have hlt1 : ¬ u1 < 0 := hv1
  clear hv1 hu1
  have hkn0 : ¬ (1 : Int) + (cnt zss0 n0 : Int) < 0 := by omega
  go_wp2_with fail
  refine (toInt64SS A0 n0 c0 zss0 _ _ _ h0 hm0 hl0).mono ?_
  rintro e w2 ⟨rfl, o2, c2⟩
  have h0_1 := h0.still c2
  have b2 := Chg.above bl c2 (by omega) (by omega)
  have t2 : w.heap.size ≤ w2.heap.size := c2.size
  clear h0 c2
  go_wp2_with fail
  refine (spec_DealOfHolders _ n0 n0 zss0 _ _ _ o2.rd hm0 hl0).mono ?_
  rw [HRR.out]
  rintro e w3 ⟨W3, d3, rfl, _, q3, c3⟩
  clear o2
  have h0_2 := h0_1.still c3
  have b3 := Chg.above b2 c3 (by omega) (by omega)
  have t3 : w2.heap.size ≤ w3.heap.size := c3.size
  clear h0_1 b2 c3
  have x4 := box_at w3 (.slice W3 R.length d3) 25
  have a4 := Chg.of_alloc w3 (.cells #[.slice W3 R.length d3] 25) 0 0
  have h0_3 := h0_2.still a4
  have W_4 := q3.still a4
  have b4 := Chg.above b3 a4 (by omega) (by omega)
  have t4 : w3.heap.size < (w3.alloc (.cells #[.slice W3 R.length d3] 25)).heap.size := by simp
  clear h0_2 q3 b3 a4
  go_wp2_with fail
  generalize w3.alloc (.cells #[.slice W3 R.length d3] 25) = v4 at h0_3 W_4 x4 b4 t4
  refine (toInt64SS A0 n0 c0 zss0 _ _ _ h0_3 hm0 hl0).mono ?_
  rintro e w5 ⟨rfl, o5, c5⟩
  have h0_5 := h0_3.still c5
  have W_6 := W_4.still c5
  have bW_7 := box_still x4 c5
  have b5 := Chg.above b4 c5 (by omega) (by omega)
  have t5 : v4.heap.size ≤ w5.heap.size := c5.size
  clear h0_3 W_4 x4 b4 c5
  go_wp2_with fail
  refine (impl_DealOfHolders _ n0 n0 zss0 _ _ _ o5.rd hl0).mono ?_
  rw [HRR.out]
  rintro e w6 ⟨W6, d6, rfl, _, q6, c6⟩
  have h0_8 := h0_5.still c6
  have W_9 := W_6.still c6
  have bW_10 := box_still bW_7 c6
  have x0_11 := o5.still c6
  have b6 := Chg.above b5 c6 (by omega) (by omega)
  have t6 : w5.heap.size ≤ w6.heap.size := c6.size
  clear h0_5 W_6 bW_7 o5 b5 c6
  have x7 := box_at w6 (.slice W6 R.length d6) 25
  have a7 := Chg.of_alloc w6 (.cells #[.slice W6 R.length d6] 25) 0 0
  have h0_12 := h0_8.still a7
  have W_13 := W_9.still a7
  have bW_14 := box_still bW_10 a7
  have x0_15 := x0_11.still a7
  have G_16 := q6.still a7
  have b7 := Chg.above b6 a7 (by omega) (by omega)
  have t7 : w6.heap.size < (w6.alloc (.cells #[.slice W6 R.length d6] 25)).heap.size := by simp
  clear h0_8 W_9 bW_10 x0_11 q6 b6 a7
  go_wp2_with fail
  generalize w6.alloc (.cells #[.slice W6 R.length d6] 25) = v7 at h0_12 W_13 bW_14 x0_15 G_16 x7 b7 t7
  refine (eqDeal _ _ R.length R.length _ _ R _ _ _ _ _ G_16.rd W_13.rd hRn hRl).mono ?_
  rintro e w8 ⟨rfl, c8⟩
  have h0_17 := h0_12.still c8
  have W_18 := W_13.still c8
  have bW_19 := box_still bW_14 c8
  have x0_20 := x0_15.still c8
  have G_21 := G_16.still c8
  have bG_22 := box_still x7 c8
  have b8 := Chg.above b7 c8 (by omega) (by omega)
  have t8 : v7.heap.size ≤ w8.heap.size := c8.size
  clear h0_12 W_13 bW_14 x0_15 G_16 x7 b7 c8
  go_wp2_with fail
  refine (toInt64SS A0 n0 c0 zss0 _ _ _ h0_17 hm0 hl0).mono ?_
  rintro e w9 ⟨rfl, o9, c9⟩
  have h0_23 := h0_17.still c9
  have W_24 := W_18.still c9
  have bW_25 := box_still bW_19 c9
  have x0_26 := x0_20.still c9
  have G_27 := G_21.still c9
  have bG_28 := box_still bG_22 c9
  have b9 := Chg.above b8 c9 (by omega) (by omega)
  have t9 : w8.heap.size ≤ w9.heap.size := c9.size
  clear h0_17 W_18 bW_19 x0_20 G_21 bG_22 b8 c9
  go_wp2_with fail
  refine (eqInt64SS _ _ n0 n0 n0 n0 zss0 _ _ _ _ _ x0_26.rd o9.rd hm0 hl0).mono ?_
  rintro e w10 ⟨rfl, c10⟩
  have h0_29 := h0_23.still c10
  have W_30 := W_24.still c10
  have bW_31 := box_still bW_25 c10
  have x0_32 := x0_26.still c10
  have G_33 := G_27.still c10
  have bG_34 := box_still bG_28 c10
  have b10 := Chg.above b9 c10 (by omega) (by omega)
  have t10 : w9.heap.size ≤ w10.heap.size := c10.size
  clear h0_23 W_24 bW_25 x0_26 G_27 bG_28 b9 c10
  go_wp2_with fail
  refine (markRows1 _ n0 _ zss0 _ _ _ x0_32 hm0 hc0).mono ?_
  rintro e w11 ⟨rfl, _, c11⟩
  clear x0_32
  have h0_35 := h0_29.chg c11 (by omega)
  have W_36 := W_30.chg c11 (by omega)
  have bW_37 := cell_above bW_31 c11 (by dsimp only; omega)
  have G_38 := G_33.chg c11 (by omega)
  have bG_39 := cell_above bG_34 c11 (by dsimp only; omega)
  have b11 := Chg.above b10 c11 (by omega) (by omega)
  have t11 : w10.heap.size ≤ w11.heap.size := c11.size
  clear h0_29 W_30 bW_31 G_33 bG_34 b10 c11
  go_wp2_with fail
  refine (eqDeal _ _ R.length R.length _ _ R _ _ _ _ _ G_38.rd W_36.rd hRn hRl).mono ?_
  rintro e w12 ⟨rfl, c12⟩
  have h0_40 := h0_35.still c12
  have W_41 := W_36.still c12
  have bW_42 := box_still bW_37 c12
  have G_43 := G_38.still c12
  have bG_44 := box_still bG_39 c12
  have b12 := Chg.above b11 c12 (by omega) (by omega)
  have t12 : w11.heap.size ≤ w12.heap.size := c12.size
  clear h0_35 W_36 bW_37 G_38 bG_39 b11 c12
  go_wp2_with fail
  refine (markDeal1 _ R.length _ R _ _ _ G_43 hRn hRc).mono ?_
  rintro e w13 ⟨rfl, m13, c13⟩
  clear G_43
  have h0_45 := h0_40.chg c13 (by omega)
  have W_46 := W_41.chg c13 (by omega)
  have bW_47 := cell_above bW_42 c13 (by dsimp only; omega)
  have bG_48 := cell_above bG_44 c13 (by dsimp only; omega)
  have b13 := Chg.above b12 c13 (by omega) (by omega)
  have t13 : w12.heap.size ≤ w13.heap.size := c13.size
  clear h0_40 W_41 bW_42 bG_44 b12 c13
  go_wp2_with fail
  refine (heldDeal1 _ R.length _ R _ _ _ rfl m13.rd hRn hRc).mono ?_
  rintro e w14 ⟨rfl, c14⟩
  have h0_49 := h0_45.still c14
  have W_50 := W_46.still c14
  have bW_51 := box_still bW_47 c14
  have bG_52 := box_still bG_48 c14
  have M_53 := m13.still c14
  have b14 := Chg.above b13 c14 (by omega) (by omega)
  have t14 : w13.heap.size ≤ w14.heap.size := c14.size
  clear h0_45 W_46 bW_47 bG_48 m13 b13 c14
  go_wp2_with fail
  refine (toInt64SS A0 n0 c0 zss0 _ _ _ h0_49 hm0 hl0).mono ?_
  rintro e w15 ⟨rfl, o15, c15⟩
  have h0_54 := h0_49.still c15
  have W_55 := W_50.still c15
  have bW_56 := box_still bW_51 c15
  have bG_57 := box_still bG_52 c15
  have M_58 := M_53.still c15
  have b15 := Chg.above b14 c15 (by omega) (by omega)
  have t15 : w14.heap.size ≤ w15.heap.size := c15.size
  clear h0_49 W_50 bW_51 bG_52 M_53 b14 c15
  go_wp2_with fail
  refine (impl_DealOfHolders _ n0 n0 zss0 _ _ _ o15.rd hl0).mono ?_
  rw [HRR.out]
  rintro e w16 ⟨W16, d16, rfl, _, q16, c16⟩
  have h0_59 := h0_54.still c16
  have W_60 := W_55.still c16
  have bW_61 := box_still bW_56 c16
  have bG_62 := box_still bG_57 c16
  have M_63 := M_58.still c16
  have y0_64 := o15.still c16
  have b16 := Chg.above b15 c16 (by omega) (by omega)
  have t16 : w15.heap.size ≤ w16.heap.size := c16.size
  clear h0_54 W_55 bW_56 bG_57 M_58 o15 b15 c16
  have x17 := box_at w16 (.slice W16 R.length d16) 25
  have a17 := Chg.of_alloc w16 (.cells #[.slice W16 R.length d16] 25) 0 0
  have h0_65 := h0_59.still a17
  have W_66 := W_60.still a17
  have bW_67 := box_still bW_61 a17
  have bG_68 := box_still bG_62 a17
  have M_69 := M_63.still a17
  have y0_70 := y0_64.still a17
  have K_71 := q16.still a17
  have b17 := Chg.above b16 a17 (by omega) (by omega)
  have t17 : w16.heap.size < (w16.alloc (.cells #[.slice W16 R.length d16] 25)).heap.size := by simp
  clear h0_59 W_60 bW_61 bG_62 M_63 y0_64 q16 b16 a17
  go_wp2_with fail
  generalize w16.alloc (.cells #[.slice W16 R.length d16] 25) = v17 at h0_65 W_66 bW_67 bG_68 M_69 y0_70 K_71 x17 b17 t17
  refine (eqDeal _ _ R.length R.length _ _ R _ _ _ _ _ K_71.rd W_66.rd hRn hRl).mono ?_
  rintro e w18 ⟨rfl, c18⟩
  have h0_72 := h0_65.still c18
  have W_73 := W_66.still c18
  have bW_74 := box_still bW_67 c18
  have bG_75 := box_still bG_68 c18
  have M_76 := M_69.still c18
  have y0_77 := y0_70.still c18
  have K_78 := K_71.still c18
  have bK_79 := box_still x17 c18
  have b18 := Chg.above b17 c18 (by omega) (by omega)
  have t18 : v17.heap.size ≤ w18.heap.size := c18.size
  clear h0_65 W_66 bW_67 bG_68 M_69 y0_70 K_71 x17 b17 c18
  go_wp2_with fail
  refine (heldDeal1 _ R.length _ R _ _ _ rfl M_76.rd hRn hRc).mono ?_
  rintro e w19 ⟨rfl, c19⟩
  have h0_80 := h0_72.still c19
  have W_81 := W_73.still c19
  have bW_82 := box_still bW_74 c19
  have bG_83 := box_still bG_75 c19
  have M_84 := M_76.still c19
  have y0_85 := y0_77.still c19
  have K_86 := K_78.still c19
  have bK_87 := box_still bK_79 c19
  have b19 := Chg.above b18 c19 (by omega) (by omega)
  have t19 : w18.heap.size ≤ w19.heap.size := c19.size
  clear h0_72 W_73 bW_74 bG_75 M_76 y0_77 K_78 bK_79 b18 c19
  go_wp2_with fail
  go_ret
  exact ⟨rfl, b19⟩

theorem open_rowsA {H : Type} {enc : TypeId × Value → H} {w : World} {held : Bool} {r : Reach} {b0 : Nat} {v : Value} {d : DataW H} {p : List MemPlace} (hv : Value.okWide Try.prog w r b0 22 v) (h : DataW.Trod enc Try.prog w 0 (fun _ => true) held 22 v d p) :
    ∃ A n c zss, v = .slice A n c ∧ RdR w 0 w.heap.size A n zss ∧ Lens n zss := by
  obtain ⟨a, len, cap, rfl⟩ := okWide_slice Try.underlying22 hv
  obtain ⟨fuel, hf⟩ := h
  rcases open_int_rows Try.underlying22 Try.underlying40 Try.underlying2 (by kernel_rfl) (by kernel_rfl) hf with ⟨e, _⟩ | ⟨a', len', cap', A, L, C, Z, e, _, hl, hm, _, hr⟩
  · simp [Value.cells] at e
    obtain ⟨rfl, rfl, rfl⟩ := e
    exact ⟨none, 0, 0, [], rfl, RdR.none_, by unfold maxLen; omega, fun _ h => absurd h (by omega)⟩
  · simp [Value.cells] at e
    obtain ⟨rfl, rfl, rfl⟩ := e
    exact ⟨some a', len, cap, _, rfl, RdR.of_rows hl hm hr⟩

end Go.Proofs.Ytdfmkikngifjmaa.Lib1
