/- Chapter 8: exact laws over plays and deals. (Written by wip/gen8x.py.) -/
import Derived.Test.YteglffbeldlibaaExL8
import Derived.Deep.CutRange
import Derived.Test.YteglffbeldlibaaPy8
namespace Go.Proofs.Yteglffbeldlibaa.Lib1
open Go.RowKit
set_option maxRecDepth 100000

set_option maxHeartbeats 8000000 in
theorem law_LegalCards8 (A0 : Option Addr) (n0 c0 : Nat) (zss0 : List (List Int)) (sg1 lg1 : Int) (A1 : Option Addr) (n1 c1 : Nat) (zs1 : List Int) (w : World) (h0 : RdR w 0 w.heap.size A0 n0 zss0) (l0 : Lens n0 zss0) (h1 : Rd w 0 w.heap.size A1 n1 zs1) (l1 : n1 ≤ maxLen) :
    Calls Try.prog 11 #[.agg #[.slice A0 n0 c0], .agg #[.int .i64 sg1, .int .i64 lg1, .slice A1 n1 c1]] w fun e w' => e = .returned (.bool true) ∧ Below w.heap.size w w' := by
  have hRn := legV_len8 zss0 sg1 lg1 zs1
  generalize hRR : legV zss0 sg1 lg1 zs1 = R at hRn
  have HRR := Lib.hid hRR
  clear hRR
  have hneg : ¬ (1 : Int) + (R.length : Int) < 0 := by omega
  have hneg2 : ¬ (1 : Int) + (cnt zss0 n0 : Int) + (n1 : Int) < 0 := by omega
  have bl := Below.refl w.heap.size w
  have y0 : (w.alloc (.cells #[.slice A0 n0 c0] 57)).heap.size = w.heap.size + 1 := by simp
  have q0 := Chg.of_alloc w (.cells #[.slice A0 n0 c0] 57) 0 0
  have xb0 := SBox.new w 57 #[.slice A0 n0 c0]
  have q1 := Chg.of_alloc (w.alloc (.cells #[.slice A0 n0 c0] 57)) (.cells #[.int .i64 sg1, .int .i64 lg1, .slice A1 n1 c1] 52) 0 0
  have xb1 := SBox.new (w.alloc (.cells #[.slice A0 n0 c0] 57)) 52 #[.int .i64 sg1, .int .i64 lg1, .slice A1 n1 c1]
  rw [y0] at xb1
  have xa0 := xb0.still q1
  have xa1 := xb1
  have ca := q0.trans q1
  clear q0 q1 xb0 xb1
  have ha0 := h0.still ca
  have ha1 := h1.still ca
  have ba := Chg.above bl ca (by omega) (by omega)
  have za : w.heap.size + 2 ≤ ((w.alloc (.cells #[.slice A0 n0 c0] 57)).alloc (.cells #[.int .i64 sg1, .int .i64 lg1, .slice A1 n1 c1] 52)).heap.size := by simp
  clear bl ca y0 h0 h1
  go_enter Try.func11, Try.ntmps11
  go_wp2_with (first | (refine wpList_load_row rfl 57 _ rfl w.heap.size rfl 57 #[.slice A0 n0 c0] (0, 0) _ xa0 Try.underlying57 rfl (ldeal_info7 _) ?_) | (refine wpList_load_row rfl 52 _ rfl (w.heap.size + 1) rfl 52 #[.int .i64 sg1, .int .i64 lg1, .slice A1 n1 c1] (0, 0) _ xa1 Try.underlying52 rfl (plinfo _ _ _ _ _) ?_))
  generalize ((w.alloc (.cells #[.slice A0 n0 c0] 57)).alloc (.cells #[.int .i64 sg1, .int .i64 lg1, .slice A1 n1 c1] 52)) = w0 at ha0 ha1 xa0 xa1 ba za ⊢
  refine (szDeal A0 n0 c0 1048576 zss0 _ _ _ ha0 (by omega) (by omega) l0).mono ?_
  rintro e w1 ⟨u1, rfl, hu1, c1⟩
  have h0_1 := ha0.still c1
  have h1_2 := ha1.still c1
  have A0_3 := xa0.still c1
  have A1_4 := xa1.still c1
  have b5 := Chg.above ba c1 (by omega) (by omega)
  have t5 : w0.heap.size ≤ w1.heap.size := c1.size
  clear ha0 ha1 xa0 xa1 ba c1
  by_cases hv1 : u1 < 0
  · go_wp2_with fail
    go_ret
    exact ⟨rfl, b5⟩
  obtain ⟨hm0, hl0, hc0⟩ := Sized_le8 hu1 (by omega) rfl
  have hu1 : 0 ≤ u1 ∧ u1 ≤ 1048576 := by rcases hu1 with e | ⟨p1, p2, _⟩; omega; exact ⟨p1, p2⟩
  go_wp2_with (first | (refine wpList_load_row rfl 57 _ rfl w.heap.size rfl 57 #[.slice A0 n0 c0] (0, 0) _ A0_3 Try.underlying57 rfl (ldeal_info7 _) ?_) | (refine wpList_load_row rfl 52 _ rfl (w.heap.size + 1) rfl 52 #[.int .i64 sg1, .int .i64 lg1, .slice A1 n1 c1] (0, 0) _ A1_4 Try.underlying52 rfl (plinfo _ _ _ _ _) ?_))
  refine (szPlay sg1 lg1 A1 n1 c1 u1 _ (by omega) (by omega) l1).mono ?_
  rintro e w2 ⟨⟨u2, rfl, hu2⟩, c2⟩
  have h0_6 := h0_1.still c2
  have h1_7 := h1_2.still c2
  have A0_8 := A0_3.still c2
  have A1_9 := A1_4.still c2
  have b10 := Chg.above b5 c2 (by omega) (by omega)
  have t10 : w1.heap.size ≤ w2.heap.size := c2.size
  clear h0_1 h1_2 A0_3 A1_4 b5 c2
  by_cases hv2 : u2 < 0
  · go_wp2_with fail
    go_ret
    exact ⟨rfl, b10⟩
  have hm1 : n1 ≤ 1048576 := by omega
  go_wp2_with (first | (refine wpList_load_row rfl 57 _ rfl w.heap.size rfl 57 #[.slice A0 n0 c0] (0, 0) _ A0_8 Try.underlying57 rfl (ldeal_info7 _) ?_) | (refine wpList_load_row rfl 52 _ rfl (w.heap.size + 1) rfl 52 #[.int .i64 sg1, .int .i64 lg1, .slice A1 n1 c1] (0, 0) _ A1_9 Try.underlying52 rfl (plinfo _ _ _ _ _) ?_))
  have dr : Chg w2 w2.drew 0 0 := Chg.of_drew ⟨1, rfl⟩ _ _
  have s0 : (fun V => SBox V 57 w.heap.size #[.slice A0 n0 c0] ∧ SBox V 52 (w.heap.size + 1) #[.int .i64 sg1, .int .i64 lg1, .slice A1 n1 c1]) w2.drew := ⟨A0_8.still dr, A1_9.still dr⟩
  refine wp_region_held_drew (S := fun V => SBox V 57 w.heap.size #[.slice A0 n0 c0] ∧ SBox V 52 (w.heap.size + 1) #[.int .i64 sg1, .int .i64 lg1, .slice A1 n1 c1]) (by kernel_rfl) s0 (fun hHeld => ?_)
  refine take_slotC (i := 0) (d := some 24) (v := .agg #[.slice A0 n0 c0]) rfl (by kernel_rfl) (by kernel_rfl) (by kernel_rfl) (by kernel_rfl) (fun _ _ _ h => h) (yieldsIf_load_mid (by kernel_rfl) 57 (.tmp 2) rfl w.heap.size 0 rfl [.slice A0 n0 c0] _ (fun V hV => hV.1.range) Try.underlying57 rfl (ldeal_infoL _)) hHeld ?_
  try simp only [Act.put, List.setIfInBounds_toArray, List.set_cons_zero, List.set_cons_succ]
  refine take_slotC (i := 2) (d := some 26) (v := .agg #[.int .i64 sg1, .int .i64 lg1, .slice A1 n1 c1]) rfl (by kernel_rfl) (by kernel_rfl) (by kernel_rfl) (by kernel_rfl) (fun _ _ _ h => h) (yieldsIf_load_mid (by kernel_rfl) 52 (.tmp 3) rfl (w.heap.size + 1) 0 rfl [.int .i64 sg1, .int .i64 lg1, .slice A1 n1 c1] _ (fun V hV => hV.2.range) Try.underlying52 rfl (plinfoL _ _ _)) hHeld ?_
  try simp only [Act.put, List.setIfInBounds_toArray, List.set_cons_zero, List.set_cons_succ]
  refine wpAnyH_ready (rs := [1]) (by kernel_rfl) (by simp) (AllReadyH.cons (i := 1) rfl (fun K' hK' => ?_) AllReadyH.nil)
  go_simp
  refine (toDeal A0 n0 c0 zss0 _ _ _ (h0_6.still dr) hm0 hl0).mono ?_
  rintro e w3 ⟨g3, rfl, o3, c3⟩
  have hs3 : (fun V => SBox V 57 w.heap.size #[.slice A0 n0 c0] ∧ SBox V 52 (w.heap.size + 1) #[.int .i64 sg1, .int .i64 lg1, .slice A1 n1 c1]) w3 := ⟨hHeld.1.still c3, hHeld.2.still c3⟩
  have c3 := dr.trans c3
  clear dr s0
  have h0_11 := h0_6.still c3
  have h1_12 := h1_7.still c3
  have A0_13 := A0_8.still c3
  have A1_14 := A1_9.still c3
  have b15 := Chg.above b10 c3 (by omega) (by omega)
  have t15 : w2.heap.size ≤ w3.heap.size := c3.size
  clear h0_6 h1_7 A0_8 A1_9 b10 c3
  refine hK'.out _ _ hs3 (fun hHeld => ?_)
  clear hK' hs3
  try simp only [Act.put, List.setIfInBounds_toArray, List.set_cons_zero, List.set_cons_succ]
  refine wpAnyH_ready (rs := [3]) (by kernel_rfl) (by simp) (AllReadyH.cons (i := 3) rfl (fun K' hK' => ?_) AllReadyH.nil)
  go_simp
  refine (toPlay sg1 lg1 A1 n1 c1 zs1 _ _ _ h1_12 hm1).mono ?_
  rintro e w4 ⟨g4, rfl, o4, c4⟩
  have hs4 : (fun V => SBox V 57 w.heap.size #[.slice A0 n0 c0] ∧ SBox V 52 (w.heap.size + 1) #[.int .i64 sg1, .int .i64 lg1, .slice A1 n1 c1]) w4 := ⟨hHeld.1.still c4, hHeld.2.still c4⟩
  have h0_16 := h0_11.still c4
  have h1_17 := h1_12.still c4
  have A0_18 := A0_13.still c4
  have A1_19 := A1_14.still c4
  have s0_20 := o3.still c4
  have b21 := Chg.above b15 c4 (by omega) (by omega)
  have t21 : w3.heap.size ≤ w4.heap.size := c4.size
  clear h0_11 h1_12 A0_13 A1_14 o3 b15 c4
  refine hK'.out _ _ hs4 (fun hHeld => ?_)
  clear hK' hs4
  try simp only [Act.put, List.setIfInBounds_toArray, List.set_cons_zero, List.set_cons_succ]
  refine wpAnyH_ready (rs := [4]) (by kernel_rfl) (by simp) (AllReadyH.cons (i := 4) rfl (fun K' hK' => ?_) AllReadyH.nil)
  go_simp
  refine (spec_LegalCards _ n0 n0 zss0 sg1 lg1 _ n1 n1 zs1 _ (s0_20.rd.more (Nat.zero_le _) (by omega)) hl0 (o4.rd.more (Nat.zero_le _) (by omega)) hm1 (Nat.le_refl _) (fun e => by cases e)).mono ?_
  rw [HRR.out]
  rintro e w5 ⟨W5, e5, rfl, _, _, j5, c5⟩
  have hs5 : (fun V => SBox V 57 w.heap.size #[.slice A0 n0 c0] ∧ SBox V 52 (w.heap.size + 1) #[.int .i64 sg1, .int .i64 lg1, .slice A1 n1 c1]) w5 := ⟨hHeld.1.still c5, hHeld.2.still c5⟩
  clear s0_20
  clear o4
  have h0_22 := h0_16.still c5
  have h1_23 := h1_17.still c5
  have A0_24 := A0_18.still c5
  have A1_25 := A1_19.still c5
  have b26 := Chg.above b21 c5 (by omega) (by omega)
  have t26 : w4.heap.size ≤ w5.heap.size := c5.size
  clear h0_16 h1_17 A0_18 A1_19 b21 c5
  refine hK'.out _ _ hs5 (fun hHeld => ?_)
  clear hK' hs5
  try simp only [Act.put, List.setIfInBounds_toArray, List.set_cons_zero, List.set_cons_succ]
  refine take_slotC (i := 5) (d := some 6) (v := .slice W5 R.length e5) rfl (by kernel_rfl) (by kernel_rfl) (by kernel_rfl) (by kernel_rfl) (fun _ _ _ h => h) (.inl ⟨by kernel_rfl, fun V hV => by go_simp⟩) hHeld ?_
  try simp only [Act.put, List.setIfInBounds_toArray, List.set_cons_zero, List.set_cons_succ]
  refine wpAnyH_done (by kernel_rfl) ?_ _
  clear hHeld
  go_wp2_with (first | (refine wpList_load_row rfl 57 _ rfl w.heap.size rfl 57 #[.slice A0 n0 c0] (0, 0) _ A0_24 Try.underlying57 rfl (ldeal_info7 _) ?_) | (refine wpList_load_row rfl 52 _ rfl (w.heap.size + 1) rfl 52 #[.int .i64 sg1, .int .i64 lg1, .slice A1 n1 c1] (0, 0) _ A1_25 Try.underlying52 rfl (plinfo _ _ _ _ _) ?_))
  refine (toDeal A0 n0 c0 zss0 _ _ _ h0_22 hm0 hl0).mono ?_
  rintro e w6 ⟨g6, rfl, o6, c6⟩
  have h0_27 := h0_22.still c6
  have h1_28 := h1_23.still c6
  have A0_29 := A0_24.still c6
  have A1_30 := A1_25.still c6
  have W_31 := j5.still c6
  have b32 := Chg.above b26 c6 (by omega) (by omega)
  have t32 : w5.heap.size ≤ w6.heap.size := c6.size
  clear h0_22 h1_23 A0_24 A1_25 j5 b26 c6
  have x7 := SBox.new w6 26 #[.slice (some ⟨g6, 0, none⟩) n0 n0]
  have a7 := Chg.of_alloc w6 (.cells #[.slice (some ⟨g6, 0, none⟩) n0 n0] 26) 0 0
  have z7 : w6.heap.size < (w6.alloc (.cells #[.slice (some ⟨g6, 0, none⟩) n0 n0] 26)).heap.size := by simp
  have h0_33 := h0_27.still a7
  have h1_34 := h1_28.still a7
  have A0_35 := A0_29.still a7
  have A1_36 := A1_30.still a7
  have W_37 := W_31.still a7
  have x0_38 := o6.still a7
  have b39 := Chg.above b32 a7 (by omega) (by omega)
  clear h0_27 h1_28 A0_29 A1_30 W_31 o6 b32 a7
  go_wp2_with (first | (refine wpList_load_row rfl 57 _ rfl w.heap.size rfl 57 #[.slice A0 n0 c0] (0, 0) _ A0_35 Try.underlying57 rfl (ldeal_info7 _) ?_) | (refine wpList_load_row rfl 52 _ rfl (w.heap.size + 1) rfl 52 #[.int .i64 sg1, .int .i64 lg1, .slice A1 n1 c1] (0, 0) _ A1_36 Try.underlying52 rfl (plinfo _ _ _ _ _) ?_) | (refine wpList_load_row rfl 26 _ rfl w6.heap.size rfl 26 #[.slice (some ⟨g6, 0, none⟩) n0 n0] (0, 0) _ x7 Try.underlying26 rfl (deal_info7 _) ?_))
  generalize w6.alloc (.cells #[.slice (some ⟨g6, 0, none⟩) n0 n0] 26) = v7 at h0_33 h1_34 A0_35 A1_36 W_37 x0_38 x7 b39 z7 ⊢
  refine (toPlay sg1 lg1 A1 n1 c1 zs1 _ _ _ h1_34 hm1).mono ?_
  rintro e w8 ⟨g8, rfl, o8, c8⟩
  have h0_40 := h0_33.still c8
  have h1_41 := h1_34.still c8
  have A0_42 := A0_35.still c8
  have A1_43 := A1_36.still c8
  have W_44 := W_37.still c8
  have x0_45 := x0_38.still c8
  have bx0_46 := x7.still c8
  have b47 := Chg.above b39 c8 (by omega) (by omega)
  have t47 : v7.heap.size ≤ w8.heap.size := c8.size
  clear h0_33 h1_34 A0_35 A1_36 W_37 x0_38 x7 b39 c8
  have x9 := SBox.row w8 29 #[.int .i64 0, .int .i64 0, .slice none 0 0] #[.int .i64 sg1, .int .i64 lg1, .slice (some ⟨g8, 0, none⟩) n1 n1]
  have a9 := chg_row w8 29 #[.int .i64 0, .int .i64 0, .slice none 0 0] #[.int .i64 sg1, .int .i64 lg1, .slice (some ⟨g8, 0, none⟩) n1 n1]
  have z9 : w8.heap.size < ((w8.alloc (.cells #[.int .i64 0, .int .i64 0, .slice none 0 0] 29)).setRow w8.heap.size #[.int .i64 sg1, .int .i64 lg1, .slice (some ⟨g8, 0, none⟩) n1 n1]).heap.size := by rw [row_size]; omega
  have h0_48 := h0_40.still a9
  have h1_49 := h1_41.still a9
  have A0_50 := A0_42.still a9
  have A1_51 := A1_43.still a9
  have W_52 := W_44.still a9
  have x0_53 := x0_45.still a9
  have bx0_54 := bx0_46.still a9
  have x1_55 := o8.still a9
  have b56 := Chg.above b47 a9 (by omega) (by omega)
  clear h0_40 h1_41 A0_42 A1_43 W_44 x0_45 bx0_46 o8 b47 a9
  go_wp2_with (first | (refine wpList_store_row rfl 29 _ _ rfl w8.heap.size #[.int .i64 sg1, .int .i64 lg1, .slice (some ⟨g8, 0, none⟩) n1 n1] rfl rfl 29 #[.int .i64 0, .int .i64 0, .slice none 0 0] (heap_alloc_new _ _) (play_info _ _ _ _ _) rfl (play_cells _ _ _ _ _) ?_; generalize (w8.alloc (.cells #[.int .i64 0, .int .i64 0, .slice none 0 0] 29)).setRow w8.heap.size #[.int .i64 sg1, .int .i64 lg1, .slice (some ⟨g8, 0, none⟩) n1 n1] = v9 at h0_48 h1_49 A0_50 A1_51 W_52 x0_53 bx0_54 x1_55 x9 b56 z9 ⊢) | (refine wpList_load_row rfl 57 _ rfl w.heap.size rfl 57 #[.slice A0 n0 c0] (0, 0) _ A0_50 Try.underlying57 rfl (ldeal_info7 _) ?_) | (refine wpList_load_row rfl 52 _ rfl (w.heap.size + 1) rfl 52 #[.int .i64 sg1, .int .i64 lg1, .slice A1 n1 c1] (0, 0) _ A1_51 Try.underlying52 rfl (plinfo _ _ _ _ _) ?_) | (refine wpList_load_row rfl 26 _ rfl w6.heap.size rfl 26 #[.slice (some ⟨g6, 0, none⟩) n0 n0] (0, 0) _ bx0_54 Try.underlying26 rfl (deal_info7 _) ?_) | (refine wpList_load_row rfl 29 _ rfl w8.heap.size rfl 29 #[.int .i64 sg1, .int .i64 lg1, .slice (some ⟨g8, 0, none⟩) n1 n1] (0, 0) _ x9 Try.underlying29 rfl (play_info _ _ _ _ _) ?_))
  refine (impl_LegalCards _ n0 n0 zss0 sg1 lg1 _ n1 n1 zs1 _ (x0_53.rd.more (Nat.zero_le _) (by omega)) hl0 (x1_55.rd.more (Nat.zero_le _) (by omega)) hm1 (Nat.le_refl _) (fun e => by cases e)).mono ?_
  rw [HRR.out]
  rintro e w10 ⟨W10, e10, rfl, _, _, j10, c10⟩
  have h0_57 := h0_48.still c10
  have h1_58 := h1_49.still c10
  have A0_59 := A0_50.still c10
  have A1_60 := A1_51.still c10
  have W_61 := W_52.still c10
  have x0_62 := x0_53.still c10
  have bx0_63 := bx0_54.still c10
  have x1_64 := x1_55.still c10
  have bx1_65 := x9.still c10
  have b66 := Chg.above b56 c10 (by omega) (by omega)
  have t66 : v9.heap.size ≤ w10.heap.size := c10.size
  clear h0_48 h1_49 A0_50 A1_51 W_52 x0_53 bx0_54 x1_55 x9 b56 c10
  go_wp2_with (first | (refine wpList_load_row rfl 57 _ rfl w.heap.size rfl 57 #[.slice A0 n0 c0] (0, 0) _ A0_59 Try.underlying57 rfl (ldeal_info7 _) ?_) | (refine wpList_load_row rfl 52 _ rfl (w.heap.size + 1) rfl 52 #[.int .i64 sg1, .int .i64 lg1, .slice A1 n1 c1] (0, 0) _ A1_60 Try.underlying52 rfl (plinfo _ _ _ _ _) ?_) | (refine wpList_load_row rfl 26 _ rfl w6.heap.size rfl 26 #[.slice (some ⟨g6, 0, none⟩) n0 n0] (0, 0) _ bx0_63 Try.underlying26 rfl (deal_info7 _) ?_) | (refine wpList_load_row rfl 29 _ rfl w8.heap.size rfl 29 #[.int .i64 sg1, .int .i64 lg1, .slice (some ⟨g8, 0, none⟩) n1 n1] (0, 0) _ bx1_65 Try.underlying29 rfl (play_info _ _ _ _ _) ?_))
  refine (eqInt64S _ _ R.length R.length _ _ R _ _ _ _ _ j10.rd W_61.rd hRn).mono ?_
  rintro e w11 ⟨rfl, c11⟩
  have h0_67 := h0_57.still c11
  have h1_68 := h1_58.still c11
  have A0_69 := A0_59.still c11
  have A1_70 := A1_60.still c11
  have W_71 := W_61.still c11
  have x0_72 := x0_62.still c11
  have bx0_73 := bx0_63.still c11
  have x1_74 := x1_64.still c11
  have bx1_75 := bx1_65.still c11
  have G_76 := j10.still c11
  have b77 := Chg.above b66 c11 (by omega) (by omega)
  have t77 : w10.heap.size ≤ w11.heap.size := c11.size
  clear h0_57 h1_58 A0_59 A1_60 W_61 x0_62 bx0_63 x1_64 bx1_65 j10 b66 c11
  go_wp2_with (first | (refine wpList_load_row rfl 57 _ rfl w.heap.size rfl 57 #[.slice A0 n0 c0] (0, 0) _ A0_69 Try.underlying57 rfl (ldeal_info7 _) ?_) | (refine wpList_load_row rfl 52 _ rfl (w.heap.size + 1) rfl 52 #[.int .i64 sg1, .int .i64 lg1, .slice A1 n1 c1] (0, 0) _ A1_70 Try.underlying52 rfl (plinfo _ _ _ _ _) ?_) | (refine wpList_load_row rfl 26 _ rfl w6.heap.size rfl 26 #[.slice (some ⟨g6, 0, none⟩) n0 n0] (0, 0) _ bx0_73 Try.underlying26 rfl (deal_info7 _) ?_) | (refine wpList_load_row rfl 29 _ rfl w8.heap.size rfl 29 #[.int .i64 sg1, .int .i64 lg1, .slice (some ⟨g8, 0, none⟩) n1 n1] (0, 0) _ bx1_75 Try.underlying29 rfl (play_info _ _ _ _ _) ?_))
  have dr : Chg w11 w11.drew 0 0 := Chg.of_drew ⟨1, rfl⟩ _ _
  have s0 : (fun V => SBox V 26 w6.heap.size #[.slice (some ⟨g6, 0, none⟩) n0 n0] ∧ SBox V 57 w.heap.size #[.slice A0 n0 c0]) w11.drew := ⟨bx0_73.still dr, A0_69.still dr⟩
  refine wp_region_held_drew (S := fun V => SBox V 26 w6.heap.size #[.slice (some ⟨g6, 0, none⟩) n0 n0] ∧ SBox V 57 w.heap.size #[.slice A0 n0 c0]) (by kernel_rfl) s0 (fun hHeld => ?_)
  refine take_slotC (i := 0) (d := some 40) (v := .agg #[.slice (some ⟨g6, 0, none⟩) n0 n0]) rfl (by kernel_rfl) (by kernel_rfl) (by kernel_rfl) (by kernel_rfl) (fun _ _ _ h => h) (yieldsIf_load_mid (by kernel_rfl) 26 (.tmp 7) rfl w6.heap.size 0 rfl [.slice (some ⟨g6, 0, none⟩) n0 n0] _ (fun V hV => hV.1.range) Try.underlying26 rfl (deal_infoL _)) hHeld ?_
  try simp only [Act.put, List.setIfInBounds_toArray, List.set_cons_zero, List.set_cons_succ]
  refine take_slotC (i := 1) (d := some 41) (v := .agg #[.slice A0 n0 c0]) rfl (by kernel_rfl) (by kernel_rfl) (by kernel_rfl) (by kernel_rfl) (fun _ _ _ h => h) (yieldsIf_load_mid (by kernel_rfl) 57 (.tmp 2) rfl w.heap.size 0 rfl [.slice A0 n0 c0] _ (fun V hV => hV.2.range) Try.underlying57 rfl (ldeal_infoL _)) hHeld ?_
  try simp only [Act.put, List.setIfInBounds_toArray, List.set_cons_zero, List.set_cons_succ]
  refine wpAnyH_ready (rs := [2]) (by kernel_rfl) (by simp) (AllReadyH.cons (i := 2) rfl (fun K' hK' => ?_) AllReadyH.nil)
  go_simp
  refine (toDeal A0 n0 c0 zss0 _ _ _ (h0_67.still dr) hm0 hl0).mono ?_
  rintro e w12 ⟨g12, rfl, o12, p12⟩
  have c12 := dr.trans p12
  have hs12 : (fun V => SBox V 26 w6.heap.size #[.slice (some ⟨g6, 0, none⟩) n0 n0] ∧ SBox V 57 w.heap.size #[.slice A0 n0 c0]) w12 := ⟨hHeld.1.still p12, hHeld.2.still p12⟩
  clear p12 dr s0
  have h0_78 := h0_67.still c12
  have h1_79 := h1_68.still c12
  have A0_80 := A0_69.still c12
  have A1_81 := A1_70.still c12
  have W_82 := W_71.still c12
  have x0_83 := x0_72.still c12
  have bx0_84 := bx0_73.still c12
  have x1_85 := x1_74.still c12
  have bx1_86 := bx1_75.still c12
  have G_87 := G_76.still c12
  have b88 := Chg.above b77 c12 (by omega) (by omega)
  have t88 : w11.heap.size ≤ w12.heap.size := c12.size
  clear h0_67 h1_68 A0_69 A1_70 W_71 x0_72 bx0_73 x1_74 bx1_75 G_76 b77 c12
  refine hK'.out _ _ hs12 (fun hHeld => ?_)
  clear hK' hs12
  try simp only [Act.put, List.setIfInBounds_toArray, List.set_cons_zero, List.set_cons_succ]
  refine wpAnyH_ready (rs := [3]) (by kernel_rfl) (by simp) (AllReadyH.cons (i := 3) rfl (fun K' hK' => ?_) AllReadyH.nil)
  go_simp
  refine (eqDeal _ _ n0 n0 _ _ zss0 _ _ _ _ _ x0_83.rd o12.rd hm0 hl0).mono ?_
  rintro e w13 ⟨rfl, c13⟩
  have hs13 : (fun V => SBox V 26 w6.heap.size #[.slice (some ⟨g6, 0, none⟩) n0 n0] ∧ SBox V 57 w.heap.size #[.slice A0 n0 c0]) w13 := ⟨hHeld.1.still c13, hHeld.2.still c13⟩
  clear o12
  have h0_89 := h0_78.still c13
  have h1_90 := h1_79.still c13
  have A0_91 := A0_80.still c13
  have A1_92 := A1_81.still c13
  have W_93 := W_82.still c13
  have x0_94 := x0_83.still c13
  have bx0_95 := bx0_84.still c13
  have x1_96 := x1_85.still c13
  have bx1_97 := bx1_86.still c13
  have G_98 := G_87.still c13
  have b99 := Chg.above b88 c13 (by omega) (by omega)
  have t99 : w12.heap.size ≤ w13.heap.size := c13.size
  clear h0_78 h1_79 A0_80 A1_81 W_82 x0_83 bx0_84 x1_85 bx1_86 G_87 b88 c13
  refine hK'.out _ _ hs13 (fun hHeld => ?_)
  clear hK' hs13
  try simp only [Act.put, List.setIfInBounds_toArray, List.set_cons_zero, List.set_cons_succ]
  refine take_slotC (i := 4) (d := some 44) (v := .bool false) rfl (by kernel_rfl) (by kernel_rfl) (by kernel_rfl) (by kernel_rfl) (fun _ _ _ h => h) (.inl ⟨by kernel_rfl, fun V hV => by go_simp⟩) hHeld ?_
  try simp only [Act.put, List.setIfInBounds_toArray, List.set_cons_zero, List.set_cons_succ]
  refine wpAnyH_done (by kernel_rfl) ?_ _
  clear hHeld
  go_wp2_with (first | (refine wpList_load_row rfl 57 _ rfl w.heap.size rfl 57 #[.slice A0 n0 c0] (0, 0) _ A0_91 Try.underlying57 rfl (ldeal_info7 _) ?_) | (refine wpList_load_row rfl 52 _ rfl (w.heap.size + 1) rfl 52 #[.int .i64 sg1, .int .i64 lg1, .slice A1 n1 c1] (0, 0) _ A1_92 Try.underlying52 rfl (plinfo _ _ _ _ _) ?_) | (refine wpList_load_row rfl 26 _ rfl w6.heap.size rfl 26 #[.slice (some ⟨g6, 0, none⟩) n0 n0] (0, 0) _ bx0_95 Try.underlying26 rfl (deal_info7 _) ?_) | (refine wpList_load_row rfl 29 _ rfl w8.heap.size rfl 29 #[.int .i64 sg1, .int .i64 lg1, .slice (some ⟨g8, 0, none⟩) n1 n1] (0, 0) _ bx1_97 Try.underlying29 rfl (play_info _ _ _ _ _) ?_))
  have dr : Chg w13 w13.drew 0 0 := Chg.of_drew ⟨1, rfl⟩ _ _
  have s0 : (fun V => SBox V 29 w8.heap.size #[.int .i64 sg1, .int .i64 lg1, .slice (some ⟨g8, 0, none⟩) n1 n1] ∧ SBox V 52 (w.heap.size + 1) #[.int .i64 sg1, .int .i64 lg1, .slice A1 n1 c1]) w13.drew := ⟨bx1_97.still dr, A1_92.still dr⟩
  refine wp_region_held_drew (S := fun V => SBox V 29 w8.heap.size #[.int .i64 sg1, .int .i64 lg1, .slice (some ⟨g8, 0, none⟩) n1 n1] ∧ SBox V 52 (w.heap.size + 1) #[.int .i64 sg1, .int .i64 lg1, .slice A1 n1 c1]) (by kernel_rfl) s0 (fun hHeld => ?_)
  refine take_slotC (i := 0) (d := some 45) (v := .agg #[.int .i64 sg1, .int .i64 lg1, .slice (some ⟨g8, 0, none⟩) n1 n1]) rfl (by kernel_rfl) (by kernel_rfl) (by kernel_rfl) (by kernel_rfl) (fun _ _ _ h => h) (yieldsIf_load_mid (by kernel_rfl) 29 (.tmp 8) rfl w8.heap.size 0 rfl [.int .i64 sg1, .int .i64 lg1, .slice (some ⟨g8, 0, none⟩) n1 n1] _ (fun V hV => hV.1.range) Try.underlying29 rfl (play_infoL _ _ _)) hHeld ?_
  try simp only [Act.put, List.setIfInBounds_toArray, List.set_cons_zero, List.set_cons_succ]
  refine take_slotC (i := 1) (d := some 46) (v := .agg #[.int .i64 sg1, .int .i64 lg1, .slice A1 n1 c1]) rfl (by kernel_rfl) (by kernel_rfl) (by kernel_rfl) (by kernel_rfl) (fun _ _ _ h => h) (yieldsIf_load_mid (by kernel_rfl) 52 (.tmp 3) rfl (w.heap.size + 1) 0 rfl [.int .i64 sg1, .int .i64 lg1, .slice A1 n1 c1] _ (fun V hV => hV.2.range) Try.underlying52 rfl (plinfoL _ _ _)) hHeld ?_
  try simp only [Act.put, List.setIfInBounds_toArray, List.set_cons_zero, List.set_cons_succ]
  refine wpAnyH_ready (rs := [2]) (by kernel_rfl) (by simp) (AllReadyH.cons (i := 2) rfl (fun K' hK' => ?_) AllReadyH.nil)
  go_simp
  refine (toPlay sg1 lg1 A1 n1 c1 zs1 _ _ _ (h1_90.still dr) hm1).mono ?_
  rintro e w14 ⟨g14, rfl, o14, p14⟩
  have c14 := dr.trans p14
  have hs14 : (fun V => SBox V 29 w8.heap.size #[.int .i64 sg1, .int .i64 lg1, .slice (some ⟨g8, 0, none⟩) n1 n1] ∧ SBox V 52 (w.heap.size + 1) #[.int .i64 sg1, .int .i64 lg1, .slice A1 n1 c1]) w14 := ⟨hHeld.1.still p14, hHeld.2.still p14⟩
  clear p14 dr s0
  have h0_100 := h0_89.still c14
  have h1_101 := h1_90.still c14
  have A0_102 := A0_91.still c14
  have A1_103 := A1_92.still c14
  have W_104 := W_93.still c14
  have x0_105 := x0_94.still c14
  have bx0_106 := bx0_95.still c14
  have x1_107 := x1_96.still c14
  have bx1_108 := bx1_97.still c14
  have G_109 := G_98.still c14
  have b110 := Chg.above b99 c14 (by omega) (by omega)
  have t110 : w13.heap.size ≤ w14.heap.size := c14.size
  clear h0_89 h1_90 A0_91 A1_92 W_93 x0_94 bx0_95 x1_96 bx1_97 G_98 b99 c14
  refine hK'.out _ _ hs14 (fun hHeld => ?_)
  clear hK' hs14
  try simp only [Act.put, List.setIfInBounds_toArray, List.set_cons_zero, List.set_cons_succ]
  refine wpAnyH_ready (rs := [3]) (by kernel_rfl) (by simp) (AllReadyH.cons (i := 3) rfl (fun K' hK' => ?_) AllReadyH.nil)
  go_simp
  refine (eqPlay sg1 lg1 _ _ n1 n1 _ _ zs1 _ _ _ _ _ x1_107.rd o14.rd hm1).mono ?_
  rintro e w15 ⟨rfl, c15⟩
  have hs15 : (fun V => SBox V 29 w8.heap.size #[.int .i64 sg1, .int .i64 lg1, .slice (some ⟨g8, 0, none⟩) n1 n1] ∧ SBox V 52 (w.heap.size + 1) #[.int .i64 sg1, .int .i64 lg1, .slice A1 n1 c1]) w15 := ⟨hHeld.1.still c15, hHeld.2.still c15⟩
  clear o14
  have h0_111 := h0_100.still c15
  have h1_112 := h1_101.still c15
  have A0_113 := A0_102.still c15
  have A1_114 := A1_103.still c15
  have W_115 := W_104.still c15
  have x0_116 := x0_105.still c15
  have bx0_117 := bx0_106.still c15
  have x1_118 := x1_107.still c15
  have bx1_119 := bx1_108.still c15
  have G_120 := G_109.still c15
  have b121 := Chg.above b110 c15 (by omega) (by omega)
  have t121 : w14.heap.size ≤ w15.heap.size := c15.size
  clear h0_100 h1_101 A0_102 A1_103 W_104 x0_105 bx0_106 x1_107 bx1_108 G_109 b110 c15
  refine hK'.out _ _ hs15 (fun hHeld => ?_)
  clear hK' hs15
  try simp only [Act.put, List.setIfInBounds_toArray, List.set_cons_zero, List.set_cons_succ]
  refine take_slotC (i := 4) (d := some 49) (v := .bool false) rfl (by kernel_rfl) (by kernel_rfl) (by kernel_rfl) (by kernel_rfl) (fun _ _ _ h => h) (.inl ⟨by kernel_rfl, fun V hV => by go_simp⟩) hHeld ?_
  try simp only [Act.put, List.setIfInBounds_toArray, List.set_cons_zero, List.set_cons_succ]
  refine wpAnyH_done (by kernel_rfl) ?_ _
  clear hHeld
  go_wp2_with (first | (refine wpList_load_row rfl 57 _ rfl w.heap.size rfl 57 #[.slice A0 n0 c0] (0, 0) _ A0_113 Try.underlying57 rfl (ldeal_info7 _) ?_) | (refine wpList_load_row rfl 52 _ rfl (w.heap.size + 1) rfl 52 #[.int .i64 sg1, .int .i64 lg1, .slice A1 n1 c1] (0, 0) _ A1_114 Try.underlying52 rfl (plinfo _ _ _ _ _) ?_) | (refine wpList_load_row rfl 26 _ rfl w6.heap.size rfl 26 #[.slice (some ⟨g6, 0, none⟩) n0 n0] (0, 0) _ bx0_117 Try.underlying26 rfl (deal_info7 _) ?_) | (refine wpList_load_row rfl 29 _ rfl w8.heap.size rfl 29 #[.int .i64 sg1, .int .i64 lg1, .slice (some ⟨g8, 0, none⟩) n1 n1] (0, 0) _ bx1_119 Try.underlying29 rfl (play_info _ _ _ _ _) ?_))
  refine (markDeal18 _ n0 _ zss0 _ _ _ x0_116 hm0 hc0).mono ?_
  rintro e w16 ⟨rfl, _, c16⟩
  clear x0_116
  clear bx0_117
  have h0_122 := h0_111.chg c16 (by omega)
  have h1_123 := h1_112.chg c16 (by omega)
  have A0_124 := A0_113.chg c16 (by omega)
  have A1_125 := A1_114.chg c16 (by omega)
  have W_126 := W_115.chg c16 (by omega)
  have x1_127 := x1_118.chg c16 (by omega)
  have bx1_128 := bx1_119.chg c16 (by omega)
  have G_129 := G_120.chg c16 (by omega)
  have b130 := Chg.above b121 c16 (by omega) (by omega)
  have t130 : w15.heap.size ≤ w16.heap.size := c16.size
  clear h0_111 h1_112 A0_113 A1_114 W_115 x1_118 bx1_119 G_120 b121 c16
  go_wp2_with (first | (refine wpList_load_row rfl 57 _ rfl w.heap.size rfl 57 #[.slice A0 n0 c0] (0, 0) _ A0_124 Try.underlying57 rfl (ldeal_info7 _) ?_) | (refine wpList_load_row rfl 52 _ rfl (w.heap.size + 1) rfl 52 #[.int .i64 sg1, .int .i64 lg1, .slice A1 n1 c1] (0, 0) _ A1_125 Try.underlying52 rfl (plinfo _ _ _ _ _) ?_) | (refine wpList_load_row rfl 29 _ rfl w8.heap.size rfl 29 #[.int .i64 sg1, .int .i64 lg1, .slice (some ⟨g8, 0, none⟩) n1 n1] (0, 0) _ bx1_128 Try.underlying29 rfl (play_info _ _ _ _ _) ?_))
  refine (markPlayI sg1 lg1 _ n1 n1 zs1 _ _ (1 + (cnt zss0 n0 : Int)) _ x1_127 hm1 (by omega) (by omega)).mono ?_
  rintro e w17 ⟨rfl, _, c17⟩
  clear x1_127
  clear bx1_128
  have h0_131 := h0_122.chg c17 (by omega)
  have h1_132 := h1_123.chg c17 (by omega)
  have A0_133 := A0_124.chg c17 (by omega)
  have A1_134 := A1_125.chg c17 (by omega)
  have W_135 := W_126.chg c17 (by omega)
  have G_136 := G_129.chg c17 (by omega)
  have b137 := Chg.above b130 c17 (by omega) (by omega)
  have t137 : w16.heap.size ≤ w17.heap.size := c17.size
  clear h0_122 h1_123 A0_124 A1_125 W_126 G_129 b130 c17
  go_wp2_with (first | (refine wpList_load_row rfl 57 _ rfl w.heap.size rfl 57 #[.slice A0 n0 c0] (0, 0) _ A0_133 Try.underlying57 rfl (ldeal_info7 _) ?_) | (refine wpList_load_row rfl 52 _ rfl (w.heap.size + 1) rfl 52 #[.int .i64 sg1, .int .i64 lg1, .slice A1 n1 c1] (0, 0) _ A1_134 Try.underlying52 rfl (plinfo _ _ _ _ _) ?_))
  refine (eqInt64S _ _ R.length R.length _ _ R _ _ _ _ _ G_136.rd W_135.rd hRn).mono ?_
  rintro e w18 ⟨rfl, c18⟩
  have h0_138 := h0_131.still c18
  have h1_139 := h1_132.still c18
  have A0_140 := A0_133.still c18
  have A1_141 := A1_134.still c18
  have W_142 := W_135.still c18
  have G_143 := G_136.still c18
  have b144 := Chg.above b137 c18 (by omega) (by omega)
  have t144 : w17.heap.size ≤ w18.heap.size := c18.size
  clear h0_131 h1_132 A0_133 A1_134 W_135 G_136 b137 c18
  go_wp2_with (first | (refine wpList_load_row rfl 57 _ rfl w.heap.size rfl 57 #[.slice A0 n0 c0] (0, 0) _ A0_140 Try.underlying57 rfl (ldeal_info7 _) ?_) | (refine wpList_load_row rfl 52 _ rfl (w.heap.size + 1) rfl 52 #[.int .i64 sg1, .int .i64 lg1, .slice A1 n1 c1] (0, 0) _ A1_141 Try.underlying52 rfl (plinfo _ _ _ _ _) ?_))
  refine (mark1 _ R.length _ R _ _ _ G_143 hRn).mono ?_
  rintro e w19 ⟨rfl, m19, c19, y19⟩
  clear G_143
  have h0_145 := h0_138.chg c19 (by omega)
  have h1_146 := h1_139.chg c19 (by omega)
  have A0_147 := A0_140.chg c19 (by omega)
  have A1_148 := A1_141.chg c19 (by omega)
  have W_149 := W_142.chg c19 (by omega)
  have b150 := Chg.above b144 c19 (by omega) (by omega)
  have t150 : w18.heap.size ≤ w19.heap.size := c19.size
  clear h0_138 h1_139 A0_140 A1_141 W_142 b144 c19
  clear y19
  go_wp2_with (first | (refine wpList_load_row rfl 57 _ rfl w.heap.size rfl 57 #[.slice A0 n0 c0] (0, 0) _ A0_147 Try.underlying57 rfl (ldeal_info7 _) ?_) | (refine wpList_load_row rfl 52 _ rfl (w.heap.size + 1) rfl 52 #[.int .i64 sg1, .int .i64 lg1, .slice A1 n1 c1] (0, 0) _ A1_148 Try.underlying52 rfl (plinfo _ _ _ _ _) ?_))
  refine (held1 _ _ _ _ _ _ m19.rd hRn).mono ?_
  rintro e w' ⟨rfl, rfl⟩
  go_wp2_with (first | (refine wpList_load_row rfl 57 _ rfl w.heap.size rfl 57 #[.slice A0 n0 c0] (0, 0) _ A0_147 Try.underlying57 rfl (ldeal_info7 _) ?_) | (refine wpList_load_row rfl 52 _ rfl (w.heap.size + 1) rfl 52 #[.int .i64 sg1, .int .i64 lg1, .slice A1 n1 c1] (0, 0) _ A1_148 Try.underlying52 rfl (plinfo _ _ _ _ _) ?_))
  have dr : Chg w19 w19.drew 0 0 := Chg.of_drew ⟨1, rfl⟩ _ _
  have s0 : (fun V => SBox V 57 w.heap.size #[.slice A0 n0 c0] ∧ SBox V 52 (w.heap.size + 1) #[.int .i64 sg1, .int .i64 lg1, .slice A1 n1 c1]) w19.drew := ⟨A0_147.still dr, A1_148.still dr⟩
  refine wp_region_held_drew (S := fun V => SBox V 57 w.heap.size #[.slice A0 n0 c0] ∧ SBox V 52 (w.heap.size + 1) #[.int .i64 sg1, .int .i64 lg1, .slice A1 n1 c1]) (by kernel_rfl) s0 (fun hHeld => ?_)
  refine take_slotC (i := 0) (d := some 75) (v := .agg #[.slice A0 n0 c0]) rfl (by kernel_rfl) (by kernel_rfl) (by kernel_rfl) (by kernel_rfl) (fun _ _ _ h => h) (yieldsIf_load_mid (by kernel_rfl) 57 (.tmp 2) rfl w.heap.size 0 rfl [.slice A0 n0 c0] _ (fun V hV => hV.1.range) Try.underlying57 rfl (ldeal_infoL _)) hHeld ?_
  try simp only [Act.put, List.setIfInBounds_toArray, List.set_cons_zero, List.set_cons_succ]
  refine take_slotC (i := 2) (d := some 77) (v := .agg #[.int .i64 sg1, .int .i64 lg1, .slice A1 n1 c1]) rfl (by kernel_rfl) (by kernel_rfl) (by kernel_rfl) (by kernel_rfl) (fun _ _ _ h => h) (yieldsIf_load_mid (by kernel_rfl) 52 (.tmp 3) rfl (w.heap.size + 1) 0 rfl [.int .i64 sg1, .int .i64 lg1, .slice A1 n1 c1] _ (fun V hV => hV.2.range) Try.underlying52 rfl (plinfoL _ _ _)) hHeld ?_
  try simp only [Act.put, List.setIfInBounds_toArray, List.set_cons_zero, List.set_cons_succ]
  refine wpAnyH_ready (rs := [1]) (by kernel_rfl) (by simp) (AllReadyH.cons (i := 1) rfl (fun K' hK' => ?_) AllReadyH.nil)
  go_simp
  refine (toDeal A0 n0 c0 zss0 _ _ _ (h0_145.still dr) hm0 hl0).mono ?_
  rintro e w21 ⟨g21, rfl, o21, c21⟩
  have hs21 : (fun V => SBox V 57 w.heap.size #[.slice A0 n0 c0] ∧ SBox V 52 (w.heap.size + 1) #[.int .i64 sg1, .int .i64 lg1, .slice A1 n1 c1]) w21 := ⟨hHeld.1.still c21, hHeld.2.still c21⟩
  have c21 := dr.trans c21
  clear dr s0
  have h0_151 := h0_145.still c21
  have h1_152 := h1_146.still c21
  have A0_153 := A0_147.still c21
  have A1_154 := A1_148.still c21
  have W_155 := W_149.still c21
  have M_156 := m19.still c21
  have b157 := Chg.above b150 c21 (by omega) (by omega)
  have t157 : w19.heap.size ≤ w21.heap.size := c21.size
  clear h0_145 h1_146 A0_147 A1_148 W_149 m19 b150 c21
  refine hK'.out _ _ hs21 (fun hHeld => ?_)
  clear hK' hs21
  try simp only [Act.put, List.setIfInBounds_toArray, List.set_cons_zero, List.set_cons_succ]
  refine wpAnyH_ready (rs := [3]) (by kernel_rfl) (by simp) (AllReadyH.cons (i := 3) rfl (fun K' hK' => ?_) AllReadyH.nil)
  go_simp
  refine (toPlay sg1 lg1 A1 n1 c1 zs1 _ _ _ h1_152 hm1).mono ?_
  rintro e w22 ⟨g22, rfl, o22, c22⟩
  have hs22 : (fun V => SBox V 57 w.heap.size #[.slice A0 n0 c0] ∧ SBox V 52 (w.heap.size + 1) #[.int .i64 sg1, .int .i64 lg1, .slice A1 n1 c1]) w22 := ⟨hHeld.1.still c22, hHeld.2.still c22⟩
  have h0_158 := h0_151.still c22
  have h1_159 := h1_152.still c22
  have A0_160 := A0_153.still c22
  have A1_161 := A1_154.still c22
  have W_162 := W_155.still c22
  have M_163 := M_156.still c22
  have y0_164 := o21.still c22
  have b165 := Chg.above b157 c22 (by omega) (by omega)
  have t165 : w21.heap.size ≤ w22.heap.size := c22.size
  clear h0_151 h1_152 A0_153 A1_154 W_155 M_156 o21 b157 c22
  refine hK'.out _ _ hs22 (fun hHeld => ?_)
  clear hK' hs22
  try simp only [Act.put, List.setIfInBounds_toArray, List.set_cons_zero, List.set_cons_succ]
  refine wpAnyH_ready (rs := [4]) (by kernel_rfl) (by simp) (AllReadyH.cons (i := 4) rfl (fun K' hK' => ?_) AllReadyH.nil)
  go_simp
  refine (impl_LegalCards _ n0 n0 zss0 sg1 lg1 _ n1 n1 zs1 _ (y0_164.rd.more (Nat.zero_le _) (by omega)) hl0 (o22.rd.more (Nat.zero_le _) (by omega)) hm1 (Nat.le_refl _) (fun e => by cases e)).mono ?_
  rw [HRR.out]
  rintro e w23 ⟨W23, e23, rfl, _, _, j23, c23⟩
  have hs23 : (fun V => SBox V 57 w.heap.size #[.slice A0 n0 c0] ∧ SBox V 52 (w.heap.size + 1) #[.int .i64 sg1, .int .i64 lg1, .slice A1 n1 c1]) w23 := ⟨hHeld.1.still c23, hHeld.2.still c23⟩
  have h0_166 := h0_158.still c23
  have h1_167 := h1_159.still c23
  have A0_168 := A0_160.still c23
  have A1_169 := A1_161.still c23
  have W_170 := W_162.still c23
  have M_171 := M_163.still c23
  have y0_172 := y0_164.still c23
  have y1_173 := o22.still c23
  have b174 := Chg.above b165 c23 (by omega) (by omega)
  have t174 : w22.heap.size ≤ w23.heap.size := c23.size
  clear h0_158 h1_159 A0_160 A1_161 W_162 M_163 y0_164 o22 b165 c23
  refine hK'.out _ _ hs23 (fun hHeld => ?_)
  clear hK' hs23
  try simp only [Act.put, List.setIfInBounds_toArray, List.set_cons_zero, List.set_cons_succ]
  refine take_slotC (i := 5) (d := some 13) (v := .slice W23 R.length e23) rfl (by kernel_rfl) (by kernel_rfl) (by kernel_rfl) (by kernel_rfl) (fun _ _ _ h => h) (.inl ⟨by kernel_rfl, fun V hV => by go_simp⟩) hHeld ?_
  try simp only [Act.put, List.setIfInBounds_toArray, List.set_cons_zero, List.set_cons_succ]
  refine wpAnyH_done (by kernel_rfl) ?_ _
  clear hHeld
  go_wp2_with (first | (refine wpList_load_row rfl 57 _ rfl w.heap.size rfl 57 #[.slice A0 n0 c0] (0, 0) _ A0_168 Try.underlying57 rfl (ldeal_info7 _) ?_) | (refine wpList_load_row rfl 52 _ rfl (w.heap.size + 1) rfl 52 #[.int .i64 sg1, .int .i64 lg1, .slice A1 n1 c1] (0, 0) _ A1_169 Try.underlying52 rfl (plinfo _ _ _ _ _) ?_))
  refine (eqInt64S _ _ R.length R.length _ _ R _ _ _ _ _ j23.rd W_170.rd hRn).mono ?_
  rintro e w24 ⟨rfl, c24⟩
  have h0_175 := h0_166.still c24
  have h1_176 := h1_167.still c24
  have A0_177 := A0_168.still c24
  have A1_178 := A1_169.still c24
  have W_179 := W_170.still c24
  have M_180 := M_171.still c24
  have y0_181 := y0_172.still c24
  have y1_182 := y1_173.still c24
  have K_183 := j23.still c24
  have b184 := Chg.above b174 c24 (by omega) (by omega)
  have t184 : w23.heap.size ≤ w24.heap.size := c24.size
  clear h0_166 h1_167 A0_168 A1_169 W_170 M_171 y0_172 y1_173 j23 b174 c24
  go_wp2_with (first | (refine wpList_load_row rfl 57 _ rfl w.heap.size rfl 57 #[.slice A0 n0 c0] (0, 0) _ A0_177 Try.underlying57 rfl (ldeal_info7 _) ?_) | (refine wpList_load_row rfl 52 _ rfl (w.heap.size + 1) rfl 52 #[.int .i64 sg1, .int .i64 lg1, .slice A1 n1 c1] (0, 0) _ A1_178 Try.underlying52 rfl (plinfo _ _ _ _ _) ?_))
  refine (held1 _ _ _ _ _ _ M_180.rd hRn).mono ?_
  rintro e w' ⟨rfl, rfl⟩
  go_wp2_with (first | (refine wpList_load_row rfl 57 _ rfl w.heap.size rfl 57 #[.slice A0 n0 c0] (0, 0) _ A0_177 Try.underlying57 rfl (ldeal_info7 _) ?_) | (refine wpList_load_row rfl 52 _ rfl (w.heap.size + 1) rfl 52 #[.int .i64 sg1, .int .i64 lg1, .slice A1 n1 c1] (0, 0) _ A1_178 Try.underlying52 rfl (plinfo _ _ _ _ _) ?_))
  go_ret
  exact ⟨rfl, b184⟩

set_option maxHeartbeats 8000000 in
theorem law_CardsLeft8 (A0 : Option Addr) (n0 c0 : Nat) (zss0 : List (List Int)) (sg1 lg1 : Int) (A1 : Option Addr) (n1 c1 : Nat) (zs1 : List Int) (w : World) (h0 : RdR w 0 w.heap.size A0 n0 zss0) (l0 : Lens n0 zss0) (h1 : Rd w 0 w.heap.size A1 n1 zs1) (l1 : n1 ≤ maxLen) :
    Calls Try.prog 14 #[.agg #[.slice A0 n0 c0], .agg #[.int .i64 sg1, .int .i64 lg1, .slice A1 n1 c1]] w fun e w' => e = .returned (.bool true) ∧ Below w.heap.size w w' := by
  have few := cleft_room8 zss0 sg1 lg1 zs1
  generalize hRR : cleftV zss0 sg1 lg1 zs1 = R at few
  have HRR := Lib.hid hRR
  clear hRR
  have hRc : 1 + cnt R R.length ≤ 1048576 := few.1
  have hRn : R.length ≤ 1048576 := few.2.1
  have hRl : ∀ j, j < R.length → (R.getD j []).length ≤ 1048576 := few.2.2
  have hneg : ¬ (1 : Int) + (cnt R R.length : Int) < 0 := by omega
  have hneg2 : ¬ (1 : Int) + (cnt zss0 n0 : Int) + (n1 : Int) < 0 := by omega
  clear few
  have bl := Below.refl w.heap.size w
  have y0 : (w.alloc (.cells #[.slice A0 n0 c0] 57)).heap.size = w.heap.size + 1 := by simp
  have q0 := Chg.of_alloc w (.cells #[.slice A0 n0 c0] 57) 0 0
  have xb0 := SBox.new w 57 #[.slice A0 n0 c0]
  have q1 := Chg.of_alloc (w.alloc (.cells #[.slice A0 n0 c0] 57)) (.cells #[.int .i64 sg1, .int .i64 lg1, .slice A1 n1 c1] 52) 0 0
  have xb1 := SBox.new (w.alloc (.cells #[.slice A0 n0 c0] 57)) 52 #[.int .i64 sg1, .int .i64 lg1, .slice A1 n1 c1]
  rw [y0] at xb1
  have xa0 := xb0.still q1
  have xa1 := xb1
  have ca := q0.trans q1
  clear q0 q1 xb0 xb1
  have ha0 := h0.still ca
  have ha1 := h1.still ca
  have ba := Chg.above bl ca (by omega) (by omega)
  have za : w.heap.size + 2 ≤ ((w.alloc (.cells #[.slice A0 n0 c0] 57)).alloc (.cells #[.int .i64 sg1, .int .i64 lg1, .slice A1 n1 c1] 52)).heap.size := by simp
  clear bl ca y0 h0 h1
  go_enter Try.func14, Try.ntmps14
  go_wp2_with (first | (refine wpList_load_row rfl 57 _ rfl w.heap.size rfl 57 #[.slice A0 n0 c0] (0, 0) _ xa0 Try.underlying57 rfl (ldeal_info7 _) ?_) | (refine wpList_load_row rfl 52 _ rfl (w.heap.size + 1) rfl 52 #[.int .i64 sg1, .int .i64 lg1, .slice A1 n1 c1] (0, 0) _ xa1 Try.underlying52 rfl (plinfo _ _ _ _ _) ?_))
  generalize ((w.alloc (.cells #[.slice A0 n0 c0] 57)).alloc (.cells #[.int .i64 sg1, .int .i64 lg1, .slice A1 n1 c1] 52)) = w0 at ha0 ha1 xa0 xa1 ba za ⊢
  refine (szDeal A0 n0 c0 1048576 zss0 _ _ _ ha0 (by omega) (by omega) l0).mono ?_
  rintro e w1 ⟨u1, rfl, hu1, c1⟩
  have h0_1 := ha0.still c1
  have h1_2 := ha1.still c1
  have A0_3 := xa0.still c1
  have A1_4 := xa1.still c1
  have b5 := Chg.above ba c1 (by omega) (by omega)
  have t5 : w0.heap.size ≤ w1.heap.size := c1.size
  clear ha0 ha1 xa0 xa1 ba c1
  by_cases hv1 : u1 < 0
  · go_wp2_with fail
    go_ret
    exact ⟨rfl, b5⟩
  obtain ⟨hm0, hl0, hc0⟩ := Sized_le8 hu1 (by omega) rfl
  have hu1 : 0 ≤ u1 ∧ u1 ≤ 1048576 := by rcases hu1 with e | ⟨p1, p2, _⟩; omega; exact ⟨p1, p2⟩
  go_wp2_with (first | (refine wpList_load_row rfl 57 _ rfl w.heap.size rfl 57 #[.slice A0 n0 c0] (0, 0) _ A0_3 Try.underlying57 rfl (ldeal_info7 _) ?_) | (refine wpList_load_row rfl 52 _ rfl (w.heap.size + 1) rfl 52 #[.int .i64 sg1, .int .i64 lg1, .slice A1 n1 c1] (0, 0) _ A1_4 Try.underlying52 rfl (plinfo _ _ _ _ _) ?_))
  refine (szPlay sg1 lg1 A1 n1 c1 u1 _ (by omega) (by omega) l1).mono ?_
  rintro e w2 ⟨⟨u2, rfl, hu2⟩, c2⟩
  have h0_6 := h0_1.still c2
  have h1_7 := h1_2.still c2
  have A0_8 := A0_3.still c2
  have A1_9 := A1_4.still c2
  have b10 := Chg.above b5 c2 (by omega) (by omega)
  have t10 : w1.heap.size ≤ w2.heap.size := c2.size
  clear h0_1 h1_2 A0_3 A1_4 b5 c2
  by_cases hv2 : u2 < 0
  · go_wp2_with fail
    go_ret
    exact ⟨rfl, b10⟩
  have hm1 : n1 ≤ 1048576 := by omega
  go_wp2_with (first | (refine wpList_load_row rfl 57 _ rfl w.heap.size rfl 57 #[.slice A0 n0 c0] (0, 0) _ A0_8 Try.underlying57 rfl (ldeal_info7 _) ?_) | (refine wpList_load_row rfl 52 _ rfl (w.heap.size + 1) rfl 52 #[.int .i64 sg1, .int .i64 lg1, .slice A1 n1 c1] (0, 0) _ A1_9 Try.underlying52 rfl (plinfo _ _ _ _ _) ?_))
  have dr : Chg w2 w2.drew 0 0 := Chg.of_drew ⟨1, rfl⟩ _ _
  have s0 : (fun V => SBox V 57 w.heap.size #[.slice A0 n0 c0] ∧ SBox V 52 (w.heap.size + 1) #[.int .i64 sg1, .int .i64 lg1, .slice A1 n1 c1]) w2.drew := ⟨A0_8.still dr, A1_9.still dr⟩
  refine wp_region_held_drew (S := fun V => SBox V 57 w.heap.size #[.slice A0 n0 c0] ∧ SBox V 52 (w.heap.size + 1) #[.int .i64 sg1, .int .i64 lg1, .slice A1 n1 c1]) (by kernel_rfl) s0 (fun hHeld => ?_)
  refine take_slotC (i := 0) (d := some 24) (v := .agg #[.slice A0 n0 c0]) rfl (by kernel_rfl) (by kernel_rfl) (by kernel_rfl) (by kernel_rfl) (fun _ _ _ h => h) (yieldsIf_load_mid (by kernel_rfl) 57 (.tmp 2) rfl w.heap.size 0 rfl [.slice A0 n0 c0] _ (fun V hV => hV.1.range) Try.underlying57 rfl (ldeal_infoL _)) hHeld ?_
  try simp only [Act.put, List.setIfInBounds_toArray, List.set_cons_zero, List.set_cons_succ]
  refine take_slotC (i := 2) (d := some 26) (v := .agg #[.int .i64 sg1, .int .i64 lg1, .slice A1 n1 c1]) rfl (by kernel_rfl) (by kernel_rfl) (by kernel_rfl) (by kernel_rfl) (fun _ _ _ h => h) (yieldsIf_load_mid (by kernel_rfl) 52 (.tmp 3) rfl (w.heap.size + 1) 0 rfl [.int .i64 sg1, .int .i64 lg1, .slice A1 n1 c1] _ (fun V hV => hV.2.range) Try.underlying52 rfl (plinfoL _ _ _)) hHeld ?_
  try simp only [Act.put, List.setIfInBounds_toArray, List.set_cons_zero, List.set_cons_succ]
  refine wpAnyH_ready (rs := [1]) (by kernel_rfl) (by simp) (AllReadyH.cons (i := 1) rfl (fun K' hK' => ?_) AllReadyH.nil)
  go_simp
  refine (toDeal A0 n0 c0 zss0 _ _ _ (h0_6.still dr) hm0 hl0).mono ?_
  rintro e w3 ⟨g3, rfl, o3, c3⟩
  have hs3 : (fun V => SBox V 57 w.heap.size #[.slice A0 n0 c0] ∧ SBox V 52 (w.heap.size + 1) #[.int .i64 sg1, .int .i64 lg1, .slice A1 n1 c1]) w3 := ⟨hHeld.1.still c3, hHeld.2.still c3⟩
  have c3 := dr.trans c3
  clear dr s0
  have h0_11 := h0_6.still c3
  have h1_12 := h1_7.still c3
  have A0_13 := A0_8.still c3
  have A1_14 := A1_9.still c3
  have b15 := Chg.above b10 c3 (by omega) (by omega)
  have t15 : w2.heap.size ≤ w3.heap.size := c3.size
  clear h0_6 h1_7 A0_8 A1_9 b10 c3
  refine hK'.out _ _ hs3 (fun hHeld => ?_)
  clear hK' hs3
  try simp only [Act.put, List.setIfInBounds_toArray, List.set_cons_zero, List.set_cons_succ]
  refine wpAnyH_ready (rs := [3]) (by kernel_rfl) (by simp) (AllReadyH.cons (i := 3) rfl (fun K' hK' => ?_) AllReadyH.nil)
  go_simp
  refine (toPlay sg1 lg1 A1 n1 c1 zs1 _ _ _ h1_12 hm1).mono ?_
  rintro e w4 ⟨g4, rfl, o4, c4⟩
  have hs4 : (fun V => SBox V 57 w.heap.size #[.slice A0 n0 c0] ∧ SBox V 52 (w.heap.size + 1) #[.int .i64 sg1, .int .i64 lg1, .slice A1 n1 c1]) w4 := ⟨hHeld.1.still c4, hHeld.2.still c4⟩
  have h0_16 := h0_11.still c4
  have h1_17 := h1_12.still c4
  have A0_18 := A0_13.still c4
  have A1_19 := A1_14.still c4
  have s0_20 := o3.still c4
  have b21 := Chg.above b15 c4 (by omega) (by omega)
  have t21 : w3.heap.size ≤ w4.heap.size := c4.size
  clear h0_11 h1_12 A0_13 A1_14 o3 b15 c4
  refine hK'.out _ _ hs4 (fun hHeld => ?_)
  clear hK' hs4
  try simp only [Act.put, List.setIfInBounds_toArray, List.set_cons_zero, List.set_cons_succ]
  refine wpAnyH_ready (rs := [4]) (by kernel_rfl) (by simp) (AllReadyH.cons (i := 4) rfl (fun K' hK' => ?_) AllReadyH.nil)
  go_simp
  refine (((spec_CardsLeft _ n0 n0 zss0 sg1 lg1 _ n1 n1 zs1 _ (s0_20.rd.more (Nat.zero_le _) (by omega)) hl0 (o4.rd.more (Nat.zero_le _) (by omega)) hm1 (Nat.le_refl _) (fun e => by cases e)).mono fun _ _ h => RetR8.of h)).mono ?_
  rw [HRR.out]
  rintro e w5 ⟨W5, e5, rfl, _, j5, c5⟩
  have hs5 : (fun V => SBox V 57 w.heap.size #[.slice A0 n0 c0] ∧ SBox V 52 (w.heap.size + 1) #[.int .i64 sg1, .int .i64 lg1, .slice A1 n1 c1]) w5 := ⟨hHeld.1.still c5, hHeld.2.still c5⟩
  clear s0_20
  clear o4
  have h0_22 := h0_16.still c5
  have h1_23 := h1_17.still c5
  have A0_24 := A0_18.still c5
  have A1_25 := A1_19.still c5
  have b26 := Chg.above b21 c5 (by omega) (by omega)
  have t26 : w4.heap.size ≤ w5.heap.size := c5.size
  clear h0_16 h1_17 A0_18 A1_19 b21 c5
  refine hK'.out _ _ hs5 (fun hHeld => ?_)
  clear hK' hs5
  try simp only [Act.put, List.setIfInBounds_toArray, List.set_cons_zero, List.set_cons_succ]
  refine take_slotC (i := 5) (d := some 6) (v := .slice W5 R.length e5) rfl (by kernel_rfl) (by kernel_rfl) (by kernel_rfl) (by kernel_rfl) (fun _ _ _ h => h) (.inl ⟨by kernel_rfl, fun V hV => by go_simp⟩) hHeld ?_
  try simp only [Act.put, List.setIfInBounds_toArray, List.set_cons_zero, List.set_cons_succ]
  refine wpAnyH_done (by kernel_rfl) ?_ _
  clear hHeld
  go_wp2_with (first | (refine wpList_load_row rfl 57 _ rfl w.heap.size rfl 57 #[.slice A0 n0 c0] (0, 0) _ A0_24 Try.underlying57 rfl (ldeal_info7 _) ?_) | (refine wpList_load_row rfl 52 _ rfl (w.heap.size + 1) rfl 52 #[.int .i64 sg1, .int .i64 lg1, .slice A1 n1 c1] (0, 0) _ A1_25 Try.underlying52 rfl (plinfo _ _ _ _ _) ?_))
  refine (toDeal A0 n0 c0 zss0 _ _ _ h0_22 hm0 hl0).mono ?_
  rintro e w6 ⟨g6, rfl, o6, c6⟩
  have h0_27 := h0_22.still c6
  have h1_28 := h1_23.still c6
  have A0_29 := A0_24.still c6
  have A1_30 := A1_25.still c6
  have W_31 := j5.still c6
  have b32 := Chg.above b26 c6 (by omega) (by omega)
  have t32 : w5.heap.size ≤ w6.heap.size := c6.size
  clear h0_22 h1_23 A0_24 A1_25 j5 b26 c6
  have x7 := SBox.new w6 26 #[.slice (some ⟨g6, 0, none⟩) n0 n0]
  have a7 := Chg.of_alloc w6 (.cells #[.slice (some ⟨g6, 0, none⟩) n0 n0] 26) 0 0
  have z7 : w6.heap.size < (w6.alloc (.cells #[.slice (some ⟨g6, 0, none⟩) n0 n0] 26)).heap.size := by simp
  have h0_33 := h0_27.still a7
  have h1_34 := h1_28.still a7
  have A0_35 := A0_29.still a7
  have A1_36 := A1_30.still a7
  have W_37 := W_31.still a7
  have x0_38 := o6.still a7
  have b39 := Chg.above b32 a7 (by omega) (by omega)
  clear h0_27 h1_28 A0_29 A1_30 W_31 o6 b32 a7
  go_wp2_with (first | (refine wpList_load_row rfl 57 _ rfl w.heap.size rfl 57 #[.slice A0 n0 c0] (0, 0) _ A0_35 Try.underlying57 rfl (ldeal_info7 _) ?_) | (refine wpList_load_row rfl 52 _ rfl (w.heap.size + 1) rfl 52 #[.int .i64 sg1, .int .i64 lg1, .slice A1 n1 c1] (0, 0) _ A1_36 Try.underlying52 rfl (plinfo _ _ _ _ _) ?_) | (refine wpList_load_row rfl 26 _ rfl w6.heap.size rfl 26 #[.slice (some ⟨g6, 0, none⟩) n0 n0] (0, 0) _ x7 Try.underlying26 rfl (deal_info7 _) ?_))
  generalize w6.alloc (.cells #[.slice (some ⟨g6, 0, none⟩) n0 n0] 26) = v7 at h0_33 h1_34 A0_35 A1_36 W_37 x0_38 x7 b39 z7 ⊢
  refine (toPlay sg1 lg1 A1 n1 c1 zs1 _ _ _ h1_34 hm1).mono ?_
  rintro e w8 ⟨g8, rfl, o8, c8⟩
  have h0_40 := h0_33.still c8
  have h1_41 := h1_34.still c8
  have A0_42 := A0_35.still c8
  have A1_43 := A1_36.still c8
  have W_44 := W_37.still c8
  have x0_45 := x0_38.still c8
  have bx0_46 := x7.still c8
  have b47 := Chg.above b39 c8 (by omega) (by omega)
  have t47 : v7.heap.size ≤ w8.heap.size := c8.size
  clear h0_33 h1_34 A0_35 A1_36 W_37 x0_38 x7 b39 c8
  have x9 := SBox.row w8 29 #[.int .i64 0, .int .i64 0, .slice none 0 0] #[.int .i64 sg1, .int .i64 lg1, .slice (some ⟨g8, 0, none⟩) n1 n1]
  have a9 := chg_row w8 29 #[.int .i64 0, .int .i64 0, .slice none 0 0] #[.int .i64 sg1, .int .i64 lg1, .slice (some ⟨g8, 0, none⟩) n1 n1]
  have z9 : w8.heap.size < ((w8.alloc (.cells #[.int .i64 0, .int .i64 0, .slice none 0 0] 29)).setRow w8.heap.size #[.int .i64 sg1, .int .i64 lg1, .slice (some ⟨g8, 0, none⟩) n1 n1]).heap.size := by rw [row_size]; omega
  have h0_48 := h0_40.still a9
  have h1_49 := h1_41.still a9
  have A0_50 := A0_42.still a9
  have A1_51 := A1_43.still a9
  have W_52 := W_44.still a9
  have x0_53 := x0_45.still a9
  have bx0_54 := bx0_46.still a9
  have x1_55 := o8.still a9
  have b56 := Chg.above b47 a9 (by omega) (by omega)
  clear h0_40 h1_41 A0_42 A1_43 W_44 x0_45 bx0_46 o8 b47 a9
  go_wp2_with (first | (refine wpList_store_row rfl 29 _ _ rfl w8.heap.size #[.int .i64 sg1, .int .i64 lg1, .slice (some ⟨g8, 0, none⟩) n1 n1] rfl rfl 29 #[.int .i64 0, .int .i64 0, .slice none 0 0] (heap_alloc_new _ _) (play_info _ _ _ _ _) rfl (play_cells _ _ _ _ _) ?_; generalize (w8.alloc (.cells #[.int .i64 0, .int .i64 0, .slice none 0 0] 29)).setRow w8.heap.size #[.int .i64 sg1, .int .i64 lg1, .slice (some ⟨g8, 0, none⟩) n1 n1] = v9 at h0_48 h1_49 A0_50 A1_51 W_52 x0_53 bx0_54 x1_55 x9 b56 z9 ⊢) | (refine wpList_load_row rfl 57 _ rfl w.heap.size rfl 57 #[.slice A0 n0 c0] (0, 0) _ A0_50 Try.underlying57 rfl (ldeal_info7 _) ?_) | (refine wpList_load_row rfl 52 _ rfl (w.heap.size + 1) rfl 52 #[.int .i64 sg1, .int .i64 lg1, .slice A1 n1 c1] (0, 0) _ A1_51 Try.underlying52 rfl (plinfo _ _ _ _ _) ?_) | (refine wpList_load_row rfl 26 _ rfl w6.heap.size rfl 26 #[.slice (some ⟨g6, 0, none⟩) n0 n0] (0, 0) _ bx0_54 Try.underlying26 rfl (deal_info7 _) ?_) | (refine wpList_load_row rfl 29 _ rfl w8.heap.size rfl 29 #[.int .i64 sg1, .int .i64 lg1, .slice (some ⟨g8, 0, none⟩) n1 n1] (0, 0) _ x9 Try.underlying29 rfl (play_info _ _ _ _ _) ?_))
  refine (((impl_CardsLeft _ n0 n0 zss0 sg1 lg1 _ n1 n1 zs1 _ (x0_53.rd.more (Nat.zero_le _) (by omega)) hl0 (x1_55.rd.more (Nat.zero_le _) (by omega)) hm1 (Nat.le_refl _) (fun e => by cases e)).mono fun _ _ h => (show RetR8 _ _ _ _ from h))).mono ?_
  rw [HRR.out]
  rintro e w10 ⟨W10, e10, rfl, _, j10, c10⟩
  have h0_57 := h0_48.still c10
  have h1_58 := h1_49.still c10
  have A0_59 := A0_50.still c10
  have A1_60 := A1_51.still c10
  have W_61 := W_52.still c10
  have x0_62 := x0_53.still c10
  have bx0_63 := bx0_54.still c10
  have x1_64 := x1_55.still c10
  have bx1_65 := x9.still c10
  have b66 := Chg.above b56 c10 (by omega) (by omega)
  have t66 : v9.heap.size ≤ w10.heap.size := c10.size
  clear h0_48 h1_49 A0_50 A1_51 W_52 x0_53 bx0_54 x1_55 x9 b56 c10
  go_wp2_with (first | (refine wpList_load_row rfl 57 _ rfl w.heap.size rfl 57 #[.slice A0 n0 c0] (0, 0) _ A0_59 Try.underlying57 rfl (ldeal_info7 _) ?_) | (refine wpList_load_row rfl 52 _ rfl (w.heap.size + 1) rfl 52 #[.int .i64 sg1, .int .i64 lg1, .slice A1 n1 c1] (0, 0) _ A1_60 Try.underlying52 rfl (plinfo _ _ _ _ _) ?_) | (refine wpList_load_row rfl 26 _ rfl w6.heap.size rfl 26 #[.slice (some ⟨g6, 0, none⟩) n0 n0] (0, 0) _ bx0_63 Try.underlying26 rfl (deal_info7 _) ?_) | (refine wpList_load_row rfl 29 _ rfl w8.heap.size rfl 29 #[.int .i64 sg1, .int .i64 lg1, .slice (some ⟨g8, 0, none⟩) n1 n1] (0, 0) _ bx1_65 Try.underlying29 rfl (play_info _ _ _ _ _) ?_))
  refine (eqInt64SS _ _ R.length R.length _ _ R _ _ _ _ _ j10.rd W_61.rd hRn hRl).mono ?_
  rintro e w11 ⟨rfl, c11⟩
  have h0_67 := h0_57.still c11
  have h1_68 := h1_58.still c11
  have A0_69 := A0_59.still c11
  have A1_70 := A1_60.still c11
  have W_71 := W_61.still c11
  have x0_72 := x0_62.still c11
  have bx0_73 := bx0_63.still c11
  have x1_74 := x1_64.still c11
  have bx1_75 := bx1_65.still c11
  have G_76 := j10.still c11
  have b77 := Chg.above b66 c11 (by omega) (by omega)
  have t77 : w10.heap.size ≤ w11.heap.size := c11.size
  clear h0_57 h1_58 A0_59 A1_60 W_61 x0_62 bx0_63 x1_64 bx1_65 j10 b66 c11
  go_wp2_with (first | (refine wpList_load_row rfl 57 _ rfl w.heap.size rfl 57 #[.slice A0 n0 c0] (0, 0) _ A0_69 Try.underlying57 rfl (ldeal_info7 _) ?_) | (refine wpList_load_row rfl 52 _ rfl (w.heap.size + 1) rfl 52 #[.int .i64 sg1, .int .i64 lg1, .slice A1 n1 c1] (0, 0) _ A1_70 Try.underlying52 rfl (plinfo _ _ _ _ _) ?_) | (refine wpList_load_row rfl 26 _ rfl w6.heap.size rfl 26 #[.slice (some ⟨g6, 0, none⟩) n0 n0] (0, 0) _ bx0_73 Try.underlying26 rfl (deal_info7 _) ?_) | (refine wpList_load_row rfl 29 _ rfl w8.heap.size rfl 29 #[.int .i64 sg1, .int .i64 lg1, .slice (some ⟨g8, 0, none⟩) n1 n1] (0, 0) _ bx1_75 Try.underlying29 rfl (play_info _ _ _ _ _) ?_))
  have dr : Chg w11 w11.drew 0 0 := Chg.of_drew ⟨1, rfl⟩ _ _
  have s0 : (fun V => SBox V 26 w6.heap.size #[.slice (some ⟨g6, 0, none⟩) n0 n0] ∧ SBox V 57 w.heap.size #[.slice A0 n0 c0]) w11.drew := ⟨bx0_73.still dr, A0_69.still dr⟩
  refine wp_region_held_drew (S := fun V => SBox V 26 w6.heap.size #[.slice (some ⟨g6, 0, none⟩) n0 n0] ∧ SBox V 57 w.heap.size #[.slice A0 n0 c0]) (by kernel_rfl) s0 (fun hHeld => ?_)
  refine take_slotC (i := 0) (d := some 40) (v := .agg #[.slice (some ⟨g6, 0, none⟩) n0 n0]) rfl (by kernel_rfl) (by kernel_rfl) (by kernel_rfl) (by kernel_rfl) (fun _ _ _ h => h) (yieldsIf_load_mid (by kernel_rfl) 26 (.tmp 7) rfl w6.heap.size 0 rfl [.slice (some ⟨g6, 0, none⟩) n0 n0] _ (fun V hV => hV.1.range) Try.underlying26 rfl (deal_infoL _)) hHeld ?_
  try simp only [Act.put, List.setIfInBounds_toArray, List.set_cons_zero, List.set_cons_succ]
  refine take_slotC (i := 1) (d := some 41) (v := .agg #[.slice A0 n0 c0]) rfl (by kernel_rfl) (by kernel_rfl) (by kernel_rfl) (by kernel_rfl) (fun _ _ _ h => h) (yieldsIf_load_mid (by kernel_rfl) 57 (.tmp 2) rfl w.heap.size 0 rfl [.slice A0 n0 c0] _ (fun V hV => hV.2.range) Try.underlying57 rfl (ldeal_infoL _)) hHeld ?_
  try simp only [Act.put, List.setIfInBounds_toArray, List.set_cons_zero, List.set_cons_succ]
  refine wpAnyH_ready (rs := [2]) (by kernel_rfl) (by simp) (AllReadyH.cons (i := 2) rfl (fun K' hK' => ?_) AllReadyH.nil)
  go_simp
  refine (toDeal A0 n0 c0 zss0 _ _ _ (h0_67.still dr) hm0 hl0).mono ?_
  rintro e w12 ⟨g12, rfl, o12, p12⟩
  have c12 := dr.trans p12
  have hs12 : (fun V => SBox V 26 w6.heap.size #[.slice (some ⟨g6, 0, none⟩) n0 n0] ∧ SBox V 57 w.heap.size #[.slice A0 n0 c0]) w12 := ⟨hHeld.1.still p12, hHeld.2.still p12⟩
  clear p12 dr s0
  have h0_78 := h0_67.still c12
  have h1_79 := h1_68.still c12
  have A0_80 := A0_69.still c12
  have A1_81 := A1_70.still c12
  have W_82 := W_71.still c12
  have x0_83 := x0_72.still c12
  have bx0_84 := bx0_73.still c12
  have x1_85 := x1_74.still c12
  have bx1_86 := bx1_75.still c12
  have G_87 := G_76.still c12
  have b88 := Chg.above b77 c12 (by omega) (by omega)
  have t88 : w11.heap.size ≤ w12.heap.size := c12.size
  clear h0_67 h1_68 A0_69 A1_70 W_71 x0_72 bx0_73 x1_74 bx1_75 G_76 b77 c12
  refine hK'.out _ _ hs12 (fun hHeld => ?_)
  clear hK' hs12
  try simp only [Act.put, List.setIfInBounds_toArray, List.set_cons_zero, List.set_cons_succ]
  refine wpAnyH_ready (rs := [3]) (by kernel_rfl) (by simp) (AllReadyH.cons (i := 3) rfl (fun K' hK' => ?_) AllReadyH.nil)
  go_simp
  refine (eqDeal _ _ n0 n0 _ _ zss0 _ _ _ _ _ x0_83.rd o12.rd hm0 hl0).mono ?_
  rintro e w13 ⟨rfl, c13⟩
  have hs13 : (fun V => SBox V 26 w6.heap.size #[.slice (some ⟨g6, 0, none⟩) n0 n0] ∧ SBox V 57 w.heap.size #[.slice A0 n0 c0]) w13 := ⟨hHeld.1.still c13, hHeld.2.still c13⟩
  clear o12
  have h0_89 := h0_78.still c13
  have h1_90 := h1_79.still c13
  have A0_91 := A0_80.still c13
  have A1_92 := A1_81.still c13
  have W_93 := W_82.still c13
  have x0_94 := x0_83.still c13
  have bx0_95 := bx0_84.still c13
  have x1_96 := x1_85.still c13
  have bx1_97 := bx1_86.still c13
  have G_98 := G_87.still c13
  have b99 := Chg.above b88 c13 (by omega) (by omega)
  have t99 : w12.heap.size ≤ w13.heap.size := c13.size
  clear h0_78 h1_79 A0_80 A1_81 W_82 x0_83 bx0_84 x1_85 bx1_86 G_87 b88 c13
  refine hK'.out _ _ hs13 (fun hHeld => ?_)
  clear hK' hs13
  try simp only [Act.put, List.setIfInBounds_toArray, List.set_cons_zero, List.set_cons_succ]
  refine take_slotC (i := 4) (d := some 44) (v := .bool false) rfl (by kernel_rfl) (by kernel_rfl) (by kernel_rfl) (by kernel_rfl) (fun _ _ _ h => h) (.inl ⟨by kernel_rfl, fun V hV => by go_simp⟩) hHeld ?_
  try simp only [Act.put, List.setIfInBounds_toArray, List.set_cons_zero, List.set_cons_succ]
  refine wpAnyH_done (by kernel_rfl) ?_ _
  clear hHeld
  go_wp2_with (first | (refine wpList_load_row rfl 57 _ rfl w.heap.size rfl 57 #[.slice A0 n0 c0] (0, 0) _ A0_91 Try.underlying57 rfl (ldeal_info7 _) ?_) | (refine wpList_load_row rfl 52 _ rfl (w.heap.size + 1) rfl 52 #[.int .i64 sg1, .int .i64 lg1, .slice A1 n1 c1] (0, 0) _ A1_92 Try.underlying52 rfl (plinfo _ _ _ _ _) ?_) | (refine wpList_load_row rfl 26 _ rfl w6.heap.size rfl 26 #[.slice (some ⟨g6, 0, none⟩) n0 n0] (0, 0) _ bx0_95 Try.underlying26 rfl (deal_info7 _) ?_) | (refine wpList_load_row rfl 29 _ rfl w8.heap.size rfl 29 #[.int .i64 sg1, .int .i64 lg1, .slice (some ⟨g8, 0, none⟩) n1 n1] (0, 0) _ bx1_97 Try.underlying29 rfl (play_info _ _ _ _ _) ?_))
  have dr : Chg w13 w13.drew 0 0 := Chg.of_drew ⟨1, rfl⟩ _ _
  have s0 : (fun V => SBox V 29 w8.heap.size #[.int .i64 sg1, .int .i64 lg1, .slice (some ⟨g8, 0, none⟩) n1 n1] ∧ SBox V 52 (w.heap.size + 1) #[.int .i64 sg1, .int .i64 lg1, .slice A1 n1 c1]) w13.drew := ⟨bx1_97.still dr, A1_92.still dr⟩
  refine wp_region_held_drew (S := fun V => SBox V 29 w8.heap.size #[.int .i64 sg1, .int .i64 lg1, .slice (some ⟨g8, 0, none⟩) n1 n1] ∧ SBox V 52 (w.heap.size + 1) #[.int .i64 sg1, .int .i64 lg1, .slice A1 n1 c1]) (by kernel_rfl) s0 (fun hHeld => ?_)
  refine take_slotC (i := 0) (d := some 45) (v := .agg #[.int .i64 sg1, .int .i64 lg1, .slice (some ⟨g8, 0, none⟩) n1 n1]) rfl (by kernel_rfl) (by kernel_rfl) (by kernel_rfl) (by kernel_rfl) (fun _ _ _ h => h) (yieldsIf_load_mid (by kernel_rfl) 29 (.tmp 8) rfl w8.heap.size 0 rfl [.int .i64 sg1, .int .i64 lg1, .slice (some ⟨g8, 0, none⟩) n1 n1] _ (fun V hV => hV.1.range) Try.underlying29 rfl (play_infoL _ _ _)) hHeld ?_
  try simp only [Act.put, List.setIfInBounds_toArray, List.set_cons_zero, List.set_cons_succ]
  refine take_slotC (i := 1) (d := some 46) (v := .agg #[.int .i64 sg1, .int .i64 lg1, .slice A1 n1 c1]) rfl (by kernel_rfl) (by kernel_rfl) (by kernel_rfl) (by kernel_rfl) (fun _ _ _ h => h) (yieldsIf_load_mid (by kernel_rfl) 52 (.tmp 3) rfl (w.heap.size + 1) 0 rfl [.int .i64 sg1, .int .i64 lg1, .slice A1 n1 c1] _ (fun V hV => hV.2.range) Try.underlying52 rfl (plinfoL _ _ _)) hHeld ?_
  try simp only [Act.put, List.setIfInBounds_toArray, List.set_cons_zero, List.set_cons_succ]
  refine wpAnyH_ready (rs := [2]) (by kernel_rfl) (by simp) (AllReadyH.cons (i := 2) rfl (fun K' hK' => ?_) AllReadyH.nil)
  go_simp
  refine (toPlay sg1 lg1 A1 n1 c1 zs1 _ _ _ (h1_90.still dr) hm1).mono ?_
  rintro e w14 ⟨g14, rfl, o14, p14⟩
  have c14 := dr.trans p14
  have hs14 : (fun V => SBox V 29 w8.heap.size #[.int .i64 sg1, .int .i64 lg1, .slice (some ⟨g8, 0, none⟩) n1 n1] ∧ SBox V 52 (w.heap.size + 1) #[.int .i64 sg1, .int .i64 lg1, .slice A1 n1 c1]) w14 := ⟨hHeld.1.still p14, hHeld.2.still p14⟩
  clear p14 dr s0
  have h0_100 := h0_89.still c14
  have h1_101 := h1_90.still c14
  have A0_102 := A0_91.still c14
  have A1_103 := A1_92.still c14
  have W_104 := W_93.still c14
  have x0_105 := x0_94.still c14
  have bx0_106 := bx0_95.still c14
  have x1_107 := x1_96.still c14
  have bx1_108 := bx1_97.still c14
  have G_109 := G_98.still c14
  have b110 := Chg.above b99 c14 (by omega) (by omega)
  have t110 : w13.heap.size ≤ w14.heap.size := c14.size
  clear h0_89 h1_90 A0_91 A1_92 W_93 x0_94 bx0_95 x1_96 bx1_97 G_98 b99 c14
  refine hK'.out _ _ hs14 (fun hHeld => ?_)
  clear hK' hs14
  try simp only [Act.put, List.setIfInBounds_toArray, List.set_cons_zero, List.set_cons_succ]
  refine wpAnyH_ready (rs := [3]) (by kernel_rfl) (by simp) (AllReadyH.cons (i := 3) rfl (fun K' hK' => ?_) AllReadyH.nil)
  go_simp
  refine (eqPlay sg1 lg1 _ _ n1 n1 _ _ zs1 _ _ _ _ _ x1_107.rd o14.rd hm1).mono ?_
  rintro e w15 ⟨rfl, c15⟩
  have hs15 : (fun V => SBox V 29 w8.heap.size #[.int .i64 sg1, .int .i64 lg1, .slice (some ⟨g8, 0, none⟩) n1 n1] ∧ SBox V 52 (w.heap.size + 1) #[.int .i64 sg1, .int .i64 lg1, .slice A1 n1 c1]) w15 := ⟨hHeld.1.still c15, hHeld.2.still c15⟩
  clear o14
  have h0_111 := h0_100.still c15
  have h1_112 := h1_101.still c15
  have A0_113 := A0_102.still c15
  have A1_114 := A1_103.still c15
  have W_115 := W_104.still c15
  have x0_116 := x0_105.still c15
  have bx0_117 := bx0_106.still c15
  have x1_118 := x1_107.still c15
  have bx1_119 := bx1_108.still c15
  have G_120 := G_109.still c15
  have b121 := Chg.above b110 c15 (by omega) (by omega)
  have t121 : w14.heap.size ≤ w15.heap.size := c15.size
  clear h0_100 h1_101 A0_102 A1_103 W_104 x0_105 bx0_106 x1_107 bx1_108 G_109 b110 c15
  refine hK'.out _ _ hs15 (fun hHeld => ?_)
  clear hK' hs15
  try simp only [Act.put, List.setIfInBounds_toArray, List.set_cons_zero, List.set_cons_succ]
  refine take_slotC (i := 4) (d := some 49) (v := .bool false) rfl (by kernel_rfl) (by kernel_rfl) (by kernel_rfl) (by kernel_rfl) (fun _ _ _ h => h) (.inl ⟨by kernel_rfl, fun V hV => by go_simp⟩) hHeld ?_
  try simp only [Act.put, List.setIfInBounds_toArray, List.set_cons_zero, List.set_cons_succ]
  refine wpAnyH_done (by kernel_rfl) ?_ _
  clear hHeld
  go_wp2_with (first | (refine wpList_load_row rfl 57 _ rfl w.heap.size rfl 57 #[.slice A0 n0 c0] (0, 0) _ A0_113 Try.underlying57 rfl (ldeal_info7 _) ?_) | (refine wpList_load_row rfl 52 _ rfl (w.heap.size + 1) rfl 52 #[.int .i64 sg1, .int .i64 lg1, .slice A1 n1 c1] (0, 0) _ A1_114 Try.underlying52 rfl (plinfo _ _ _ _ _) ?_) | (refine wpList_load_row rfl 26 _ rfl w6.heap.size rfl 26 #[.slice (some ⟨g6, 0, none⟩) n0 n0] (0, 0) _ bx0_117 Try.underlying26 rfl (deal_info7 _) ?_) | (refine wpList_load_row rfl 29 _ rfl w8.heap.size rfl 29 #[.int .i64 sg1, .int .i64 lg1, .slice (some ⟨g8, 0, none⟩) n1 n1] (0, 0) _ bx1_119 Try.underlying29 rfl (play_info _ _ _ _ _) ?_))
  refine (markDeal18 _ n0 _ zss0 _ _ _ x0_116 hm0 hc0).mono ?_
  rintro e w16 ⟨rfl, _, c16⟩
  clear x0_116
  clear bx0_117
  have h0_122 := h0_111.chg c16 (by omega)
  have h1_123 := h1_112.chg c16 (by omega)
  have A0_124 := A0_113.chg c16 (by omega)
  have A1_125 := A1_114.chg c16 (by omega)
  have W_126 := W_115.chg c16 (by omega)
  have x1_127 := x1_118.chg c16 (by omega)
  have bx1_128 := bx1_119.chg c16 (by omega)
  have G_129 := G_120.chg c16 (by omega)
  have b130 := Chg.above b121 c16 (by omega) (by omega)
  have t130 : w15.heap.size ≤ w16.heap.size := c16.size
  clear h0_111 h1_112 A0_113 A1_114 W_115 x1_118 bx1_119 G_120 b121 c16
  go_wp2_with (first | (refine wpList_load_row rfl 57 _ rfl w.heap.size rfl 57 #[.slice A0 n0 c0] (0, 0) _ A0_124 Try.underlying57 rfl (ldeal_info7 _) ?_) | (refine wpList_load_row rfl 52 _ rfl (w.heap.size + 1) rfl 52 #[.int .i64 sg1, .int .i64 lg1, .slice A1 n1 c1] (0, 0) _ A1_125 Try.underlying52 rfl (plinfo _ _ _ _ _) ?_) | (refine wpList_load_row rfl 29 _ rfl w8.heap.size rfl 29 #[.int .i64 sg1, .int .i64 lg1, .slice (some ⟨g8, 0, none⟩) n1 n1] (0, 0) _ bx1_128 Try.underlying29 rfl (play_info _ _ _ _ _) ?_))
  refine (markPlayI sg1 lg1 _ n1 n1 zs1 _ _ (1 + (cnt zss0 n0 : Int)) _ x1_127 hm1 (by omega) (by omega)).mono ?_
  rintro e w17 ⟨rfl, _, c17⟩
  clear x1_127
  clear bx1_128
  have h0_131 := h0_122.chg c17 (by omega)
  have h1_132 := h1_123.chg c17 (by omega)
  have A0_133 := A0_124.chg c17 (by omega)
  have A1_134 := A1_125.chg c17 (by omega)
  have W_135 := W_126.chg c17 (by omega)
  have G_136 := G_129.chg c17 (by omega)
  have b137 := Chg.above b130 c17 (by omega) (by omega)
  have t137 : w16.heap.size ≤ w17.heap.size := c17.size
  clear h0_122 h1_123 A0_124 A1_125 W_126 G_129 b130 c17
  go_wp2_with (first | (refine wpList_load_row rfl 57 _ rfl w.heap.size rfl 57 #[.slice A0 n0 c0] (0, 0) _ A0_133 Try.underlying57 rfl (ldeal_info7 _) ?_) | (refine wpList_load_row rfl 52 _ rfl (w.heap.size + 1) rfl 52 #[.int .i64 sg1, .int .i64 lg1, .slice A1 n1 c1] (0, 0) _ A1_134 Try.underlying52 rfl (plinfo _ _ _ _ _) ?_))
  refine (eqInt64SS _ _ R.length R.length _ _ R _ _ _ _ _ G_136.rd W_135.rd hRn hRl).mono ?_
  rintro e w18 ⟨rfl, c18⟩
  have h0_138 := h0_131.still c18
  have h1_139 := h1_132.still c18
  have A0_140 := A0_133.still c18
  have A1_141 := A1_134.still c18
  have W_142 := W_135.still c18
  have G_143 := G_136.still c18
  have b144 := Chg.above b137 c18 (by omega) (by omega)
  have t144 : w17.heap.size ≤ w18.heap.size := c18.size
  clear h0_131 h1_132 A0_133 A1_134 W_135 G_136 b137 c18
  go_wp2_with (first | (refine wpList_load_row rfl 57 _ rfl w.heap.size rfl 57 #[.slice A0 n0 c0] (0, 0) _ A0_140 Try.underlying57 rfl (ldeal_info7 _) ?_) | (refine wpList_load_row rfl 52 _ rfl (w.heap.size + 1) rfl 52 #[.int .i64 sg1, .int .i64 lg1, .slice A1 n1 c1] (0, 0) _ A1_141 Try.underlying52 rfl (plinfo _ _ _ _ _) ?_))
  refine (markRows18 _ R.length _ R _ _ _ G_143 hRn hRc).mono ?_
  rintro e w19 ⟨rfl, m19, c19⟩
  clear G_143
  have h0_145 := h0_138.chg c19 (by omega)
  have h1_146 := h1_139.chg c19 (by omega)
  have A0_147 := A0_140.chg c19 (by omega)
  have A1_148 := A1_141.chg c19 (by omega)
  have W_149 := W_142.chg c19 (by omega)
  have b150 := Chg.above b144 c19 (by omega) (by omega)
  have t150 : w18.heap.size ≤ w19.heap.size := c19.size
  clear h0_138 h1_139 A0_140 A1_141 W_142 b144 c19
  go_wp2_with (first | (refine wpList_load_row rfl 57 _ rfl w.heap.size rfl 57 #[.slice A0 n0 c0] (0, 0) _ A0_147 Try.underlying57 rfl (ldeal_info7 _) ?_) | (refine wpList_load_row rfl 52 _ rfl (w.heap.size + 1) rfl 52 #[.int .i64 sg1, .int .i64 lg1, .slice A1 n1 c1] (0, 0) _ A1_148 Try.underlying52 rfl (plinfo _ _ _ _ _) ?_))
  refine (heldRows18 _ R.length _ R _ _ _ rfl m19.rd hRn hRc).mono ?_
  rintro e w' ⟨rfl, rfl⟩
  go_wp2_with (first | (refine wpList_load_row rfl 57 _ rfl w.heap.size rfl 57 #[.slice A0 n0 c0] (0, 0) _ A0_147 Try.underlying57 rfl (ldeal_info7 _) ?_) | (refine wpList_load_row rfl 52 _ rfl (w.heap.size + 1) rfl 52 #[.int .i64 sg1, .int .i64 lg1, .slice A1 n1 c1] (0, 0) _ A1_148 Try.underlying52 rfl (plinfo _ _ _ _ _) ?_))
  have dr : Chg w19 w19.drew 0 0 := Chg.of_drew ⟨1, rfl⟩ _ _
  have s0 : (fun V => SBox V 57 w.heap.size #[.slice A0 n0 c0] ∧ SBox V 52 (w.heap.size + 1) #[.int .i64 sg1, .int .i64 lg1, .slice A1 n1 c1]) w19.drew := ⟨A0_147.still dr, A1_148.still dr⟩
  refine wp_region_held_drew (S := fun V => SBox V 57 w.heap.size #[.slice A0 n0 c0] ∧ SBox V 52 (w.heap.size + 1) #[.int .i64 sg1, .int .i64 lg1, .slice A1 n1 c1]) (by kernel_rfl) s0 (fun hHeld => ?_)
  refine take_slotC (i := 0) (d := some 75) (v := .agg #[.slice A0 n0 c0]) rfl (by kernel_rfl) (by kernel_rfl) (by kernel_rfl) (by kernel_rfl) (fun _ _ _ h => h) (yieldsIf_load_mid (by kernel_rfl) 57 (.tmp 2) rfl w.heap.size 0 rfl [.slice A0 n0 c0] _ (fun V hV => hV.1.range) Try.underlying57 rfl (ldeal_infoL _)) hHeld ?_
  try simp only [Act.put, List.setIfInBounds_toArray, List.set_cons_zero, List.set_cons_succ]
  refine take_slotC (i := 2) (d := some 77) (v := .agg #[.int .i64 sg1, .int .i64 lg1, .slice A1 n1 c1]) rfl (by kernel_rfl) (by kernel_rfl) (by kernel_rfl) (by kernel_rfl) (fun _ _ _ h => h) (yieldsIf_load_mid (by kernel_rfl) 52 (.tmp 3) rfl (w.heap.size + 1) 0 rfl [.int .i64 sg1, .int .i64 lg1, .slice A1 n1 c1] _ (fun V hV => hV.2.range) Try.underlying52 rfl (plinfoL _ _ _)) hHeld ?_
  try simp only [Act.put, List.setIfInBounds_toArray, List.set_cons_zero, List.set_cons_succ]
  refine wpAnyH_ready (rs := [1]) (by kernel_rfl) (by simp) (AllReadyH.cons (i := 1) rfl (fun K' hK' => ?_) AllReadyH.nil)
  go_simp
  refine (toDeal A0 n0 c0 zss0 _ _ _ (h0_145.still dr) hm0 hl0).mono ?_
  rintro e w21 ⟨g21, rfl, o21, c21⟩
  have hs21 : (fun V => SBox V 57 w.heap.size #[.slice A0 n0 c0] ∧ SBox V 52 (w.heap.size + 1) #[.int .i64 sg1, .int .i64 lg1, .slice A1 n1 c1]) w21 := ⟨hHeld.1.still c21, hHeld.2.still c21⟩
  have c21 := dr.trans c21
  clear dr s0
  have h0_151 := h0_145.still c21
  have h1_152 := h1_146.still c21
  have A0_153 := A0_147.still c21
  have A1_154 := A1_148.still c21
  have W_155 := W_149.still c21
  have M_156 := m19.still c21
  have b157 := Chg.above b150 c21 (by omega) (by omega)
  have t157 : w19.heap.size ≤ w21.heap.size := c21.size
  clear h0_145 h1_146 A0_147 A1_148 W_149 m19 b150 c21
  refine hK'.out _ _ hs21 (fun hHeld => ?_)
  clear hK' hs21
  try simp only [Act.put, List.setIfInBounds_toArray, List.set_cons_zero, List.set_cons_succ]
  refine wpAnyH_ready (rs := [3]) (by kernel_rfl) (by simp) (AllReadyH.cons (i := 3) rfl (fun K' hK' => ?_) AllReadyH.nil)
  go_simp
  refine (toPlay sg1 lg1 A1 n1 c1 zs1 _ _ _ h1_152 hm1).mono ?_
  rintro e w22 ⟨g22, rfl, o22, c22⟩
  have hs22 : (fun V => SBox V 57 w.heap.size #[.slice A0 n0 c0] ∧ SBox V 52 (w.heap.size + 1) #[.int .i64 sg1, .int .i64 lg1, .slice A1 n1 c1]) w22 := ⟨hHeld.1.still c22, hHeld.2.still c22⟩
  have h0_158 := h0_151.still c22
  have h1_159 := h1_152.still c22
  have A0_160 := A0_153.still c22
  have A1_161 := A1_154.still c22
  have W_162 := W_155.still c22
  have M_163 := M_156.still c22
  have y0_164 := o21.still c22
  have b165 := Chg.above b157 c22 (by omega) (by omega)
  have t165 : w21.heap.size ≤ w22.heap.size := c22.size
  clear h0_151 h1_152 A0_153 A1_154 W_155 M_156 o21 b157 c22
  refine hK'.out _ _ hs22 (fun hHeld => ?_)
  clear hK' hs22
  try simp only [Act.put, List.setIfInBounds_toArray, List.set_cons_zero, List.set_cons_succ]
  refine wpAnyH_ready (rs := [4]) (by kernel_rfl) (by simp) (AllReadyH.cons (i := 4) rfl (fun K' hK' => ?_) AllReadyH.nil)
  go_simp
  refine (((impl_CardsLeft _ n0 n0 zss0 sg1 lg1 _ n1 n1 zs1 _ (y0_164.rd.more (Nat.zero_le _) (by omega)) hl0 (o22.rd.more (Nat.zero_le _) (by omega)) hm1 (Nat.le_refl _) (fun e => by cases e)).mono fun _ _ h => (show RetR8 _ _ _ _ from h))).mono ?_
  rw [HRR.out]
  rintro e w23 ⟨W23, e23, rfl, _, j23, c23⟩
  have hs23 : (fun V => SBox V 57 w.heap.size #[.slice A0 n0 c0] ∧ SBox V 52 (w.heap.size + 1) #[.int .i64 sg1, .int .i64 lg1, .slice A1 n1 c1]) w23 := ⟨hHeld.1.still c23, hHeld.2.still c23⟩
  have h0_166 := h0_158.still c23
  have h1_167 := h1_159.still c23
  have A0_168 := A0_160.still c23
  have A1_169 := A1_161.still c23
  have W_170 := W_162.still c23
  have M_171 := M_163.still c23
  have y0_172 := y0_164.still c23
  have y1_173 := o22.still c23
  have b174 := Chg.above b165 c23 (by omega) (by omega)
  have t174 : w22.heap.size ≤ w23.heap.size := c23.size
  clear h0_158 h1_159 A0_160 A1_161 W_162 M_163 y0_164 o22 b165 c23
  refine hK'.out _ _ hs23 (fun hHeld => ?_)
  clear hK' hs23
  try simp only [Act.put, List.setIfInBounds_toArray, List.set_cons_zero, List.set_cons_succ]
  refine take_slotC (i := 5) (d := some 13) (v := .slice W23 R.length e23) rfl (by kernel_rfl) (by kernel_rfl) (by kernel_rfl) (by kernel_rfl) (fun _ _ _ h => h) (.inl ⟨by kernel_rfl, fun V hV => by go_simp⟩) hHeld ?_
  try simp only [Act.put, List.setIfInBounds_toArray, List.set_cons_zero, List.set_cons_succ]
  refine wpAnyH_done (by kernel_rfl) ?_ _
  clear hHeld
  go_wp2_with (first | (refine wpList_load_row rfl 57 _ rfl w.heap.size rfl 57 #[.slice A0 n0 c0] (0, 0) _ A0_168 Try.underlying57 rfl (ldeal_info7 _) ?_) | (refine wpList_load_row rfl 52 _ rfl (w.heap.size + 1) rfl 52 #[.int .i64 sg1, .int .i64 lg1, .slice A1 n1 c1] (0, 0) _ A1_169 Try.underlying52 rfl (plinfo _ _ _ _ _) ?_))
  refine (eqInt64SS _ _ R.length R.length _ _ R _ _ _ _ _ j23.rd W_170.rd hRn hRl).mono ?_
  rintro e w24 ⟨rfl, c24⟩
  have h0_175 := h0_166.still c24
  have h1_176 := h1_167.still c24
  have A0_177 := A0_168.still c24
  have A1_178 := A1_169.still c24
  have W_179 := W_170.still c24
  have M_180 := M_171.still c24
  have y0_181 := y0_172.still c24
  have y1_182 := y1_173.still c24
  have K_183 := j23.still c24
  have b184 := Chg.above b174 c24 (by omega) (by omega)
  have t184 : w23.heap.size ≤ w24.heap.size := c24.size
  clear h0_166 h1_167 A0_168 A1_169 W_170 M_171 y0_172 y1_173 j23 b174 c24
  go_wp2_with (first | (refine wpList_load_row rfl 57 _ rfl w.heap.size rfl 57 #[.slice A0 n0 c0] (0, 0) _ A0_177 Try.underlying57 rfl (ldeal_info7 _) ?_) | (refine wpList_load_row rfl 52 _ rfl (w.heap.size + 1) rfl 52 #[.int .i64 sg1, .int .i64 lg1, .slice A1 n1 c1] (0, 0) _ A1_178 Try.underlying52 rfl (plinfo _ _ _ _ _) ?_))
  refine (heldRows18 _ R.length _ R _ _ _ rfl M_180.rd hRn hRc).mono ?_
  rintro e w' ⟨rfl, rfl⟩
  go_wp2_with (first | (refine wpList_load_row rfl 57 _ rfl w.heap.size rfl 57 #[.slice A0 n0 c0] (0, 0) _ A0_177 Try.underlying57 rfl (ldeal_info7 _) ?_) | (refine wpList_load_row rfl 52 _ rfl (w.heap.size + 1) rfl 52 #[.int .i64 sg1, .int .i64 lg1, .slice A1 n1 c1] (0, 0) _ A1_178 Try.underlying52 rfl (plinfo _ _ _ _ _) ?_))
  go_ret
  exact ⟨rfl, b184⟩

end Go.Proofs.Yteglffbeldlibaa.Lib1
