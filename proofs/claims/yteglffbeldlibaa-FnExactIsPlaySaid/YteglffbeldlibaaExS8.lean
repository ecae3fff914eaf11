/- Chapter 8: exact laws over plays and deals. (Written by wip/gen8x.py.) -/
import Derived.Test.YteglffbeldlibaaExL8
import Derived.Deep.CutRange
import Derived.Test.YteglffbeldlibaaPy8
namespace Go.Proofs.Yteglffbeldlibaa.Lib1
open Go.RowKit
set_option maxRecDepth 100000

set_option maxHeartbeats 8000000 in
theorem law_TurnOf8 (A0 : Option Addr) (n0 c0 : Nat) (zss0 : List (List Int)) (sg1 lg1 : Int) (A1 : Option Addr) (n1 c1 : Nat) (zs1 : List Int) (w : World) (h0 : RdR w 0 w.heap.size A0 n0 zss0) (l0 : Lens n0 zss0) (h1 : Rd w 0 w.heap.size A1 n1 zs1) (l1 : n1 ≤ maxLen) :
    Calls Try.prog 10 #[.agg #[.slice A0 n0 c0], .agg #[.int .i64 sg1, .int .i64 lg1, .slice A1 n1 c1]] w fun e w' => e = .returned (.bool true) ∧ Below w.heap.size w w' := by
  obtain ⟨R, hR⟩ : ∃ R, R = (turnV zss0 sg1 lg1 zs1) := ⟨_, rfl⟩
  have HRR := Lib.hid hR
  clear hR
  have hRR : (R == R) = true := by simp
  have bl := Below.refl w.heap.size w
  have y0 : (w.alloc (.cells #[.slice A0 n0 c0] 57)).heap.size = w.heap.size + 1 := by simp
  have q0 := Chg.of_alloc w (.cells #[.slice A0 n0 c0] 57) 0 0
  have xb0 := SBox.new w 57 #[.slice A0 n0 c0]
  have q1 := Chg.of_alloc (w.alloc (.cells #[.slice A0 n0 c0] 57)) (.cells #[.int .i64 sg1, .int .i64 lg1, .slice A1 n1 c1] 52) 0 0
  have xb1 := SBox.new (w.alloc (.cells #[.slice A0 n0 c0] 57)) 52 #[.int .i64 sg1, .int .i64 lg1, .slice A1 n1 c1]
  rw [y0] at xb1
  have xa0 := xb0.still q1
  have xa1 := xb1
  have ca := q0.trans q1
  clear q0 q1 xb0 xb1
  have ha0 := h0.still ca
  have ha1 := h1.still ca
  have ba := Chg.above bl ca (by omega) (by omega)
  have za : w.heap.size + 2 ≤ ((w.alloc (.cells #[.slice A0 n0 c0] 57)).alloc (.cells #[.int .i64 sg1, .int .i64 lg1, .slice A1 n1 c1] 52)).heap.size := by simp
  clear bl ca y0 h0 h1
  go_enter Try.func10, Try.ntmps10
  go_wp2_with (first | (refine wpList_load_row rfl 57 _ rfl w.heap.size rfl 57 #[.slice A0 n0 c0] (0, 0) _ xa0 Try.underlying57 rfl (ldeal_info7 _) ?_) | (refine wpList_load_row rfl 52 _ rfl (w.heap.size + 1) rfl 52 #[.int .i64 sg1, .int .i64 lg1, .slice A1 n1 c1] (0, 0) _ xa1 Try.underlying52 rfl (plinfo _ _ _ _ _) ?_))
  generalize ((w.alloc (.cells #[.slice A0 n0 c0] 57)).alloc (.cells #[.int .i64 sg1, .int .i64 lg1, .slice A1 n1 c1] 52)) = w0 at ha0 ha1 xa0 xa1 ba za ⊢
  refine (szDeal A0 n0 c0 1048576 zss0 _ _ _ ha0 (by omega) (by omega) l0).mono ?_
  rintro e w1 ⟨u1, rfl, hu1, c1⟩
  have h0_1 := ha0.still c1
  have h1_2 := ha1.still c1
  have A0_3 := xa0.still c1
  have A1_4 := xa1.still c1
  have b5 := Chg.above ba c1 (by omega) (by omega)
  have t5 : w0.heap.size ≤ w1.heap.size := c1.size
  clear ha0 ha1 xa0 xa1 ba c1
  by_cases hv1 : u1 < 0
  · go_wp2_with fail
    go_ret
    exact ⟨rfl, b5⟩
  obtain ⟨hm0, hl0, hc0⟩ := Sized_le8 hu1 (by omega) rfl
  have hu1 : 0 ≤ u1 ∧ u1 ≤ 1048576 := by rcases hu1 with e | ⟨p1, p2, _⟩; omega; exact ⟨p1, p2⟩
  go_wp2_with (first | (refine wpList_load_row rfl 57 _ rfl w.heap.size rfl 57 #[.slice A0 n0 c0] (0, 0) _ A0_3 Try.underlying57 rfl (ldeal_info7 _) ?_) | (refine wpList_load_row rfl 52 _ rfl (w.heap.size + 1) rfl 52 #[.int .i64 sg1, .int .i64 lg1, .slice A1 n1 c1] (0, 0) _ A1_4 Try.underlying52 rfl (plinfo _ _ _ _ _) ?_))
  refine (szPlay sg1 lg1 A1 n1 c1 u1 _ (by omega) (by omega) l1).mono ?_
  rintro e w2 ⟨⟨u2, rfl, hu2⟩, c2⟩
  have h0_6 := h0_1.still c2
  have h1_7 := h1_2.still c2
  have A0_8 := A0_3.still c2
  have A1_9 := A1_4.still c2
  have b10 := Chg.above b5 c2 (by omega) (by omega)
  have t10 : w1.heap.size ≤ w2.heap.size := c2.size
  clear h0_1 h1_2 A0_3 A1_4 b5 c2
  by_cases hv2 : u2 < 0
  · go_wp2_with fail
    go_ret
    exact ⟨rfl, b10⟩
  have hm1 : n1 ≤ 1048576 := by omega
  go_wp2_with (first | (refine wpList_load_row rfl 57 _ rfl w.heap.size rfl 57 #[.slice A0 n0 c0] (0, 0) _ A0_8 Try.underlying57 rfl (ldeal_info7 _) ?_) | (refine wpList_load_row rfl 52 _ rfl (w.heap.size + 1) rfl 52 #[.int .i64 sg1, .int .i64 lg1, .slice A1 n1 c1] (0, 0) _ A1_9 Try.underlying52 rfl (plinfo _ _ _ _ _) ?_))
  have dr : Chg w2 w2.drew 0 0 := Chg.of_drew ⟨1, rfl⟩ _ _
  have s0 : (fun V => SBox V 57 w.heap.size #[.slice A0 n0 c0] ∧ SBox V 52 (w.heap.size + 1) #[.int .i64 sg1, .int .i64 lg1, .slice A1 n1 c1]) w2.drew := ⟨A0_8.still dr, A1_9.still dr⟩
  refine wp_region_held_drew (S := fun V => SBox V 57 w.heap.size #[.slice A0 n0 c0] ∧ SBox V 52 (w.heap.size + 1) #[.int .i64 sg1, .int .i64 lg1, .slice A1 n1 c1]) (by kernel_rfl) s0 (fun hHeld => ?_)
  refine take_slotC (i := 0) (d := some 20) (v := .agg #[.slice A0 n0 c0]) rfl (by kernel_rfl) (by kernel_rfl) (by kernel_rfl) (by kernel_rfl) (fun _ _ _ h => h) (yieldsIf_load_mid (by kernel_rfl) 57 (.tmp 2) rfl w.heap.size 0 rfl [.slice A0 n0 c0] _ (fun V hV => hV.1.range) Try.underlying57 rfl (ldeal_infoL _)) hHeld ?_
  try simp only [Act.put, List.setIfInBounds_toArray, List.set_cons_zero, List.set_cons_succ]
  refine take_slotC (i := 2) (d := some 22) (v := .agg #[.int .i64 sg1, .int .i64 lg1, .slice A1 n1 c1]) rfl (by kernel_rfl) (by kernel_rfl) (by kernel_rfl) (by kernel_rfl) (fun _ _ _ h => h) (yieldsIf_load_mid (by kernel_rfl) 52 (.tmp 3) rfl (w.heap.size + 1) 0 rfl [.int .i64 sg1, .int .i64 lg1, .slice A1 n1 c1] _ (fun V hV => hV.2.range) Try.underlying52 rfl (plinfoL _ _ _)) hHeld ?_
  try simp only [Act.put, List.setIfInBounds_toArray, List.set_cons_zero, List.set_cons_succ]
  refine wpAnyH_ready (rs := [1]) (by kernel_rfl) (by simp) (AllReadyH.cons (i := 1) rfl (fun K' hK' => ?_) AllReadyH.nil)
  go_simp
  refine (toDeal A0 n0 c0 zss0 _ _ _ (h0_6.still dr) hm0 hl0).mono ?_
  rintro e w3 ⟨g3, rfl, o3, c3⟩
  have hs3 : (fun V => SBox V 57 w.heap.size #[.slice A0 n0 c0] ∧ SBox V 52 (w.heap.size + 1) #[.int .i64 sg1, .int .i64 lg1, .slice A1 n1 c1]) w3 := ⟨hHeld.1.still c3, hHeld.2.still c3⟩
  have c3 := dr.trans c3
  clear dr s0
  have h0_11 := h0_6.still c3
  have h1_12 := h1_7.still c3
  have A0_13 := A0_8.still c3
  have A1_14 := A1_9.still c3
  have b15 := Chg.above b10 c3 (by omega) (by omega)
  have t15 : w2.heap.size ≤ w3.heap.size := c3.size
  clear h0_6 h1_7 A0_8 A1_9 b10 c3
  refine hK'.out _ _ hs3 (fun hHeld => ?_)
  clear hK' hs3
  try simp only [Act.put, List.setIfInBounds_toArray, List.set_cons_zero, List.set_cons_succ]
  refine wpAnyH_ready (rs := [3]) (by kernel_rfl) (by simp) (AllReadyH.cons (i := 3) rfl (fun K' hK' => ?_) AllReadyH.nil)
  go_simp
  refine (toPlay sg1 lg1 A1 n1 c1 zs1 _ _ _ h1_12 hm1).mono ?_
  rintro e w4 ⟨g4, rfl, o4, c4⟩
  have hs4 : (fun V => SBox V 57 w.heap.size #[.slice A0 n0 c0] ∧ SBox V 52 (w.heap.size + 1) #[.int .i64 sg1, .int .i64 lg1, .slice A1 n1 c1]) w4 := ⟨hHeld.1.still c4, hHeld.2.still c4⟩
  have h0_16 := h0_11.still c4
  have h1_17 := h1_12.still c4
  have A0_18 := A0_13.still c4
  have A1_19 := A1_14.still c4
  have s0_20 := o3.still c4
  have b21 := Chg.above b15 c4 (by omega) (by omega)
  have t21 : w3.heap.size ≤ w4.heap.size := c4.size
  clear h0_11 h1_12 A0_13 A1_14 o3 b15 c4
  refine hK'.out _ _ hs4 (fun hHeld => ?_)
  clear hK' hs4
  try simp only [Act.put, List.setIfInBounds_toArray, List.set_cons_zero, List.set_cons_succ]
  refine wpAnyH_ready (rs := [4]) (by kernel_rfl) (by simp) (AllReadyH.cons (i := 4) rfl (fun K' hK' => ?_) AllReadyH.nil)
  go_simp
  refine (spec_TurnOf _ n0 n0 zss0 sg1 lg1 _ n1 n1 zs1 _ (s0_20.rd.more (Nat.zero_le _) (by omega)) hl0 (o4.rd.more (Nat.zero_le _) (by omega)) hm1 (Nat.le_refl _) (fun e => by cases e)).mono ?_
  rw [← HRR.out]
  rintro e w5 ⟨rfl, c5⟩
  have hs5 : (fun V => SBox V 57 w.heap.size #[.slice A0 n0 c0] ∧ SBox V 52 (w.heap.size + 1) #[.int .i64 sg1, .int .i64 lg1, .slice A1 n1 c1]) w5 := ⟨hHeld.1.still c5, hHeld.2.still c5⟩
  clear s0_20
  clear o4
  have h0_22 := h0_16.still c5
  have h1_23 := h1_17.still c5
  have A0_24 := A0_18.still c5
  have A1_25 := A1_19.still c5
  have b26 := Chg.above b21 c5 (by omega) (by omega)
  have t26 : w4.heap.size ≤ w5.heap.size := c5.size
  clear h0_16 h1_17 A0_18 A1_19 b21 c5
  refine hK'.out _ _ hs5 (fun hHeld => ?_)
  clear hK' hs5
  try simp only [Act.put, List.setIfInBounds_toArray, List.set_cons_zero, List.set_cons_succ]
  refine take_slotC (i := 5) (d := some 6) (v := .int .i64 R) rfl (by kernel_rfl) (by kernel_rfl) (by kernel_rfl) (by kernel_rfl) (fun _ _ _ h => h) (.inl ⟨by kernel_rfl, fun V hV => by go_simp⟩) hHeld ?_
  try simp only [Act.put, List.setIfInBounds_toArray, List.set_cons_zero, List.set_cons_succ]
  refine wpAnyH_done (by kernel_rfl) ?_ _
  clear hHeld
  go_wp2_with (first | (refine wpList_load_row rfl 57 _ rfl w.heap.size rfl 57 #[.slice A0 n0 c0] (0, 0) _ A0_24 Try.underlying57 rfl (ldeal_info7 _) ?_) | (refine wpList_load_row rfl 52 _ rfl (w.heap.size + 1) rfl 52 #[.int .i64 sg1, .int .i64 lg1, .slice A1 n1 c1] (0, 0) _ A1_25 Try.underlying52 rfl (plinfo _ _ _ _ _) ?_))
  refine (toDeal A0 n0 c0 zss0 _ _ _ h0_22 hm0 hl0).mono ?_
  rintro e w6 ⟨g6, rfl, o6, c6⟩
  have h0_27 := h0_22.still c6
  have h1_28 := h1_23.still c6
  have A0_29 := A0_24.still c6
  have A1_30 := A1_25.still c6
  have b31 := Chg.above b26 c6 (by omega) (by omega)
  have t31 : w5.heap.size ≤ w6.heap.size := c6.size
  clear h0_22 h1_23 A0_24 A1_25 b26 c6
  have x7 := SBox.new w6 26 #[.slice (some ⟨g6, 0, none⟩) n0 n0]
  have a7 := Chg.of_alloc w6 (.cells #[.slice (some ⟨g6, 0, none⟩) n0 n0] 26) 0 0
  have z7 : w6.heap.size < (w6.alloc (.cells #[.slice (some ⟨g6, 0, none⟩) n0 n0] 26)).heap.size := by simp
  have h0_32 := h0_27.still a7
  have h1_33 := h1_28.still a7
  have A0_34 := A0_29.still a7
  have A1_35 := A1_30.still a7
  have x0_36 := o6.still a7
  have b37 := Chg.above b31 a7 (by omega) (by omega)
  clear h0_27 h1_28 A0_29 A1_30 o6 b31 a7
  go_wp2_with (first | (refine wpList_load_row rfl 57 _ rfl w.heap.size rfl 57 #[.slice A0 n0 c0] (0, 0) _ A0_34 Try.underlying57 rfl (ldeal_info7 _) ?_) | (refine wpList_load_row rfl 52 _ rfl (w.heap.size + 1) rfl 52 #[.int .i64 sg1, .int .i64 lg1, .slice A1 n1 c1] (0, 0) _ A1_35 Try.underlying52 rfl (plinfo _ _ _ _ _) ?_) | (refine wpList_load_row rfl 26 _ rfl w6.heap.size rfl 26 #[.slice (some ⟨g6, 0, none⟩) n0 n0] (0, 0) _ x7 Try.underlying26 rfl (deal_info7 _) ?_))
  generalize w6.alloc (.cells #[.slice (some ⟨g6, 0, none⟩) n0 n0] 26) = v7 at h0_32 h1_33 A0_34 A1_35 x0_36 x7 b37 z7 ⊢
  refine (toPlay sg1 lg1 A1 n1 c1 zs1 _ _ _ h1_33 hm1).mono ?_
  rintro e w8 ⟨g8, rfl, o8, c8⟩
  have h0_38 := h0_32.still c8
  have h1_39 := h1_33.still c8
  have A0_40 := A0_34.still c8
  have A1_41 := A1_35.still c8
  have x0_42 := x0_36.still c8
  have bx0_43 := x7.still c8
  have b44 := Chg.above b37 c8 (by omega) (by omega)
  have t44 : v7.heap.size ≤ w8.heap.size := c8.size
  clear h0_32 h1_33 A0_34 A1_35 x0_36 x7 b37 c8
  have x9 := SBox.row w8 29 #[.int .i64 0, .int .i64 0, .slice none 0 0] #[.int .i64 sg1, .int .i64 lg1, .slice (some ⟨g8, 0, none⟩) n1 n1]
  have a9 := chg_row w8 29 #[.int .i64 0, .int .i64 0, .slice none 0 0] #[.int .i64 sg1, .int .i64 lg1, .slice (some ⟨g8, 0, none⟩) n1 n1]
  have z9 : w8.heap.size < ((w8.alloc (.cells #[.int .i64 0, .int .i64 0, .slice none 0 0] 29)).setRow w8.heap.size #[.int .i64 sg1, .int .i64 lg1, .slice (some ⟨g8, 0, none⟩) n1 n1]).heap.size := by rw [row_size]; omega
  have h0_45 := h0_38.still a9
  have h1_46 := h1_39.still a9
  have A0_47 := A0_40.still a9
  have A1_48 := A1_41.still a9
  have x0_49 := x0_42.still a9
  have bx0_50 := bx0_43.still a9
  have x1_51 := o8.still a9
  have b52 := Chg.above b44 a9 (by omega) (by omega)
  clear h0_38 h1_39 A0_40 A1_41 x0_42 bx0_43 o8 b44 a9
  go_wp2_with (first | (refine wpList_store_row rfl 29 _ _ rfl w8.heap.size #[.int .i64 sg1, .int .i64 lg1, .slice (some ⟨g8, 0, none⟩) n1 n1] rfl rfl 29 #[.int .i64 0, .int .i64 0, .slice none 0 0] (heap_alloc_new _ _) (play_info _ _ _ _ _) rfl (play_cells _ _ _ _ _) ?_; generalize (w8.alloc (.cells #[.int .i64 0, .int .i64 0, .slice none 0 0] 29)).setRow w8.heap.size #[.int .i64 sg1, .int .i64 lg1, .slice (some ⟨g8, 0, none⟩) n1 n1] = v9 at h0_45 h1_46 A0_47 A1_48 x0_49 bx0_50 x1_51 x9 b52 z9 ⊢) | (refine wpList_load_row rfl 57 _ rfl w.heap.size rfl 57 #[.slice A0 n0 c0] (0, 0) _ A0_47 Try.underlying57 rfl (ldeal_info7 _) ?_) | (refine wpList_load_row rfl 52 _ rfl (w.heap.size + 1) rfl 52 #[.int .i64 sg1, .int .i64 lg1, .slice A1 n1 c1] (0, 0) _ A1_48 Try.underlying52 rfl (plinfo _ _ _ _ _) ?_) | (refine wpList_load_row rfl 26 _ rfl w6.heap.size rfl 26 #[.slice (some ⟨g6, 0, none⟩) n0 n0] (0, 0) _ bx0_50 Try.underlying26 rfl (deal_info7 _) ?_) | (refine wpList_load_row rfl 29 _ rfl w8.heap.size rfl 29 #[.int .i64 sg1, .int .i64 lg1, .slice (some ⟨g8, 0, none⟩) n1 n1] (0, 0) _ x9 Try.underlying29 rfl (play_info _ _ _ _ _) ?_))
  refine (impl_TurnOf _ n0 n0 zss0 sg1 lg1 _ n1 n1 zs1 _ (x0_49.rd.more (Nat.zero_le _) (by omega)) hl0 (x1_51.rd.more (Nat.zero_le _) (by omega)) hm1 (Nat.le_refl _) (fun e => by cases e)).mono ?_
  rw [← HRR.out]
  rintro e w10 ⟨rfl, c10⟩
  have h0_53 := h0_45.still c10
  have h1_54 := h1_46.still c10
  have A0_55 := A0_47.still c10
  have A1_56 := A1_48.still c10
  have x0_57 := x0_49.still c10
  have bx0_58 := bx0_50.still c10
  have x1_59 := x1_51.still c10
  have bx1_60 := x9.still c10
  have b61 := Chg.above b52 c10 (by omega) (by omega)
  have t61 : v9.heap.size ≤ w10.heap.size := c10.size
  clear h0_45 h1_46 A0_47 A1_48 x0_49 bx0_50 x1_51 x9 b52 c10
  go_wp2_with (first | (refine wpList_load_row rfl 57 _ rfl w.heap.size rfl 57 #[.slice A0 n0 c0] (0, 0) _ A0_55 Try.underlying57 rfl (ldeal_info7 _) ?_) | (refine wpList_load_row rfl 52 _ rfl (w.heap.size + 1) rfl 52 #[.int .i64 sg1, .int .i64 lg1, .slice A1 n1 c1] (0, 0) _ A1_56 Try.underlying52 rfl (plinfo _ _ _ _ _) ?_) | (refine wpList_load_row rfl 26 _ rfl w6.heap.size rfl 26 #[.slice (some ⟨g6, 0, none⟩) n0 n0] (0, 0) _ bx0_58 Try.underlying26 rfl (deal_info7 _) ?_) | (refine wpList_load_row rfl 29 _ rfl w8.heap.size rfl 29 #[.int .i64 sg1, .int .i64 lg1, .slice (some ⟨g8, 0, none⟩) n1 n1] (0, 0) _ bx1_60 Try.underlying29 rfl (play_info _ _ _ _ _) ?_))
  have dr : Chg w10 w10.drew 0 0 := Chg.of_drew ⟨1, rfl⟩ _ _
  have s0 : (fun V => SBox V 26 w6.heap.size #[.slice (some ⟨g6, 0, none⟩) n0 n0] ∧ SBox V 57 w.heap.size #[.slice A0 n0 c0]) w10.drew := ⟨bx0_58.still dr, A0_55.still dr⟩
  refine wp_region_held_drew (S := fun V => SBox V 26 w6.heap.size #[.slice (some ⟨g6, 0, none⟩) n0 n0] ∧ SBox V 57 w.heap.size #[.slice A0 n0 c0]) (by kernel_rfl) s0 (fun hHeld => ?_)
  refine take_slotC (i := 0) (d := some 35) (v := .agg #[.slice (some ⟨g6, 0, none⟩) n0 n0]) rfl (by kernel_rfl) (by kernel_rfl) (by kernel_rfl) (by kernel_rfl) (fun _ _ _ h => h) (yieldsIf_load_mid (by kernel_rfl) 26 (.tmp 7) rfl w6.heap.size 0 rfl [.slice (some ⟨g6, 0, none⟩) n0 n0] _ (fun V hV => hV.1.range) Try.underlying26 rfl (deal_infoL _)) hHeld ?_
  try simp only [Act.put, List.setIfInBounds_toArray, List.set_cons_zero, List.set_cons_succ]
  refine take_slotC (i := 1) (d := some 36) (v := .agg #[.slice A0 n0 c0]) rfl (by kernel_rfl) (by kernel_rfl) (by kernel_rfl) (by kernel_rfl) (fun _ _ _ h => h) (yieldsIf_load_mid (by kernel_rfl) 57 (.tmp 2) rfl w.heap.size 0 rfl [.slice A0 n0 c0] _ (fun V hV => hV.2.range) Try.underlying57 rfl (ldeal_infoL _)) hHeld ?_
  try simp only [Act.put, List.setIfInBounds_toArray, List.set_cons_zero, List.set_cons_succ]
  refine wpAnyH_ready (rs := [2]) (by kernel_rfl) (by simp) (AllReadyH.cons (i := 2) rfl (fun K' hK' => ?_) AllReadyH.nil)
  go_simp
  refine (toDeal A0 n0 c0 zss0 _ _ _ (h0_53.still dr) hm0 hl0).mono ?_
  rintro e w11 ⟨g11, rfl, o11, p11⟩
  have c11 := dr.trans p11
  have hs11 : (fun V => SBox V 26 w6.heap.size #[.slice (some ⟨g6, 0, none⟩) n0 n0] ∧ SBox V 57 w.heap.size #[.slice A0 n0 c0]) w11 := ⟨hHeld.1.still p11, hHeld.2.still p11⟩
  clear p11 dr s0
  have h0_62 := h0_53.still c11
  have h1_63 := h1_54.still c11
  have A0_64 := A0_55.still c11
  have A1_65 := A1_56.still c11
  have x0_66 := x0_57.still c11
  have bx0_67 := bx0_58.still c11
  have x1_68 := x1_59.still c11
  have bx1_69 := bx1_60.still c11
  have b70 := Chg.above b61 c11 (by omega) (by omega)
  have t70 : w10.heap.size ≤ w11.heap.size := c11.size
  clear h0_53 h1_54 A0_55 A1_56 x0_57 bx0_58 x1_59 bx1_60 b61 c11
  refine hK'.out _ _ hs11 (fun hHeld => ?_)
  clear hK' hs11
  try simp only [Act.put, List.setIfInBounds_toArray, List.set_cons_zero, List.set_cons_succ]
  refine wpAnyH_ready (rs := [3]) (by kernel_rfl) (by simp) (AllReadyH.cons (i := 3) rfl (fun K' hK' => ?_) AllReadyH.nil)
  go_simp
  refine (eqDeal _ _ n0 n0 _ _ zss0 _ _ _ _ _ x0_66.rd o11.rd hm0 hl0).mono ?_
  rintro e w12 ⟨rfl, c12⟩
  have hs12 : (fun V => SBox V 26 w6.heap.size #[.slice (some ⟨g6, 0, none⟩) n0 n0] ∧ SBox V 57 w.heap.size #[.slice A0 n0 c0]) w12 := ⟨hHeld.1.still c12, hHeld.2.still c12⟩
  clear o11
  have h0_71 := h0_62.still c12
  have h1_72 := h1_63.still c12
  have A0_73 := A0_64.still c12
  have A1_74 := A1_65.still c12
  have x0_75 := x0_66.still c12
  have bx0_76 := bx0_67.still c12
  have x1_77 := x1_68.still c12
  have bx1_78 := bx1_69.still c12
  have b79 := Chg.above b70 c12 (by omega) (by omega)
  have t79 : w11.heap.size ≤ w12.heap.size := c12.size
  clear h0_62 h1_63 A0_64 A1_65 x0_66 bx0_67 x1_68 bx1_69 b70 c12
  refine hK'.out _ _ hs12 (fun hHeld => ?_)
  clear hK' hs12
  try simp only [Act.put, List.setIfInBounds_toArray, List.set_cons_zero, List.set_cons_succ]
  refine take_slotC (i := 4) (d := some 39) (v := .bool false) rfl (by kernel_rfl) (by kernel_rfl) (by kernel_rfl) (by kernel_rfl) (fun _ _ _ h => h) (.inl ⟨by kernel_rfl, fun V hV => by go_simp⟩) hHeld ?_
  try simp only [Act.put, List.setIfInBounds_toArray, List.set_cons_zero, List.set_cons_succ]
  refine wpAnyH_done (by kernel_rfl) ?_ _
  clear hHeld
  go_wp2_with (first | (refine wpList_load_row rfl 57 _ rfl w.heap.size rfl 57 #[.slice A0 n0 c0] (0, 0) _ A0_73 Try.underlying57 rfl (ldeal_info7 _) ?_) | (refine wpList_load_row rfl 52 _ rfl (w.heap.size + 1) rfl 52 #[.int .i64 sg1, .int .i64 lg1, .slice A1 n1 c1] (0, 0) _ A1_74 Try.underlying52 rfl (plinfo _ _ _ _ _) ?_) | (refine wpList_load_row rfl 26 _ rfl w6.heap.size rfl 26 #[.slice (some ⟨g6, 0, none⟩) n0 n0] (0, 0) _ bx0_76 Try.underlying26 rfl (deal_info7 _) ?_) | (refine wpList_load_row rfl 29 _ rfl w8.heap.size rfl 29 #[.int .i64 sg1, .int .i64 lg1, .slice (some ⟨g8, 0, none⟩) n1 n1] (0, 0) _ bx1_78 Try.underlying29 rfl (play_info _ _ _ _ _) ?_))
  have dr : Chg w12 w12.drew 0 0 := Chg.of_drew ⟨1, rfl⟩ _ _
  have s0 : (fun V => SBox V 29 w8.heap.size #[.int .i64 sg1, .int .i64 lg1, .slice (some ⟨g8, 0, none⟩) n1 n1] ∧ SBox V 52 (w.heap.size + 1) #[.int .i64 sg1, .int .i64 lg1, .slice A1 n1 c1]) w12.drew := ⟨bx1_78.still dr, A1_74.still dr⟩
  refine wp_region_held_drew (S := fun V => SBox V 29 w8.heap.size #[.int .i64 sg1, .int .i64 lg1, .slice (some ⟨g8, 0, none⟩) n1 n1] ∧ SBox V 52 (w.heap.size + 1) #[.int .i64 sg1, .int .i64 lg1, .slice A1 n1 c1]) (by kernel_rfl) s0 (fun hHeld => ?_)
  refine take_slotC (i := 0) (d := some 40) (v := .agg #[.int .i64 sg1, .int .i64 lg1, .slice (some ⟨g8, 0, none⟩) n1 n1]) rfl (by kernel_rfl) (by kernel_rfl) (by kernel_rfl) (by kernel_rfl) (fun _ _ _ h => h) (yieldsIf_load_mid (by kernel_rfl) 29 (.tmp 8) rfl w8.heap.size 0 rfl [.int .i64 sg1, .int .i64 lg1, .slice (some ⟨g8, 0, none⟩) n1 n1] _ (fun V hV => hV.1.range) Try.underlying29 rfl (play_infoL _ _ _)) hHeld ?_
  try simp only [Act.put, List.setIfInBounds_toArray, List.set_cons_zero, List.set_cons_succ]
  refine take_slotC (i := 1) (d := some 41) (v := .agg #[.int .i64 sg1, .int .i64 lg1, .slice A1 n1 c1]) rfl (by kernel_rfl) (by kernel_rfl) (by kernel_rfl) (by kernel_rfl) (fun _ _ _ h => h) (yieldsIf_load_mid (by kernel_rfl) 52 (.tmp 3) rfl (w.heap.size + 1) 0 rfl [.int .i64 sg1, .int .i64 lg1, .slice A1 n1 c1] _ (fun V hV => hV.2.range) Try.underlying52 rfl (plinfoL _ _ _)) hHeld ?_
  try simp only [Act.put, List.setIfInBounds_toArray, List.set_cons_zero, List.set_cons_succ]
  refine wpAnyH_ready (rs := [2]) (by kernel_rfl) (by simp) (AllReadyH.cons (i := 2) rfl (fun K' hK' => ?_) AllReadyH.nil)
  go_simp
  refine (toPlay sg1 lg1 A1 n1 c1 zs1 _ _ _ (h1_72.still dr) hm1).mono ?_
  rintro e w13 ⟨g13, rfl, o13, p13⟩
  have c13 := dr.trans p13
  have hs13 : (fun V => SBox V 29 w8.heap.size #[.int .i64 sg1, .int .i64 lg1, .slice (some ⟨g8, 0, none⟩) n1 n1] ∧ SBox V 52 (w.heap.size + 1) #[.int .i64 sg1, .int .i64 lg1, .slice A1 n1 c1]) w13 := ⟨hHeld.1.still p13, hHeld.2.still p13⟩
  clear p13 dr s0
  have h0_80 := h0_71.still c13
  have h1_81 := h1_72.still c13
  have A0_82 := A0_73.still c13
  have A1_83 := A1_74.still c13
  have x0_84 := x0_75.still c13
  have bx0_85 := bx0_76.still c13
  have x1_86 := x1_77.still c13
  have bx1_87 := bx1_78.still c13
  have b88 := Chg.above b79 c13 (by omega) (by omega)
  have t88 : w12.heap.size ≤ w13.heap.size := c13.size
  clear h0_71 h1_72 A0_73 A1_74 x0_75 bx0_76 x1_77 bx1_78 b79 c13
  refine hK'.out _ _ hs13 (fun hHeld => ?_)
  clear hK' hs13
  try simp only [Act.put, List.setIfInBounds_toArray, List.set_cons_zero, List.set_cons_succ]
  refine wpAnyH_ready (rs := [3]) (by kernel_rfl) (by simp) (AllReadyH.cons (i := 3) rfl (fun K' hK' => ?_) AllReadyH.nil)
  go_simp
  refine (eqPlay sg1 lg1 _ _ n1 n1 _ _ zs1 _ _ _ _ _ x1_86.rd o13.rd hm1).mono ?_
  rintro e w14 ⟨rfl, c14⟩
  have hs14 : (fun V => SBox V 29 w8.heap.size #[.int .i64 sg1, .int .i64 lg1, .slice (some ⟨g8, 0, none⟩) n1 n1] ∧ SBox V 52 (w.heap.size + 1) #[.int .i64 sg1, .int .i64 lg1, .slice A1 n1 c1]) w14 := ⟨hHeld.1.still c14, hHeld.2.still c14⟩
  clear o13
  have h0_89 := h0_80.still c14
  have h1_90 := h1_81.still c14
  have A0_91 := A0_82.still c14
  have A1_92 := A1_83.still c14
  have x0_93 := x0_84.still c14
  have bx0_94 := bx0_85.still c14
  have x1_95 := x1_86.still c14
  have bx1_96 := bx1_87.still c14
  have b97 := Chg.above b88 c14 (by omega) (by omega)
  have t97 : w13.heap.size ≤ w14.heap.size := c14.size
  clear h0_80 h1_81 A0_82 A1_83 x0_84 bx0_85 x1_86 bx1_87 b88 c14
  refine hK'.out _ _ hs14 (fun hHeld => ?_)
  clear hK' hs14
  try simp only [Act.put, List.setIfInBounds_toArray, List.set_cons_zero, List.set_cons_succ]
  refine take_slotC (i := 4) (d := some 44) (v := .bool false) rfl (by kernel_rfl) (by kernel_rfl) (by kernel_rfl) (by kernel_rfl) (fun _ _ _ h => h) (.inl ⟨by kernel_rfl, fun V hV => by go_simp⟩) hHeld ?_
  try simp only [Act.put, List.setIfInBounds_toArray, List.set_cons_zero, List.set_cons_succ]
  refine wpAnyH_done (by kernel_rfl) ?_ _
  clear hHeld
  go_wp2_with (first | (refine wpList_load_row rfl 57 _ rfl w.heap.size rfl 57 #[.slice A0 n0 c0] (0, 0) _ A0_91 Try.underlying57 rfl (ldeal_info7 _) ?_) | (refine wpList_load_row rfl 52 _ rfl (w.heap.size + 1) rfl 52 #[.int .i64 sg1, .int .i64 lg1, .slice A1 n1 c1] (0, 0) _ A1_92 Try.underlying52 rfl (plinfo _ _ _ _ _) ?_) | (refine wpList_load_row rfl 26 _ rfl w6.heap.size rfl 26 #[.slice (some ⟨g6, 0, none⟩) n0 n0] (0, 0) _ bx0_94 Try.underlying26 rfl (deal_info7 _) ?_) | (refine wpList_load_row rfl 29 _ rfl w8.heap.size rfl 29 #[.int .i64 sg1, .int .i64 lg1, .slice (some ⟨g8, 0, none⟩) n1 n1] (0, 0) _ bx1_96 Try.underlying29 rfl (play_info _ _ _ _ _) ?_))
  go_ret
  exact ⟨rfl, b97⟩

set_option maxHeartbeats 8000000 in
theorem law_IsPlay8 (A0 : Option Addr) (n0 c0 : Nat) (zss0 : List (List Int)) (sg1 lg1 : Int) (A1 : Option Addr) (n1 c1 : Nat) (zs1 : List Int) (w : World) (h0 : RdR w 0 w.heap.size A0 n0 zss0) (l0 : Lens n0 zss0) (h1 : Rd w 0 w.heap.size A1 n1 zs1) (l1 : n1 ≤ maxLen) :
    Calls Try.prog 8 #[.agg #[.slice A0 n0 c0], .agg #[.int .i64 sg1, .int .i64 lg1, .slice A1 n1 c1]] w fun e w' => e = .returned (.bool true) ∧ Below w.heap.size w w' := by
  obtain ⟨R, hR⟩ : ∃ R, R = (playB zss0 sg1 lg1 zs1) := ⟨_, rfl⟩
  have HRR := Lib.hid hR
  clear hR
  have hRR : (R == R) = true := by simp
  have bl := Below.refl w.heap.size w
  have y0 : (w.alloc (.cells #[.slice A0 n0 c0] 57)).heap.size = w.heap.size + 1 := by simp
  have q0 := Chg.of_alloc w (.cells #[.slice A0 n0 c0] 57) 0 0
  have xb0 := SBox.new w 57 #[.slice A0 n0 c0]
  have q1 := Chg.of_alloc (w.alloc (.cells #[.slice A0 n0 c0] 57)) (.cells #[.int .i64 sg1, .int .i64 lg1, .slice A1 n1 c1] 52) 0 0
  have xb1 := SBox.new (w.alloc (.cells #[.slice A0 n0 c0] 57)) 52 #[.int .i64 sg1, .int .i64 lg1, .slice A1 n1 c1]
  rw [y0] at xb1
  have xa0 := xb0.still q1
  have xa1 := xb1
  have ca := q0.trans q1
  clear q0 q1 xb0 xb1
  have ha0 := h0.still ca
  have ha1 := h1.still ca
  have ba := Chg.above bl ca (by omega) (by omega)
  have za : w.heap.size + 2 ≤ ((w.alloc (.cells #[.slice A0 n0 c0] 57)).alloc (.cells #[.int .i64 sg1, .int .i64 lg1, .slice A1 n1 c1] 52)).heap.size := by simp
  clear bl ca y0 h0 h1
  go_enter Try.func8, Try.ntmps8
  go_wp2_with (first | (refine wpList_load_row rfl 57 _ rfl w.heap.size rfl 57 #[.slice A0 n0 c0] (0, 0) _ xa0 Try.underlying57 rfl (ldeal_info7 _) ?_) | (refine wpList_load_row rfl 52 _ rfl (w.heap.size + 1) rfl 52 #[.int .i64 sg1, .int .i64 lg1, .slice A1 n1 c1] (0, 0) _ xa1 Try.underlying52 rfl (plinfo _ _ _ _ _) ?_))
  generalize ((w.alloc (.cells #[.slice A0 n0 c0] 57)).alloc (.cells #[.int .i64 sg1, .int .i64 lg1, .slice A1 n1 c1] 52)) = w0 at ha0 ha1 xa0 xa1 ba za ⊢
  refine (szDeal A0 n0 c0 1048576 zss0 _ _ _ ha0 (by omega) (by omega) l0).mono ?_
  rintro e w1 ⟨u1, rfl, hu1, c1⟩
  have h0_1 := ha0.still c1
  have h1_2 := ha1.still c1
  have A0_3 := xa0.still c1
  have A1_4 := xa1.still c1
  have b5 := Chg.above ba c1 (by omega) (by omega)
  have t5 : w0.heap.size ≤ w1.heap.size := c1.size
  clear ha0 ha1 xa0 xa1 ba c1
  by_cases hv1 : u1 < 0
  · go_wp2_with fail
    go_ret
    exact ⟨rfl, b5⟩
  obtain ⟨hm0, hl0, hc0⟩ := Sized_le8 hu1 (by omega) rfl
  have hu1 : 0 ≤ u1 ∧ u1 ≤ 1048576 := by rcases hu1 with e | ⟨p1, p2, _⟩; omega; exact ⟨p1, p2⟩
  go_wp2_with (first | (refine wpList_load_row rfl 57 _ rfl w.heap.size rfl 57 #[.slice A0 n0 c0] (0, 0) _ A0_3 Try.underlying57 rfl (ldeal_info7 _) ?_) | (refine wpList_load_row rfl 52 _ rfl (w.heap.size + 1) rfl 52 #[.int .i64 sg1, .int .i64 lg1, .slice A1 n1 c1] (0, 0) _ A1_4 Try.underlying52 rfl (plinfo _ _ _ _ _) ?_))
  refine (szPlay sg1 lg1 A1 n1 c1 u1 _ (by omega) (by omega) l1).mono ?_
  rintro e w2 ⟨⟨u2, rfl, hu2⟩, c2⟩
  have h0_6 := h0_1.still c2
  have h1_7 := h1_2.still c2
  have A0_8 := A0_3.still c2
  have A1_9 := A1_4.still c2
  have b10 := Chg.above b5 c2 (by omega) (by omega)
  have t10 : w1.heap.size ≤ w2.heap.size := c2.size
  clear h0_1 h1_2 A0_3 A1_4 b5 c2
  by_cases hv2 : u2 < 0
  · go_wp2_with fail
    go_ret
    exact ⟨rfl, b10⟩
  have hm1 : n1 ≤ 1048576 := by omega
  go_wp2_with (first | (refine wpList_load_row rfl 57 _ rfl w.heap.size rfl 57 #[.slice A0 n0 c0] (0, 0) _ A0_8 Try.underlying57 rfl (ldeal_info7 _) ?_) | (refine wpList_load_row rfl 52 _ rfl (w.heap.size + 1) rfl 52 #[.int .i64 sg1, .int .i64 lg1, .slice A1 n1 c1] (0, 0) _ A1_9 Try.underlying52 rfl (plinfo _ _ _ _ _) ?_))
  have dr : Chg w2 w2.drew 0 0 := Chg.of_drew ⟨1, rfl⟩ _ _
  have s0 : (fun V => SBox V 57 w.heap.size #[.slice A0 n0 c0] ∧ SBox V 52 (w.heap.size + 1) #[.int .i64 sg1, .int .i64 lg1, .slice A1 n1 c1]) w2.drew := ⟨A0_8.still dr, A1_9.still dr⟩
  refine wp_region_held_drew (S := fun V => SBox V 57 w.heap.size #[.slice A0 n0 c0] ∧ SBox V 52 (w.heap.size + 1) #[.int .i64 sg1, .int .i64 lg1, .slice A1 n1 c1]) (by kernel_rfl) s0 (fun hHeld => ?_)
  refine take_slotC (i := 0) (d := some 20) (v := .agg #[.slice A0 n0 c0]) rfl (by kernel_rfl) (by kernel_rfl) (by kernel_rfl) (by kernel_rfl) (fun _ _ _ h => h) (yieldsIf_load_mid (by kernel_rfl) 57 (.tmp 2) rfl w.heap.size 0 rfl [.slice A0 n0 c0] _ (fun V hV => hV.1.range) Try.underlying57 rfl (ldeal_infoL _)) hHeld ?_
  try simp only [Act.put, List.setIfInBounds_toArray, List.set_cons_zero, List.set_cons_succ]
  refine take_slotC (i := 2) (d := some 22) (v := .agg #[.int .i64 sg1, .int .i64 lg1, .slice A1 n1 c1]) rfl (by kernel_rfl) (by kernel_rfl) (by kernel_rfl) (by kernel_rfl) (fun _ _ _ h => h) (yieldsIf_load_mid (by kernel_rfl) 52 (.tmp 3) rfl (w.heap.size + 1) 0 rfl [.int .i64 sg1, .int .i64 lg1, .slice A1 n1 c1] _ (fun V hV => hV.2.range) Try.underlying52 rfl (plinfoL _ _ _)) hHeld ?_
  try simp only [Act.put, List.setIfInBounds_toArray, List.set_cons_zero, List.set_cons_succ]
  refine wpAnyH_ready (rs := [1]) (by kernel_rfl) (by simp) (AllReadyH.cons (i := 1) rfl (fun K' hK' => ?_) AllReadyH.nil)
  go_simp
  refine (toDeal A0 n0 c0 zss0 _ _ _ (h0_6.still dr) hm0 hl0).mono ?_
  rintro e w3 ⟨g3, rfl, o3, c3⟩
  have hs3 : (fun V => SBox V 57 w.heap.size #[.slice A0 n0 c0] ∧ SBox V 52 (w.heap.size + 1) #[.int .i64 sg1, .int .i64 lg1, .slice A1 n1 c1]) w3 := ⟨hHeld.1.still c3, hHeld.2.still c3⟩
  have c3 := dr.trans c3
  clear dr s0
  have h0_11 := h0_6.still c3
  have h1_12 := h1_7.still c3
  have A0_13 := A0_8.still c3
  have A1_14 := A1_9.still c3
  have b15 := Chg.above b10 c3 (by omega) (by omega)
  have t15 : w2.heap.size ≤ w3.heap.size := c3.size
  clear h0_6 h1_7 A0_8 A1_9 b10 c3
  refine hK'.out _ _ hs3 (fun hHeld => ?_)
  clear hK' hs3
  try simp only [Act.put, List.setIfInBounds_toArray, List.set_cons_zero, List.set_cons_succ]
  refine wpAnyH_ready (rs := [3]) (by kernel_rfl) (by simp) (AllReadyH.cons (i := 3) rfl (fun K' hK' => ?_) AllReadyH.nil)
  go_simp
  refine (toPlay sg1 lg1 A1 n1 c1 zs1 _ _ _ h1_12 hm1).mono ?_
  rintro e w4 ⟨g4, rfl, o4, c4⟩
  have hs4 : (fun V => SBox V 57 w.heap.size #[.slice A0 n0 c0] ∧ SBox V 52 (w.heap.size + 1) #[.int .i64 sg1, .int .i64 lg1, .slice A1 n1 c1]) w4 := ⟨hHeld.1.still c4, hHeld.2.still c4⟩
  have h0_16 := h0_11.still c4
  have h1_17 := h1_12.still c4
  have A0_18 := A0_13.still c4
  have A1_19 := A1_14.still c4
  have s0_20 := o3.still c4
  have b21 := Chg.above b15 c4 (by omega) (by omega)
  have t21 : w3.heap.size ≤ w4.heap.size := c4.size
  clear h0_11 h1_12 A0_13 A1_14 o3 b15 c4
  refine hK'.out _ _ hs4 (fun hHeld => ?_)
  clear hK' hs4
  try simp only [Act.put, List.setIfInBounds_toArray, List.set_cons_zero, List.set_cons_succ]
  refine wpAnyH_ready (rs := [4]) (by kernel_rfl) (by simp) (AllReadyH.cons (i := 4) rfl (fun K' hK' => ?_) AllReadyH.nil)
  go_simp
  refine (spec_IsPlay _ n0 n0 zss0 sg1 lg1 _ n1 n1 zs1 _ (s0_20.rd.more (Nat.zero_le _) (by omega)) hl0 (o4.rd.more (Nat.zero_le _) (by omega)) hm1 (Nat.le_refl _) (fun e => by cases e)).mono ?_
  rw [← HRR.out]
  rintro e w5 ⟨rfl, c5⟩
  have hs5 : (fun V => SBox V 57 w.heap.size #[.slice A0 n0 c0] ∧ SBox V 52 (w.heap.size + 1) #[.int .i64 sg1, .int .i64 lg1, .slice A1 n1 c1]) w5 := ⟨hHeld.1.still c5, hHeld.2.still c5⟩
  clear s0_20
  clear o4
  have h0_22 := h0_16.still c5
  have h1_23 := h1_17.still c5
  have A0_24 := A0_18.still c5
  have A1_25 := A1_19.still c5
  have b26 := Chg.above b21 c5 (by omega) (by omega)
  have t26 : w4.heap.size ≤ w5.heap.size := c5.size
  clear h0_16 h1_17 A0_18 A1_19 b21 c5
  refine hK'.out _ _ hs5 (fun hHeld => ?_)
  clear hK' hs5
  try simp only [Act.put, List.setIfInBounds_toArray, List.set_cons_zero, List.set_cons_succ]
  refine take_slotC (i := 5) (d := some 6) (v := .bool R) rfl (by kernel_rfl) (by kernel_rfl) (by kernel_rfl) (by kernel_rfl) (fun _ _ _ h => h) (.inl ⟨by kernel_rfl, fun V hV => by go_simp⟩) hHeld ?_
  try simp only [Act.put, List.setIfInBounds_toArray, List.set_cons_zero, List.set_cons_succ]
  refine wpAnyH_done (by kernel_rfl) ?_ _
  clear hHeld
  go_wp2_with (first | (refine wpList_load_row rfl 57 _ rfl w.heap.size rfl 57 #[.slice A0 n0 c0] (0, 0) _ A0_24 Try.underlying57 rfl (ldeal_info7 _) ?_) | (refine wpList_load_row rfl 52 _ rfl (w.heap.size + 1) rfl 52 #[.int .i64 sg1, .int .i64 lg1, .slice A1 n1 c1] (0, 0) _ A1_25 Try.underlying52 rfl (plinfo _ _ _ _ _) ?_))
  refine (toDeal A0 n0 c0 zss0 _ _ _ h0_22 hm0 hl0).mono ?_
  rintro e w6 ⟨g6, rfl, o6, c6⟩
  have h0_27 := h0_22.still c6
  have h1_28 := h1_23.still c6
  have A0_29 := A0_24.still c6
  have A1_30 := A1_25.still c6
  have b31 := Chg.above b26 c6 (by omega) (by omega)
  have t31 : w5.heap.size ≤ w6.heap.size := c6.size
  clear h0_22 h1_23 A0_24 A1_25 b26 c6
  have x7 := SBox.new w6 26 #[.slice (some ⟨g6, 0, none⟩) n0 n0]
  have a7 := Chg.of_alloc w6 (.cells #[.slice (some ⟨g6, 0, none⟩) n0 n0] 26) 0 0
  have z7 : w6.heap.size < (w6.alloc (.cells #[.slice (some ⟨g6, 0, none⟩) n0 n0] 26)).heap.size := by simp
  have h0_32 := h0_27.still a7
  have h1_33 := h1_28.still a7
  have A0_34 := A0_29.still a7
  have A1_35 := A1_30.still a7
  have x0_36 := o6.still a7
  have b37 := Chg.above b31 a7 (by omega) (by omega)
  clear h0_27 h1_28 A0_29 A1_30 o6 b31 a7
  go_wp2_with (first | (refine wpList_load_row rfl 57 _ rfl w.heap.size rfl 57 #[.slice A0 n0 c0] (0, 0) _ A0_34 Try.underlying57 rfl (ldeal_info7 _) ?_) | (refine wpList_load_row rfl 52 _ rfl (w.heap.size + 1) rfl 52 #[.int .i64 sg1, .int .i64 lg1, .slice A1 n1 c1] (0, 0) _ A1_35 Try.underlying52 rfl (plinfo _ _ _ _ _) ?_) | (refine wpList_load_row rfl 26 _ rfl w6.heap.size rfl 26 #[.slice (some ⟨g6, 0, none⟩) n0 n0] (0, 0) _ x7 Try.underlying26 rfl (deal_info7 _) ?_))
  generalize w6.alloc (.cells #[.slice (some ⟨g6, 0, none⟩) n0 n0] 26) = v7 at h0_32 h1_33 A0_34 A1_35 x0_36 x7 b37 z7 ⊢
  refine (toPlay sg1 lg1 A1 n1 c1 zs1 _ _ _ h1_33 hm1).mono ?_
  rintro e w8 ⟨g8, rfl, o8, c8⟩
  have h0_38 := h0_32.still c8
  have h1_39 := h1_33.still c8
  have A0_40 := A0_34.still c8
  have A1_41 := A1_35.still c8
  have x0_42 := x0_36.still c8
  have bx0_43 := x7.still c8
  have b44 := Chg.above b37 c8 (by omega) (by omega)
  have t44 : v7.heap.size ≤ w8.heap.size := c8.size
  clear h0_32 h1_33 A0_34 A1_35 x0_36 x7 b37 c8
  have x9 := SBox.row w8 29 #[.int .i64 0, .int .i64 0, .slice none 0 0] #[.int .i64 sg1, .int .i64 lg1, .slice (some ⟨g8, 0, none⟩) n1 n1]
  have a9 := chg_row w8 29 #[.int .i64 0, .int .i64 0, .slice none 0 0] #[.int .i64 sg1, .int .i64 lg1, .slice (some ⟨g8, 0, none⟩) n1 n1]
  have z9 : w8.heap.size < ((w8.alloc (.cells #[.int .i64 0, .int .i64 0, .slice none 0 0] 29)).setRow w8.heap.size #[.int .i64 sg1, .int .i64 lg1, .slice (some ⟨g8, 0, none⟩) n1 n1]).heap.size := by rw [row_size]; omega
  have h0_45 := h0_38.still a9
  have h1_46 := h1_39.still a9
  have A0_47 := A0_40.still a9
  have A1_48 := A1_41.still a9
  have x0_49 := x0_42.still a9
  have bx0_50 := bx0_43.still a9
  have x1_51 := o8.still a9
  have b52 := Chg.above b44 a9 (by omega) (by omega)
  clear h0_38 h1_39 A0_40 A1_41 x0_42 bx0_43 o8 b44 a9
  go_wp2_with (first | (refine wpList_store_row rfl 29 _ _ rfl w8.heap.size #[.int .i64 sg1, .int .i64 lg1, .slice (some ⟨g8, 0, none⟩) n1 n1] rfl rfl 29 #[.int .i64 0, .int .i64 0, .slice none 0 0] (heap_alloc_new _ _) (play_info _ _ _ _ _) rfl (play_cells _ _ _ _ _) ?_; generalize (w8.alloc (.cells #[.int .i64 0, .int .i64 0, .slice none 0 0] 29)).setRow w8.heap.size #[.int .i64 sg1, .int .i64 lg1, .slice (some ⟨g8, 0, none⟩) n1 n1] = v9 at h0_45 h1_46 A0_47 A1_48 x0_49 bx0_50 x1_51 x9 b52 z9 ⊢) | (refine wpList_load_row rfl 57 _ rfl w.heap.size rfl 57 #[.slice A0 n0 c0] (0, 0) _ A0_47 Try.underlying57 rfl (ldeal_info7 _) ?_) | (refine wpList_load_row rfl 52 _ rfl (w.heap.size + 1) rfl 52 #[.int .i64 sg1, .int .i64 lg1, .slice A1 n1 c1] (0, 0) _ A1_48 Try.underlying52 rfl (plinfo _ _ _ _ _) ?_) | (refine wpList_load_row rfl 26 _ rfl w6.heap.size rfl 26 #[.slice (some ⟨g6, 0, none⟩) n0 n0] (0, 0) _ bx0_50 Try.underlying26 rfl (deal_info7 _) ?_) | (refine wpList_load_row rfl 29 _ rfl w8.heap.size rfl 29 #[.int .i64 sg1, .int .i64 lg1, .slice (some ⟨g8, 0, none⟩) n1 n1] (0, 0) _ x9 Try.underlying29 rfl (play_info _ _ _ _ _) ?_))
  refine (impl_IsPlay _ n0 n0 zss0 sg1 lg1 _ n1 n1 zs1 _ (x0_49.rd.more (Nat.zero_le _) (by omega)) hl0 (x1_51.rd.more (Nat.zero_le _) (by omega)) hm1 (Nat.le_refl _) (fun e => by cases e)).mono ?_
  rw [← HRR.out]
  rintro e w10 ⟨rfl, c10⟩
  have h0_53 := h0_45.still c10
  have h1_54 := h1_46.still c10
  have A0_55 := A0_47.still c10
  have A1_56 := A1_48.still c10
  have x0_57 := x0_49.still c10
  have bx0_58 := bx0_50.still c10
  have x1_59 := x1_51.still c10
  have bx1_60 := x9.still c10
  have b61 := Chg.above b52 c10 (by omega) (by omega)
  have t61 : v9.heap.size ≤ w10.heap.size := c10.size
  clear h0_45 h1_46 A0_47 A1_48 x0_49 bx0_50 x1_51 x9 b52 c10
  go_wp2_with (first | (refine wpList_load_row rfl 57 _ rfl w.heap.size rfl 57 #[.slice A0 n0 c0] (0, 0) _ A0_55 Try.underlying57 rfl (ldeal_info7 _) ?_) | (refine wpList_load_row rfl 52 _ rfl (w.heap.size + 1) rfl 52 #[.int .i64 sg1, .int .i64 lg1, .slice A1 n1 c1] (0, 0) _ A1_56 Try.underlying52 rfl (plinfo _ _ _ _ _) ?_) | (refine wpList_load_row rfl 26 _ rfl w6.heap.size rfl 26 #[.slice (some ⟨g6, 0, none⟩) n0 n0] (0, 0) _ bx0_58 Try.underlying26 rfl (deal_info7 _) ?_) | (refine wpList_load_row rfl 29 _ rfl w8.heap.size rfl 29 #[.int .i64 sg1, .int .i64 lg1, .slice (some ⟨g8, 0, none⟩) n1 n1] (0, 0) _ bx1_60 Try.underlying29 rfl (play_info _ _ _ _ _) ?_))
  have dr : Chg w10 w10.drew 0 0 := Chg.of_drew ⟨1, rfl⟩ _ _
  have s0 : (fun V => SBox V 26 w6.heap.size #[.slice (some ⟨g6, 0, none⟩) n0 n0] ∧ SBox V 57 w.heap.size #[.slice A0 n0 c0]) w10.drew := ⟨bx0_58.still dr, A0_55.still dr⟩
  refine wp_region_held_drew (S := fun V => SBox V 26 w6.heap.size #[.slice (some ⟨g6, 0, none⟩) n0 n0] ∧ SBox V 57 w.heap.size #[.slice A0 n0 c0]) (by kernel_rfl) s0 (fun hHeld => ?_)
  refine take_slotC (i := 0) (d := some 35) (v := .agg #[.slice (some ⟨g6, 0, none⟩) n0 n0]) rfl (by kernel_rfl) (by kernel_rfl) (by kernel_rfl) (by kernel_rfl) (fun _ _ _ h => h) (yieldsIf_load_mid (by kernel_rfl) 26 (.tmp 7) rfl w6.heap.size 0 rfl [.slice (some ⟨g6, 0, none⟩) n0 n0] _ (fun V hV => hV.1.range) Try.underlying26 rfl (deal_infoL _)) hHeld ?_
  try simp only [Act.put, List.setIfInBounds_toArray, List.set_cons_zero, List.set_cons_succ]
  refine take_slotC (i := 1) (d := some 36) (v := .agg #[.slice A0 n0 c0]) rfl (by kernel_rfl) (by kernel_rfl) (by kernel_rfl) (by kernel_rfl) (fun _ _ _ h => h) (yieldsIf_load_mid (by kernel_rfl) 57 (.tmp 2) rfl w.heap.size 0 rfl [.slice A0 n0 c0] _ (fun V hV => hV.2.range) Try.underlying57 rfl (ldeal_infoL _)) hHeld ?_
  try simp only [Act.put, List.setIfInBounds_toArray, List.set_cons_zero, List.set_cons_succ]
  refine wpAnyH_ready (rs := [2]) (by kernel_rfl) (by simp) (AllReadyH.cons (i := 2) rfl (fun K' hK' => ?_) AllReadyH.nil)
  go_simp
  refine (toDeal A0 n0 c0 zss0 _ _ _ (h0_53.still dr) hm0 hl0).mono ?_
  rintro e w11 ⟨g11, rfl, o11, p11⟩
  have c11 := dr.trans p11
  have hs11 : (fun V => SBox V 26 w6.heap.size #[.slice (some ⟨g6, 0, none⟩) n0 n0] ∧ SBox V 57 w.heap.size #[.slice A0 n0 c0]) w11 := ⟨hHeld.1.still p11, hHeld.2.still p11⟩
  clear p11 dr s0
  have h0_62 := h0_53.still c11
  have h1_63 := h1_54.still c11
  have A0_64 := A0_55.still c11
  have A1_65 := A1_56.still c11
  have x0_66 := x0_57.still c11
  have bx0_67 := bx0_58.still c11
  have x1_68 := x1_59.still c11
  have bx1_69 := bx1_60.still c11
  have b70 := Chg.above b61 c11 (by omega) (by omega)
  have t70 : w10.heap.size ≤ w11.heap.size := c11.size
  clear h0_53 h1_54 A0_55 A1_56 x0_57 bx0_58 x1_59 bx1_60 b61 c11
  refine hK'.out _ _ hs11 (fun hHeld => ?_)
  clear hK' hs11
  try simp only [Act.put, List.setIfInBounds_toArray, List.set_cons_zero, List.set_cons_succ]
  refine wpAnyH_ready (rs := [3]) (by kernel_rfl) (by simp) (AllReadyH.cons (i := 3) rfl (fun K' hK' => ?_) AllReadyH.nil)
  go_simp
  refine (eqDeal _ _ n0 n0 _ _ zss0 _ _ _ _ _ x0_66.rd o11.rd hm0 hl0).mono ?_
  rintro e w12 ⟨rfl, c12⟩
  have hs12 : (fun V => SBox V 26 w6.heap.size #[.slice (some ⟨g6, 0, none⟩) n0 n0] ∧ SBox V 57 w.heap.size #[.slice A0 n0 c0]) w12 := ⟨hHeld.1.still c12, hHeld.2.still c12⟩
  clear o11
  have h0_71 := h0_62.still c12
  have h1_72 := h1_63.still c12
  have A0_73 := A0_64.still c12
  have A1_74 := A1_65.still c12
  have x0_75 := x0_66.still c12
  have bx0_76 := bx0_67.still c12
  have x1_77 := x1_68.still c12
  have bx1_78 := bx1_69.still c12
  have b79 := Chg.above b70 c12 (by omega) (by omega)
  have t79 : w11.heap.size ≤ w12.heap.size := c12.size
  clear h0_62 h1_63 A0_64 A1_65 x0_66 bx0_67 x1_68 bx1_69 b70 c12
  refine hK'.out _ _ hs12 (fun hHeld => ?_)
  clear hK' hs12
  try simp only [Act.put, List.setIfInBounds_toArray, List.set_cons_zero, List.set_cons_succ]
  refine take_slotC (i := 4) (d := some 39) (v := .bool false) rfl (by kernel_rfl) (by kernel_rfl) (by kernel_rfl) (by kernel_rfl) (fun _ _ _ h => h) (.inl ⟨by kernel_rfl, fun V hV => by go_simp⟩) hHeld ?_
  try simp only [Act.put, List.setIfInBounds_toArray, List.set_cons_zero, List.set_cons_succ]
  refine wpAnyH_done (by kernel_rfl) ?_ _
  clear hHeld
  go_wp2_with (first | (refine wpList_load_row rfl 57 _ rfl w.heap.size rfl 57 #[.slice A0 n0 c0] (0, 0) _ A0_73 Try.underlying57 rfl (ldeal_info7 _) ?_) | (refine wpList_load_row rfl 52 _ rfl (w.heap.size + 1) rfl 52 #[.int .i64 sg1, .int .i64 lg1, .slice A1 n1 c1] (0, 0) _ A1_74 Try.underlying52 rfl (plinfo _ _ _ _ _) ?_) | (refine wpList_load_row rfl 26 _ rfl w6.heap.size rfl 26 #[.slice (some ⟨g6, 0, none⟩) n0 n0] (0, 0) _ bx0_76 Try.underlying26 rfl (deal_info7 _) ?_) | (refine wpList_load_row rfl 29 _ rfl w8.heap.size rfl 29 #[.int .i64 sg1, .int .i64 lg1, .slice (some ⟨g8, 0, none⟩) n1 n1] (0, 0) _ bx1_78 Try.underlying29 rfl (play_info _ _ _ _ _) ?_))
  have dr : Chg w12 w12.drew 0 0 := Chg.of_drew ⟨1, rfl⟩ _ _
  have s0 : (fun V => SBox V 29 w8.heap.size #[.int .i64 sg1, .int .i64 lg1, .slice (some ⟨g8, 0, none⟩) n1 n1] ∧ SBox V 52 (w.heap.size + 1) #[.int .i64 sg1, .int .i64 lg1, .slice A1 n1 c1]) w12.drew := ⟨bx1_78.still dr, A1_74.still dr⟩
  refine wp_region_held_drew (S := fun V => SBox V 29 w8.heap.size #[.int .i64 sg1, .int .i64 lg1, .slice (some ⟨g8, 0, none⟩) n1 n1] ∧ SBox V 52 (w.heap.size + 1) #[.int .i64 sg1, .int .i64 lg1, .slice A1 n1 c1]) (by kernel_rfl) s0 (fun hHeld => ?_)
  refine take_slotC (i := 0) (d := some 40) (v := .agg #[.int .i64 sg1, .int .i64 lg1, .slice (some ⟨g8, 0, none⟩) n1 n1]) rfl (by kernel_rfl) (by kernel_rfl) (by kernel_rfl) (by kernel_rfl) (fun _ _ _ h => h) (yieldsIf_load_mid (by kernel_rfl) 29 (.tmp 8) rfl w8.heap.size 0 rfl [.int .i64 sg1, .int .i64 lg1, .slice (some ⟨g8, 0, none⟩) n1 n1] _ (fun V hV => hV.1.range) Try.underlying29 rfl (play_infoL _ _ _)) hHeld ?_
  try simp only [Act.put, List.setIfInBounds_toArray, List.set_cons_zero, List.set_cons_succ]
  refine take_slotC (i := 1) (d := some 41) (v := .agg #[.int .i64 sg1, .int .i64 lg1, .slice A1 n1 c1]) rfl (by kernel_rfl) (by kernel_rfl) (by kernel_rfl) (by kernel_rfl) (fun _ _ _ h => h) (yieldsIf_load_mid (by kernel_rfl) 52 (.tmp 3) rfl (w.heap.size + 1) 0 rfl [.int .i64 sg1, .int .i64 lg1, .slice A1 n1 c1] _ (fun V hV => hV.2.range) Try.underlying52 rfl (plinfoL _ _ _)) hHeld ?_
  try simp only [Act.put, List.setIfInBounds_toArray, List.set_cons_zero, List.set_cons_succ]
  refine wpAnyH_ready (rs := [2]) (by kernel_rfl) (by simp) (AllReadyH.cons (i := 2) rfl (fun K' hK' => ?_) AllReadyH.nil)
  go_simp
  refine (toPlay sg1 lg1 A1 n1 c1 zs1 _ _ _ (h1_72.still dr) hm1).mono ?_
  rintro e w13 ⟨g13, rfl, o13, p13⟩
  have c13 := dr.trans p13
  have hs13 : (fun V => SBox V 29 w8.heap.size #[.int .i64 sg1, .int .i64 lg1, .slice (some ⟨g8, 0, none⟩) n1 n1] ∧ SBox V 52 (w.heap.size + 1) #[.int .i64 sg1, .int .i64 lg1, .slice A1 n1 c1]) w13 := ⟨hHeld.1.still p13, hHeld.2.still p13⟩
  clear p13 dr s0
  have h0_80 := h0_71.still c13
  have h1_81 := h1_72.still c13
  have A0_82 := A0_73.still c13
  have A1_83 := A1_74.still c13
  have x0_84 := x0_75.still c13
  have bx0_85 := bx0_76.still c13
  have x1_86 := x1_77.still c13
  have bx1_87 := bx1_78.still c13
  have b88 := Chg.above b79 c13 (by omega) (by omega)
  have t88 : w12.heap.size ≤ w13.heap.size := c13.size
  clear h0_71 h1_72 A0_73 A1_74 x0_75 bx0_76 x1_77 bx1_78 b79 c13
  refine hK'.out _ _ hs13 (fun hHeld => ?_)
  clear hK' hs13
  try simp only [Act.put, List.setIfInBounds_toArray, List.set_cons_zero, List.set_cons_succ]
  refine wpAnyH_ready (rs := [3]) (by kernel_rfl) (by simp) (AllReadyH.cons (i := 3) rfl (fun K' hK' => ?_) AllReadyH.nil)
  go_simp
  refine (eqPlay sg1 lg1 _ _ n1 n1 _ _ zs1 _ _ _ _ _ x1_86.rd o13.rd hm1).mono ?_
  rintro e w14 ⟨rfl, c14⟩
  have hs14 : (fun V => SBox V 29 w8.heap.size #[.int .i64 sg1, .int .i64 lg1, .slice (some ⟨g8, 0, none⟩) n1 n1] ∧ SBox V 52 (w.heap.size + 1) #[.int .i64 sg1, .int .i64 lg1, .slice A1 n1 c1]) w14 := ⟨hHeld.1.still c14, hHeld.2.still c14⟩
  clear o13
  have h0_89 := h0_80.still c14
  have h1_90 := h1_81.still c14
  have A0_91 := A0_82.still c14
  have A1_92 := A1_83.still c14
  have x0_93 := x0_84.still c14
  have bx0_94 := bx0_85.still c14
  have x1_95 := x1_86.still c14
  have bx1_96 := bx1_87.still c14
  have b97 := Chg.above b88 c14 (by omega) (by omega)
  have t97 : w13.heap.size ≤ w14.heap.size := c14.size
  clear h0_80 h1_81 A0_82 A1_83 x0_84 bx0_85 x1_86 bx1_87 b88 c14
  refine hK'.out _ _ hs14 (fun hHeld => ?_)
  clear hK' hs14
  try simp only [Act.put, List.setIfInBounds_toArray, List.set_cons_zero, List.set_cons_succ]
  refine take_slotC (i := 4) (d := some 44) (v := .bool false) rfl (by kernel_rfl) (by kernel_rfl) (by kernel_rfl) (by kernel_rfl) (fun _ _ _ h => h) (.inl ⟨by kernel_rfl, fun V hV => by go_simp⟩) hHeld ?_
  try simp only [Act.put, List.setIfInBounds_toArray, List.set_cons_zero, List.set_cons_succ]
  refine wpAnyH_done (by kernel_rfl) ?_ _
  clear hHeld
  go_wp2_with (first | (refine wpList_load_row rfl 57 _ rfl w.heap.size rfl 57 #[.slice A0 n0 c0] (0, 0) _ A0_91 Try.underlying57 rfl (ldeal_info7 _) ?_) | (refine wpList_load_row rfl 52 _ rfl (w.heap.size + 1) rfl 52 #[.int .i64 sg1, .int .i64 lg1, .slice A1 n1 c1] (0, 0) _ A1_92 Try.underlying52 rfl (plinfo _ _ _ _ _) ?_) | (refine wpList_load_row rfl 26 _ rfl w6.heap.size rfl 26 #[.slice (some ⟨g6, 0, none⟩) n0 n0] (0, 0) _ bx0_94 Try.underlying26 rfl (deal_info7 _) ?_) | (refine wpList_load_row rfl 29 _ rfl w8.heap.size rfl 29 #[.int .i64 sg1, .int .i64 lg1, .slice (some ⟨g8, 0, none⟩) n1 n1] (0, 0) _ bx1_96 Try.underlying29 rfl (play_info _ _ _ _ _) ?_))
  go_ret
  exact ⟨rfl, b97⟩

end Go.Proofs.Yteglffbeldlibaa.Lib1
