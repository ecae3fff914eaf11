/- Chapter 8: exact laws over plays and deals. (Written by wip/gen8x.py.) -/
import Derived.Test.YteglffbeldlibaaExL8
import Derived.Deep.CutRange
import Derived.Test.YteglffbeldlibaaTx8
namespace Go.Proofs.Yteglffbeldlibaa.Lib1
open Go.RowKit
set_option maxRecDepth 100000

set_option maxHeartbeats 8000000 in
theorem law_PlayText8 (sg0 lg0 : Int) (A0 : Option Addr) (n0 c0 : Nat) (zs0 : List Int) (w : World) (h0 : Rd w 0 w.heap.size A0 n0 zs0) (l0 : n0 ≤ maxLen) :
    Calls Try.prog 15 #[.agg #[.int .i64 sg0, .int .i64 lg0, .slice A0 n0 c0]] w fun e w' => e = .returned (.bool true) ∧ Below w.heap.size w w' := by
  obtain ⟨R, hR⟩ : ∃ R, R = plyT sg0 lg0 zs0 := ⟨_, rfl⟩
  have HRR := Lib.hid hR
  clear hR
  have hRR : (R.toList == R.toList) = true := by simp
  have bl := Below.refl w.heap.size w
  have y0 : (w.alloc (.cells #[.int .i64 sg0, .int .i64 lg0, .slice A0 n0 c0] 52)).heap.size = w.heap.size + 1 := by simp
  have q0 := Chg.of_alloc w (.cells #[.int .i64 sg0, .int .i64 lg0, .slice A0 n0 c0] 52) 0 0
  have xb0 := SBox.new w 52 #[.int .i64 sg0, .int .i64 lg0, .slice A0 n0 c0]
  have xa0 := xb0
  have ca := q0
  clear xb0 q0
  have ha0 := h0.still ca
  have ba := Chg.above bl ca (by omega) (by omega)
  have za : w.heap.size + 1 ≤ (w.alloc (.cells #[.int .i64 sg0, .int .i64 lg0, .slice A0 n0 c0] 52)).heap.size := by simp
  clear bl ca y0 h0
  go_enter Try.func15, Try.ntmps15
  go_wp2_with (refine wpList_load_row rfl 52 _ rfl w.heap.size rfl 52 #[.int .i64 sg0, .int .i64 lg0, .slice A0 n0 c0] (0, 0) _ xa0 Try.underlying52 rfl (plinfo _ _ _ _ _) ?_)
  generalize (w.alloc (.cells #[.int .i64 sg0, .int .i64 lg0, .slice A0 n0 c0] 52)) = w0 at ha0 xa0 ba za ⊢
  refine (szPlay sg0 lg0 A0 n0 c0 1048576 _ (by omega) (by omega) l0).mono ?_
  rintro e w1 ⟨⟨u1, rfl, hu1⟩, c1⟩
  have h0_1 := ha0.still c1
  have A0_2 := xa0.still c1
  have b3 := Chg.above ba c1 (by omega) (by omega)
  have t3 : w0.heap.size ≤ w1.heap.size := c1.size
  clear ha0 xa0 ba c1
  by_cases hv1 : u1 < 0
  · go_wp2_with fail
    go_ret
    exact ⟨rfl, b3⟩
  have hm0 : n0 ≤ 1048576 := by omega
  go_wp2_with (refine wpList_load_row rfl 52 _ rfl w.heap.size rfl 52 #[.int .i64 sg0, .int .i64 lg0, .slice A0 n0 c0] (0, 0) _ A0_2 Try.underlying52 rfl (plinfo _ _ _ _ _) ?_)
  refine (toPlay sg0 lg0 A0 n0 c0 zs0 _ _ _ h0_1 hm0).mono ?_
  rintro e w2 ⟨g2, rfl, o2, c2⟩
  have h0_4 := h0_1.still c2
  have A0_5 := A0_2.still c2
  have b6 := Chg.above b3 c2 (by omega) (by omega)
  have t6 : w1.heap.size ≤ w2.heap.size := c2.size
  clear h0_1 A0_2 b3 c2
  go_wp2_with (refine wpList_load_row rfl 52 _ rfl w.heap.size rfl 52 #[.int .i64 sg0, .int .i64 lg0, .slice A0 n0 c0] (0, 0) _ A0_5 Try.underlying52 rfl (plinfo _ _ _ _ _) ?_)
  refine (spec_PlayText sg0 lg0 _ n0 n0 zs0 _ (o2.rd.more (Nat.zero_le _) (by omega)) hm0 (Nat.le_refl _)).mono ?_
  rw [← HRR.out]
  rintro e w3 ⟨rfl, c3⟩
  clear o2
  have h0_7 := h0_4.still c3
  have A0_8 := A0_5.still c3
  have b9 := Chg.above b6 c3 (by omega) (by omega)
  have t9 : w2.heap.size ≤ w3.heap.size := c3.size
  clear h0_4 A0_5 b6 c3
  go_wp2_with (refine wpList_load_row rfl 52 _ rfl w.heap.size rfl 52 #[.int .i64 sg0, .int .i64 lg0, .slice A0 n0 c0] (0, 0) _ A0_8 Try.underlying52 rfl (plinfo _ _ _ _ _) ?_)
  refine (toPlay sg0 lg0 A0 n0 c0 zs0 _ _ _ h0_7 hm0).mono ?_
  rintro e w4 ⟨g4, rfl, o4, c4⟩
  have h0_10 := h0_7.still c4
  have A0_11 := A0_8.still c4
  have b12 := Chg.above b9 c4 (by omega) (by omega)
  have t12 : w3.heap.size ≤ w4.heap.size := c4.size
  clear h0_7 A0_8 b9 c4
  have x5 := SBox.row w4 29 #[.int .i64 0, .int .i64 0, .slice none 0 0] #[.int .i64 sg0, .int .i64 lg0, .slice (some ⟨g4, 0, none⟩) n0 n0]
  have a5 := chg_row w4 29 #[.int .i64 0, .int .i64 0, .slice none 0 0] #[.int .i64 sg0, .int .i64 lg0, .slice (some ⟨g4, 0, none⟩) n0 n0]
  have z5 : w4.heap.size < ((w4.alloc (.cells #[.int .i64 0, .int .i64 0, .slice none 0 0] 29)).setRow w4.heap.size #[.int .i64 sg0, .int .i64 lg0, .slice (some ⟨g4, 0, none⟩) n0 n0]).heap.size := by rw [row_size]; omega
  have h0_13 := h0_10.still a5
  have A0_14 := A0_11.still a5
  have x0_15 := o4.still a5
  have b16 := Chg.above b12 a5 (by omega) (by omega)
  clear h0_10 A0_11 o4 b12 a5
  go_wp2_with (first | (refine wpList_store_row rfl 29 _ _ rfl w4.heap.size #[.int .i64 sg0, .int .i64 lg0, .slice (some ⟨g4, 0, none⟩) n0 n0] rfl rfl 29 #[.int .i64 0, .int .i64 0, .slice none 0 0] (heap_alloc_new _ _) (play_info _ _ _ _ _) rfl (play_cells _ _ _ _ _) ?_; generalize (w4.alloc (.cells #[.int .i64 0, .int .i64 0, .slice none 0 0] 29)).setRow w4.heap.size #[.int .i64 sg0, .int .i64 lg0, .slice (some ⟨g4, 0, none⟩) n0 n0] = v5 at h0_13 A0_14 x0_15 x5 b16 z5 ⊢) | (refine wpList_load_row rfl 52 _ rfl w.heap.size rfl 52 #[.int .i64 sg0, .int .i64 lg0, .slice A0 n0 c0] (0, 0) _ A0_14 Try.underlying52 rfl (plinfo _ _ _ _ _) ?_) | (refine wpList_load_row rfl 29 _ rfl w4.heap.size rfl 29 #[.int .i64 sg0, .int .i64 lg0, .slice (some ⟨g4, 0, none⟩) n0 n0] (0, 0) _ x5 Try.underlying29 rfl (play_info _ _ _ _ _) ?_))
  refine (impl_PlayText sg0 lg0 _ n0 n0 zs0 _ (x0_15.rd.more (Nat.zero_le _) (by omega)) hm0 (Nat.le_refl _)).mono ?_
  rw [← HRR.out]
  rintro e w6 ⟨rfl, c6⟩
  have h0_17 := h0_13.still c6
  have A0_18 := A0_14.still c6
  have x0_19 := x0_15.still c6
  have bx0_20 := x5.still c6
  have b21 := Chg.above b16 c6 (by omega) (by omega)
  have t21 : v5.heap.size ≤ w6.heap.size := c6.size
  clear h0_13 A0_14 x0_15 x5 b16 c6
  go_wp2_with (first | (refine wpList_load_row rfl 52 _ rfl w.heap.size rfl 52 #[.int .i64 sg0, .int .i64 lg0, .slice A0 n0 c0] (0, 0) _ A0_18 Try.underlying52 rfl (plinfo _ _ _ _ _) ?_) | (refine wpList_load_row rfl 29 _ rfl w4.heap.size rfl 29 #[.int .i64 sg0, .int .i64 lg0, .slice (some ⟨g4, 0, none⟩) n0 n0] (0, 0) _ bx0_20 Try.underlying29 rfl (play_info _ _ _ _ _) ?_))
  have dr : Chg w6 w6.drew 0 0 := Chg.of_drew ⟨1, rfl⟩ _ _
  have s0 : (fun V => SBox V 29 w4.heap.size #[.int .i64 sg0, .int .i64 lg0, .slice (some ⟨g4, 0, none⟩) n0 n0] ∧ SBox V 52 w.heap.size #[.int .i64 sg0, .int .i64 lg0, .slice A0 n0 c0]) w6.drew := ⟨bx0_20.still dr, A0_18.still dr⟩
  refine wp_region_held_drew (S := fun V => SBox V 29 w4.heap.size #[.int .i64 sg0, .int .i64 lg0, .slice (some ⟨g4, 0, none⟩) n0 n0] ∧ SBox V 52 w.heap.size #[.int .i64 sg0, .int .i64 lg0, .slice A0 n0 c0]) (by kernel_rfl) s0 (fun hHeld => ?_)
  refine take_slotC (i := 0) (d := some 22) (v := .agg #[.int .i64 sg0, .int .i64 lg0, .slice (some ⟨g4, 0, none⟩) n0 n0]) rfl (by kernel_rfl) (by kernel_rfl) (by kernel_rfl) (by kernel_rfl) (fun _ _ _ h => h) (yieldsIf_load_mid (by kernel_rfl) 29 (.tmp 5) rfl w4.heap.size 0 rfl [.int .i64 sg0, .int .i64 lg0, .slice (some ⟨g4, 0, none⟩) n0 n0] _ (fun V hV => hV.1.range) Try.underlying29 rfl (play_infoL _ _ _)) hHeld ?_
  try simp only [Act.put, List.setIfInBounds_toArray, List.set_cons_zero, List.set_cons_succ]
  refine take_slotC (i := 1) (d := some 23) (v := .agg #[.int .i64 sg0, .int .i64 lg0, .slice A0 n0 c0]) rfl (by kernel_rfl) (by kernel_rfl) (by kernel_rfl) (by kernel_rfl) (fun _ _ _ h => h) (yieldsIf_load_mid (by kernel_rfl) 52 (.tmp 1) rfl w.heap.size 0 rfl [.int .i64 sg0, .int .i64 lg0, .slice A0 n0 c0] _ (fun V hV => hV.2.range) Try.underlying52 rfl (plinfoL _ _ _)) hHeld ?_
  try simp only [Act.put, List.setIfInBounds_toArray, List.set_cons_zero, List.set_cons_succ]
  refine wpAnyH_ready (rs := [2]) (by kernel_rfl) (by simp) (AllReadyH.cons (i := 2) rfl (fun K' hK' => ?_) AllReadyH.nil)
  go_simp
  refine (toPlay sg0 lg0 A0 n0 c0 zs0 _ _ _ (h0_17.still dr) hm0).mono ?_
  rintro e w7 ⟨g7, rfl, o7, p7⟩
  have c7 := dr.trans p7
  have hs7 : (fun V => SBox V 29 w4.heap.size #[.int .i64 sg0, .int .i64 lg0, .slice (some ⟨g4, 0, none⟩) n0 n0] ∧ SBox V 52 w.heap.size #[.int .i64 sg0, .int .i64 lg0, .slice A0 n0 c0]) w7 := ⟨hHeld.1.still p7, hHeld.2.still p7⟩
  clear p7 dr s0
  have h0_22 := h0_17.still c7
  have A0_23 := A0_18.still c7
  have x0_24 := x0_19.still c7
  have bx0_25 := bx0_20.still c7
  have b26 := Chg.above b21 c7 (by omega) (by omega)
  have t26 : w6.heap.size ≤ w7.heap.size := c7.size
  clear h0_17 A0_18 x0_19 bx0_20 b21 c7
  refine hK'.out _ _ hs7 (fun hHeld => ?_)
  clear hK' hs7
  try simp only [Act.put, List.setIfInBounds_toArray, List.set_cons_zero, List.set_cons_succ]
  refine wpAnyH_ready (rs := [3]) (by kernel_rfl) (by simp) (AllReadyH.cons (i := 3) rfl (fun K' hK' => ?_) AllReadyH.nil)
  go_simp
  refine (eqPlay sg0 lg0 _ _ n0 n0 _ _ zs0 _ _ _ _ _ x0_24.rd o7.rd hm0).mono ?_
  rintro e w8 ⟨rfl, c8⟩
  have hs8 : (fun V => SBox V 29 w4.heap.size #[.int .i64 sg0, .int .i64 lg0, .slice (some ⟨g4, 0, none⟩) n0 n0] ∧ SBox V 52 w.heap.size #[.int .i64 sg0, .int .i64 lg0, .slice A0 n0 c0]) w8 := ⟨hHeld.1.still c8, hHeld.2.still c8⟩
  clear o7
  have h0_27 := h0_22.still c8
  have A0_28 := A0_23.still c8
  have x0_29 := x0_24.still c8
  have bx0_30 := bx0_25.still c8
  have b31 := Chg.above b26 c8 (by omega) (by omega)
  have t31 : w7.heap.size ≤ w8.heap.size := c8.size
  clear h0_22 A0_23 x0_24 bx0_25 b26 c8
  refine hK'.out _ _ hs8 (fun hHeld => ?_)
  clear hK' hs8
  try simp only [Act.put, List.setIfInBounds_toArray, List.set_cons_zero, List.set_cons_succ]
  refine take_slotC (i := 4) (d := some 26) (v := .bool false) rfl (by kernel_rfl) (by kernel_rfl) (by kernel_rfl) (by kernel_rfl) (fun _ _ _ h => h) (.inl ⟨by kernel_rfl, fun V hV => by go_simp⟩) hHeld ?_
  try simp only [Act.put, List.setIfInBounds_toArray, List.set_cons_zero, List.set_cons_succ]
  refine wpAnyH_done (by kernel_rfl) ?_ _
  clear hHeld
  go_wp2_with (first | (refine wpList_load_row rfl 52 _ rfl w.heap.size rfl 52 #[.int .i64 sg0, .int .i64 lg0, .slice A0 n0 c0] (0, 0) _ A0_28 Try.underlying52 rfl (plinfo _ _ _ _ _) ?_) | (refine wpList_load_row rfl 29 _ rfl w4.heap.size rfl 29 #[.int .i64 sg0, .int .i64 lg0, .slice (some ⟨g4, 0, none⟩) n0 n0] (0, 0) _ bx0_30 Try.underlying29 rfl (play_info _ _ _ _ _) ?_))
  go_ret
  exact ⟨rfl, b31⟩

end Go.Proofs.Yteglffbeldlibaa.Lib1
