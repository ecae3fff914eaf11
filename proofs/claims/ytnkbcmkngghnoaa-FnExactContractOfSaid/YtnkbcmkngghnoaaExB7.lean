/- Chapter 7: the exact laws over auctions. (Written by wip/gen7x7.py.) -/
import Derived.Test.YtnkbcmkngghnoaaExA7
import Derived.Test.YtnkbcmkngghnoaaPbC7
namespace Go.Proofs.Ytnkbcmkngghnoaa.Lib1
open Go.RowKit
set_option maxRecDepth 100000

theorem linfoL (d : Int) (v : Value) : (Try.prog.info? 43).map (·.size) = some ([.int .i64 d, v] : List Value).length := by kernel_rfl
theorem len_legal (d : Int) (zs : List Int) (n : Nat) : (legalV d zs n).length ≤ 1048576 := by
  unfold legalV
  split
  · exact legalTo_len38 zs n 38 (Nat.le_refl _)
  · simp
theorem len_add (d : Int) (zs : List Int) (n : Nat) (x : Int) (h : zs.length = n) : (addL d zs n x).length ≤ 1048576 := by
  unfold addL
  split
  · rename_i e
    have hv : validTo zs n = true := by
      unfold addB at e
      cases hq : inB d 0 3 && validTo zs n
      · rw [hq] at e; simp at e
      · exact (valid_of hq).2
    have := valid_319 hv
    rw [List.length_append, h]; simp; omega
  · simp
theorem con_open (d : Int) (zs : List Int) (n : Nat) : ∃ a b c e : Int, conZ d zs n = #[.int .i64 a, .int .i64 b, .int .i64 c, .int .i64 e] := by
  unfold conZ
  split
  · exact ⟨_, _, _, _, rfl⟩
  · exact ⟨_, _, _, _, rfl⟩

set_option maxHeartbeats 8000000 in
theorem law_IsAuction7 (d : Int) (A : Option Addr) (n c : Nat) (zs : List Int) (w : World) (h : Rd w 0 w.heap.size A n zs) (hL : n ≤ maxLen) :
    Calls Try.prog 6 #[.agg #[.int .i64 d, .slice A n c]] w fun e w' => e = .returned (.bool true) ∧ Below w.heap.size w w' := by
  have bl := Below.refl w.heap.size w
  have xa := SBox.new w 43 #[.int .i64 d, .slice A n c]
  have ca := Chg.of_alloc w (.cells #[.int .i64 d, .slice A n c] 43) 0 0
  have ha := h.still ca
  have ba := Chg.above bl ca (by omega) (by omega)
  have za : w.heap.size < (w.alloc (.cells #[.int .i64 d, .slice A n c] 43)).heap.size := by simp
  clear bl ca h
  go_enter Try.func6, Try.ntmps6
  go_wp2_with (refine wpList_load_row rfl 43 _ rfl w.heap.size rfl 43 #[.int .i64 d, .slice A n c] (0, 0) _ xa Try.underlying43 rfl (linfo _ _ _ _) ?_)
  generalize w.alloc (.cells #[.int .i64 d, .slice A n c] 43) = w0 at ha xa ba za ⊢
  refine (szAuction d A n c _ hL).mono ?_
  rintro e w1 ⟨⟨v, rfl, hv⟩, c1⟩
  have h_1 := ha.still c1
  have A_2 := xa.still c1
  have b3 := Chg.above ba c1 (by omega) (by omega)
  have t3 : w0.heap.size ≤ w1.heap.size := c1.size
  clear ha xa ba c1
  rcases hv with hv | ⟨hv, hm⟩
  · go_wp2_with fail
    go_ret
    exact ⟨rfl, b3⟩
  obtain ⟨R, hR⟩ : ∃ R, R = (inB d 0 3 && validTo zs n) := ⟨_, rfl⟩
  have HRR := Lib.hid hR
  clear hR
  have hRR : (R == R) = true := by simp
  go_wp2_with (refine wpList_load_row rfl 43 _ rfl w.heap.size rfl 43 #[.int .i64 d, .slice A n c] (0, 0) _ A_2 Try.underlying43 rfl (linfo _ _ _ _) ?_)
  refine (toAuction d A n c zs _ _ _ h_1 hm).mono ?_
  rintro e w2 ⟨g2, rfl, o2, c2⟩
  have h_4 := h_1.still c2
  have A_5 := A_2.still c2
  have b6 := Chg.above b3 c2 (by omega) (by omega)
  have t6 : w1.heap.size ≤ w2.heap.size := c2.size
  clear h_1 A_2 b3 c2
  go_wp2_with (refine wpList_load_row rfl 43 _ rfl w.heap.size rfl 43 #[.int .i64 d, .slice A n c] (0, 0) _ A_5 Try.underlying43 rfl (linfo _ _ _ _) ?_)
  refine (spec_IsAuction d _ n n zs _ (Rp.of_rd o2.rd) hm (Nat.le_refl _)).mono ?_
  rw [← HRR.out]
  rintro e w3 ⟨rfl, c3⟩
  clear o2
  have h_7 := h_4.still c3
  have A_8 := A_5.still c3
  have b9 := Chg.above b6 c3 (by omega) (by omega)
  have t9 : w2.heap.size ≤ w3.heap.size := c3.size
  clear h_4 A_5 b6 c3
  go_wp2_with (refine wpList_load_row rfl 43 _ rfl w.heap.size rfl 43 #[.int .i64 d, .slice A n c] (0, 0) _ A_8 Try.underlying43 rfl (linfo _ _ _ _) ?_)
  refine (toAuction d A n c zs _ _ _ h_7 hm).mono ?_
  rintro e w4 ⟨g4, rfl, o4, c4⟩
  have h_10 := h_7.still c4
  have A_11 := A_8.still c4
  have b12 := Chg.above b9 c4 (by omega) (by omega)
  have t12 : w3.heap.size ≤ w4.heap.size := c4.size
  clear h_7 A_8 b9 c4
  have x5 := SBox.row w4 26 #[.int .i64 0, .slice none 0 0] #[.int .i64 d, .slice (some ⟨g4, 0, none⟩) n n]
  have a5 := chg_row w4 26 #[.int .i64 0, .slice none 0 0] #[.int .i64 d, .slice (some ⟨g4, 0, none⟩) n n]
  have z5 : w4.heap.size < ((w4.alloc (.cells #[.int .i64 0, .slice none 0 0] 26)).setRow w4.heap.size #[.int .i64 d, .slice (some ⟨g4, 0, none⟩) n n]).heap.size := by rw [row_size]; omega
  have h_13 := h_10.still a5
  have A_14 := A_11.still a5
  have x_15 := o4.still a5
  have b16 := Chg.above b12 a5 (by omega) (by omega)
  clear h_10 A_11 o4 b12 a5
  go_wp2_with (first | (refine wpList_store_row rfl 26 _ _ rfl w4.heap.size #[.int .i64 d, .slice (some ⟨g4, 0, none⟩) n n] rfl rfl 26 #[.int .i64 0, .slice none 0 0] (heap_alloc_new _ _) (auc_info _ _ _ _) rfl (auc_cells _ _ _ _) ?_; generalize (w4.alloc (.cells #[.int .i64 0, .slice none 0 0] 26)).setRow w4.heap.size #[.int .i64 d, .slice (some ⟨g4, 0, none⟩) n n] = v5 at h_13 A_14 x_15 x5 b16 z5 ⊢) | (refine wpList_load_row rfl 43 _ rfl w.heap.size rfl 43 #[.int .i64 d, .slice A n c] (0, 0) _ A_14 Try.underlying43 rfl (linfo _ _ _ _) ?_) | (refine wpList_load_row rfl 26 _ rfl w4.heap.size rfl 26 #[.int .i64 d, .slice (some ⟨g4, 0, none⟩) n n] (0, 0) _ x5 Try.underlying26 rfl (auc_info _ _ _ _) ?_))
  refine (impl_IsAuction d _ n n zs _ (Rp.of_rd x_15.rd) hm (Nat.le_refl _)).mono ?_
  rw [← HRR.out]
  rintro e w6 ⟨rfl, c6⟩
  have h_17 := h_13.still c6
  have A_18 := A_14.still c6
  have x_19 := x_15.still c6
  have bx_20 := x5.still c6
  have b21 := Chg.above b16 c6 (by omega) (by omega)
  have t21 : v5.heap.size ≤ w6.heap.size := c6.size
  clear h_13 A_14 x_15 x5 b16 c6
  go_wp2_with (first | (refine wpList_load_row rfl 43 _ rfl w.heap.size rfl 43 #[.int .i64 d, .slice A n c] (0, 0) _ A_18 Try.underlying43 rfl (linfo _ _ _ _) ?_) | (refine wpList_load_row rfl 26 _ rfl w4.heap.size rfl 26 #[.int .i64 d, .slice (some ⟨g4, 0, none⟩) n n] (0, 0) _ bx_20 Try.underlying26 rfl (auc_info _ _ _ _) ?_))
  have dr : Chg w6 w6.drew 0 0 := Chg.of_drew ⟨1, rfl⟩ _ _
  have s0 : (fun V => SBox V 26 w4.heap.size #[.int .i64 d, .slice (some ⟨g4, 0, none⟩) n n] ∧ SBox V 43 w.heap.size #[.int .i64 d, .slice A n c]) w6.drew := ⟨bx_20.still dr, A_18.still dr⟩
  refine wp_region_held_drew (S := fun V => SBox V 26 w4.heap.size #[.int .i64 d, .slice (some ⟨g4, 0, none⟩) n n] ∧ SBox V 43 w.heap.size #[.int .i64 d, .slice A n c]) (by kernel_rfl) s0 (fun hHeld => ?_)
  refine take_slotC (i := 0) (d := some 22) (v := .agg #[.int .i64 d, .slice (some ⟨g4, 0, none⟩) n n]) rfl (by kernel_rfl) (by kernel_rfl) (by kernel_rfl) (by kernel_rfl) (fun _ _ _ h => h) (yieldsIf_load_mid (by kernel_rfl) 26 (.tmp 5) rfl w4.heap.size 0 rfl [.int .i64 d, .slice (some ⟨g4, 0, none⟩) n n] _ (fun V hV => hV.1.range) Try.underlying26 rfl (auc_info7 _ _)) hHeld ?_
  try simp only [Act.put, List.setIfInBounds_toArray, List.set_cons_zero, List.set_cons_succ]
  refine take_slotC (i := 1) (d := some 23) (v := .agg #[.int .i64 d, .slice A n c]) rfl (by kernel_rfl) (by kernel_rfl) (by kernel_rfl) (by kernel_rfl) (fun _ _ _ h => h) (yieldsIf_load_mid (by kernel_rfl) 43 (.tmp 1) rfl w.heap.size 0 rfl [.int .i64 d, .slice A n c] _ (fun V hV => hV.2.range) Try.underlying43 rfl (linfoL _ _)) hHeld ?_
  try simp only [Act.put, List.setIfInBounds_toArray, List.set_cons_zero, List.set_cons_succ]
  refine wpAnyH_ready (rs := [2]) (by kernel_rfl) (by simp) (AllReadyH.cons (i := 2) rfl (fun K' hK' => ?_) AllReadyH.nil)
  go_simp
  refine (toAuction d A n c zs _ _ _ (h_17.still dr) hm).mono ?_
  rintro e w7 ⟨g7, rfl, o7, p7⟩
  have c7 := dr.trans p7
  have hs7 : (fun V => SBox V 26 w4.heap.size #[.int .i64 d, .slice (some ⟨g4, 0, none⟩) n n] ∧ SBox V 43 w.heap.size #[.int .i64 d, .slice A n c]) w7 := ⟨hHeld.1.still p7, hHeld.2.still p7⟩
  clear p7 dr s0
  have h_22 := h_17.still c7
  have A_23 := A_18.still c7
  have x_24 := x_19.still c7
  have bx_25 := bx_20.still c7
  have b26 := Chg.above b21 c7 (by omega) (by omega)
  have t26 : w6.heap.size ≤ w7.heap.size := c7.size
  clear h_17 A_18 x_19 bx_20 b21 c7
  refine hK'.out _ _ hs7 (fun hHeld => ?_)
  clear hK' hs7
  try simp only [Act.put, List.setIfInBounds_toArray, List.set_cons_zero, List.set_cons_succ]
  refine wpAnyH_ready (rs := [3]) (by kernel_rfl) (by simp) (AllReadyH.cons (i := 3) rfl (fun K' hK' => ?_) AllReadyH.nil)
  go_simp
  refine (eqAuction d _ _ n n _ _ zs _ _ _ _ _ x_24.rd o7.rd hm).mono ?_
  rintro e w8 ⟨rfl, c8⟩
  have hs8 : (fun V => SBox V 26 w4.heap.size #[.int .i64 d, .slice (some ⟨g4, 0, none⟩) n n] ∧ SBox V 43 w.heap.size #[.int .i64 d, .slice A n c]) w8 := ⟨hHeld.1.still c8, hHeld.2.still c8⟩
  clear o7
  have h_27 := h_22.still c8
  have A_28 := A_23.still c8
  have x_29 := x_24.still c8
  have bx_30 := bx_25.still c8
  have b31 := Chg.above b26 c8 (by omega) (by omega)
  have t31 : w7.heap.size ≤ w8.heap.size := c8.size
  clear h_22 A_23 x_24 bx_25 b26 c8
  refine hK'.out _ _ hs8 (fun hHeld => ?_)
  clear hK' hs8
  try simp only [Act.put, List.setIfInBounds_toArray, List.set_cons_zero, List.set_cons_succ]
  refine take_slotC (i := 4) (d := some 26) (v := .bool false) rfl (by kernel_rfl) (by kernel_rfl) (by kernel_rfl) (by kernel_rfl) (fun _ _ _ h => h) (.inl ⟨by kernel_rfl, fun V hV => by go_simp⟩) hHeld ?_
  try simp only [Act.put, List.setIfInBounds_toArray, List.set_cons_zero, List.set_cons_succ]
  refine wpAnyH_done (by kernel_rfl) ?_ _
  clear hHeld
  go_wp2_with (first | (refine wpList_load_row rfl 43 _ rfl w.heap.size rfl 43 #[.int .i64 d, .slice A n c] (0, 0) _ A_28 Try.underlying43 rfl (linfo _ _ _ _) ?_) | (refine wpList_load_row rfl 26 _ rfl w4.heap.size rfl 26 #[.int .i64 d, .slice (some ⟨g4, 0, none⟩) n n] (0, 0) _ bx_30 Try.underlying26 rfl (auc_info _ _ _ _) ?_))
  go_ret
  exact ⟨rfl, b31⟩

set_option maxHeartbeats 8000000 in
theorem law_AuctionEnded7 (d : Int) (A : Option Addr) (n c : Nat) (zs : List Int) (w : World) (h : Rd w 0 w.heap.size A n zs) (hL : n ≤ maxLen) :
    Calls Try.prog 7 #[.agg #[.int .i64 d, .slice A n c]] w fun e w' => e = .returned (.bool true) ∧ Below w.heap.size w w' := by
  have bl := Below.refl w.heap.size w
  have xa := SBox.new w 43 #[.int .i64 d, .slice A n c]
  have ca := Chg.of_alloc w (.cells #[.int .i64 d, .slice A n c] 43) 0 0
  have ha := h.still ca
  have ba := Chg.above bl ca (by omega) (by omega)
  have za : w.heap.size < (w.alloc (.cells #[.int .i64 d, .slice A n c] 43)).heap.size := by simp
  clear bl ca h
  go_enter Try.func7, Try.ntmps7
  go_wp2_with (refine wpList_load_row rfl 43 _ rfl w.heap.size rfl 43 #[.int .i64 d, .slice A n c] (0, 0) _ xa Try.underlying43 rfl (linfo _ _ _ _) ?_)
  generalize w.alloc (.cells #[.int .i64 d, .slice A n c] 43) = w0 at ha xa ba za ⊢
  refine (szAuction d A n c _ hL).mono ?_
  rintro e w1 ⟨⟨v, rfl, hv⟩, c1⟩
  have h_1 := ha.still c1
  have A_2 := xa.still c1
  have b3 := Chg.above ba c1 (by omega) (by omega)
  have t3 : w0.heap.size ≤ w1.heap.size := c1.size
  clear ha xa ba c1
  rcases hv with hv | ⟨hv, hm⟩
  · go_wp2_with fail
    go_ret
    exact ⟨rfl, b3⟩
  obtain ⟨R, hR⟩ : ∃ R, R = ((inB d 0 3 && validTo zs n) && overTo zs n) := ⟨_, rfl⟩
  have HRR := Lib.hid hR
  clear hR
  have hRR : (R == R) = true := by simp
  go_wp2_with (refine wpList_load_row rfl 43 _ rfl w.heap.size rfl 43 #[.int .i64 d, .slice A n c] (0, 0) _ A_2 Try.underlying43 rfl (linfo _ _ _ _) ?_)
  refine (toAuction d A n c zs _ _ _ h_1 hm).mono ?_
  rintro e w2 ⟨g2, rfl, o2, c2⟩
  have h_4 := h_1.still c2
  have A_5 := A_2.still c2
  have b6 := Chg.above b3 c2 (by omega) (by omega)
  have t6 : w1.heap.size ≤ w2.heap.size := c2.size
  clear h_1 A_2 b3 c2
  go_wp2_with (refine wpList_load_row rfl 43 _ rfl w.heap.size rfl 43 #[.int .i64 d, .slice A n c] (0, 0) _ A_5 Try.underlying43 rfl (linfo _ _ _ _) ?_)
  refine (spec_AuctionEnded d _ n n zs _ (Rp.of_rd o2.rd) hm (Nat.le_refl _)).mono ?_
  rw [← HRR.out]
  rintro e w3 ⟨rfl, c3⟩
  clear o2
  have h_7 := h_4.still c3
  have A_8 := A_5.still c3
  have b9 := Chg.above b6 c3 (by omega) (by omega)
  have t9 : w2.heap.size ≤ w3.heap.size := c3.size
  clear h_4 A_5 b6 c3
  go_wp2_with (refine wpList_load_row rfl 43 _ rfl w.heap.size rfl 43 #[.int .i64 d, .slice A n c] (0, 0) _ A_8 Try.underlying43 rfl (linfo _ _ _ _) ?_)
  refine (toAuction d A n c zs _ _ _ h_7 hm).mono ?_
  rintro e w4 ⟨g4, rfl, o4, c4⟩
  have h_10 := h_7.still c4
  have A_11 := A_8.still c4
  have b12 := Chg.above b9 c4 (by omega) (by omega)
  have t12 : w3.heap.size ≤ w4.heap.size := c4.size
  clear h_7 A_8 b9 c4
  have x5 := SBox.row w4 26 #[.int .i64 0, .slice none 0 0] #[.int .i64 d, .slice (some ⟨g4, 0, none⟩) n n]
  have a5 := chg_row w4 26 #[.int .i64 0, .slice none 0 0] #[.int .i64 d, .slice (some ⟨g4, 0, none⟩) n n]
  have z5 : w4.heap.size < ((w4.alloc (.cells #[.int .i64 0, .slice none 0 0] 26)).setRow w4.heap.size #[.int .i64 d, .slice (some ⟨g4, 0, none⟩) n n]).heap.size := by rw [row_size]; omega
  have h_13 := h_10.still a5
  have A_14 := A_11.still a5
  have x_15 := o4.still a5
  have b16 := Chg.above b12 a5 (by omega) (by omega)
  clear h_10 A_11 o4 b12 a5
  go_wp2_with (first | (refine wpList_store_row rfl 26 _ _ rfl w4.heap.size #[.int .i64 d, .slice (some ⟨g4, 0, none⟩) n n] rfl rfl 26 #[.int .i64 0, .slice none 0 0] (heap_alloc_new _ _) (auc_info _ _ _ _) rfl (auc_cells _ _ _ _) ?_; generalize (w4.alloc (.cells #[.int .i64 0, .slice none 0 0] 26)).setRow w4.heap.size #[.int .i64 d, .slice (some ⟨g4, 0, none⟩) n n] = v5 at h_13 A_14 x_15 x5 b16 z5 ⊢) | (refine wpList_load_row rfl 43 _ rfl w.heap.size rfl 43 #[.int .i64 d, .slice A n c] (0, 0) _ A_14 Try.underlying43 rfl (linfo _ _ _ _) ?_) | (refine wpList_load_row rfl 26 _ rfl w4.heap.size rfl 26 #[.int .i64 d, .slice (some ⟨g4, 0, none⟩) n n] (0, 0) _ x5 Try.underlying26 rfl (auc_info _ _ _ _) ?_))
  refine (impl_AuctionEnded d _ n n zs _ (Rp.of_rd x_15.rd) hm (Nat.le_refl _)).mono ?_
  rw [← HRR.out]
  rintro e w6 ⟨rfl, c6⟩
  have h_17 := h_13.still c6
  have A_18 := A_14.still c6
  have x_19 := x_15.still c6
  have bx_20 := x5.still c6
  have b21 := Chg.above b16 c6 (by omega) (by omega)
  have t21 : v5.heap.size ≤ w6.heap.size := c6.size
  clear h_13 A_14 x_15 x5 b16 c6
  go_wp2_with (first | (refine wpList_load_row rfl 43 _ rfl w.heap.size rfl 43 #[.int .i64 d, .slice A n c] (0, 0) _ A_18 Try.underlying43 rfl (linfo _ _ _ _) ?_) | (refine wpList_load_row rfl 26 _ rfl w4.heap.size rfl 26 #[.int .i64 d, .slice (some ⟨g4, 0, none⟩) n n] (0, 0) _ bx_20 Try.underlying26 rfl (auc_info _ _ _ _) ?_))
  have dr : Chg w6 w6.drew 0 0 := Chg.of_drew ⟨1, rfl⟩ _ _
  have s0 : (fun V => SBox V 26 w4.heap.size #[.int .i64 d, .slice (some ⟨g4, 0, none⟩) n n] ∧ SBox V 43 w.heap.size #[.int .i64 d, .slice A n c]) w6.drew := ⟨bx_20.still dr, A_18.still dr⟩
  refine wp_region_held_drew (S := fun V => SBox V 26 w4.heap.size #[.int .i64 d, .slice (some ⟨g4, 0, none⟩) n n] ∧ SBox V 43 w.heap.size #[.int .i64 d, .slice A n c]) (by kernel_rfl) s0 (fun hHeld => ?_)
  refine take_slotC (i := 0) (d := some 22) (v := .agg #[.int .i64 d, .slice (some ⟨g4, 0, none⟩) n n]) rfl (by kernel_rfl) (by kernel_rfl) (by kernel_rfl) (by kernel_rfl) (fun _ _ _ h => h) (yieldsIf_load_mid (by kernel_rfl) 26 (.tmp 5) rfl w4.heap.size 0 rfl [.int .i64 d, .slice (some ⟨g4, 0, none⟩) n n] _ (fun V hV => hV.1.range) Try.underlying26 rfl (auc_info7 _ _)) hHeld ?_
  try simp only [Act.put, List.setIfInBounds_toArray, List.set_cons_zero, List.set_cons_succ]
  refine take_slotC (i := 1) (d := some 23) (v := .agg #[.int .i64 d, .slice A n c]) rfl (by kernel_rfl) (by kernel_rfl) (by kernel_rfl) (by kernel_rfl) (fun _ _ _ h => h) (yieldsIf_load_mid (by kernel_rfl) 43 (.tmp 1) rfl w.heap.size 0 rfl [.int .i64 d, .slice A n c] _ (fun V hV => hV.2.range) Try.underlying43 rfl (linfoL _ _)) hHeld ?_
  try simp only [Act.put, List.setIfInBounds_toArray, List.set_cons_zero, List.set_cons_succ]
  refine wpAnyH_ready (rs := [2]) (by kernel_rfl) (by simp) (AllReadyH.cons (i := 2) rfl (fun K' hK' => ?_) AllReadyH.nil)
  go_simp
  refine (toAuction d A n c zs _ _ _ (h_17.still dr) hm).mono ?_
  rintro e w7 ⟨g7, rfl, o7, p7⟩
  have c7 := dr.trans p7
  have hs7 : (fun V => SBox V 26 w4.heap.size #[.int .i64 d, .slice (some ⟨g4, 0, none⟩) n n] ∧ SBox V 43 w.heap.size #[.int .i64 d, .slice A n c]) w7 := ⟨hHeld.1.still p7, hHeld.2.still p7⟩
  clear p7 dr s0
  have h_22 := h_17.still c7
  have A_23 := A_18.still c7
  have x_24 := x_19.still c7
  have bx_25 := bx_20.still c7
  have b26 := Chg.above b21 c7 (by omega) (by omega)
  have t26 : w6.heap.size ≤ w7.heap.size := c7.size
  clear h_17 A_18 x_19 bx_20 b21 c7
  refine hK'.out _ _ hs7 (fun hHeld => ?_)
  clear hK' hs7
  try simp only [Act.put, List.setIfInBounds_toArray, List.set_cons_zero, List.set_cons_succ]
  refine wpAnyH_ready (rs := [3]) (by kernel_rfl) (by simp) (AllReadyH.cons (i := 3) rfl (fun K' hK' => ?_) AllReadyH.nil)
  go_simp
  refine (eqAuction d _ _ n n _ _ zs _ _ _ _ _ x_24.rd o7.rd hm).mono ?_
  rintro e w8 ⟨rfl, c8⟩
  have hs8 : (fun V => SBox V 26 w4.heap.size #[.int .i64 d, .slice (some ⟨g4, 0, none⟩) n n] ∧ SBox V 43 w.heap.size #[.int .i64 d, .slice A n c]) w8 := ⟨hHeld.1.still c8, hHeld.2.still c8⟩
  clear o7
  have h_27 := h_22.still c8
  have A_28 := A_23.still c8
  have x_29 := x_24.still c8
  have bx_30 := bx_25.still c8
  have b31 := Chg.above b26 c8 (by omega) (by omega)
  have t31 : w7.heap.size ≤ w8.heap.size := c8.size
  clear h_22 A_23 x_24 bx_25 b26 c8
  refine hK'.out _ _ hs8 (fun hHeld => ?_)
  clear hK' hs8
  try simp only [Act.put, List.setIfInBounds_toArray, List.set_cons_zero, List.set_cons_succ]
  refine take_slotC (i := 4) (d := some 26) (v := .bool false) rfl (by kernel_rfl) (by kernel_rfl) (by kernel_rfl) (by kernel_rfl) (fun _ _ _ h => h) (.inl ⟨by kernel_rfl, fun V hV => by go_simp⟩) hHeld ?_
  try simp only [Act.put, List.setIfInBounds_toArray, List.set_cons_zero, List.set_cons_succ]
  refine wpAnyH_done (by kernel_rfl) ?_ _
  clear hHeld
  go_wp2_with (first | (refine wpList_load_row rfl 43 _ rfl w.heap.size rfl 43 #[.int .i64 d, .slice A n c] (0, 0) _ A_28 Try.underlying43 rfl (linfo _ _ _ _) ?_) | (refine wpList_load_row rfl 26 _ rfl w4.heap.size rfl 26 #[.int .i64 d, .slice (some ⟨g4, 0, none⟩) n n] (0, 0) _ bx_30 Try.underlying26 rfl (auc_info _ _ _ _) ?_))
  go_ret
  exact ⟨rfl, b31⟩

set_option maxHeartbeats 8000000 in
theorem law_SeatToCall7 (d : Int) (A : Option Addr) (n c : Nat) (zs : List Int) (w : World) (h : Rd w 0 w.heap.size A n zs) (hL : n ≤ maxLen) :
    Calls Try.prog 8 #[.agg #[.int .i64 d, .slice A n c]] w fun e w' => e = .returned (.bool true) ∧ Below w.heap.size w w' := by
  have bl := Below.refl w.heap.size w
  have xa := SBox.new w 43 #[.int .i64 d, .slice A n c]
  have ca := Chg.of_alloc w (.cells #[.int .i64 d, .slice A n c] 43) 0 0
  have ha := h.still ca
  have ba := Chg.above bl ca (by omega) (by omega)
  have za : w.heap.size < (w.alloc (.cells #[.int .i64 d, .slice A n c] 43)).heap.size := by simp
  clear bl ca h
  go_enter Try.func8, Try.ntmps8
  go_wp2_with (refine wpList_load_row rfl 43 _ rfl w.heap.size rfl 43 #[.int .i64 d, .slice A n c] (0, 0) _ xa Try.underlying43 rfl (linfo _ _ _ _) ?_)
  generalize w.alloc (.cells #[.int .i64 d, .slice A n c] 43) = w0 at ha xa ba za ⊢
  refine (szAuction d A n c _ hL).mono ?_
  rintro e w1 ⟨⟨v, rfl, hv⟩, c1⟩
  have h_1 := ha.still c1
  have A_2 := xa.still c1
  have b3 := Chg.above ba c1 (by omega) (by omega)
  have t3 : w0.heap.size ≤ w1.heap.size := c1.size
  clear ha xa ba c1
  rcases hv with hv | ⟨hv, hm⟩
  · go_wp2_with fail
    go_ret
    exact ⟨rfl, b3⟩
  obtain ⟨R, hR⟩ : ∃ R, R = (seatV d zs n) := ⟨_, rfl⟩
  have HRR := Lib.hid hR
  clear hR
  have hRR : (R == R) = true := by simp
  go_wp2_with (refine wpList_load_row rfl 43 _ rfl w.heap.size rfl 43 #[.int .i64 d, .slice A n c] (0, 0) _ A_2 Try.underlying43 rfl (linfo _ _ _ _) ?_)
  refine (toAuction d A n c zs _ _ _ h_1 hm).mono ?_
  rintro e w2 ⟨g2, rfl, o2, c2⟩
  have h_4 := h_1.still c2
  have A_5 := A_2.still c2
  have b6 := Chg.above b3 c2 (by omega) (by omega)
  have t6 : w1.heap.size ≤ w2.heap.size := c2.size
  clear h_1 A_2 b3 c2
  go_wp2_with (refine wpList_load_row rfl 43 _ rfl w.heap.size rfl 43 #[.int .i64 d, .slice A n c] (0, 0) _ A_5 Try.underlying43 rfl (linfo _ _ _ _) ?_)
  refine (spec_SeatToCall d _ n n zs _ (Rp.of_rd o2.rd) hm (Nat.le_refl _)).mono ?_
  rw [← HRR.out]
  rintro e w3 ⟨rfl, c3⟩
  clear o2
  have h_7 := h_4.still c3
  have A_8 := A_5.still c3
  have b9 := Chg.above b6 c3 (by omega) (by omega)
  have t9 : w2.heap.size ≤ w3.heap.size := c3.size
  clear h_4 A_5 b6 c3
  go_wp2_with (refine wpList_load_row rfl 43 _ rfl w.heap.size rfl 43 #[.int .i64 d, .slice A n c] (0, 0) _ A_8 Try.underlying43 rfl (linfo _ _ _ _) ?_)
  refine (toAuction d A n c zs _ _ _ h_7 hm).mono ?_
  rintro e w4 ⟨g4, rfl, o4, c4⟩
  have h_10 := h_7.still c4
  have A_11 := A_8.still c4
  have b12 := Chg.above b9 c4 (by omega) (by omega)
  have t12 : w3.heap.size ≤ w4.heap.size := c4.size
  clear h_7 A_8 b9 c4
  have x5 := SBox.row w4 26 #[.int .i64 0, .slice none 0 0] #[.int .i64 d, .slice (some ⟨g4, 0, none⟩) n n]
  have a5 := chg_row w4 26 #[.int .i64 0, .slice none 0 0] #[.int .i64 d, .slice (some ⟨g4, 0, none⟩) n n]
  have z5 : w4.heap.size < ((w4.alloc (.cells #[.int .i64 0, .slice none 0 0] 26)).setRow w4.heap.size #[.int .i64 d, .slice (some ⟨g4, 0, none⟩) n n]).heap.size := by rw [row_size]; omega
  have h_13 := h_10.still a5
  have A_14 := A_11.still a5
  have x_15 := o4.still a5
  have b16 := Chg.above b12 a5 (by omega) (by omega)
  clear h_10 A_11 o4 b12 a5
  go_wp2_with (first | (refine wpList_store_row rfl 26 _ _ rfl w4.heap.size #[.int .i64 d, .slice (some ⟨g4, 0, none⟩) n n] rfl rfl 26 #[.int .i64 0, .slice none 0 0] (heap_alloc_new _ _) (auc_info _ _ _ _) rfl (auc_cells _ _ _ _) ?_; generalize (w4.alloc (.cells #[.int .i64 0, .slice none 0 0] 26)).setRow w4.heap.size #[.int .i64 d, .slice (some ⟨g4, 0, none⟩) n n] = v5 at h_13 A_14 x_15 x5 b16 z5 ⊢) | (refine wpList_load_row rfl 43 _ rfl w.heap.size rfl 43 #[.int .i64 d, .slice A n c] (0, 0) _ A_14 Try.underlying43 rfl (linfo _ _ _ _) ?_) | (refine wpList_load_row rfl 26 _ rfl w4.heap.size rfl 26 #[.int .i64 d, .slice (some ⟨g4, 0, none⟩) n n] (0, 0) _ x5 Try.underlying26 rfl (auc_info _ _ _ _) ?_))
  refine (impl_SeatToCall d _ n n zs _ (Rp.of_rd x_15.rd) hm (Nat.le_refl _)).mono ?_
  rw [← HRR.out]
  rintro e w6 ⟨rfl, c6⟩
  have h_17 := h_13.still c6
  have A_18 := A_14.still c6
  have x_19 := x_15.still c6
  have bx_20 := x5.still c6
  have b21 := Chg.above b16 c6 (by omega) (by omega)
  have t21 : v5.heap.size ≤ w6.heap.size := c6.size
  clear h_13 A_14 x_15 x5 b16 c6
  go_wp2_with (first | (refine wpList_load_row rfl 43 _ rfl w.heap.size rfl 43 #[.int .i64 d, .slice A n c] (0, 0) _ A_18 Try.underlying43 rfl (linfo _ _ _ _) ?_) | (refine wpList_load_row rfl 26 _ rfl w4.heap.size rfl 26 #[.int .i64 d, .slice (some ⟨g4, 0, none⟩) n n] (0, 0) _ bx_20 Try.underlying26 rfl (auc_info _ _ _ _) ?_))
  have dr : Chg w6 w6.drew 0 0 := Chg.of_drew ⟨1, rfl⟩ _ _
  have s0 : (fun V => SBox V 26 w4.heap.size #[.int .i64 d, .slice (some ⟨g4, 0, none⟩) n n] ∧ SBox V 43 w.heap.size #[.int .i64 d, .slice A n c]) w6.drew := ⟨bx_20.still dr, A_18.still dr⟩
  refine wp_region_held_drew (S := fun V => SBox V 26 w4.heap.size #[.int .i64 d, .slice (some ⟨g4, 0, none⟩) n n] ∧ SBox V 43 w.heap.size #[.int .i64 d, .slice A n c]) (by kernel_rfl) s0 (fun hHeld => ?_)
  refine take_slotC (i := 0) (d := some 22) (v := .agg #[.int .i64 d, .slice (some ⟨g4, 0, none⟩) n n]) rfl (by kernel_rfl) (by kernel_rfl) (by kernel_rfl) (by kernel_rfl) (fun _ _ _ h => h) (yieldsIf_load_mid (by kernel_rfl) 26 (.tmp 5) rfl w4.heap.size 0 rfl [.int .i64 d, .slice (some ⟨g4, 0, none⟩) n n] _ (fun V hV => hV.1.range) Try.underlying26 rfl (auc_info7 _ _)) hHeld ?_
  try simp only [Act.put, List.setIfInBounds_toArray, List.set_cons_zero, List.set_cons_succ]
  refine take_slotC (i := 1) (d := some 23) (v := .agg #[.int .i64 d, .slice A n c]) rfl (by kernel_rfl) (by kernel_rfl) (by kernel_rfl) (by kernel_rfl) (fun _ _ _ h => h) (yieldsIf_load_mid (by kernel_rfl) 43 (.tmp 1) rfl w.heap.size 0 rfl [.int .i64 d, .slice A n c] _ (fun V hV => hV.2.range) Try.underlying43 rfl (linfoL _ _)) hHeld ?_
  try simp only [Act.put, List.setIfInBounds_toArray, List.set_cons_zero, List.set_cons_succ]
  refine wpAnyH_ready (rs := [2]) (by kernel_rfl) (by simp) (AllReadyH.cons (i := 2) rfl (fun K' hK' => ?_) AllReadyH.nil)
  go_simp
  refine (toAuction d A n c zs _ _ _ (h_17.still dr) hm).mono ?_
  rintro e w7 ⟨g7, rfl, o7, p7⟩
  have c7 := dr.trans p7
  have hs7 : (fun V => SBox V 26 w4.heap.size #[.int .i64 d, .slice (some ⟨g4, 0, none⟩) n n] ∧ SBox V 43 w.heap.size #[.int .i64 d, .slice A n c]) w7 := ⟨hHeld.1.still p7, hHeld.2.still p7⟩
  clear p7 dr s0
  have h_22 := h_17.still c7
  have A_23 := A_18.still c7
  have x_24 := x_19.still c7
  have bx_25 := bx_20.still c7
  have b26 := Chg.above b21 c7 (by omega) (by omega)
  have t26 : w6.heap.size ≤ w7.heap.size := c7.size
  clear h_17 A_18 x_19 bx_20 b21 c7
  refine hK'.out _ _ hs7 (fun hHeld => ?_)
  clear hK' hs7
  try simp only [Act.put, List.setIfInBounds_toArray, List.set_cons_zero, List.set_cons_succ]
  refine wpAnyH_ready (rs := [3]) (by kernel_rfl) (by simp) (AllReadyH.cons (i := 3) rfl (fun K' hK' => ?_) AllReadyH.nil)
  go_simp
  refine (eqAuction d _ _ n n _ _ zs _ _ _ _ _ x_24.rd o7.rd hm).mono ?_
  rintro e w8 ⟨rfl, c8⟩
  have hs8 : (fun V => SBox V 26 w4.heap.size #[.int .i64 d, .slice (some ⟨g4, 0, none⟩) n n] ∧ SBox V 43 w.heap.size #[.int .i64 d, .slice A n c]) w8 := ⟨hHeld.1.still c8, hHeld.2.still c8⟩
  clear o7
  have h_27 := h_22.still c8
  have A_28 := A_23.still c8
  have x_29 := x_24.still c8
  have bx_30 := bx_25.still c8
  have b31 := Chg.above b26 c8 (by omega) (by omega)
  have t31 : w7.heap.size ≤ w8.heap.size := c8.size
  clear h_22 A_23 x_24 bx_25 b26 c8
  refine hK'.out _ _ hs8 (fun hHeld => ?_)
  clear hK' hs8
  try simp only [Act.put, List.setIfInBounds_toArray, List.set_cons_zero, List.set_cons_succ]
  refine take_slotC (i := 4) (d := some 26) (v := .bool false) rfl (by kernel_rfl) (by kernel_rfl) (by kernel_rfl) (by kernel_rfl) (fun _ _ _ h => h) (.inl ⟨by kernel_rfl, fun V hV => by go_simp⟩) hHeld ?_
  try simp only [Act.put, List.setIfInBounds_toArray, List.set_cons_zero, List.set_cons_succ]
  refine wpAnyH_done (by kernel_rfl) ?_ _
  clear hHeld
  go_wp2_with (first | (refine wpList_load_row rfl 43 _ rfl w.heap.size rfl 43 #[.int .i64 d, .slice A n c] (0, 0) _ A_28 Try.underlying43 rfl (linfo _ _ _ _) ?_) | (refine wpList_load_row rfl 26 _ rfl w4.heap.size rfl 26 #[.int .i64 d, .slice (some ⟨g4, 0, none⟩) n n] (0, 0) _ bx_30 Try.underlying26 rfl (auc_info _ _ _ _) ?_))
  go_ret
  exact ⟨rfl, b31⟩

set_option maxHeartbeats 8000000 in
theorem law_LegalCalls7 (d : Int) (A : Option Addr) (n c : Nat) (zs : List Int) (w : World) (h : Rd w 0 w.heap.size A n zs) (hL : n ≤ maxLen) :
    Calls Try.prog 9 #[.agg #[.int .i64 d, .slice A n c]] w fun e w' => e = .returned (.bool true) ∧ Below w.heap.size w w' := by
  have bl := Below.refl w.heap.size w
  have xa := SBox.new w 43 #[.int .i64 d, .slice A n c]
  have ca := Chg.of_alloc w (.cells #[.int .i64 d, .slice A n c] 43) 0 0
  have ha := h.still ca
  have ba := Chg.above bl ca (by omega) (by omega)
  have za : w.heap.size < (w.alloc (.cells #[.int .i64 d, .slice A n c] 43)).heap.size := by simp
  clear bl ca h
  go_enter Try.func9, Try.ntmps9
  go_wp2_with (refine wpList_load_row rfl 43 _ rfl w.heap.size rfl 43 #[.int .i64 d, .slice A n c] (0, 0) _ xa Try.underlying43 rfl (linfo _ _ _ _) ?_)
  generalize w.alloc (.cells #[.int .i64 d, .slice A n c] 43) = w0 at ha xa ba za ⊢
  refine (szAuction d A n c _ hL).mono ?_
  rintro e w1 ⟨⟨v, rfl, hv⟩, c1⟩
  have h_1 := ha.still c1
  have A_2 := xa.still c1
  have b3 := Chg.above ba c1 (by omega) (by omega)
  have t3 : w0.heap.size ≤ w1.heap.size := c1.size
  clear ha xa ba c1
  rcases hv with hv | ⟨hv, hm⟩
  · go_wp2_with fail
    go_ret
    exact ⟨rfl, b3⟩
  have hRn := len_legal d zs n
  generalize hRR : legalV d zs n = R at hRn
  have HRR := Lib.hid hRR
  clear hRR
  have hneg : ¬ (1 : Int) + (R.length : Int) < 0 := by omega
  have hneg2 : ¬ (1 : Int) + (n : Int) < 0 := by omega
  go_wp2_with (refine wpList_load_row rfl 43 _ rfl w.heap.size rfl 43 #[.int .i64 d, .slice A n c] (0, 0) _ A_2 Try.underlying43 rfl (linfo _ _ _ _) ?_)
  refine (toAuction d A n c zs _ _ _ h_1 hm).mono ?_
  rintro e w2 ⟨g2, rfl, o2, c2⟩
  have h_4 := h_1.still c2
  have A_5 := A_2.still c2
  have b6 := Chg.above b3 c2 (by omega) (by omega)
  have t6 : w1.heap.size ≤ w2.heap.size := c2.size
  clear h_1 A_2 b3 c2
  go_wp2_with (refine wpList_load_row rfl 43 _ rfl w.heap.size rfl 43 #[.int .i64 d, .slice A n c] (0, 0) _ A_5 Try.underlying43 rfl (linfo _ _ _ _) ?_)
  refine (spec_LegalCalls d _ n n zs _ (Rp.of_rd o2.rd) hm (Nat.le_refl _)).mono ?_
  rw [HRR.out]
  rintro e w3 ⟨u3, rfl, q3, r3⟩
  obtain ⟨G3, e3, rfl, _, _, j3⟩ := q3.form
  have c3 := Chg.of_below r3 0 0
  clear q3 r3
  clear o2
  have h_7 := h_4.still c3
  have A_8 := A_5.still c3
  have b9 := Chg.above b6 c3 (by omega) (by omega)
  have t9 : w2.heap.size ≤ w3.heap.size := c3.size
  clear h_4 A_5 b6 c3
  go_wp2_with (refine wpList_load_row rfl 43 _ rfl w.heap.size rfl 43 #[.int .i64 d, .slice A n c] (0, 0) _ A_8 Try.underlying43 rfl (linfo _ _ _ _) ?_)
  refine (toAuction d A n c zs _ _ _ h_7 hm).mono ?_
  rintro e w4 ⟨g4, rfl, o4, c4⟩
  have h_10 := h_7.still c4
  have A_11 := A_8.still c4
  have W_12 := j3.still c4
  have b13 := Chg.above b9 c4 (by omega) (by omega)
  have t13 : w3.heap.size ≤ w4.heap.size := c4.size
  clear h_7 A_8 j3 b9 c4
  have x5 := SBox.row w4 26 #[.int .i64 0, .slice none 0 0] #[.int .i64 d, .slice (some ⟨g4, 0, none⟩) n n]
  have a5 := chg_row w4 26 #[.int .i64 0, .slice none 0 0] #[.int .i64 d, .slice (some ⟨g4, 0, none⟩) n n]
  have z5 : w4.heap.size < ((w4.alloc (.cells #[.int .i64 0, .slice none 0 0] 26)).setRow w4.heap.size #[.int .i64 d, .slice (some ⟨g4, 0, none⟩) n n]).heap.size := by rw [row_size]; omega
  have h_14 := h_10.still a5
  have A_15 := A_11.still a5
  have W_16 := W_12.still a5
  have x_17 := o4.still a5
  have b18 := Chg.above b13 a5 (by omega) (by omega)
  clear h_10 A_11 W_12 o4 b13 a5
  go_wp2_with (first | (refine wpList_store_row rfl 26 _ _ rfl w4.heap.size #[.int .i64 d, .slice (some ⟨g4, 0, none⟩) n n] rfl rfl 26 #[.int .i64 0, .slice none 0 0] (heap_alloc_new _ _) (auc_info _ _ _ _) rfl (auc_cells _ _ _ _) ?_; generalize (w4.alloc (.cells #[.int .i64 0, .slice none 0 0] 26)).setRow w4.heap.size #[.int .i64 d, .slice (some ⟨g4, 0, none⟩) n n] = v5 at h_14 A_15 W_16 x_17 x5 b18 z5 ⊢) | (refine wpList_load_row rfl 43 _ rfl w.heap.size rfl 43 #[.int .i64 d, .slice A n c] (0, 0) _ A_15 Try.underlying43 rfl (linfo _ _ _ _) ?_) | (refine wpList_load_row rfl 26 _ rfl w4.heap.size rfl 26 #[.int .i64 d, .slice (some ⟨g4, 0, none⟩) n n] (0, 0) _ x5 Try.underlying26 rfl (auc_info _ _ _ _) ?_))
  refine (impl_LegalCalls d _ n n zs _ (Rp.of_rd x_17.rd) hm (Nat.le_refl _)).mono ?_
  rw [HRR.out]
  rintro e w6 ⟨u6, rfl, q6, r6⟩
  obtain ⟨G6, e6, rfl, _, _, j6⟩ := q6.form
  have c6 := Chg.of_below r6 0 0
  clear q6 r6
  have h_19 := h_14.still c6
  have A_20 := A_15.still c6
  have W_21 := W_16.still c6
  have x_22 := x_17.still c6
  have bx_23 := x5.still c6
  have b24 := Chg.above b18 c6 (by omega) (by omega)
  have t24 : v5.heap.size ≤ w6.heap.size := c6.size
  clear h_14 A_15 W_16 x_17 x5 b18 c6
  go_wp2_with (first | (refine wpList_load_row rfl 43 _ rfl w.heap.size rfl 43 #[.int .i64 d, .slice A n c] (0, 0) _ A_20 Try.underlying43 rfl (linfo _ _ _ _) ?_) | (refine wpList_load_row rfl 26 _ rfl w4.heap.size rfl 26 #[.int .i64 d, .slice (some ⟨g4, 0, none⟩) n n] (0, 0) _ bx_23 Try.underlying26 rfl (auc_info _ _ _ _) ?_))
  refine (eqInt64S _ _ R.length R.length _ _ R _ _ _ _ _ j6.rd W_21.rd hRn).mono ?_
  rintro e w7 ⟨rfl, c7⟩
  have h_25 := h_19.still c7
  have A_26 := A_20.still c7
  have W_27 := W_21.still c7
  have x_28 := x_22.still c7
  have bx_29 := bx_23.still c7
  have G_30 := j6.still c7
  have b31 := Chg.above b24 c7 (by omega) (by omega)
  have t31 : w6.heap.size ≤ w7.heap.size := c7.size
  clear h_19 A_20 W_21 x_22 bx_23 j6 b24 c7
  go_wp2_with (first | (refine wpList_load_row rfl 43 _ rfl w.heap.size rfl 43 #[.int .i64 d, .slice A n c] (0, 0) _ A_26 Try.underlying43 rfl (linfo _ _ _ _) ?_) | (refine wpList_load_row rfl 26 _ rfl w4.heap.size rfl 26 #[.int .i64 d, .slice (some ⟨g4, 0, none⟩) n n] (0, 0) _ bx_29 Try.underlying26 rfl (auc_info _ _ _ _) ?_))
  have dr : Chg w7 w7.drew 0 0 := Chg.of_drew ⟨1, rfl⟩ _ _
  have s0 : (fun V => SBox V 26 w4.heap.size #[.int .i64 d, .slice (some ⟨g4, 0, none⟩) n n] ∧ SBox V 43 w.heap.size #[.int .i64 d, .slice A n c]) w7.drew := ⟨bx_29.still dr, A_26.still dr⟩
  refine wp_region_held_drew (S := fun V => SBox V 26 w4.heap.size #[.int .i64 d, .slice (some ⟨g4, 0, none⟩) n n] ∧ SBox V 43 w.heap.size #[.int .i64 d, .slice A n c]) (by kernel_rfl) s0 (fun hHeld => ?_)
  refine take_slotC (i := 0) (d := some 27) (v := .agg #[.int .i64 d, .slice (some ⟨g4, 0, none⟩) n n]) rfl (by kernel_rfl) (by kernel_rfl) (by kernel_rfl) (by kernel_rfl) (fun _ _ _ h => h) (yieldsIf_load_mid (by kernel_rfl) 26 (.tmp 5) rfl w4.heap.size 0 rfl [.int .i64 d, .slice (some ⟨g4, 0, none⟩) n n] _ (fun V hV => hV.1.range) Try.underlying26 rfl (auc_info7 _ _)) hHeld ?_
  try simp only [Act.put, List.setIfInBounds_toArray, List.set_cons_zero, List.set_cons_succ]
  refine take_slotC (i := 1) (d := some 28) (v := .agg #[.int .i64 d, .slice A n c]) rfl (by kernel_rfl) (by kernel_rfl) (by kernel_rfl) (by kernel_rfl) (fun _ _ _ h => h) (yieldsIf_load_mid (by kernel_rfl) 43 (.tmp 1) rfl w.heap.size 0 rfl [.int .i64 d, .slice A n c] _ (fun V hV => hV.2.range) Try.underlying43 rfl (linfoL _ _)) hHeld ?_
  try simp only [Act.put, List.setIfInBounds_toArray, List.set_cons_zero, List.set_cons_succ]
  refine wpAnyH_ready (rs := [2]) (by kernel_rfl) (by simp) (AllReadyH.cons (i := 2) rfl (fun K' hK' => ?_) AllReadyH.nil)
  go_simp
  refine (toAuction d A n c zs _ _ _ (h_25.still dr) hm).mono ?_
  rintro e w8 ⟨g8, rfl, o8, p8⟩
  have c8 := dr.trans p8
  have hs8 : (fun V => SBox V 26 w4.heap.size #[.int .i64 d, .slice (some ⟨g4, 0, none⟩) n n] ∧ SBox V 43 w.heap.size #[.int .i64 d, .slice A n c]) w8 := ⟨hHeld.1.still p8, hHeld.2.still p8⟩
  clear p8 dr s0
  have h_32 := h_25.still c8
  have A_33 := A_26.still c8
  have W_34 := W_27.still c8
  have x_35 := x_28.still c8
  have bx_36 := bx_29.still c8
  have G_37 := G_30.still c8
  have b38 := Chg.above b31 c8 (by omega) (by omega)
  have t38 : w7.heap.size ≤ w8.heap.size := c8.size
  clear h_25 A_26 W_27 x_28 bx_29 G_30 b31 c8
  refine hK'.out _ _ hs8 (fun hHeld => ?_)
  clear hK' hs8
  try simp only [Act.put, List.setIfInBounds_toArray, List.set_cons_zero, List.set_cons_succ]
  refine wpAnyH_ready (rs := [3]) (by kernel_rfl) (by simp) (AllReadyH.cons (i := 3) rfl (fun K' hK' => ?_) AllReadyH.nil)
  go_simp
  refine (eqAuction d _ _ n n _ _ zs _ _ _ _ _ x_35.rd o8.rd hm).mono ?_
  rintro e w9 ⟨rfl, c9⟩
  have hs9 : (fun V => SBox V 26 w4.heap.size #[.int .i64 d, .slice (some ⟨g4, 0, none⟩) n n] ∧ SBox V 43 w.heap.size #[.int .i64 d, .slice A n c]) w9 := ⟨hHeld.1.still c9, hHeld.2.still c9⟩
  clear o8
  have h_39 := h_32.still c9
  have A_40 := A_33.still c9
  have W_41 := W_34.still c9
  have x_42 := x_35.still c9
  have bx_43 := bx_36.still c9
  have G_44 := G_37.still c9
  have b45 := Chg.above b38 c9 (by omega) (by omega)
  have t45 : w8.heap.size ≤ w9.heap.size := c9.size
  clear h_32 A_33 W_34 x_35 bx_36 G_37 b38 c9
  refine hK'.out _ _ hs9 (fun hHeld => ?_)
  clear hK' hs9
  try simp only [Act.put, List.setIfInBounds_toArray, List.set_cons_zero, List.set_cons_succ]
  refine take_slotC (i := 4) (d := some 31) (v := .bool false) rfl (by kernel_rfl) (by kernel_rfl) (by kernel_rfl) (by kernel_rfl) (fun _ _ _ h => h) (.inl ⟨by kernel_rfl, fun V hV => by go_simp⟩) hHeld ?_
  try simp only [Act.put, List.setIfInBounds_toArray, List.set_cons_zero, List.set_cons_succ]
  refine wpAnyH_done (by kernel_rfl) ?_ _
  clear hHeld
  go_wp2_with (first | (refine wpList_load_row rfl 43 _ rfl w.heap.size rfl 43 #[.int .i64 d, .slice A n c] (0, 0) _ A_40 Try.underlying43 rfl (linfo _ _ _ _) ?_) | (refine wpList_load_row rfl 26 _ rfl w4.heap.size rfl 26 #[.int .i64 d, .slice (some ⟨g4, 0, none⟩) n n] (0, 0) _ bx_43 Try.underlying26 rfl (auc_info _ _ _ _) ?_))
  refine (markAuction d _ n n zs _ _ _ x_42 hm).mono ?_
  rintro e w10 ⟨rfl, _, c10⟩
  clear x_42
  clear bx_43
  have h_46 := h_39.chg c10 (by omega)
  have A_47 := A_40.chg c10 (by omega)
  have W_48 := W_41.chg c10 (by omega)
  have G_49 := G_44.chg c10 (by omega)
  have b50 := Chg.above b45 c10 (by omega) (by omega)
  have t50 : w9.heap.size ≤ w10.heap.size := c10.size
  clear h_39 A_40 W_41 G_44 b45 c10
  go_wp2_with (refine wpList_load_row rfl 43 _ rfl w.heap.size rfl 43 #[.int .i64 d, .slice A n c] (0, 0) _ A_47 Try.underlying43 rfl (linfo _ _ _ _) ?_)
  refine (eqInt64S _ _ R.length R.length _ _ R _ _ _ _ _ G_49.rd W_48.rd hRn).mono ?_
  rintro e w11 ⟨rfl, c11⟩
  have h_51 := h_46.still c11
  have A_52 := A_47.still c11
  have W_53 := W_48.still c11
  have G_54 := G_49.still c11
  have b55 := Chg.above b50 c11 (by omega) (by omega)
  have t55 : w10.heap.size ≤ w11.heap.size := c11.size
  clear h_46 A_47 W_48 G_49 b50 c11
  go_wp2_with (refine wpList_load_row rfl 43 _ rfl w.heap.size rfl 43 #[.int .i64 d, .slice A n c] (0, 0) _ A_52 Try.underlying43 rfl (linfo _ _ _ _) ?_)
  refine (mark1 _ R.length _ R _ _ _ G_54 hRn).mono ?_
  rintro e w12 ⟨rfl, m12, c12, y12⟩
  clear G_54
  have h_56 := h_51.chg c12 (by omega)
  have A_57 := A_52.chg c12 (by omega)
  have W_58 := W_53.chg c12 (by omega)
  have b59 := Chg.above b55 c12 (by omega) (by omega)
  have t59 : w11.heap.size ≤ w12.heap.size := c12.size
  clear h_51 A_52 W_53 b55 c12
  clear y12
  go_wp2_with (refine wpList_load_row rfl 43 _ rfl w.heap.size rfl 43 #[.int .i64 d, .slice A n c] (0, 0) _ A_57 Try.underlying43 rfl (linfo _ _ _ _) ?_)
  refine (held1 _ _ _ _ _ _ m12.rd hRn).mono ?_
  rintro e w' ⟨rfl, rfl⟩
  go_wp2_with (refine wpList_load_row rfl 43 _ rfl w.heap.size rfl 43 #[.int .i64 d, .slice A n c] (0, 0) _ A_57 Try.underlying43 rfl (linfo _ _ _ _) ?_)
  refine (toAuction d A n c zs _ _ _ h_56 hm).mono ?_
  rintro e w14 ⟨g14, rfl, o14, c14⟩
  have h_60 := h_56.still c14
  have A_61 := A_57.still c14
  have W_62 := W_58.still c14
  have M_63 := m12.still c14
  have b64 := Chg.above b59 c14 (by omega) (by omega)
  have t64 : w12.heap.size ≤ w14.heap.size := c14.size
  clear h_56 A_57 W_58 m12 b59 c14
  go_wp2_with (refine wpList_load_row rfl 43 _ rfl w.heap.size rfl 43 #[.int .i64 d, .slice A n c] (0, 0) _ A_61 Try.underlying43 rfl (linfo _ _ _ _) ?_)
  refine (impl_LegalCalls d _ n n zs _ (Rp.of_rd o14.rd) hm (Nat.le_refl _)).mono ?_
  rw [HRR.out]
  rintro e w15 ⟨u15, rfl, q15, r15⟩
  obtain ⟨G15, e15, rfl, _, _, j15⟩ := q15.form
  have c15 := Chg.of_below r15 0 0
  clear q15 r15
  have h_65 := h_60.still c15
  have A_66 := A_61.still c15
  have W_67 := W_62.still c15
  have M_68 := M_63.still c15
  have y_69 := o14.still c15
  have b70 := Chg.above b64 c15 (by omega) (by omega)
  have t70 : w14.heap.size ≤ w15.heap.size := c15.size
  clear h_60 A_61 W_62 M_63 o14 b64 c15
  go_wp2_with (refine wpList_load_row rfl 43 _ rfl w.heap.size rfl 43 #[.int .i64 d, .slice A n c] (0, 0) _ A_66 Try.underlying43 rfl (linfo _ _ _ _) ?_)
  refine (eqInt64S _ _ R.length R.length _ _ R _ _ _ _ _ j15.rd W_67.rd hRn).mono ?_
  rintro e w16 ⟨rfl, c16⟩
  have h_71 := h_65.still c16
  have A_72 := A_66.still c16
  have W_73 := W_67.still c16
  have M_74 := M_68.still c16
  have y_75 := y_69.still c16
  have K_76 := j15.still c16
  have b77 := Chg.above b70 c16 (by omega) (by omega)
  have t77 : w15.heap.size ≤ w16.heap.size := c16.size
  clear h_65 A_66 W_67 M_68 y_69 j15 b70 c16
  go_wp2_with (refine wpList_load_row rfl 43 _ rfl w.heap.size rfl 43 #[.int .i64 d, .slice A n c] (0, 0) _ A_72 Try.underlying43 rfl (linfo _ _ _ _) ?_)
  refine (held1 _ _ _ _ _ _ M_74.rd hRn).mono ?_
  rintro e w' ⟨rfl, rfl⟩
  go_wp2_with (refine wpList_load_row rfl 43 _ rfl w.heap.size rfl 43 #[.int .i64 d, .slice A n c] (0, 0) _ A_72 Try.underlying43 rfl (linfo _ _ _ _) ?_)
  go_ret
  exact ⟨rfl, b77⟩

set_option maxHeartbeats 8000000 in
theorem law_ContractOf7 (d : Int) (A : Option Addr) (n c : Nat) (zs : List Int) (w : World) (h : Rd w 0 w.heap.size A n zs) (hL : n ≤ maxLen) :
    Calls Try.prog 11 #[.agg #[.int .i64 d, .slice A n c]] w fun e w' => e = .returned (.bool true) ∧ Below w.heap.size w w' := by
  have bl := Below.refl w.heap.size w
  have xa := SBox.new w 43 #[.int .i64 d, .slice A n c]
  have ca := Chg.of_alloc w (.cells #[.int .i64 d, .slice A n c] 43) 0 0
  have ha := h.still ca
  have ba := Chg.above bl ca (by omega) (by omega)
  have za : w.heap.size < (w.alloc (.cells #[.int .i64 d, .slice A n c] 43)).heap.size := by simp
  clear bl ca h
  go_enter Try.func11, Try.ntmps11
  go_wp2_with (refine wpList_load_row rfl 43 _ rfl w.heap.size rfl 43 #[.int .i64 d, .slice A n c] (0, 0) _ xa Try.underlying43 rfl (linfo _ _ _ _) ?_)
  generalize w.alloc (.cells #[.int .i64 d, .slice A n c] 43) = w0 at ha xa ba za ⊢
  refine (szAuction d A n c _ hL).mono ?_
  rintro e w1 ⟨⟨v, rfl, hv⟩, c1⟩
  have h_1 := ha.still c1
  have A_2 := xa.still c1
  have b3 := Chg.above ba c1 (by omega) (by omega)
  have t3 : w0.heap.size ≤ w1.heap.size := c1.size
  clear ha xa ba c1
  rcases hv with hv | ⟨hv, hm⟩
  · go_wp2_with fail
    go_ret
    exact ⟨rfl, b3⟩
  obtain ⟨r0, r1, r2, r3, hz⟩ := con_open d zs n
  have HZ := Lib.hid hz
  obtain ⟨K, hK⟩ : ∃ K, K = conB d zs n := ⟨_, rfl⟩
  have HK := Lib.hid hK
  clear hz hK
  go_wp2_with (refine wpList_load_row rfl 43 _ rfl w.heap.size rfl 43 #[.int .i64 d, .slice A n c] (0, 0) _ A_2 Try.underlying43 rfl (linfo _ _ _ _) ?_)
  refine (toAuction d A n c zs _ _ _ h_1 hm).mono ?_
  rintro e w2 ⟨g2, rfl, o2, c2⟩
  have h_4 := h_1.still c2
  have A_5 := A_2.still c2
  have b6 := Chg.above b3 c2 (by omega) (by omega)
  have t6 : w1.heap.size ≤ w2.heap.size := c2.size
  clear h_1 A_2 b3 c2
  go_wp2_with (refine wpList_load_row rfl 43 _ rfl w.heap.size rfl 43 #[.int .i64 d, .slice A n c] (0, 0) _ A_5 Try.underlying43 rfl (linfo _ _ _ _) ?_)
  refine (spec_ContractOf d _ n n zs _ (Rp.of_rd o2.rd) hm (Nat.le_refl _)).mono ?_
  rw [HZ.out, ← HK.out]
  rintro e w3 ⟨rfl, c3⟩
  clear o2
  have h_7 := h_4.still c3
  have A_8 := A_5.still c3
  have b9 := Chg.above b6 c3 (by omega) (by omega)
  have t9 : w2.heap.size ≤ w3.heap.size := c3.size
  clear h_4 A_5 b6 c3
  have x4 := SBox.row w3 36 #[.int .i64 0, .int .i64 0, .int .i64 0, .int .i64 0] #[.int .i64 r0, .int .i64 r1, .int .i64 r2, .int .i64 r3]
  have a4 := chg_row w3 36 #[.int .i64 0, .int .i64 0, .int .i64 0, .int .i64 0] #[.int .i64 r0, .int .i64 r1, .int .i64 r2, .int .i64 r3]
  have z4 : w3.heap.size < ((w3.alloc (.cells #[.int .i64 0, .int .i64 0, .int .i64 0, .int .i64 0] 36)).setRow w3.heap.size #[.int .i64 r0, .int .i64 r1, .int .i64 r2, .int .i64 r3]).heap.size := by rw [row_size]; omega
  have h_10 := h_7.still a4
  have A_11 := A_8.still a4
  have b12 := Chg.above b9 a4 (by omega) (by omega)
  clear h_7 A_8 b9 a4
  go_wp2_with (first | (refine wpList_store_row rfl 36 _ _ rfl w3.heap.size #[.int .i64 r0, .int .i64 r1, .int .i64 r2, .int .i64 r3] rfl rfl 36 #[.int .i64 0, .int .i64 0, .int .i64 0, .int .i64 0] (heap_alloc_new _ _) (con_info _ _ _ _) rfl (con_cells _ _ _ _) ?_; generalize (w3.alloc (.cells #[.int .i64 0, .int .i64 0, .int .i64 0, .int .i64 0] 36)).setRow w3.heap.size #[.int .i64 r0, .int .i64 r1, .int .i64 r2, .int .i64 r3] = v4 at h_10 A_11 x4 b12 z4 ⊢) | (refine wpList_load_row rfl 43 _ rfl w.heap.size rfl 43 #[.int .i64 d, .slice A n c] (0, 0) _ A_11 Try.underlying43 rfl (linfo _ _ _ _) ?_) | (refine wpList_load_row rfl 36 _ rfl w3.heap.size rfl 36 #[.int .i64 r0, .int .i64 r1, .int .i64 r2, .int .i64 r3] (0, 0) _ x4 Try.underlying36 rfl (con_info _ _ _ _) ?_))
  refine (toAuction d A n c zs _ _ _ h_10 hm).mono ?_
  rintro e w5 ⟨g5, rfl, o5, c5⟩
  have h_13 := h_10.still c5
  have A_14 := A_11.still c5
  have bW_15 := x4.still c5
  have b16 := Chg.above b12 c5 (by omega) (by omega)
  have t16 : v4.heap.size ≤ w5.heap.size := c5.size
  clear h_10 A_11 x4 b12 c5
  have x6 := SBox.row w5 26 #[.int .i64 0, .slice none 0 0] #[.int .i64 d, .slice (some ⟨g5, 0, none⟩) n n]
  have a6 := chg_row w5 26 #[.int .i64 0, .slice none 0 0] #[.int .i64 d, .slice (some ⟨g5, 0, none⟩) n n]
  have z6 : w5.heap.size < ((w5.alloc (.cells #[.int .i64 0, .slice none 0 0] 26)).setRow w5.heap.size #[.int .i64 d, .slice (some ⟨g5, 0, none⟩) n n]).heap.size := by rw [row_size]; omega
  have h_17 := h_13.still a6
  have A_18 := A_14.still a6
  have bW_19 := bW_15.still a6
  have x_20 := o5.still a6
  have b21 := Chg.above b16 a6 (by omega) (by omega)
  clear h_13 A_14 bW_15 o5 b16 a6
  go_wp2_with (first | (refine wpList_store_row rfl 26 _ _ rfl w5.heap.size #[.int .i64 d, .slice (some ⟨g5, 0, none⟩) n n] rfl rfl 26 #[.int .i64 0, .slice none 0 0] (heap_alloc_new _ _) (auc_info _ _ _ _) rfl (auc_cells _ _ _ _) ?_; generalize (w5.alloc (.cells #[.int .i64 0, .slice none 0 0] 26)).setRow w5.heap.size #[.int .i64 d, .slice (some ⟨g5, 0, none⟩) n n] = v6 at h_17 A_18 bW_19 x_20 x6 b21 z6 ⊢) | (refine wpList_load_row rfl 43 _ rfl w.heap.size rfl 43 #[.int .i64 d, .slice A n c] (0, 0) _ A_18 Try.underlying43 rfl (linfo _ _ _ _) ?_) | (refine wpList_load_row rfl 36 _ rfl w3.heap.size rfl 36 #[.int .i64 r0, .int .i64 r1, .int .i64 r2, .int .i64 r3] (0, 0) _ bW_19 Try.underlying36 rfl (con_info _ _ _ _) ?_) | (refine wpList_load_row rfl 26 _ rfl w5.heap.size rfl 26 #[.int .i64 d, .slice (some ⟨g5, 0, none⟩) n n] (0, 0) _ x6 Try.underlying26 rfl (auc_info _ _ _ _) ?_))
  refine (impl_ContractOf d _ n n zs _ (Rp.of_rd x_20.rd) hm (Nat.le_refl _)).mono ?_
  rw [HZ.out, ← HK.out]
  rintro e w7 ⟨rfl, c7⟩
  have h_22 := h_17.still c7
  have A_23 := A_18.still c7
  have bW_24 := bW_19.still c7
  have x_25 := x_20.still c7
  have bx_26 := x6.still c7
  have b27 := Chg.above b21 c7 (by omega) (by omega)
  have t27 : v6.heap.size ≤ w7.heap.size := c7.size
  clear h_17 A_18 bW_19 x_20 x6 b21 c7
  have x8 := SBox.row w7 36 #[.int .i64 0, .int .i64 0, .int .i64 0, .int .i64 0] #[.int .i64 r0, .int .i64 r1, .int .i64 r2, .int .i64 r3]
  have a8 := chg_row w7 36 #[.int .i64 0, .int .i64 0, .int .i64 0, .int .i64 0] #[.int .i64 r0, .int .i64 r1, .int .i64 r2, .int .i64 r3]
  have z8 : w7.heap.size < ((w7.alloc (.cells #[.int .i64 0, .int .i64 0, .int .i64 0, .int .i64 0] 36)).setRow w7.heap.size #[.int .i64 r0, .int .i64 r1, .int .i64 r2, .int .i64 r3]).heap.size := by rw [row_size]; omega
  have h_28 := h_22.still a8
  have A_29 := A_23.still a8
  have bW_30 := bW_24.still a8
  have x_31 := x_25.still a8
  have bx_32 := bx_26.still a8
  have b33 := Chg.above b27 a8 (by omega) (by omega)
  clear h_22 A_23 bW_24 x_25 bx_26 b27 a8
  go_wp2_with (first | (refine wpList_store_row rfl 36 _ _ rfl w7.heap.size #[.int .i64 r0, .int .i64 r1, .int .i64 r2, .int .i64 r3] rfl rfl 36 #[.int .i64 0, .int .i64 0, .int .i64 0, .int .i64 0] (heap_alloc_new _ _) (con_info _ _ _ _) rfl (con_cells _ _ _ _) ?_; generalize (w7.alloc (.cells #[.int .i64 0, .int .i64 0, .int .i64 0, .int .i64 0] 36)).setRow w7.heap.size #[.int .i64 r0, .int .i64 r1, .int .i64 r2, .int .i64 r3] = v8 at h_28 A_29 bW_30 x_31 bx_32 x8 b33 z8 ⊢) | (refine wpList_load_row rfl 43 _ rfl w.heap.size rfl 43 #[.int .i64 d, .slice A n c] (0, 0) _ A_29 Try.underlying43 rfl (linfo _ _ _ _) ?_) | (refine wpList_load_row rfl 36 _ rfl w3.heap.size rfl 36 #[.int .i64 r0, .int .i64 r1, .int .i64 r2, .int .i64 r3] (0, 0) _ bW_30 Try.underlying36 rfl (con_info _ _ _ _) ?_) | (refine wpList_load_row rfl 26 _ rfl w5.heap.size rfl 26 #[.int .i64 d, .slice (some ⟨g5, 0, none⟩) n n] (0, 0) _ bx_32 Try.underlying26 rfl (auc_info _ _ _ _) ?_) | (refine wpList_load_row rfl 36 _ rfl w7.heap.size rfl 36 #[.int .i64 r0, .int .i64 r1, .int .i64 r2, .int .i64 r3] (0, 0) _ x8 Try.underlying36 rfl (con_info _ _ _ _) ?_))
  refine (eqContract _ _ _ _ _).mono ?_
  rintro e w9 ⟨rfl, c9⟩
  have h_34 := h_28.still c9
  have A_35 := A_29.still c9
  have bW_36 := bW_30.still c9
  have x_37 := x_31.still c9
  have bx_38 := bx_32.still c9
  have bG_39 := x8.still c9
  have b40 := Chg.above b33 c9 (by omega) (by omega)
  have t40 : v8.heap.size ≤ w9.heap.size := c9.size
  clear h_28 A_29 bW_30 x_31 bx_32 x8 b33 c9
  go_wp2_with (first | (refine wpList_load_row rfl 43 _ rfl w.heap.size rfl 43 #[.int .i64 d, .slice A n c] (0, 0) _ A_35 Try.underlying43 rfl (linfo _ _ _ _) ?_) | (refine wpList_load_row rfl 36 _ rfl w3.heap.size rfl 36 #[.int .i64 r0, .int .i64 r1, .int .i64 r2, .int .i64 r3] (0, 0) _ bW_36 Try.underlying36 rfl (con_info _ _ _ _) ?_) | (refine wpList_load_row rfl 26 _ rfl w5.heap.size rfl 26 #[.int .i64 d, .slice (some ⟨g5, 0, none⟩) n n] (0, 0) _ bx_38 Try.underlying26 rfl (auc_info _ _ _ _) ?_) | (refine wpList_load_row rfl 36 _ rfl w7.heap.size rfl 36 #[.int .i64 r0, .int .i64 r1, .int .i64 r2, .int .i64 r3] (0, 0) _ bG_39 Try.underlying36 rfl (con_info _ _ _ _) ?_))
  have dr : Chg w9 w9.drew 0 0 := Chg.of_drew ⟨1, rfl⟩ _ _
  have s0 : (fun V => SBox V 26 w5.heap.size #[.int .i64 d, .slice (some ⟨g5, 0, none⟩) n n] ∧ SBox V 43 w.heap.size #[.int .i64 d, .slice A n c]) w9.drew := ⟨bx_38.still dr, A_35.still dr⟩
  refine wp_region_held_drew (S := fun V => SBox V 26 w5.heap.size #[.int .i64 d, .slice (some ⟨g5, 0, none⟩) n n] ∧ SBox V 43 w.heap.size #[.int .i64 d, .slice A n c]) (by kernel_rfl) s0 (fun hHeld => ?_)
  refine take_slotC (i := 0) (d := some 36) (v := .agg #[.int .i64 d, .slice (some ⟨g5, 0, none⟩) n n]) rfl (by kernel_rfl) (by kernel_rfl) (by kernel_rfl) (by kernel_rfl) (fun _ _ _ h => h) (yieldsIf_load_mid (by kernel_rfl) 26 (.tmp 6) rfl w5.heap.size 0 rfl [.int .i64 d, .slice (some ⟨g5, 0, none⟩) n n] _ (fun V hV => hV.1.range) Try.underlying26 rfl (auc_info7 _ _)) hHeld ?_
  try simp only [Act.put, List.setIfInBounds_toArray, List.set_cons_zero, List.set_cons_succ]
  refine take_slotC (i := 1) (d := some 37) (v := .agg #[.int .i64 d, .slice A n c]) rfl (by kernel_rfl) (by kernel_rfl) (by kernel_rfl) (by kernel_rfl) (fun _ _ _ h => h) (yieldsIf_load_mid (by kernel_rfl) 43 (.tmp 1) rfl w.heap.size 0 rfl [.int .i64 d, .slice A n c] _ (fun V hV => hV.2.range) Try.underlying43 rfl (linfoL _ _)) hHeld ?_
  try simp only [Act.put, List.setIfInBounds_toArray, List.set_cons_zero, List.set_cons_succ]
  refine wpAnyH_ready (rs := [2]) (by kernel_rfl) (by simp) (AllReadyH.cons (i := 2) rfl (fun K' hK' => ?_) AllReadyH.nil)
  go_simp
  refine (toAuction d A n c zs _ _ _ (h_34.still dr) hm).mono ?_
  rintro e w10 ⟨g10, rfl, o10, p10⟩
  have c10 := dr.trans p10
  have hs10 : (fun V => SBox V 26 w5.heap.size #[.int .i64 d, .slice (some ⟨g5, 0, none⟩) n n] ∧ SBox V 43 w.heap.size #[.int .i64 d, .slice A n c]) w10 := ⟨hHeld.1.still p10, hHeld.2.still p10⟩
  clear p10 dr s0
  have h_41 := h_34.still c10
  have A_42 := A_35.still c10
  have bW_43 := bW_36.still c10
  have x_44 := x_37.still c10
  have bx_45 := bx_38.still c10
  have bG_46 := bG_39.still c10
  have b47 := Chg.above b40 c10 (by omega) (by omega)
  have t47 : w9.heap.size ≤ w10.heap.size := c10.size
  clear h_34 A_35 bW_36 x_37 bx_38 bG_39 b40 c10
  refine hK'.out _ _ hs10 (fun hHeld => ?_)
  clear hK' hs10
  try simp only [Act.put, List.setIfInBounds_toArray, List.set_cons_zero, List.set_cons_succ]
  refine wpAnyH_ready (rs := [3]) (by kernel_rfl) (by simp) (AllReadyH.cons (i := 3) rfl (fun K' hK' => ?_) AllReadyH.nil)
  go_simp
  refine (eqAuction d _ _ n n _ _ zs _ _ _ _ _ x_44.rd o10.rd hm).mono ?_
  rintro e w11 ⟨rfl, c11⟩
  have hs11 : (fun V => SBox V 26 w5.heap.size #[.int .i64 d, .slice (some ⟨g5, 0, none⟩) n n] ∧ SBox V 43 w.heap.size #[.int .i64 d, .slice A n c]) w11 := ⟨hHeld.1.still c11, hHeld.2.still c11⟩
  clear o10
  have h_48 := h_41.still c11
  have A_49 := A_42.still c11
  have bW_50 := bW_43.still c11
  have x_51 := x_44.still c11
  have bx_52 := bx_45.still c11
  have bG_53 := bG_46.still c11
  have b54 := Chg.above b47 c11 (by omega) (by omega)
  have t54 : w10.heap.size ≤ w11.heap.size := c11.size
  clear h_41 A_42 bW_43 x_44 bx_45 bG_46 b47 c11
  refine hK'.out _ _ hs11 (fun hHeld => ?_)
  clear hK' hs11
  try simp only [Act.put, List.setIfInBounds_toArray, List.set_cons_zero, List.set_cons_succ]
  refine take_slotC (i := 4) (d := some 40) (v := .bool false) rfl (by kernel_rfl) (by kernel_rfl) (by kernel_rfl) (by kernel_rfl) (fun _ _ _ h => h) (.inl ⟨by kernel_rfl, fun V hV => by go_simp⟩) hHeld ?_
  try simp only [Act.put, List.setIfInBounds_toArray, List.set_cons_zero, List.set_cons_succ]
  refine wpAnyH_done (by kernel_rfl) ?_ _
  clear hHeld
  go_wp2_with (first | (refine wpList_load_row rfl 43 _ rfl w.heap.size rfl 43 #[.int .i64 d, .slice A n c] (0, 0) _ A_49 Try.underlying43 rfl (linfo _ _ _ _) ?_) | (refine wpList_load_row rfl 36 _ rfl w3.heap.size rfl 36 #[.int .i64 r0, .int .i64 r1, .int .i64 r2, .int .i64 r3] (0, 0) _ bW_50 Try.underlying36 rfl (con_info _ _ _ _) ?_) | (refine wpList_load_row rfl 26 _ rfl w5.heap.size rfl 26 #[.int .i64 d, .slice (some ⟨g5, 0, none⟩) n n] (0, 0) _ bx_52 Try.underlying26 rfl (auc_info _ _ _ _) ?_) | (refine wpList_load_row rfl 36 _ rfl w7.heap.size rfl 36 #[.int .i64 r0, .int .i64 r1, .int .i64 r2, .int .i64 r3] (0, 0) _ bG_53 Try.underlying36 rfl (con_info _ _ _ _) ?_))
  go_ret
  exact ⟨rfl, b54⟩

set_option maxHeartbeats 8000000 in
theorem law_AddCall7 (d : Int) (A : Option Addr) (n c : Nat) (zs : List Int) (x : Int) (w : World) (h : Rd w 0 w.heap.size A n zs) (hL : n ≤ maxLen) :
    Calls Try.prog 10 #[.agg #[.int .i64 d, .slice A n c], .int .i64 x] w fun e w' => e = .returned (.bool true) ∧ Below w.heap.size w w' := by
  have hzl := h.1
  have bl := Below.refl w.heap.size w
  have xa := SBox.new w 43 #[.int .i64 d, .slice A n c]
  have ca := Chg.of_alloc w (.cells #[.int .i64 d, .slice A n c] 43) 0 0
  have ha := h.still ca
  have ba := Chg.above bl ca (by omega) (by omega)
  have za : w.heap.size < (w.alloc (.cells #[.int .i64 d, .slice A n c] 43)).heap.size := by simp
  clear bl ca h
  go_enter Try.func10, Try.ntmps10
  go_wp2_with (refine wpList_load_row rfl 43 _ rfl w.heap.size rfl 43 #[.int .i64 d, .slice A n c] (0, 0) _ xa Try.underlying43 rfl (linfo _ _ _ _) ?_)
  generalize w.alloc (.cells #[.int .i64 d, .slice A n c] 43) = w0 at ha xa ba za ⊢
  refine (szAuction d A n c _ hL).mono ?_
  rintro e w1 ⟨⟨v, rfl, hv⟩, c1⟩
  have h_1 := ha.still c1
  have A_2 := xa.still c1
  have b3 := Chg.above ba c1 (by omega) (by omega)
  have t3 : w0.heap.size ≤ w1.heap.size := c1.size
  clear ha xa ba c1
  rcases hv with hv | ⟨hv, hm⟩
  · go_wp2_with fail
    go_ret
    exact ⟨rfl, b3⟩
  have hRn := len_add d zs n x hzl
  generalize hRR : addL d zs n x = R at hRn
  have HRR := Lib.hid hRR
  clear hRR hzl
  obtain ⟨D, hD⟩ : ∃ D, D = addD d zs n x := ⟨_, rfl⟩
  have HD := Lib.hid hD
  obtain ⟨K, hK⟩ : ∃ K, K = addB d zs n x := ⟨_, rfl⟩
  have HK := Lib.hid hK
  clear hD hK
  have hneg : ¬ (1 : Int) + (R.length : Int) < 0 := by omega
  have hneg2 : ¬ (1 : Int) + (n : Int) < 0 := by omega
  go_wp2_with (refine wpList_load_row rfl 43 _ rfl w.heap.size rfl 43 #[.int .i64 d, .slice A n c] (0, 0) _ A_2 Try.underlying43 rfl (linfo _ _ _ _) ?_)
  refine (toAuction d A n c zs _ _ _ h_1 hm).mono ?_
  rintro e w2 ⟨g2, rfl, o2, c2⟩
  have h_4 := h_1.still c2
  have A_5 := A_2.still c2
  have b6 := Chg.above b3 c2 (by omega) (by omega)
  have t6 : w1.heap.size ≤ w2.heap.size := c2.size
  clear h_1 A_2 b3 c2
  go_wp2_with (refine wpList_load_row rfl 43 _ rfl w.heap.size rfl 43 #[.int .i64 d, .slice A n c] (0, 0) _ A_5 Try.underlying43 rfl (linfo _ _ _ _) ?_)
  refine (spec_AddCall d _ n n zs x _ (o2.rd.more (Nat.zero_le _) (by omega)) hm (Nat.le_refl _) (fun e => by cases e)).mono ?_
  rw [HRR.out, ← HD.out, ← HK.out]
  unfold RetAI
  rintro e w3 ⟨u3, rfl, q3, r3⟩
  obtain ⟨G3, e3, rfl, _, _, j3⟩ := q3.form
  have c3 := Chg.of_below r3 0 0
  clear q3 r3
  clear o2
  have h_7 := h_4.still c3
  have A_8 := A_5.still c3
  have b9 := Chg.above b6 c3 (by omega) (by omega)
  have t9 : w2.heap.size ≤ w3.heap.size := c3.size
  clear h_4 A_5 b6 c3
  have x4 := SBox.row w3 26 #[.int .i64 0, .slice none 0 0] #[.int .i64 D, .slice G3 R.length e3]
  have a4 := chg_row w3 26 #[.int .i64 0, .slice none 0 0] #[.int .i64 D, .slice G3 R.length e3]
  have z4 : w3.heap.size < ((w3.alloc (.cells #[.int .i64 0, .slice none 0 0] 26)).setRow w3.heap.size #[.int .i64 D, .slice G3 R.length e3]).heap.size := by rw [row_size]; omega
  have h_10 := h_7.still a4
  have A_11 := A_8.still a4
  have W_12 := j3.still a4
  have b13 := Chg.above b9 a4 (by omega) (by omega)
  clear h_7 A_8 j3 b9 a4
  go_wp2_with (first | (refine wpList_store_row rfl 26 _ _ rfl w3.heap.size #[.int .i64 D, .slice G3 R.length e3] rfl rfl 26 #[.int .i64 0, .slice none 0 0] (heap_alloc_new _ _) (auc_info _ _ _ _) rfl (auc_cells _ _ _ _) ?_; generalize (w3.alloc (.cells #[.int .i64 0, .slice none 0 0] 26)).setRow w3.heap.size #[.int .i64 D, .slice G3 R.length e3] = v4 at h_10 A_11 W_12 x4 b13 z4 ⊢) | (refine wpList_load_row rfl 43 _ rfl w.heap.size rfl 43 #[.int .i64 d, .slice A n c] (0, 0) _ A_11 Try.underlying43 rfl (linfo _ _ _ _) ?_) | (refine wpList_load_row rfl 26 _ rfl w3.heap.size rfl 26 #[.int .i64 D, .slice G3 R.length e3] (0, 0) _ x4 Try.underlying26 rfl (auc_info _ _ _ _) ?_))
  refine (toAuction d A n c zs _ _ _ h_10 hm).mono ?_
  rintro e w5 ⟨g5, rfl, o5, c5⟩
  have h_14 := h_10.still c5
  have A_15 := A_11.still c5
  have W_16 := W_12.still c5
  have bW_17 := x4.still c5
  have b18 := Chg.above b13 c5 (by omega) (by omega)
  have t18 : v4.heap.size ≤ w5.heap.size := c5.size
  clear h_10 A_11 W_12 x4 b13 c5
  have x6 := SBox.row w5 26 #[.int .i64 0, .slice none 0 0] #[.int .i64 d, .slice (some ⟨g5, 0, none⟩) n n]
  have a6 := chg_row w5 26 #[.int .i64 0, .slice none 0 0] #[.int .i64 d, .slice (some ⟨g5, 0, none⟩) n n]
  have z6 : w5.heap.size < ((w5.alloc (.cells #[.int .i64 0, .slice none 0 0] 26)).setRow w5.heap.size #[.int .i64 d, .slice (some ⟨g5, 0, none⟩) n n]).heap.size := by rw [row_size]; omega
  have h_19 := h_14.still a6
  have A_20 := A_15.still a6
  have W_21 := W_16.still a6
  have bW_22 := bW_17.still a6
  have x_23 := o5.still a6
  have b24 := Chg.above b18 a6 (by omega) (by omega)
  clear h_14 A_15 W_16 bW_17 o5 b18 a6
  go_wp2_with (first | (refine wpList_store_row rfl 26 _ _ rfl w5.heap.size #[.int .i64 d, .slice (some ⟨g5, 0, none⟩) n n] rfl rfl 26 #[.int .i64 0, .slice none 0 0] (heap_alloc_new _ _) (auc_info _ _ _ _) rfl (auc_cells _ _ _ _) ?_; generalize (w5.alloc (.cells #[.int .i64 0, .slice none 0 0] 26)).setRow w5.heap.size #[.int .i64 d, .slice (some ⟨g5, 0, none⟩) n n] = v6 at h_19 A_20 W_21 bW_22 x_23 x6 b24 z6 ⊢) | (refine wpList_load_row rfl 43 _ rfl w.heap.size rfl 43 #[.int .i64 d, .slice A n c] (0, 0) _ A_20 Try.underlying43 rfl (linfo _ _ _ _) ?_) | (refine wpList_load_row rfl 26 _ rfl w3.heap.size rfl 26 #[.int .i64 D, .slice G3 R.length e3] (0, 0) _ bW_22 Try.underlying26 rfl (auc_info _ _ _ _) ?_) | (refine wpList_load_row rfl 26 _ rfl w5.heap.size rfl 26 #[.int .i64 d, .slice (some ⟨g5, 0, none⟩) n n] (0, 0) _ x6 Try.underlying26 rfl (auc_info _ _ _ _) ?_))
  refine (impl_AddCall d _ n n zs x _ (x_23.rd.more (Nat.zero_le _) (by omega)) hm (Nat.le_refl _) (fun e => by cases e)).mono ?_
  rw [HRR.out, ← HD.out, ← HK.out]
  unfold RetAI
  rintro e w7 ⟨u7, rfl, q7, r7⟩
  obtain ⟨G7, e7, rfl, _, _, j7⟩ := q7.form
  have c7 := Chg.of_below r7 0 0
  clear q7 r7
  have h_25 := h_19.still c7
  have A_26 := A_20.still c7
  have W_27 := W_21.still c7
  have bW_28 := bW_22.still c7
  have x_29 := x_23.still c7
  have bx_30 := x6.still c7
  have b31 := Chg.above b24 c7 (by omega) (by omega)
  have t31 : v6.heap.size ≤ w7.heap.size := c7.size
  clear h_19 A_20 W_21 bW_22 x_23 x6 b24 c7
  have x8 := SBox.row w7 26 #[.int .i64 0, .slice none 0 0] #[.int .i64 D, .slice G7 R.length e7]
  have a8 := chg_row w7 26 #[.int .i64 0, .slice none 0 0] #[.int .i64 D, .slice G7 R.length e7]
  have z8 : w7.heap.size < ((w7.alloc (.cells #[.int .i64 0, .slice none 0 0] 26)).setRow w7.heap.size #[.int .i64 D, .slice G7 R.length e7]).heap.size := by rw [row_size]; omega
  have h_32 := h_25.still a8
  have A_33 := A_26.still a8
  have W_34 := W_27.still a8
  have bW_35 := bW_28.still a8
  have x_36 := x_29.still a8
  have bx_37 := bx_30.still a8
  have G_38 := j7.still a8
  have b39 := Chg.above b31 a8 (by omega) (by omega)
  clear h_25 A_26 W_27 bW_28 x_29 bx_30 j7 b31 a8
  go_wp2_with (first | (refine wpList_store_row rfl 26 _ _ rfl w7.heap.size #[.int .i64 D, .slice G7 R.length e7] rfl rfl 26 #[.int .i64 0, .slice none 0 0] (heap_alloc_new _ _) (auc_info _ _ _ _) rfl (auc_cells _ _ _ _) ?_; generalize (w7.alloc (.cells #[.int .i64 0, .slice none 0 0] 26)).setRow w7.heap.size #[.int .i64 D, .slice G7 R.length e7] = v8 at h_32 A_33 W_34 bW_35 x_36 bx_37 G_38 x8 b39 z8 ⊢) | (refine wpList_load_row rfl 43 _ rfl w.heap.size rfl 43 #[.int .i64 d, .slice A n c] (0, 0) _ A_33 Try.underlying43 rfl (linfo _ _ _ _) ?_) | (refine wpList_load_row rfl 26 _ rfl w3.heap.size rfl 26 #[.int .i64 D, .slice G3 R.length e3] (0, 0) _ bW_35 Try.underlying26 rfl (auc_info _ _ _ _) ?_) | (refine wpList_load_row rfl 26 _ rfl w5.heap.size rfl 26 #[.int .i64 d, .slice (some ⟨g5, 0, none⟩) n n] (0, 0) _ bx_37 Try.underlying26 rfl (auc_info _ _ _ _) ?_) | (refine wpList_load_row rfl 26 _ rfl w7.heap.size rfl 26 #[.int .i64 D, .slice G7 R.length e7] (0, 0) _ x8 Try.underlying26 rfl (auc_info _ _ _ _) ?_))
  refine (eqAuction _ _ _ R.length R.length _ _ R _ _ _ _ _ G_38.rd W_34.rd hRn).mono ?_
  rintro e w9 ⟨rfl, c9⟩
  have h_40 := h_32.still c9
  have A_41 := A_33.still c9
  have W_42 := W_34.still c9
  have bW_43 := bW_35.still c9
  have x_44 := x_36.still c9
  have bx_45 := bx_37.still c9
  have G_46 := G_38.still c9
  have bG_47 := x8.still c9
  have b48 := Chg.above b39 c9 (by omega) (by omega)
  have t48 : v8.heap.size ≤ w9.heap.size := c9.size
  clear h_32 A_33 W_34 bW_35 x_36 bx_37 G_38 x8 b39 c9
  go_wp2_with (first | (refine wpList_load_row rfl 43 _ rfl w.heap.size rfl 43 #[.int .i64 d, .slice A n c] (0, 0) _ A_41 Try.underlying43 rfl (linfo _ _ _ _) ?_) | (refine wpList_load_row rfl 26 _ rfl w3.heap.size rfl 26 #[.int .i64 D, .slice G3 R.length e3] (0, 0) _ bW_43 Try.underlying26 rfl (auc_info _ _ _ _) ?_) | (refine wpList_load_row rfl 26 _ rfl w5.heap.size rfl 26 #[.int .i64 d, .slice (some ⟨g5, 0, none⟩) n n] (0, 0) _ bx_45 Try.underlying26 rfl (auc_info _ _ _ _) ?_) | (refine wpList_load_row rfl 26 _ rfl w7.heap.size rfl 26 #[.int .i64 D, .slice G7 R.length e7] (0, 0) _ bG_47 Try.underlying26 rfl (auc_info _ _ _ _) ?_))
  have dr : Chg w9 w9.drew 0 0 := Chg.of_drew ⟨1, rfl⟩ _ _
  have s0 : (fun V => SBox V 26 w5.heap.size #[.int .i64 d, .slice (some ⟨g5, 0, none⟩) n n] ∧ SBox V 43 w.heap.size #[.int .i64 d, .slice A n c]) w9.drew := ⟨bx_45.still dr, A_41.still dr⟩
  refine wp_region_held_drew (S := fun V => SBox V 26 w5.heap.size #[.int .i64 d, .slice (some ⟨g5, 0, none⟩) n n] ∧ SBox V 43 w.heap.size #[.int .i64 d, .slice A n c]) (by kernel_rfl) s0 (fun hHeld => ?_)
  refine take_slotC (i := 0) (d := some 45) (v := .agg #[.int .i64 d, .slice (some ⟨g5, 0, none⟩) n n]) rfl (by kernel_rfl) (by kernel_rfl) (by kernel_rfl) (by kernel_rfl) (fun _ _ _ h => h) (yieldsIf_load_mid (by kernel_rfl) 26 (.tmp 8) rfl w5.heap.size 0 rfl [.int .i64 d, .slice (some ⟨g5, 0, none⟩) n n] _ (fun V hV => hV.1.range) Try.underlying26 rfl (auc_info7 _ _)) hHeld ?_
  try simp only [Act.put, List.setIfInBounds_toArray, List.set_cons_zero, List.set_cons_succ]
  refine take_slotC (i := 1) (d := some 46) (v := .agg #[.int .i64 d, .slice A n c]) rfl (by kernel_rfl) (by kernel_rfl) (by kernel_rfl) (by kernel_rfl) (fun _ _ _ h => h) (yieldsIf_load_mid (by kernel_rfl) 43 (.tmp 2) rfl w.heap.size 0 rfl [.int .i64 d, .slice A n c] _ (fun V hV => hV.2.range) Try.underlying43 rfl (linfoL _ _)) hHeld ?_
  try simp only [Act.put, List.setIfInBounds_toArray, List.set_cons_zero, List.set_cons_succ]
  refine wpAnyH_ready (rs := [2]) (by kernel_rfl) (by simp) (AllReadyH.cons (i := 2) rfl (fun K' hK' => ?_) AllReadyH.nil)
  go_simp
  refine (toAuction d A n c zs _ _ _ (h_40.still dr) hm).mono ?_
  rintro e w10 ⟨g10, rfl, o10, p10⟩
  have c10 := dr.trans p10
  have hs10 : (fun V => SBox V 26 w5.heap.size #[.int .i64 d, .slice (some ⟨g5, 0, none⟩) n n] ∧ SBox V 43 w.heap.size #[.int .i64 d, .slice A n c]) w10 := ⟨hHeld.1.still p10, hHeld.2.still p10⟩
  clear p10 dr s0
  have h_49 := h_40.still c10
  have A_50 := A_41.still c10
  have W_51 := W_42.still c10
  have bW_52 := bW_43.still c10
  have x_53 := x_44.still c10
  have bx_54 := bx_45.still c10
  have G_55 := G_46.still c10
  have bG_56 := bG_47.still c10
  have b57 := Chg.above b48 c10 (by omega) (by omega)
  have t57 : w9.heap.size ≤ w10.heap.size := c10.size
  clear h_40 A_41 W_42 bW_43 x_44 bx_45 G_46 bG_47 b48 c10
  refine hK'.out _ _ hs10 (fun hHeld => ?_)
  clear hK' hs10
  try simp only [Act.put, List.setIfInBounds_toArray, List.set_cons_zero, List.set_cons_succ]
  refine wpAnyH_ready (rs := [3]) (by kernel_rfl) (by simp) (AllReadyH.cons (i := 3) rfl (fun K' hK' => ?_) AllReadyH.nil)
  go_simp
  refine (eqAuction d _ _ n n _ _ zs _ _ _ _ _ x_53.rd o10.rd hm).mono ?_
  rintro e w11 ⟨rfl, c11⟩
  have hs11 : (fun V => SBox V 26 w5.heap.size #[.int .i64 d, .slice (some ⟨g5, 0, none⟩) n n] ∧ SBox V 43 w.heap.size #[.int .i64 d, .slice A n c]) w11 := ⟨hHeld.1.still c11, hHeld.2.still c11⟩
  clear o10
  have h_58 := h_49.still c11
  have A_59 := A_50.still c11
  have W_60 := W_51.still c11
  have bW_61 := bW_52.still c11
  have x_62 := x_53.still c11
  have bx_63 := bx_54.still c11
  have G_64 := G_55.still c11
  have bG_65 := bG_56.still c11
  have b66 := Chg.above b57 c11 (by omega) (by omega)
  have t66 : w10.heap.size ≤ w11.heap.size := c11.size
  clear h_49 A_50 W_51 bW_52 x_53 bx_54 G_55 bG_56 b57 c11
  refine hK'.out _ _ hs11 (fun hHeld => ?_)
  clear hK' hs11
  try simp only [Act.put, List.setIfInBounds_toArray, List.set_cons_zero, List.set_cons_succ]
  refine take_slotC (i := 4) (d := some 49) (v := .bool false) rfl (by kernel_rfl) (by kernel_rfl) (by kernel_rfl) (by kernel_rfl) (fun _ _ _ h => h) (.inl ⟨by kernel_rfl, fun V hV => by go_simp⟩) hHeld ?_
  try simp only [Act.put, List.setIfInBounds_toArray, List.set_cons_zero, List.set_cons_succ]
  refine wpAnyH_done (by kernel_rfl) ?_ _
  clear hHeld
  go_wp2_with (first | (refine wpList_load_row rfl 43 _ rfl w.heap.size rfl 43 #[.int .i64 d, .slice A n c] (0, 0) _ A_59 Try.underlying43 rfl (linfo _ _ _ _) ?_) | (refine wpList_load_row rfl 26 _ rfl w3.heap.size rfl 26 #[.int .i64 D, .slice G3 R.length e3] (0, 0) _ bW_61 Try.underlying26 rfl (auc_info _ _ _ _) ?_) | (refine wpList_load_row rfl 26 _ rfl w5.heap.size rfl 26 #[.int .i64 d, .slice (some ⟨g5, 0, none⟩) n n] (0, 0) _ bx_63 Try.underlying26 rfl (auc_info _ _ _ _) ?_) | (refine wpList_load_row rfl 26 _ rfl w7.heap.size rfl 26 #[.int .i64 D, .slice G7 R.length e7] (0, 0) _ bG_65 Try.underlying26 rfl (auc_info _ _ _ _) ?_))
  refine (markAuction d _ n n zs _ _ _ x_62 hm).mono ?_
  rintro e w12 ⟨rfl, _, c12⟩
  clear x_62
  clear bx_63
  have h_67 := h_58.chg c12 (by omega)
  have A_68 := A_59.chg c12 (by omega)
  have W_69 := W_60.chg c12 (by omega)
  have bW_70 := bW_61.chg c12 (by omega)
  have G_71 := G_64.chg c12 (by omega)
  have bG_72 := bG_65.chg c12 (by omega)
  have b73 := Chg.above b66 c12 (by omega) (by omega)
  have t73 : w11.heap.size ≤ w12.heap.size := c12.size
  clear h_58 A_59 W_60 bW_61 G_64 bG_65 b66 c12
  have y74 : w12.cell? ⟨w7.heap.size, 0, none⟩ = some (.int .i64 D) := by rw [bG_72.cell]; rfl
  have y75 : w12.cell? ⟨w7.heap.size, 1, none⟩ = some (.slice G7 R.length e7) := by rw [bG_72.cell]; rfl
  have y76 : w12.cell? ⟨w3.heap.size, 0, none⟩ = some (.int .i64 D) := by rw [bW_70.cell]; rfl
  have y77 : w12.cell? ⟨w3.heap.size, 1, none⟩ = some (.slice G3 R.length e3) := by rw [bW_70.cell]; rfl
  go_wp2_with (first | (refine wpList_load_row rfl 43 _ rfl w.heap.size rfl 43 #[.int .i64 d, .slice A n c] (0, 0) _ A_68 Try.underlying43 rfl (linfo _ _ _ _) ?_) | (refine wpList_load_row rfl 26 _ rfl w3.heap.size rfl 26 #[.int .i64 D, .slice G3 R.length e3] (0, 0) _ bW_70 Try.underlying26 rfl (auc_info _ _ _ _) ?_) | (refine wpList_load_row rfl 26 _ rfl w7.heap.size rfl 26 #[.int .i64 D, .slice G7 R.length e7] (0, 0) _ bG_72 Try.underlying26 rfl (auc_info _ _ _ _) ?_))
  clear y74 y75 y76 y77
  refine (eqAuction _ _ _ R.length R.length _ _ R _ _ _ _ _ G_71.rd W_69.rd hRn).mono ?_
  rintro e w13 ⟨rfl, c13⟩
  have h_78 := h_67.still c13
  have A_79 := A_68.still c13
  have W_80 := W_69.still c13
  have bW_81 := bW_70.still c13
  have G_82 := G_71.still c13
  have bG_83 := bG_72.still c13
  have b84 := Chg.above b73 c13 (by omega) (by omega)
  have t84 : w12.heap.size ≤ w13.heap.size := c13.size
  clear h_67 A_68 W_69 bW_70 G_71 bG_72 b73 c13
  go_wp2_with (first | (refine wpList_load_row rfl 43 _ rfl w.heap.size rfl 43 #[.int .i64 d, .slice A n c] (0, 0) _ A_79 Try.underlying43 rfl (linfo _ _ _ _) ?_) | (refine wpList_load_row rfl 26 _ rfl w3.heap.size rfl 26 #[.int .i64 D, .slice G3 R.length e3] (0, 0) _ bW_81 Try.underlying26 rfl (auc_info _ _ _ _) ?_) | (refine wpList_load_row rfl 26 _ rfl w7.heap.size rfl 26 #[.int .i64 D, .slice G7 R.length e7] (0, 0) _ bG_83 Try.underlying26 rfl (auc_info _ _ _ _) ?_))
  refine (markAuction _ _ R.length _ R _ _ _ G_82 hRn).mono ?_
  rintro e w14 ⟨rfl, m14, c14⟩
  clear G_82
  have h_85 := h_78.chg c14 (by omega)
  have A_86 := A_79.chg c14 (by omega)
  have W_87 := W_80.chg c14 (by omega)
  have bW_88 := bW_81.chg c14 (by omega)
  have bG_89 := bG_83.chg c14 (by omega)
  have b90 := Chg.above b84 c14 (by omega) (by omega)
  have t90 : w13.heap.size ≤ w14.heap.size := c14.size
  clear h_78 A_79 W_80 bW_81 bG_83 b84 c14
  go_wp2_with (first | (refine wpList_load_row rfl 43 _ rfl w.heap.size rfl 43 #[.int .i64 d, .slice A n c] (0, 0) _ A_86 Try.underlying43 rfl (linfo _ _ _ _) ?_) | (refine wpList_load_row rfl 26 _ rfl w3.heap.size rfl 26 #[.int .i64 D, .slice G3 R.length e3] (0, 0) _ bW_88 Try.underlying26 rfl (auc_info _ _ _ _) ?_) | (refine wpList_load_row rfl 26 _ rfl w7.heap.size rfl 26 #[.int .i64 D, .slice G7 R.length e7] (0, 0) _ bG_89 Try.underlying26 rfl (auc_info _ _ _ _) ?_))
  refine (heldAuction _ _ R.length _ _ _ _ m14.rd hRn).mono ?_
  rintro e w15 ⟨rfl, c15⟩
  have h_91 := h_85.still c15
  have A_92 := A_86.still c15
  have W_93 := W_87.still c15
  have bW_94 := bW_88.still c15
  have bG_95 := bG_89.still c15
  have M_96 := m14.still c15
  have b97 := Chg.above b90 c15 (by omega) (by omega)
  have t97 : w14.heap.size ≤ w15.heap.size := c15.size
  clear h_85 A_86 W_87 bW_88 bG_89 m14 b90 c15
  go_wp2_with (first | (refine wpList_load_row rfl 43 _ rfl w.heap.size rfl 43 #[.int .i64 d, .slice A n c] (0, 0) _ A_92 Try.underlying43 rfl (linfo _ _ _ _) ?_) | (refine wpList_load_row rfl 26 _ rfl w3.heap.size rfl 26 #[.int .i64 D, .slice G3 R.length e3] (0, 0) _ bW_94 Try.underlying26 rfl (auc_info _ _ _ _) ?_) | (refine wpList_load_row rfl 26 _ rfl w7.heap.size rfl 26 #[.int .i64 D, .slice G7 R.length e7] (0, 0) _ bG_95 Try.underlying26 rfl (auc_info _ _ _ _) ?_))
  refine (toAuction d A n c zs _ _ _ h_91 hm).mono ?_
  rintro e w16 ⟨g16, rfl, o16, c16⟩
  have h_98 := h_91.still c16
  have A_99 := A_92.still c16
  have W_100 := W_93.still c16
  have bW_101 := bW_94.still c16
  have bG_102 := bG_95.still c16
  have M_103 := M_96.still c16
  have b104 := Chg.above b97 c16 (by omega) (by omega)
  have t104 : w15.heap.size ≤ w16.heap.size := c16.size
  clear h_91 A_92 W_93 bW_94 bG_95 M_96 b97 c16
  go_wp2_with (first | (refine wpList_load_row rfl 43 _ rfl w.heap.size rfl 43 #[.int .i64 d, .slice A n c] (0, 0) _ A_99 Try.underlying43 rfl (linfo _ _ _ _) ?_) | (refine wpList_load_row rfl 26 _ rfl w3.heap.size rfl 26 #[.int .i64 D, .slice G3 R.length e3] (0, 0) _ bW_101 Try.underlying26 rfl (auc_info _ _ _ _) ?_) | (refine wpList_load_row rfl 26 _ rfl w7.heap.size rfl 26 #[.int .i64 D, .slice G7 R.length e7] (0, 0) _ bG_102 Try.underlying26 rfl (auc_info _ _ _ _) ?_))
  refine (impl_AddCall d _ n n zs x _ (o16.rd.more (Nat.zero_le _) (by omega)) hm (Nat.le_refl _) (fun e => by cases e)).mono ?_
  rw [HRR.out, ← HD.out, ← HK.out]
  unfold RetAI
  rintro e w17 ⟨u17, rfl, q17, r17⟩
  obtain ⟨G17, e17, rfl, _, _, j17⟩ := q17.form
  have c17 := Chg.of_below r17 0 0
  clear q17 r17
  have h_105 := h_98.still c17
  have A_106 := A_99.still c17
  have W_107 := W_100.still c17
  have bW_108 := bW_101.still c17
  have bG_109 := bG_102.still c17
  have M_110 := M_103.still c17
  have y_111 := o16.still c17
  have b112 := Chg.above b104 c17 (by omega) (by omega)
  have t112 : w16.heap.size ≤ w17.heap.size := c17.size
  clear h_98 A_99 W_100 bW_101 bG_102 M_103 o16 b104 c17
  have x18 := SBox.row w17 26 #[.int .i64 0, .slice none 0 0] #[.int .i64 D, .slice G17 R.length e17]
  have a18 := chg_row w17 26 #[.int .i64 0, .slice none 0 0] #[.int .i64 D, .slice G17 R.length e17]
  have z18 : w17.heap.size < ((w17.alloc (.cells #[.int .i64 0, .slice none 0 0] 26)).setRow w17.heap.size #[.int .i64 D, .slice G17 R.length e17]).heap.size := by rw [row_size]; omega
  have h_113 := h_105.still a18
  have A_114 := A_106.still a18
  have W_115 := W_107.still a18
  have bW_116 := bW_108.still a18
  have bG_117 := bG_109.still a18
  have M_118 := M_110.still a18
  have y_119 := y_111.still a18
  have K_120 := j17.still a18
  have b121 := Chg.above b112 a18 (by omega) (by omega)
  clear h_105 A_106 W_107 bW_108 bG_109 M_110 y_111 j17 b112 a18
  go_wp2_with (first | (refine wpList_store_row rfl 26 _ _ rfl w17.heap.size #[.int .i64 D, .slice G17 R.length e17] rfl rfl 26 #[.int .i64 0, .slice none 0 0] (heap_alloc_new _ _) (auc_info _ _ _ _) rfl (auc_cells _ _ _ _) ?_; generalize (w17.alloc (.cells #[.int .i64 0, .slice none 0 0] 26)).setRow w17.heap.size #[.int .i64 D, .slice G17 R.length e17] = v18 at h_113 A_114 W_115 bW_116 bG_117 M_118 y_119 K_120 x18 b121 z18 ⊢) | (refine wpList_load_row rfl 43 _ rfl w.heap.size rfl 43 #[.int .i64 d, .slice A n c] (0, 0) _ A_114 Try.underlying43 rfl (linfo _ _ _ _) ?_) | (refine wpList_load_row rfl 26 _ rfl w3.heap.size rfl 26 #[.int .i64 D, .slice G3 R.length e3] (0, 0) _ bW_116 Try.underlying26 rfl (auc_info _ _ _ _) ?_) | (refine wpList_load_row rfl 26 _ rfl w7.heap.size rfl 26 #[.int .i64 D, .slice G7 R.length e7] (0, 0) _ bG_117 Try.underlying26 rfl (auc_info _ _ _ _) ?_) | (refine wpList_load_row rfl 26 _ rfl w17.heap.size rfl 26 #[.int .i64 D, .slice G17 R.length e17] (0, 0) _ x18 Try.underlying26 rfl (auc_info _ _ _ _) ?_))
  refine (eqAuction _ _ _ R.length R.length _ _ R _ _ _ _ _ K_120.rd W_115.rd hRn).mono ?_
  rintro e w19 ⟨rfl, c19⟩
  have h_122 := h_113.still c19
  have A_123 := A_114.still c19
  have W_124 := W_115.still c19
  have bW_125 := bW_116.still c19
  have bG_126 := bG_117.still c19
  have M_127 := M_118.still c19
  have y_128 := y_119.still c19
  have K_129 := K_120.still c19
  have bK_130 := x18.still c19
  have b131 := Chg.above b121 c19 (by omega) (by omega)
  have t131 : v18.heap.size ≤ w19.heap.size := c19.size
  clear h_113 A_114 W_115 bW_116 bG_117 M_118 y_119 K_120 x18 b121 c19
  go_wp2_with (first | (refine wpList_load_row rfl 43 _ rfl w.heap.size rfl 43 #[.int .i64 d, .slice A n c] (0, 0) _ A_123 Try.underlying43 rfl (linfo _ _ _ _) ?_) | (refine wpList_load_row rfl 26 _ rfl w3.heap.size rfl 26 #[.int .i64 D, .slice G3 R.length e3] (0, 0) _ bW_125 Try.underlying26 rfl (auc_info _ _ _ _) ?_) | (refine wpList_load_row rfl 26 _ rfl w7.heap.size rfl 26 #[.int .i64 D, .slice G7 R.length e7] (0, 0) _ bG_126 Try.underlying26 rfl (auc_info _ _ _ _) ?_) | (refine wpList_load_row rfl 26 _ rfl w17.heap.size rfl 26 #[.int .i64 D, .slice G17 R.length e17] (0, 0) _ bK_130 Try.underlying26 rfl (auc_info _ _ _ _) ?_))
  refine (heldAuction _ _ R.length _ _ _ _ M_127.rd hRn).mono ?_
  rintro e w20 ⟨rfl, c20⟩
  have h_132 := h_122.still c20
  have A_133 := A_123.still c20
  have W_134 := W_124.still c20
  have bW_135 := bW_125.still c20
  have bG_136 := bG_126.still c20
  have M_137 := M_127.still c20
  have y_138 := y_128.still c20
  have K_139 := K_129.still c20
  have bK_140 := bK_130.still c20
  have b141 := Chg.above b131 c20 (by omega) (by omega)
  have t141 : w19.heap.size ≤ w20.heap.size := c20.size
  clear h_122 A_123 W_124 bW_125 bG_126 M_127 y_128 K_129 bK_130 b131 c20
  go_wp2_with (first | (refine wpList_load_row rfl 43 _ rfl w.heap.size rfl 43 #[.int .i64 d, .slice A n c] (0, 0) _ A_133 Try.underlying43 rfl (linfo _ _ _ _) ?_) | (refine wpList_load_row rfl 26 _ rfl w3.heap.size rfl 26 #[.int .i64 D, .slice G3 R.length e3] (0, 0) _ bW_135 Try.underlying26 rfl (auc_info _ _ _ _) ?_) | (refine wpList_load_row rfl 26 _ rfl w7.heap.size rfl 26 #[.int .i64 D, .slice G7 R.length e7] (0, 0) _ bG_136 Try.underlying26 rfl (auc_info _ _ _ _) ?_) | (refine wpList_load_row rfl 26 _ rfl w17.heap.size rfl 26 #[.int .i64 D, .slice G17 R.length e17] (0, 0) _ bK_140 Try.underlying26 rfl (auc_info _ _ _ _) ?_))
  go_ret
  exact ⟨rfl, b141⟩

set_option maxHeartbeats 1600000 in
theorem law_IsContract7 (l s x d : Int) (w : World) : Calls Try.prog 12 #[.agg #[.int .i64 l, .int .i64 s, .int .i64 x, .int .i64 d]] w fun e w' => e = .returned (.bool true) ∧ Below w.heap.size w w' := by
  have B0 := Lib.hid (SBox.new w 53 #[.int .i64 l, .int .i64 s, .int .i64 x, .int .i64 d])
  have C0 := Lib.hid (Chg.of_alloc w (.cells #[.int .i64 l, .int .i64 s, .int .i64 x, .int .i64 d] 53) 0 0)
  obtain ⟨R, hR⟩ : ∃ R, R = isConV l s x d := ⟨_, rfl⟩
  have HR := Lib.hid hR
  clear hR
  have hRR : (R == R) = true := by simp
  go_enter Try.func12, Try.ntmps12
  go_wp2_with (refine wpList_load_row rfl 53 _ rfl w.heap.size rfl 53 #[.int .i64 l, .int .i64 s, .int .i64 x, .int .i64 d] (0, 0) _ B0.out Try.underlying53 rfl (clinfo l s x d) ?_)
  generalize w.alloc (.cells #[.int .i64 l, .int .i64 s, .int .i64 x, .int .i64 d] 53) = w0 at B0 C0 ⊢
  refine (toContract l s x d _).mono ?_
  rintro e w1 ⟨rfl, c1⟩
  have B1 := Lib.hid (B0.out.still c1)
  have C1 := Lib.hid (C0.out.trans c1)
  clear c1 B0 C0
  go_wp2_with fail
  refine (spec_IsContract l s x d _).mono ?_
  rw [← HR.out]
  rintro e w2 ⟨rfl, c2⟩
  have B2 := Lib.hid (B1.out.still c2)
  have C2 := Lib.hid (C1.out.trans c2)
  clear c2 B1 C1
  go_wp2_with (refine wpList_load_row rfl 53 _ rfl w.heap.size rfl 53 #[.int .i64 l, .int .i64 s, .int .i64 x, .int .i64 d] (0, 0) _ B2.out Try.underlying53 rfl (clinfo l s x d) ?_)
  refine (toContract l s x d _).mono ?_
  rintro e w3 ⟨rfl, c3⟩
  have C3 := Lib.hid (C2.out.trans c3)
  clear c3 B2 C2
  go_wp2_with fail
  refine (impl_IsContract l s x d _).mono ?_
  rw [← HR.out]
  rintro e w4 ⟨rfl, c4⟩
  have C4 := Lib.hid (C3.out.trans c4)
  clear c4 C3
  go_wp2
  go_ret
  exact ⟨rfl, C4.out.to_below⟩

end Go.Proofs.Ytnkbcmkngghnoaa.Lib1
