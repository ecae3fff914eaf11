/- Chapter 7: the exact laws over texts of auctions and contracts. (Written by wip/gen7y7.py.) -/
import Derived.Test.YtnkbcmkngghnoaaDoorExA7
import Derived.Test.YtnkbcmkngghnoaaDoorImT7
namespace Go.Proofs.YtnkbcmkngghnoaaDoor.Lib1
open Go.RowKit
set_option maxRecDepth 100000

theorem linfoL (d : Int) (v : Value) : (Tryd.prog.info? 39).map (·.size) = some ([.int .i64 d, v] : List Value).length := by kernel_rfl

set_option maxHeartbeats 8000000 in
theorem law_AuctionText7 (d : Int) (A : Option Addr) (n c : Nat) (zs : List Int) (w : World) (h : Rd w 0 w.heap.size A n zs) (hL : n ≤ maxLen) :
    Calls Tryd.prog 5 #[.agg #[.int .i64 d, .slice A n c]] w fun e w' => e = .returned (.bool true) ∧ Below w.heap.size w w' := by
  have bl := Below.refl w.heap.size w
  have xa := SBox.new w 39 #[.int .i64 d, .slice A n c]
  have ca := Chg.of_alloc w (.cells #[.int .i64 d, .slice A n c] 39) 0 0
  have ha := h.still ca
  have ba := Chg.above bl ca (by omega) (by omega)
  have za : w.heap.size < (w.alloc (.cells #[.int .i64 d, .slice A n c] 39)).heap.size := by simp
  clear bl ca h
  go_enter Tryd.func5, Tryd.ntmps5
  go_wp2_with (refine wpList_load_row rfl 39 _ rfl w.heap.size rfl 39 #[.int .i64 d, .slice A n c] (0, 0) _ xa Tryd.underlying39 rfl (linfo _ _ _ _) ?_)
  generalize w.alloc (.cells #[.int .i64 d, .slice A n c] 39) = w0 at ha xa ba za ⊢
  refine (szAuction d A n c _ hL).mono ?_
  rintro e w1 ⟨⟨v, rfl, hv⟩, c1⟩
  have h_1 := ha.still c1
  have A_2 := xa.still c1
  have b3 := Chg.above ba c1 (by omega) (by omega)
  have t3 : w0.heap.size ≤ w1.heap.size := c1.size
  clear ha xa ba c1
  rcases hv with hv | ⟨hv, hm⟩
  · go_wp2_with fail
    go_ret
    exact ⟨rfl, b3⟩
  obtain ⟨R, hR⟩ : ∃ R, R = aucN d zs n := ⟨_, rfl⟩
  have HRR := Lib.hid hR
  clear hR
  have hRR : (R.toList == R.toList) = true := by simp
  go_wp2_with (refine wpList_load_row rfl 39 _ rfl w.heap.size rfl 39 #[.int .i64 d, .slice A n c] (0, 0) _ A_2 Tryd.underlying39 rfl (linfo _ _ _ _) ?_)
  refine (toAuction d A n c zs _ _ _ h_1 hm).mono ?_
  rintro e w2 ⟨g2, rfl, o2, c2⟩
  have h_4 := h_1.still c2
  have A_5 := A_2.still c2
  have b6 := Chg.above b3 c2 (by omega) (by omega)
  have t6 : w1.heap.size ≤ w2.heap.size := c2.size
  clear h_1 A_2 b3 c2
  go_wp2_with (refine wpList_load_row rfl 39 _ rfl w.heap.size rfl 39 #[.int .i64 d, .slice A n c] (0, 0) _ A_5 Tryd.underlying39 rfl (linfo _ _ _ _) ?_)
  refine (spec_AuctionText d _ n n zs _ (Rp.of_rd o2.rd) hm (Nat.le_refl _)).mono ?_
  rw [← HRR.out]
  rintro e w3 ⟨rfl, c3⟩
  clear o2
  have h_7 := h_4.still c3
  have A_8 := A_5.still c3
  have b9 := Chg.above b6 c3 (by omega) (by omega)
  have t9 : w2.heap.size ≤ w3.heap.size := c3.size
  clear h_4 A_5 b6 c3
  go_wp2_with (refine wpList_load_row rfl 39 _ rfl w.heap.size rfl 39 #[.int .i64 d, .slice A n c] (0, 0) _ A_8 Tryd.underlying39 rfl (linfo _ _ _ _) ?_)
  refine (toAuction d A n c zs _ _ _ h_7 hm).mono ?_
  rintro e w4 ⟨g4, rfl, o4, c4⟩
  have h_10 := h_7.still c4
  have A_11 := A_8.still c4
  have b12 := Chg.above b9 c4 (by omega) (by omega)
  have t12 : w3.heap.size ≤ w4.heap.size := c4.size
  clear h_7 A_8 b9 c4
  have x5 := SBox.row w4 26 #[.int .i64 0, .slice none 0 0] #[.int .i64 d, .slice (some ⟨g4, 0, none⟩) n n]
  have a5 := chg_row w4 26 #[.int .i64 0, .slice none 0 0] #[.int .i64 d, .slice (some ⟨g4, 0, none⟩) n n]
  have z5 : w4.heap.size < ((w4.alloc (.cells #[.int .i64 0, .slice none 0 0] 26)).setRow w4.heap.size #[.int .i64 d, .slice (some ⟨g4, 0, none⟩) n n]).heap.size := by rw [row_size]; omega
  have h_13 := h_10.still a5
  have A_14 := A_11.still a5
  have x_15 := o4.still a5
  have b16 := Chg.above b12 a5 (by omega) (by omega)
  clear h_10 A_11 o4 b12 a5
  go_wp2_with (first | (refine wpList_store_row rfl 26 _ _ rfl w4.heap.size #[.int .i64 d, .slice (some ⟨g4, 0, none⟩) n n] rfl rfl 26 #[.int .i64 0, .slice none 0 0] (heap_alloc_new _ _) (auc_info _ _ _ _) rfl (auc_cells _ _ _ _) ?_; generalize (w4.alloc (.cells #[.int .i64 0, .slice none 0 0] 26)).setRow w4.heap.size #[.int .i64 d, .slice (some ⟨g4, 0, none⟩) n n] = v5 at h_13 A_14 x_15 x5 b16 z5 ⊢) | (refine wpList_load_row rfl 39 _ rfl w.heap.size rfl 39 #[.int .i64 d, .slice A n c] (0, 0) _ A_14 Tryd.underlying39 rfl (linfo _ _ _ _) ?_) | (refine wpList_load_row rfl 26 _ rfl w4.heap.size rfl 26 #[.int .i64 d, .slice (some ⟨g4, 0, none⟩) n n] (0, 0) _ x5 Tryd.underlying26 rfl (auc_info _ _ _ _) ?_))
  refine (impl_AuctionText d _ n n zs _ (Rp.of_rd x_15.rd) hm (Nat.le_refl _)).mono ?_
  rw [← HRR.out]
  rintro e w6 ⟨rfl, c6⟩
  have h_17 := h_13.still c6
  have A_18 := A_14.still c6
  have x_19 := x_15.still c6
  have bx_20 := x5.still c6
  have b21 := Chg.above b16 c6 (by omega) (by omega)
  have t21 : v5.heap.size ≤ w6.heap.size := c6.size
  clear h_13 A_14 x_15 x5 b16 c6
  go_wp2_with (first | (refine wpList_load_row rfl 39 _ rfl w.heap.size rfl 39 #[.int .i64 d, .slice A n c] (0, 0) _ A_18 Tryd.underlying39 rfl (linfo _ _ _ _) ?_) | (refine wpList_load_row rfl 26 _ rfl w4.heap.size rfl 26 #[.int .i64 d, .slice (some ⟨g4, 0, none⟩) n n] (0, 0) _ bx_20 Tryd.underlying26 rfl (auc_info _ _ _ _) ?_))
  have dr : Chg w6 w6.drew 0 0 := Chg.of_drew ⟨1, rfl⟩ _ _
  have s0 : (fun V => SBox V 26 w4.heap.size #[.int .i64 d, .slice (some ⟨g4, 0, none⟩) n n] ∧ SBox V 39 w.heap.size #[.int .i64 d, .slice A n c]) w6.drew := ⟨bx_20.still dr, A_18.still dr⟩
  refine wp_region_held_drew (S := fun V => SBox V 26 w4.heap.size #[.int .i64 d, .slice (some ⟨g4, 0, none⟩) n n] ∧ SBox V 39 w.heap.size #[.int .i64 d, .slice A n c]) (by kernel_rfl) s0 (fun hHeld => ?_)
  refine take_slotC (i := 0) (d := some 22) (v := .agg #[.int .i64 d, .slice (some ⟨g4, 0, none⟩) n n]) rfl (by kernel_rfl) (by kernel_rfl) (by kernel_rfl) (by kernel_rfl) (fun _ _ _ h => h) (yieldsIf_load_mid (by kernel_rfl) 26 (.tmp 5) rfl w4.heap.size 0 rfl [.int .i64 d, .slice (some ⟨g4, 0, none⟩) n n] _ (fun V hV => hV.1.range) Tryd.underlying26 rfl (auc_info7 _ _)) hHeld ?_
  try simp only [Act.put, List.setIfInBounds_toArray, List.set_cons_zero, List.set_cons_succ]
  refine take_slotC (i := 1) (d := some 23) (v := .agg #[.int .i64 d, .slice A n c]) rfl (by kernel_rfl) (by kernel_rfl) (by kernel_rfl) (by kernel_rfl) (fun _ _ _ h => h) (yieldsIf_load_mid (by kernel_rfl) 39 (.tmp 1) rfl w.heap.size 0 rfl [.int .i64 d, .slice A n c] _ (fun V hV => hV.2.range) Tryd.underlying39 rfl (linfoL _ _)) hHeld ?_
  try simp only [Act.put, List.setIfInBounds_toArray, List.set_cons_zero, List.set_cons_succ]
  refine wpAnyH_ready (rs := [2]) (by kernel_rfl) (by simp) (AllReadyH.cons (i := 2) rfl (fun K' hK' => ?_) AllReadyH.nil)
  go_simp
  refine (toAuction d A n c zs _ _ _ (h_17.still dr) hm).mono ?_
  rintro e w7 ⟨g7, rfl, o7, p7⟩
  have c7 := dr.trans p7
  have hs7 : (fun V => SBox V 26 w4.heap.size #[.int .i64 d, .slice (some ⟨g4, 0, none⟩) n n] ∧ SBox V 39 w.heap.size #[.int .i64 d, .slice A n c]) w7 := ⟨hHeld.1.still p7, hHeld.2.still p7⟩
  clear p7 dr s0
  have h_22 := h_17.still c7
  have A_23 := A_18.still c7
  have x_24 := x_19.still c7
  have bx_25 := bx_20.still c7
  have b26 := Chg.above b21 c7 (by omega) (by omega)
  have t26 : w6.heap.size ≤ w7.heap.size := c7.size
  clear h_17 A_18 x_19 bx_20 b21 c7
  refine hK'.out _ _ hs7 (fun hHeld => ?_)
  clear hK' hs7
  try simp only [Act.put, List.setIfInBounds_toArray, List.set_cons_zero, List.set_cons_succ]
  refine wpAnyH_ready (rs := [3]) (by kernel_rfl) (by simp) (AllReadyH.cons (i := 3) rfl (fun K' hK' => ?_) AllReadyH.nil)
  go_simp
  refine (eqAuction d _ _ n n _ _ zs _ _ _ _ _ x_24.rd o7.rd hm).mono ?_
  rintro e w8 ⟨rfl, c8⟩
  have hs8 : (fun V => SBox V 26 w4.heap.size #[.int .i64 d, .slice (some ⟨g4, 0, none⟩) n n] ∧ SBox V 39 w.heap.size #[.int .i64 d, .slice A n c]) w8 := ⟨hHeld.1.still c8, hHeld.2.still c8⟩
  clear o7
  have h_27 := h_22.still c8
  have A_28 := A_23.still c8
  have x_29 := x_24.still c8
  have bx_30 := bx_25.still c8
  have b31 := Chg.above b26 c8 (by omega) (by omega)
  have t31 : w7.heap.size ≤ w8.heap.size := c8.size
  clear h_22 A_23 x_24 bx_25 b26 c8
  refine hK'.out _ _ hs8 (fun hHeld => ?_)
  clear hK' hs8
  try simp only [Act.put, List.setIfInBounds_toArray, List.set_cons_zero, List.set_cons_succ]
  refine take_slotC (i := 4) (d := some 26) (v := .bool false) rfl (by kernel_rfl) (by kernel_rfl) (by kernel_rfl) (by kernel_rfl) (fun _ _ _ h => h) (.inl ⟨by kernel_rfl, fun V hV => by go_simp⟩) hHeld ?_
  try simp only [Act.put, List.setIfInBounds_toArray, List.set_cons_zero, List.set_cons_succ]
  refine wpAnyH_done (by kernel_rfl) ?_ _
  clear hHeld
  go_wp2_with (first | (refine wpList_load_row rfl 39 _ rfl w.heap.size rfl 39 #[.int .i64 d, .slice A n c] (0, 0) _ A_28 Tryd.underlying39 rfl (linfo _ _ _ _) ?_) | (refine wpList_load_row rfl 26 _ rfl w4.heap.size rfl 26 #[.int .i64 d, .slice (some ⟨g4, 0, none⟩) n n] (0, 0) _ bx_30 Tryd.underlying26 rfl (auc_info _ _ _ _) ?_))
  go_ret
  exact ⟨rfl, b31⟩

set_option maxHeartbeats 1600000 in
theorem law_ContractText7 (l s x d : Int) (w : World) : Calls Tryd.prog 4 #[.agg #[.int .i64 l, .int .i64 s, .int .i64 x, .int .i64 d]] w fun e w' => e = .returned (.bool true) ∧ Below w.heap.size w w' := by
  have B0 := Lib.hid (SBox.new w 34 #[.int .i64 l, .int .i64 s, .int .i64 x, .int .i64 d])
  have C0 := Lib.hid (Chg.of_alloc w (.cells #[.int .i64 l, .int .i64 s, .int .i64 x, .int .i64 d] 34) 0 0)
  obtain ⟨R, hR⟩ : ∃ R, R = conT l s x d := ⟨_, rfl⟩
  have HR := Lib.hid hR
  clear hR
  have hRR : (R.toList == R.toList) = true := by simp
  go_enter Tryd.func4, Tryd.ntmps4
  go_wp2_with (refine wpList_load_row rfl 34 _ rfl w.heap.size rfl 34 #[.int .i64 l, .int .i64 s, .int .i64 x, .int .i64 d] (0, 0) _ B0.out Tryd.underlying34 rfl (clinfo l s x d) ?_)
  generalize w.alloc (.cells #[.int .i64 l, .int .i64 s, .int .i64 x, .int .i64 d] 34) = w0 at B0 C0 ⊢
  refine (toContract l s x d _).mono ?_
  rintro e w1 ⟨rfl, c1⟩
  have B1 := Lib.hid (B0.out.still c1)
  have C1 := Lib.hid (C0.out.trans c1)
  clear c1 B0 C0
  go_wp2_with fail
  refine (spec_ContractText l s x d _).mono ?_
  rw [← HR.out]
  rintro e w2 ⟨rfl, c2⟩
  have B2 := Lib.hid (B1.out.still c2)
  have C2 := Lib.hid (C1.out.trans c2)
  clear c2 B1 C1
  go_wp2_with (refine wpList_load_row rfl 34 _ rfl w.heap.size rfl 34 #[.int .i64 l, .int .i64 s, .int .i64 x, .int .i64 d] (0, 0) _ B2.out Tryd.underlying34 rfl (clinfo l s x d) ?_)
  refine (toContract l s x d _).mono ?_
  rintro e w3 ⟨rfl, c3⟩
  have C3 := Lib.hid (C2.out.trans c3)
  clear c3 B2 C2
  go_wp2_with fail
  refine (impl_ContractText l s x d _).mono ?_
  rw [← HR.out]
  rintro e w4 ⟨rfl, c4⟩
  have C4 := Lib.hid (C3.out.trans c4)
  clear c4 C3
  go_wp2
  go_ret
  exact ⟨rfl, C4.out.to_below⟩

end Go.Proofs.YtnkbcmkngghnoaaDoor.Lib1
