/- Chapter 7: the model's letters of seats and texts of contracts and auctions. (Written by wip/gen7x.py.) -/
import Derived.Test.YtnkbcmkngghnoaaDoorAucD7
import Derived.Test.YtnkbcmkngghnoaaDoorAucT7
namespace Go.Proofs.YtnkbcmkngghnoaaDoor.Lib1
open Go.RowKit
set_option maxRecDepth 100000

theorem l07Seat (d : Int) (w : World) (h0 : 0 ≤ d) (h1 : d ≤ 3) : Calls Tryd.prog 40 #[.int .i64 d] w fun e w' => e = .returned (.string (seatT d)) ∧ w = w' := by
  have hq : d = 0 ∨ d = 1 ∨ d = 2 ∨ d = 3 := by omega
  rcases hq with rfl | rfl | rfl | rfl
  all_goals
    go_enter Tryd.func40, Tryd.ntmps40
    go_wp2
    go_ret
    exact ⟨ret_str (by decide +kernel), rfl⟩
theorem cell_keep {w w' : World} {a : Addr} {v : Value} (c : Chg w w' 0 0) (h : w.cell? a = some v) : w'.cell? a = some v := by rw [World.cell?_of_block (c.block _ (lt_of_cell h) (.inr (Nat.zero_le _)))]; exact h
/-- A contract's text. -/
def conT (l s x d : Int) : ByteArray := if !isConV l s x d then ⟨#[]⟩ else if l = 0 then ⟨#[112, 97, 115, 115]⟩ else (callT (bidV l s) ++ (ByteArray.mk #[88, 88]).extract 0 x.toNat) ++ seatT d
theorem con_range (l s x d : Int) : isConV l s x d = true → l ≠ 0 → (1 ≤ l ∧ l ≤ 7) ∧ (0 ≤ s ∧ s ≤ 4) ∧ 0 ≤ x ∧ x ≤ 2 ∧ 0 ≤ d ∧ d ≤ 3 := fun h hl => by
  unfold isConV at h
  have hlb : (l == 0) = false := by simpa using hl
  rw [hlb] at h
  simp [inB] at h
  omega

set_option maxHeartbeats 3200000 in
theorem spec_ContractText (l s x d : Int) (w : World) : Calls Tryd.prog 14 #[.agg #[.int .i64 l, .int .i64 s, .int .i64 x, .int .i64 d]] w fun e w' => e = .returned (.string (conT l s x d)) ∧ Chg w w' 0 0 := by
  have C0 : Hid (Chg w (w.alloc (.cells #[.int .i64 l, .int .i64 s, .int .i64 x, .int .i64 d] 36)) 0 0) := Chg.of_alloc w (.cells (conA l s x d) 36) 0 0
  have hbx : Hid ((w.alloc (.cells #[.int .i64 l, .int .i64 s, .int .i64 x, .int .i64 d] 36)).heap[w.heap.size]? = some (.cells #[.int .i64 l, .int .i64 s, .int .i64 x, .int .i64 d] 36 (0, 0))) := heap_alloc_new w _
  have HT : Hid (conT l s x d = if !isConV l s x d then ⟨#[]⟩ else if l = 0 then ⟨#[112, 97, 115, 115]⟩ else (callT (bidV l s) ++ (ByteArray.mk #[88, 88]).extract 0 x.toNat) ++ seatT d) := rfl
  have hrg := con_range l s x d
  go_enter Tryd.func14, Tryd.ntmps14
  go_wp2_with (refine wpList_load_row rfl 36 _ rfl w.heap.size rfl 36 _ (0, 0) _ hbx.out Tryd.underlying36 rfl (by kernel_rfl) ?_)
  generalize w.alloc (.cells #[.int .i64 l, .int .i64 s, .int .i64 x, .int .i64 d] 36) = W at C0 hbx ⊢
  refine (spec_IsContract l s x d _).mono ?_
  rintro e w1 ⟨rfl, c1⟩
  have B1 := Lib.hid ((c1.block w.heap.size (lt_of_block hbx.out) (.inr (Nat.zero_le _))).trans hbx.out)
  have C1 := Lib.hid (C0.out.trans c1)
  have q0 : w1.cell? ⟨w.heap.size, 0, none⟩ = some (.int .i64 l) := by rw [cell_of_row w1 w.heap.size 0 _ _ _ B1.out]; rfl
  have q1 : w1.cell? ⟨w.heap.size, 1, none⟩ = some (.int .i64 s) := by rw [cell_of_row w1 w.heap.size 1 _ _ _ B1.out]; rfl
  have q2 : w1.cell? ⟨w.heap.size, 2, none⟩ = some (.int .i64 x) := by rw [cell_of_row w1 w.heap.size 2 _ _ _ B1.out]; rfl
  have q3 : w1.cell? ⟨w.heap.size, 3, none⟩ = some (.int .i64 d) := by rw [cell_of_row w1 w.heap.size 3 _ _ _ B1.out]; rfl
  clear c1 C0 hbx
  cases hc : isConV l s x d
  · have hr : Hid (conT l s x d = ⟨#[]⟩) := by show _ = _; rw [HT.out, hc]; rfl
    go_wp2_with fail
    go_ret
    exact ⟨ret_str hr.out.symm, C1.out⟩
  by_cases l0 : l = 0
  · have hr : Hid (conT l s x d = ⟨#[112, 97, 115, 115]⟩) := by show _ = _; rw [HT.out, hc, if_pos l0]; rfl
    subst l0
    go_wp2_with fail
    go_ret
    exact ⟨ret_str hr.out.symm, C1.out⟩
  · have hr : Hid (conT l s x d = (callT (bidV l s) ++ (ByteArray.mk #[88, 88]).extract 0 x.toNat) ++ seatT d) := by show _ = _; rw [HT.out, hc, if_neg l0]; rfl
    have lb : (l == 0) = false := by simpa using l0
    obtain ⟨_, _, x0, x1, d0, d1⟩ := hrg hc l0
    have hx2 : x ≤ ((ByteArray.mk #[88, 88]).size : Int) := x1
    clear hrg l0 hc HT
    have ha1 := Lib.hid (show (callT (bidV l s)).size + ((ByteArray.mk #[88, 88]).extract 0 x.toNat).size ≤ 9223372036854775807 by
      have h1 := callT_size (bidV l s)
      have h2 : ((ByteArray.mk #[88, 88]).extract 0 x.toNat).size ≤ 2 := by rw [ByteArray.size_extract]; have : (ByteArray.mk #[88, 88]).size = 2 := rfl; omega
      omega)
    have ha2 := Lib.hid (show (callT (bidV l s) ++ (ByteArray.mk #[88, 88]).extract 0 x.toNat).size + (seatT d).size ≤ 9223372036854775807 by
      have h1 := callT_size (bidV l s)
      have h2 : ((ByteArray.mk #[88, 88]).extract 0 x.toNat).size ≤ 2 := by rw [ByteArray.size_extract]; have : (ByteArray.mk #[88, 88]).size = 2 := rfl; omega
      have h3 : (seatT d).size = 1 := rfl
      rw [app_size]
      omega)
    obtain ⟨bd, hbd⟩ : ∃ b, bidV l s = b := ⟨_, rfl⟩
    have HBD := Lib.hid hbd
    rw [hbd] at ha1 ha2 hr
    clear hbd
    have ra1 := fun W => run_string_add_sum (P := Tryd.prog) (w := W) (callT bd) ((ByteArray.mk #[88, 88]).extract 0 x.toNat) ha1.out
    have ra2 := fun W => run_string_add_sum (P := Tryd.prog) (w := W) (callT bd ++ (ByteArray.mk #[88, 88]).extract 0 x.toNat) (seatT d) ha2.out
    go_wp2_with fail
    refine wp_region_held_drew (S := fun V => V.cell? ⟨w.heap.size, 0, none⟩ = some (.int .i64 l) ∧ V.cell? ⟨w.heap.size, 1, none⟩ = some (.int .i64 s) ∧ V.cell? ⟨w.heap.size, 2, none⟩ = some (.int .i64 x) ∧ V.cell? ⟨w.heap.size, 3, none⟩ = some (.int .i64 d)) (by kernel_rfl) ⟨q0, q1, q2, q3⟩ (fun hHeld => ?_)
    refine take_slotC (i := 0) (d := some 9) (v := .pointer (some ⟨w.heap.size, 0, none⟩)) rfl (by kernel_rfl) (by kernel_rfl) (by kernel_rfl) (by kernel_rfl) (fun _ _ _ h => h) (.inl ⟨by kernel_rfl, fun V hV => by obtain ⟨hV1, hV2, hV3, hV4⟩ := hV; go_simp⟩) hHeld ?_
    try simp only [Act.put, List.setIfInBounds_toArray, List.set_cons_zero, List.set_cons_succ]
    refine take_slotC (i := 1) (d := some 10) (v := .int .i64 l) rfl (by kernel_rfl) (by kernel_rfl) (by kernel_rfl) (by kernel_rfl) (fun _ _ _ h => h) (.inl ⟨by kernel_rfl, fun V hV => by obtain ⟨hV1, hV2, hV3, hV4⟩ := hV; go_simp⟩) hHeld ?_
    try simp only [Act.put, List.setIfInBounds_toArray, List.set_cons_zero, List.set_cons_succ]
    refine take_slotC (i := 2) (d := some 11) (v := .pointer (some ⟨w.heap.size, 1, none⟩)) rfl (by kernel_rfl) (by kernel_rfl) (by kernel_rfl) (by kernel_rfl) (fun _ _ _ h => h) (.inl ⟨by kernel_rfl, fun V hV => by obtain ⟨hV1, hV2, hV3, hV4⟩ := hV; go_simp⟩) hHeld ?_
    try simp only [Act.put, List.setIfInBounds_toArray, List.set_cons_zero, List.set_cons_succ]
    refine take_slotC (i := 3) (d := some 12) (v := .int .i64 s) rfl (by kernel_rfl) (by kernel_rfl) (by kernel_rfl) (by kernel_rfl) (fun _ _ _ h => h) (.inl ⟨by kernel_rfl, fun V hV => by obtain ⟨hV1, hV2, hV3, hV4⟩ := hV; go_simp⟩) hHeld ?_
    try simp only [Act.put, List.setIfInBounds_toArray, List.set_cons_zero, List.set_cons_succ]
    refine take_slotC (i := 6) (d := some 15) (v := .pointer (some ⟨w.heap.size, 2, none⟩)) rfl (by kernel_rfl) (by kernel_rfl) (by kernel_rfl) (by kernel_rfl) (fun _ _ _ h => h) (.inl ⟨by kernel_rfl, fun V hV => by obtain ⟨hV1, hV2, hV3, hV4⟩ := hV; go_simp⟩) hHeld ?_
    try simp only [Act.put, List.setIfInBounds_toArray, List.set_cons_zero, List.set_cons_succ]
    refine take_slotC (i := 7) (d := some 16) (v := .int .i64 x) rfl (by kernel_rfl) (by kernel_rfl) (by kernel_rfl) (by kernel_rfl) (fun _ _ _ h => h) (.inl ⟨by kernel_rfl, fun V hV => by obtain ⟨hV1, hV2, hV3, hV4⟩ := hV; go_simp⟩) hHeld ?_
    try simp only [Act.put, List.setIfInBounds_toArray, List.set_cons_zero, List.set_cons_succ]
    refine take_slotC (i := 8) (d := some 17) (v := .string ((ByteArray.mk #[88, 88]).extract 0 x.toNat)) rfl (by kernel_rfl) (by kernel_rfl) (by kernel_rfl) (by kernel_rfl) (fun _ _ _ h => h) (.inl ⟨by kernel_rfl, fun V hV => by obtain ⟨hV1, hV2, hV3, hV4⟩ := hV; go_simp⟩) hHeld ?_
    try simp only [Act.put, List.setIfInBounds_toArray, List.set_cons_zero, List.set_cons_succ]
    refine take_slotC (i := 10) (d := some 19) (v := .pointer (some ⟨w.heap.size, 3, none⟩)) rfl (by kernel_rfl) (by kernel_rfl) (by kernel_rfl) (by kernel_rfl) (fun _ _ _ h => h) (.inl ⟨by kernel_rfl, fun V hV => by obtain ⟨hV1, hV2, hV3, hV4⟩ := hV; go_simp⟩) hHeld ?_
    try simp only [Act.put, List.setIfInBounds_toArray, List.set_cons_zero, List.set_cons_succ]
    refine take_slotC (i := 11) (d := some 20) (v := .int .i64 d) rfl (by kernel_rfl) (by kernel_rfl) (by kernel_rfl) (by kernel_rfl) (fun _ _ _ h => h) (.inl ⟨by kernel_rfl, fun V hV => by obtain ⟨hV1, hV2, hV3, hV4⟩ := hV; go_simp⟩) hHeld ?_
    try simp only [Act.put, List.setIfInBounds_toArray, List.set_cons_zero, List.set_cons_succ]
    refine wpAnyH_ready (rs := [4]) (by kernel_rfl) (by simp) (AllReadyH.cons (i := 4) rfl (fun K' hK' => ?_) AllReadyH.nil)
    go_simp
    refine (spec_BidOf l s _).mono ?_
    rintro e w' ⟨rfl, rfl⟩
    generalize hbd : bidV l s = bd2
    obtain rfl : bd2 = bd := hbd.symm.trans HBD.out
    clear hbd
    refine hK'.out _ _ ⟨q0, q1, q2, q3⟩ (fun hHeld => ?_)
    clear hK'
    refine wpAnyH_ready (rs := [5]) (by kernel_rfl) (by simp) (AllReadyH.cons (i := 5) rfl (fun K' hK' => ?_) AllReadyH.nil)
    go_simp
    refine (spec_CallText bd2 _).mono ?_
    rintro e w2 ⟨rfl, c2⟩
    have C2 := Lib.hid ((C1.out.trans (Chg.drewN w1 1 0 0)).trans c2)
    have hS2 : w2.cell? ⟨w.heap.size, 0, none⟩ = some (.int .i64 l) ∧ w2.cell? ⟨w.heap.size, 1, none⟩ = some (.int .i64 s) ∧ w2.cell? ⟨w.heap.size, 2, none⟩ = some (.int .i64 x) ∧ w2.cell? ⟨w.heap.size, 3, none⟩ = some (.int .i64 d) := ⟨cell_keep c2 q0, cell_keep c2 q1, cell_keep c2 q2, cell_keep c2 q3⟩
    refine hK'.out _ _ hS2 (fun hHeld => ?_)
    clear hK'
    refine take_slotC (i := 9) (d := some 18) (v := .string (callT bd2 ++ (ByteArray.mk #[88, 88]).extract 0 x.toNat)) rfl (by kernel_rfl) (by kernel_rfl) (by kernel_rfl) (by kernel_rfl) (fun _ _ _ h => h) (.inl ⟨by kernel_rfl, fun V hV => by obtain ⟨hV1, hV2, hV3, hV4⟩ := hV; go_simp⟩) hHeld ?_
    try simp only [Act.put, List.setIfInBounds_toArray, List.set_cons_zero, List.set_cons_succ]
    refine wpAnyH_ready (rs := [12]) (by kernel_rfl) (by simp) (AllReadyH.cons (i := 12) rfl (fun K' hK' => ?_) AllReadyH.nil)
    go_simp
    refine (l07Seat d _ d0 d1).mono ?_
    rintro e w' ⟨rfl, rfl⟩
    refine hK'.out _ _ hS2 (fun hHeld => ?_)
    clear hK'
    refine take_slotC (i := 13) (d := some 22) (v := .string ((callT bd2 ++ (ByteArray.mk #[88, 88]).extract 0 x.toNat) ++ seatT d)) rfl (by kernel_rfl) (by kernel_rfl) (by kernel_rfl) (by kernel_rfl) (fun _ _ _ h => h) (.inl ⟨by kernel_rfl, fun V hV => by obtain ⟨hV1, hV2, hV3, hV4⟩ := hV; go_simp⟩) hHeld ?_
    try simp only [Act.put, List.setIfInBounds_toArray, List.set_cons_zero, List.set_cons_succ]
    refine wpAnyH_ready (rs := [14]) (by kernel_rfl) (by simp) (AllReadyH.cons (i := 14) rfl (fun K' hK' => ?_) AllReadyH.nil)
    go_simp
    refine hK'.out _ _ hS2 (fun hHeld => ?_)
    clear hK'
    refine wpAnyH_done (by kernel_rfl) ?_ _
    go_wp2_with fail
    go_ret
    exact ⟨ret_str hr.out.symm, C2.out⟩

def aucN (d : Int) (zs : List Int) (n : Nat) : ByteArray := if inB d 0 3 && validTo zs n then textTo d zs n else ⟨#[]⟩
set_option maxHeartbeats 3200000 in
theorem spec_AuctionText (d : Int) (A : Option Addr) (n c : Nat) (zs : List Int) (w : World) (h : Rp w A n zs) (hn : n ≤ 1048576) (hcap : n ≤ c) :
    Calls Tryd.prog 18 #[.agg #[.int .i64 d, .slice A n c]] w fun e w' => e = .returned (.string (aucN d zs n)) ∧ Chg w w' 0 0 := by
  have B0 := Lib.hid (ABox.new w d A n c)
  have H := Lib.hid (h.still (Chg.of_alloc w (.cells #[.int .i64 d, .slice A n c] 26) 0 0))
  have C0 := Lib.hid (Chg.of_alloc w (.cells #[.int .i64 d, .slice A n c] 26) 0 0)
  clear h
  go_enter Tryd.func18, Tryd.ntmps18
  go_wp2_with (refine wpList_load_row rfl 26 _ rfl w.heap.size rfl 26 #[.int .i64 d, .slice A n c] (0, 0) _ B0.out Tryd.underlying26 rfl (auc_info d A n c) ?_)
  generalize w.alloc (.cells #[.int .i64 d, .slice A n c] 26) = W at B0 H C0 ⊢
  refine (spec_IsAuction d A n c zs _ H.out hn hcap).mono ?_
  rintro e w1 ⟨rfl, c1⟩
  have B1 := Lib.hid (B0.out.still c1)
  have H1 := Lib.hid (H.out.still c1)
  have C1 := Lib.hid (C0.out.trans c1)
  have b10 := B1.out.c0
  clear c1 B0 H C0
  have HN : Hid (aucN d zs n = if inB d 0 3 && validTo zs n then textTo d zs n else ⟨#[]⟩) := rfl
  cases hv : inB d 0 3 && validTo zs n
  · have hr : Hid (aucN d zs n = ⟨#[]⟩) := by show _ = _; rw [HN.out, hv]; rfl
    go_wp2_with fail
    go_ret
    exact ⟨ret_str hr.out.symm, C1.out⟩
  · have hd : (0 ≤ d ∧ d ≤ 3) ∧ validTo zs n = true := by simp [inB] at hv; exact hv
    have h319 := valid_319 hd.2
    have hr : Hid (aucN d zs n = textTo d zs n) := by show _ = _; rw [HN.out, hv]; rfl
    obtain ⟨⟨d0, d1⟩, _⟩ := hd
    clear hv
    have t0 : Hid (textTo d zs 0 = seatT d ++ ⟨#[58]⟩) := rfl
    have hs0 : (seatT d).size = 1 := rfl
    have r0 := fun V => run_string_add_sum (P := Tryd.prog) (w := V) (seatT d) ⟨#[58]⟩ (by rw [hs0]; decide)
    go_wp2_with fail
    refine (l07Seat d _ d0 d1).mono ?_
    rintro e w' ⟨rfl, rfl⟩
    go_wp2_with fail
    go_loopw [3, 4] (fun u i wr => ∃ k : Nat, k ≤ n ∧ i = .int .i64 k ∧ u = .string (textTo d zs k) ∧ Hid (Chg w1 wr 0 0)) (fun _ i _ => n - (intOf i).toNat)
    case atStart => exact ⟨0, Nat.zero_le _, rfl, rfl, Chg.refl _ _ _⟩
    case round =>
      obtain ⟨k, hk, rfl, rfl, hc⟩ := hrel
      have hb1 := (B1.out.still hc.out).c1
      by_cases hlt : k < n
      · obtain ⟨b, off, rfl, hcc⟩ := (H1.out.still hc.out) (by omega)
        have hck := hcc k hlt
        have hkl : (k : Int) < (n : Int) := by omega
        have hst : Hid (textTo d zs (k + 1) = (textTo d zs k ++ ⟨#[32]⟩) ++ callT (zs.getD k 0)) := rfl
        have hsz := textTo_size d zs k
        generalize zs.getD k 0 = z at hck hst
        have hcz := callT_size z
        generalize textTo d zs k = X at hsz hst
        have r1 := fun V => run_string_add_sum (P := Tryd.prog) (w := V) X ⟨#[32]⟩ (by have : (ByteArray.mk #[32]).size = 1 := rfl; omega)
        have r2 := fun V => run_string_add_sum (P := Tryd.prog) (w := V) (X ++ ⟨#[32]⟩) (callT z) (by have : (ByteArray.mk #[32]).size = 1 := rfl; rw [app_size]; omega)
        clear hcc hsz hcz
        go_wp2_with fail
        refine (spec_CallText z _).mono ?_
        rintro e w2 ⟨rfl, c2⟩
        have hc2 := Lib.hid (hc.out.trans c2)
        clear c2
        go_wp2_with fail
        go_roundw
        case rel => exact ⟨k + 1, by omega, by go_num, by rw [hst.out], hc2⟩
        case measure => simp [intOf]; omega
      · obtain rfl : k = n := by omega
        go_wp2_with fail
        go_ret
        exact ⟨ret_str hr.out.symm, C1.out.trans hc.out⟩
end Go.Proofs.YtnkbcmkngghnoaaDoor.Lib1
