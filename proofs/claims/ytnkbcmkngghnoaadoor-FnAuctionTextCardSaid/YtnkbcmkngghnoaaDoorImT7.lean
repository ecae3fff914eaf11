/- Chapter 7: the program's texts of auctions and contracts. (Written by wip/gen7t.py.) -/
import Derived.Test.YtnkbcmkngghnoaaDoorBuild7
import Derived.Test.YtnkbcmkngghnoaaDoorAucN7
import Derived.Test.YtnkbcmkngghnoaaDoorPbC7
namespace Go.Proofs.YtnkbcmkngghnoaaDoor.Lib1
open Go.RowKit
set_option maxRecDepth 100000

theorem ret_str7 {a b : ByteArray} (h : a = b) : Ending.returned (.string a) = .returned (.string b) := by rw [h]

set_option maxHeartbeats 4000000 in
/-- The program's AuctionText. -/
theorem impl_AuctionText : AucTextF 9 := fun d A n c zs w h hn hcap => by
  have B0 := Lib.hid (ABox.new w d A n c)
  have H := Lib.hid (h.still (Chg.of_alloc w (.cells #[.int .i64 d, .slice A n c] 26) 0 0))
  have C0 := Lib.hid (Chg.of_alloc w (.cells #[.int .i64 d, .slice A n c] 26) 0 0)
  have HT : Hid (aucN d zs n = if inB d 0 3 && validTo zs n then textTo d zs n else ⟨#[]⟩) := rfl
  clear h
  go_enter Tryd.func9, Tryd.ntmps9
  go_wp2_with (refine wpList_load_row rfl 26 _ rfl w.heap.size rfl 26 #[.int .i64 d, .slice A n c] (0, 0) _ B0.out Tryd.underlying26 rfl (auc_info d A n c) ?_)
  refine (impl_IsAuction d A n c zs _ H.out hn hcap).mono ?_
  rintro e w1 ⟨rfl, c1⟩
  have H1 := Lib.hid (H.out.still c1)
  have B1 := Lib.hid (B0.out.still c1)
  have C1 := Lib.hid (C0.out.trans c1)
  clear H B0 C0 c1
  cases hv : inB d 0 3 && validTo zs n
  · have hr : Hid (aucN d zs n = ⟨#[]⟩) := by show _ = _; rw [HT.out, hv]; rfl
    go_wp2_with fail
    go_ret
    exact ⟨ret_str7 hr.out.symm, C1.out⟩
  have hr : Hid (aucN d zs n = textTo d zs n) := by show _ = _; rw [HT.out, hv]; rfl
  obtain ⟨hd, hv2⟩ := valid_of hv
  have hn319 := valid_319 hv2
  clear hv HT
  have ca := Chg.of_alloc w1 (.cells #[.pointer none, .slice none 0 0] 51) 0 0
  have I1 := Lib.hid (TB.new w1)
  have H2 := Lib.hid (H1.out.still ca)
  have K1 := Lib.hid ((Below.refl w1.heap.size w1).alloc (Nat.le_refl _) (.cells #[.pointer none, .slice none 0 0] 51))
  have B2 := Lib.hid (B1.out.still ca)
  have b0 := B2.out.c0
  have hg : w.heap.size < w1.heap.size := lt_of_block B1.out
  have z1 : w1.heap.size < (w1.alloc (.cells #[.pointer none, .slice none 0 0] 51)).heap.size := by simp
  have HS := Lib.hid (show seatT d ++ ⟨#[58]⟩ = textTo d zs 0 from rfl)
  have HD : d = 0 ∨ d = 1 ∨ d = 2 ∨ d = 3 := by omega
  have HQ : Hid (∀ q off, A = some ⟨q, off, none⟩ → 0 < n → q < w1.heap.size) := fun q off e h0 => by
    obtain ⟨q', off', e', hc⟩ := H1.out h0
    rw [e] at e'
    injection e' with e'
    injection e' with ea _ _
    subst ea
    exact lt_of_cell (hc 0 h0)
  clear ca B1 H1 hv2
  obtain ⟨S, hS⟩ : ∃ S, S = seatT d := ⟨_, rfl⟩
  have HSS := Lib.hid hS
  rw [← hS] at HS
  have hSz : S.size = 1 := by rw [hS]; rfl
  have hsl : ∀ V : World, (Instr.slice 9 (.string ⟨#[78, 69, 83, 87]⟩) (some (.int .i64 d)) (some (.int .i64 (d + 1))) none).run Tryd.prog V = .ok (.string S) V := fun V => by
    rw [hS]
    rcases HD with rfl | rfl | rfl | rfl <;> kernel_rfl
  clear hS
  obtain ⟨d0, d1⟩ := hd
  clear HD
  go_wp2_with fail
  generalize w1.alloc (.cells #[.pointer none, .slice none 0 0] 51) = W at I1 H2 K1 B2 b0 z1 ⊢
  clear b0
  obtain ⟨b, hb⟩ : ∃ b, b = w1.heap.size := ⟨_, rfl⟩
  have HBB := Lib.hid hb
  rw [← hb] at I1 hg z1 HQ K1 ⊢
  clear hb
  refine (I1.out.write S (by rw [hSz]; decide) (by omega)).mono ?_
  rintro e w2 ⟨rfl, i2, k2⟩
  have I2 := Lib.hid (show TB w2 b S by
    have e : (⟨#[]⟩ : ByteArray) ++ S = S := by
      have : ((⟨#[]⟩ : ByteArray) ++ S).data.toList = S.data.toList := by rw [app_data]; rfl
      rw [← text_back ((⟨#[]⟩ : ByteArray) ++ S), this, text_back]
    rwa [e] at i2)
  have K2 := Lib.hid k2
  have z2 := k2.size
  clear i2 k2 I1 hsl
  go_wp2_with fail
  refine (I2.out.write ⟨#[58]⟩ (by rw [hSz]; decide) (by omega)).mono ?_
  rw [HS.out]
  rintro e w3 ⟨rfl, i3, k3⟩
  have I3 := Lib.hid i3
  have K3 := Lib.hid (K2.out.trans k3)
  have z3 := k3.size
  have B3 := Lib.hid (B2.out.below K3.out hg)
  have b1 := B3.out.c1
  clear i3 k3 K2 I2
  go_wp2_with fail
  go_loopw [20] (fun i wr => ∃ k : Nat, k ≤ n ∧ i = .int .i64 k ∧ Hid (TB wr b (textTo d zs k)) ∧ Hid (Below b W wr)) (fun i _ => n - (intOf i).toNat)
  case atStart => exact ⟨0, Nat.zero_le _, rfl, I3.out, K3.out⟩
  case round =>
    obtain ⟨k, hk, rfl, hi, hb⟩ := hrel
    have hsz := textTo_size d zs k
    have hbs := hb.out.size
    by_cases hlt : k < n
    · obtain ⟨q, off, rfl, hc⟩ := H2.out (by omega)
      have hck := hc k hlt
      have hkl : (k : Int) < (n : Int) := by omega
      have hqb := HQ.out q off rfl (by omega)
      have hcr : wr.cell? ⟨q, off + k, none⟩ = some (.int .i64 (zs.getD k 0)) := by rw [World.cell?_of_block (hb.out.block q hqb)]; exact hck
      have HN := Lib.hid (show (textTo d zs k ++ ⟨#[32]⟩) ++ callT (zs.getD k 0) = textTo d zs (k + 1) from rfl)
      generalize zs.getD k 0 = x at hcr HN
      have hcx := callT_size x
      clear hc hck
      go_wp2_with fail
      refine (hi.out.write ⟨#[32]⟩ (by show _ + 1 ≤ _; omega) (by omega)).mono ?_
      rintro e w4 ⟨rfl, i4, k4⟩
      have I4 := Lib.hid i4
      have K4 := Lib.hid (hb.out.trans k4)
      have z4 := k4.size
      have hs4 : (textTo d zs k ++ ⟨#[32]⟩).size ≤ 1000 := by rw [app_size]; show _ + 1 ≤ _; omega
      clear i4 k4 hcr
      go_wp2_with fail
      refine (impl_CallText x _).mono ?_
      rintro e w5 ⟨rfl, c5⟩
      have I5 := Lib.hid (I4.out.still c5)
      have K5 := Lib.hid (Chg.above K4.out c5 (by omega) (.inr rfl))
      have z5 := c5.size
      clear c5
      go_wp2_with fail
      refine (I5.out.write (callT x) (by omega) (by omega)).mono ?_
      rw [HN.out]
      rintro e w6 ⟨rfl, i6, k6⟩
      have I6 := Lib.hid i6
      have K6 := Lib.hid (K5.out.trans k6)
      clear i6 k6
      go_wp2
      go_roundw
      case rel => exact ⟨k + 1, by omega, by go_num, I6.out, K6.out⟩
      case measure => simp [intOf]; omega
    · obtain rfl : k = n := by omega
      clear b1
      go_wp2_with fail
      refine (hi.out.text (by omega)).mono ?_
      rintro e w5 ⟨rfl, k5⟩
      have K5 := Lib.hid (hb.out.trans k5)
      clear k5
      go_wp2_with fail
      go_ret
      exact ⟨ret_str7 hr.out.symm, C1.out.trans (Chg.of_below (by rw [← HBB.out]; exact K1.out.trans K5.out) 0 0)⟩

theorem rep_X (k : Nat) (h : k ≤ 2) : (⟨(Go.Lib.repeatL (⟨#[88]⟩ : ByteArray).data.toList k).toArray⟩ : ByteArray) = (ByteArray.mk #[88, 88]).extract 0 k := by
  match k, h with
  | 0, _ => decide +kernel
  | 1, _ => decide +kernel
  | 2, _ => decide +kernel
set_option maxHeartbeats 4000000 in
/-- The program's ContractText. -/
theorem impl_ContractText : ConTextF 16 := fun l s x d w => by
  have hce : ∀ V : World, (binOp .eql 36 (.agg #[.int .i64 l, .int .i64 s, .int .i64 x, .int .i64 d]) (.agg #[.int .i64 0, .int .i64 0, .int .i64 0, .int .i64 0])).run Tryd.prog V = .ok (.bool (l == 0 && s == 0 && x == 0 && d == 0)) V := con_eq l s x d
  have C0 : Hid (Chg w (w.alloc (.cells #[.int .i64 l, .int .i64 s, .int .i64 x, .int .i64 d] 36)) 0 0) := Chg.of_alloc w (.cells (conA l s x d) 36) 0 0
  have hbx : Hid ((w.alloc (.cells #[.int .i64 l, .int .i64 s, .int .i64 x, .int .i64 d] 36)).heap[w.heap.size]? = some (.cells #[.int .i64 l, .int .i64 s, .int .i64 x, .int .i64 d] 36 (0, 0))) := heap_alloc_new w _
  have HT : Hid (conT l s x d = if !isConV l s x d then ⟨#[]⟩ else if l = 0 then ⟨#[112, 97, 115, 115]⟩ else (callT (bidV l s) ++ (ByteArray.mk #[88, 88]).extract 0 x.toNat) ++ seatT d) := rfl
  have hrg := con_range l s x d
  have hz : isConV l s x d = true → l = 0 → (l == 0 && s == 0 && x == 0 && d == 0) = true := fun e e0 => by
    subst e0
    unfold isConV at e
    rw [inB_false (show ¬ (1 ≤ (0 : Int) ∧ (0 : Int) ≤ 7) by omega)] at e
    simpa using e
  have hz2 : (l == 0 && s == 0 && x == 0 && d == 0) = true → l = 0 := fun e => by
    simp at e; exact e.1.1.1
  go_enter Tryd.func16, Tryd.ntmps16
  go_wp2_with (refine wpList_load_row rfl 36 _ rfl w.heap.size rfl 36 _ (0, 0) _ hbx.out Tryd.underlying36 rfl (by kernel_rfl) ?_)
  generalize w.alloc (.cells #[.int .i64 l, .int .i64 s, .int .i64 x, .int .i64 d] 36) = W at C0 hbx ⊢
  refine (impl_IsContract l s x d _).mono ?_
  rintro e w1 ⟨rfl, c1⟩
  have hb1 := Lib.hid ((c1.block w.heap.size (lt_of_block hbx.out) (.inr (Nat.zero_le _))).trans hbx.out)
  have C1 := Lib.hid (C0.out.trans c1)
  clear c1 hbx C0
  cases hv : isConV l s x d
  · have hr : Hid (conT l s x d = ⟨#[]⟩) := by show _ = _; rw [HT.out, hv]; rfl
    clear hce hrg hz hz2
    go_wp2_with fail
    go_ret
    exact ⟨ret_str7 hr.out.symm, C1.out⟩
  have hrg := hrg hv
  have hz := hz hv
  cases hq : (l == 0 && s == 0 && x == 0 && d == 0)
  rotate_left
  · have hr : Hid (conT l s x d = ⟨#[112, 97, 115, 115]⟩) := by show _ = _; rw [HT.out, hv, if_pos (hz2 hq)]; rfl
    rw [hq] at hce
    clear hrg hz hz2 hv
    go_wp2_with (refine wpList_load_row rfl 36 _ rfl w.heap.size rfl 36 #[.int .i64 l, .int .i64 s, .int .i64 x, .int .i64 d] (0, 0) _ hb1.out Tryd.underlying36 rfl (con_info l s x d) ?_)
    go_ret
    exact ⟨ret_str7 hr.out.symm, C1.out⟩
  have hl0 : l ≠ 0 := fun e => by rw [hz e] at hq; cases hq
  obtain ⟨hl, hs, hx0, hx2, hd0, hd3⟩ := hrg hl0
  have hr : Hid (conT l s x d = (callT (bidV l s) ++ (ByteArray.mk #[88, 88]).extract 0 x.toNat) ++ seatT d) := by show _ = _; rw [HT.out, hv, if_neg hl0]; rfl
  rw [hq] at hce
  have cs := callT_size (bidV l s)
  clear hq hz hz2 hv HT hrg hl0
  have q0 : w1.cell? ⟨w.heap.size, 0, none⟩ = some (.int .i64 l) := by rw [cell_of_row _ _ 0 _ _ _ hb1.out]; rfl
  have q1 : w1.cell? ⟨w.heap.size, 1, none⟩ = some (.int .i64 s) := by rw [cell_of_row _ _ 1 _ _ _ hb1.out]; rfl
  go_wp2_with (refine wpList_load_row rfl 36 _ rfl w.heap.size rfl 36 #[.int .i64 l, .int .i64 s, .int .i64 x, .int .i64 d] (0, 0) _ hb1.out Tryd.underlying36 rfl (con_info l s x d) ?_)
  refine (impl_BidOf l s _).mono ?_
  rintro e w2 ⟨rfl, c2⟩
  have hb2 := Lib.hid ((c2.block w.heap.size (lt_of_block hb1.out) (.inr (Nat.zero_le _))).trans hb1.out)
  have C2 := Lib.hid (C1.out.trans c2)
  clear c2 hb1 C1 q0 q1 hce
  generalize bidV l s = bd at hr cs ⊢
  go_wp2_with fail
  refine (impl_CallText bd _).mono ?_
  rintro e w3 ⟨rfl, c3⟩
  have hb3 := Lib.hid ((c3.block w.heap.size (lt_of_block hb2.out) (.inr (Nat.zero_le _))).trans hb2.out)
  have C3 := Lib.hid (C2.out.trans c3)
  clear c3 hb2 C2
  obtain ⟨k, hk⟩ : ∃ k : Nat, x = (k : Int) := ⟨x.toNat, by omega⟩
  subst hk
  have hkk : k ≤ 2 := by omega
  have hrep := rep_X k hkk
  have hRz : ((ByteArray.mk #[88, 88]).extract 0 k).size ≤ 2 := by
    match k, hkk with
    | 0, _ => decide
    | 1, _ => decide
    | 2, _ => decide
  have hr := Lib.hid (show conT l s (k : Int) d = (callT bd ++ (ByteArray.mk #[88, 88]).extract 0 k) ++ seatT d from hr.out)
  generalize (ByteArray.mk #[88, 88]).extract 0 k = R at hr hrep hRz
  generalize callT bd = TT at hr cs ⊢
  obtain ⟨S, hS⟩ : ∃ S, S = seatT d := ⟨_, rfl⟩
  have hSz : S.size = 1 := by rw [hS]; rfl
  have HD : d = 0 ∨ d = 1 ∨ d = 2 ∨ d = 3 := by omega
  have hsl : ∀ V : World, (Instr.slice 9 (.string ⟨#[78, 69, 83, 87]⟩) (some (.int .i64 d)) (some (.int .i64 (d + 1))) none).run Tryd.prog V = .ok (.string S) V := fun V => by
    rw [hS]
    rcases HD with rfl | rfl | rfl | rfl <;> kernel_rfl
  rw [← hS] at hr
  have ka : ∀ V : World, (Op.stringOp .add TT R).run Tryd.prog V = .ok (.string (TT ++ R)) V := fun V => run_string_add_sum V TT R (by omega)
  have kb : ∀ V : World, (Op.stringOp .add (TT ++ R) S).run Tryd.prog V = .ok (.string (TT ++ R ++ S)) V := fun V => run_string_add_sum V (TT ++ R) S (by rw [app_size]; omega)
  clear hS HD
  have s0 := Lib.hid ((Chg.of_drew (w := w3) ⟨1, rfl⟩ 0 0).block w.heap.size (lt_of_block hb3.out) (.inr (Nat.zero_le _)) |>.trans hb3.out)
  have hadd : IntKind.i64.wrap (d + 1) = d + 1 := by rw [IntKind.wrap_i64]; omega
  go_wp2_with fail
  refine wp_region_held_drew (S := fun V => V.heap[w.heap.size]? = some (.cells #[.int .i64 l, .int .i64 s, .int .i64 (k : Int), .int .i64 d] 36 (0, 0))) (by kernel_rfl) s0.out (fun hHeld => ?_)
  refine take_slotC (i := 0) (d := some 16) (v := .string TT) rfl (by kernel_rfl) (by kernel_rfl) (by kernel_rfl) (by kernel_rfl) (fun _ _ _ h => h) (.inl ⟨by kernel_rfl, fun V hV => by have q2 : V.cell? ⟨w.heap.size, 2, none⟩ = some (.int .i64 (k : Int)) := (cell_of_row _ _ 2 _ _ _ hV).trans rfl; have q3 : V.cell? ⟨w.heap.size, 3, none⟩ = some (.int .i64 d) := (cell_of_row _ _ 3 _ _ _ hV).trans rfl; go_simp⟩) hHeld ?_
  try simp only [Act.put, List.setIfInBounds_toArray, List.set_cons_zero, List.set_cons_succ]
  refine take_slotC (i := 1) (d := some 17) (v := .pointer (some ⟨w.heap.size, 2, none⟩)) rfl (by kernel_rfl) (by kernel_rfl) (by kernel_rfl) (by kernel_rfl) (fun _ _ _ h => h) (.inl ⟨by kernel_rfl, fun V hV => by have q2 : V.cell? ⟨w.heap.size, 2, none⟩ = some (.int .i64 (k : Int)) := (cell_of_row _ _ 2 _ _ _ hV).trans rfl; have q3 : V.cell? ⟨w.heap.size, 3, none⟩ = some (.int .i64 d) := (cell_of_row _ _ 3 _ _ _ hV).trans rfl; go_simp⟩) hHeld ?_
  try simp only [Act.put, List.setIfInBounds_toArray, List.set_cons_zero, List.set_cons_succ]
  refine take_slotC (i := 2) (d := some 18) (v := .int .i64 (k : Int)) rfl (by kernel_rfl) (by kernel_rfl) (by kernel_rfl) (by kernel_rfl) (fun _ _ _ h => h) (.inl ⟨by kernel_rfl, fun V hV => by have q2 : V.cell? ⟨w.heap.size, 2, none⟩ = some (.int .i64 (k : Int)) := (cell_of_row _ _ 2 _ _ _ hV).trans rfl; have q3 : V.cell? ⟨w.heap.size, 3, none⟩ = some (.int .i64 d) := (cell_of_row _ _ 3 _ _ _ hV).trans rfl; go_simp⟩) hHeld ?_
  try simp only [Act.put, List.setIfInBounds_toArray, List.set_cons_zero, List.set_cons_succ]
  refine take_slotC (i := 5) (d := some 21) (v := .pointer (some ⟨w.heap.size, 3, none⟩)) rfl (by kernel_rfl) (by kernel_rfl) (by kernel_rfl) (by kernel_rfl) (fun _ _ _ h => h) (.inl ⟨by kernel_rfl, fun V hV => by have q2 : V.cell? ⟨w.heap.size, 2, none⟩ = some (.int .i64 (k : Int)) := (cell_of_row _ _ 2 _ _ _ hV).trans rfl; have q3 : V.cell? ⟨w.heap.size, 3, none⟩ = some (.int .i64 d) := (cell_of_row _ _ 3 _ _ _ hV).trans rfl; go_simp⟩) hHeld ?_
  try simp only [Act.put, List.setIfInBounds_toArray, List.set_cons_zero, List.set_cons_succ]
  refine take_slotC (i := 6) (d := some 22) (v := .int .i64 d) rfl (by kernel_rfl) (by kernel_rfl) (by kernel_rfl) (by kernel_rfl) (fun _ _ _ h => h) (.inl ⟨by kernel_rfl, fun V hV => by have q2 : V.cell? ⟨w.heap.size, 2, none⟩ = some (.int .i64 (k : Int)) := (cell_of_row _ _ 2 _ _ _ hV).trans rfl; have q3 : V.cell? ⟨w.heap.size, 3, none⟩ = some (.int .i64 d) := (cell_of_row _ _ 3 _ _ _ hV).trans rfl; go_simp⟩) hHeld ?_
  try simp only [Act.put, List.setIfInBounds_toArray, List.set_cons_zero, List.set_cons_succ]
  refine take_slotC (i := 7) (d := some 23) (v := .pointer (some ⟨w.heap.size, 3, none⟩)) rfl (by kernel_rfl) (by kernel_rfl) (by kernel_rfl) (by kernel_rfl) (fun _ _ _ h => h) (.inl ⟨by kernel_rfl, fun V hV => by have q2 : V.cell? ⟨w.heap.size, 2, none⟩ = some (.int .i64 (k : Int)) := (cell_of_row _ _ 2 _ _ _ hV).trans rfl; have q3 : V.cell? ⟨w.heap.size, 3, none⟩ = some (.int .i64 d) := (cell_of_row _ _ 3 _ _ _ hV).trans rfl; go_simp⟩) hHeld ?_
  try simp only [Act.put, List.setIfInBounds_toArray, List.set_cons_zero, List.set_cons_succ]
  refine take_slotC (i := 8) (d := some 24) (v := .int .i64 d) rfl (by kernel_rfl) (by kernel_rfl) (by kernel_rfl) (by kernel_rfl) (fun _ _ _ h => h) (.inl ⟨by kernel_rfl, fun V hV => by have q2 : V.cell? ⟨w.heap.size, 2, none⟩ = some (.int .i64 (k : Int)) := (cell_of_row _ _ 2 _ _ _ hV).trans rfl; have q3 : V.cell? ⟨w.heap.size, 3, none⟩ = some (.int .i64 d) := (cell_of_row _ _ 3 _ _ _ hV).trans rfl; go_simp⟩) hHeld ?_
  try simp only [Act.put, List.setIfInBounds_toArray, List.set_cons_zero, List.set_cons_succ]
  refine take_slotC (i := 9) (d := some 25) (v := .int .i64 (d + 1)) rfl (by kernel_rfl) (by kernel_rfl) (by kernel_rfl) (by kernel_rfl) (fun _ _ _ h => h) (.inl ⟨by kernel_rfl, fun V hV => by have q2 : V.cell? ⟨w.heap.size, 2, none⟩ = some (.int .i64 (k : Int)) := (cell_of_row _ _ 2 _ _ _ hV).trans rfl; have q3 : V.cell? ⟨w.heap.size, 3, none⟩ = some (.int .i64 d) := (cell_of_row _ _ 3 _ _ _ hV).trans rfl; go_simp⟩) hHeld ?_
  try simp only [Act.put, List.setIfInBounds_toArray, List.set_cons_zero, List.set_cons_succ]
  refine take_slotC (i := 10) (d := some 26) (v := .string S) rfl (by kernel_rfl) (by kernel_rfl) (by kernel_rfl) (by kernel_rfl) (fun _ _ _ h => h) (.inl ⟨by kernel_rfl, fun V hV => by have q2 : V.cell? ⟨w.heap.size, 2, none⟩ = some (.int .i64 (k : Int)) := (cell_of_row _ _ 2 _ _ _ hV).trans rfl; have q3 : V.cell? ⟨w.heap.size, 3, none⟩ = some (.int .i64 d) := (cell_of_row _ _ 3 _ _ _ hV).trans rfl; go_simp⟩) hHeld ?_
  try simp only [Act.put, List.setIfInBounds_toArray, List.set_cons_zero, List.set_cons_succ]
  refine wpAnyH_ready (rs := [3]) (by kernel_rfl) (by simp) (AllReadyH.cons (i := 3) rfl (fun K' hK' => ?_) AllReadyH.nil)
  go_simp
  refine (Tryd.strings_Repeat ⟨#[88]⟩ k _ (by omega) (by show 1 * k ≤ _; omega)).mono ?_
  rw [hrep]
  rintro e w6 ⟨rfl, b6⟩
  have C6 := Lib.hid ((Chg.of_drew (w := w3) ⟨1, rfl⟩ 0 0).trans (Chg.of_below b6 0 0))
  have hb6 := (b6.block w.heap.size (lt_of_block hHeld)).trans hHeld
  clear b6
  refine hK'.out _ _ hb6 (fun hHeld => ?_)
  clear hK'
  try simp only [Act.put, List.setIfInBounds_toArray, List.set_cons_zero, List.set_cons_succ]
  refine take_slotC (i := 4) (d := some 20) (v := .string (TT ++ R)) rfl (by kernel_rfl) (by kernel_rfl) (by kernel_rfl) (by kernel_rfl) (fun _ _ _ h => h) (.inl ⟨by kernel_rfl, fun V hV => by have q2 : V.cell? ⟨w.heap.size, 2, none⟩ = some (.int .i64 (k : Int)) := (cell_of_row _ _ 2 _ _ _ hV).trans rfl; have q3 : V.cell? ⟨w.heap.size, 3, none⟩ = some (.int .i64 d) := (cell_of_row _ _ 3 _ _ _ hV).trans rfl; go_simp⟩) hHeld ?_
  try simp only [Act.put, List.setIfInBounds_toArray, List.set_cons_zero, List.set_cons_succ]
  refine take_slotC (i := 11) (d := some 27) (v := .string (TT ++ R ++ S)) rfl (by kernel_rfl) (by kernel_rfl) (by kernel_rfl) (by kernel_rfl) (fun _ _ _ h => h) (.inl ⟨by kernel_rfl, fun V hV => by have q2 : V.cell? ⟨w.heap.size, 2, none⟩ = some (.int .i64 (k : Int)) := (cell_of_row _ _ 2 _ _ _ hV).trans rfl; have q3 : V.cell? ⟨w.heap.size, 3, none⟩ = some (.int .i64 d) := (cell_of_row _ _ 3 _ _ _ hV).trans rfl; go_simp⟩) hHeld ?_
  try simp only [Act.put, List.setIfInBounds_toArray, List.set_cons_zero, List.set_cons_succ]
  refine take_slotC (i := 12) (d := some 2) (v := .string (TT ++ R ++ S)) rfl (by kernel_rfl) (by kernel_rfl) (by kernel_rfl) (by kernel_rfl) (fun _ _ _ h => h) (.inl ⟨by kernel_rfl, fun V hV => by have q2 : V.cell? ⟨w.heap.size, 2, none⟩ = some (.int .i64 (k : Int)) := (cell_of_row _ _ 2 _ _ _ hV).trans rfl; have q3 : V.cell? ⟨w.heap.size, 3, none⟩ = some (.int .i64 d) := (cell_of_row _ _ 3 _ _ _ hV).trans rfl; go_simp⟩) hHeld ?_
  try simp only [Act.put, List.setIfInBounds_toArray, List.set_cons_zero, List.set_cons_succ]
  refine wpAnyH_done (by kernel_rfl) ?_ _
  go_wp2_with fail
  go_ret
  exact ⟨ret_str7 hr.out.symm, C3.out.trans C6.out⟩
end Go.Proofs.YtnkbcmkngghnoaaDoor.Lib1
