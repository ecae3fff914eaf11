/- Chapter 8, the model: the end of a play, whose turn it is, legal cards, leaders, tricks. (Written by wip/gen8d.py.) -/
import Derived.Test.YteglffbeldlibaaPlayO8
namespace Go.Proofs.Yteglffbeldlibaa.Lib1
open Go.RowKit
set_option maxRecDepth 100000

set_option maxHeartbeats 4000000 in
/-- spec.l08Done -/
theorem l08Done (A' : Option Addr) (n' c' : Nat) (zss : List (List Int)) (st ld : Int) (A : Option Addr) (n c : Nat) (cs : List Int) (w : World) (hD : RdR w 0 w.heap.size A' n' zss) (h0 : 0 < n') (hL : (zss.getD 0 []).length ≤ 1048576) (h : Rd w 0 w.heap.size A n cs) (_ : n ≤ 1048576) :
    Calls Try.prog 71 #[.agg #[.slice A' n' c'], .agg #[.int .i64 st, .int .i64 ld, .slice A n c]] w fun e w' => e = .returned (.bool (doneB zss cs)) ∧ Chg w w' 0 0 := by
  have hl := h.1
  obtain ⟨L, hLL⟩ : ∃ L, L = (zss.getD 0 []).length := ⟨_, rfl⟩
  have HR : Hid (((n : Int) == 4 * (L : Int)) = doneB zss cs) := by
    show _ = _
    unfold doneB
    rw [hl, ← hLL]
    by_cases e : n = 4 * L
    · rw [decide_eq_true e]; simp; omega
    · rw [decide_eq_false e]; simp; omega
  obtain ⟨R, hR⟩ : ∃ R, R = doneB zss cs := ⟨_, rfl⟩
  rw [← hR] at HR ⊢
  rw [← hLL] at hL
  have HLL := Lib.hid hLL
  clear hR hLL hl
  have e1 : (w.alloc (.cells #[.slice A' n' c'] 26)).heap.size = w.heap.size + 1 := by simp
  have c1 := Chg.of_alloc w (.cells #[.slice A' n' c'] 26) 0 0
  have c2 := Chg.of_alloc (w.alloc (.cells #[.slice A' n' c'] 26)) (.cells #[.int .i64 st, .int .i64 ld, .slice A n c] 29) 0 0
  have x1 := (SBox.new w 26 #[.slice A' n' c']).still c2
  have x2 := SBox.new (w.alloc (.cells #[.slice A' n' c'] 26)) 29 #[.int .i64 st, .int .i64 ld, .slice A n c]
  rw [e1] at x2
  have C0 := Lib.hid (c1.trans c2)
  have X1 := Lib.hid x1
  have X2 := Lib.hid x2
  have z0 : w.heap.size + 1 < ((w.alloc (.cells #[.slice A' n' c'] 26)).alloc (.cells #[.int .i64 st, .int .i64 ld, .slice A n c] 29)).heap.size := by simp
  have D0 := Lib.hid (hD.still C0.out)
  have H0 := Lib.hid (h.still C0.out)
  clear hD h e1 c1 c2 x1 x2
  go_enter Try.func71, Try.ntmps71
  go_wp2_with fail
  generalize ((w.alloc (.cells #[.slice A' n' c'] 26)).alloc (.cells #[.int .i64 st, .int .i64 ld, .slice A n c] 29)) = W at C0 X1 X2 D0 H0 z0 ⊢
  obtain ⟨b, off, B, C, rfl, _, _, hcell, _, _, _⟩ := D0.out.at_ h0
  rw [← HLL.out, Nat.add_zero] at hcell
  have hRR := HR.out
  have h0i : (0 : Int) < (n' : Int) := by omega
  have m1 : IntKind.i64.wrap (4 * (L : Int)) = 4 * (L : Int) := by rw [IntKind.wrap_i64]; omega
  have cd : Chg W W.drew 0 0 := Chg.of_drew ⟨1, rfl⟩ 0 0
  have S0 : (SBox W.drew 26 w.heap.size #[.slice (some ⟨b, off, none⟩) n' c'] ∧ SBox W.drew 29 (w.heap.size + 1) #[.int .i64 st, .int .i64 ld, .slice A n c]) ∧ W.drew.cell? ⟨b, off, none⟩ = some (.slice B L C) := ⟨⟨X1.out.still cd, X2.out.still cd⟩, hcell⟩
  refine wp_region_held_drew (S := fun V => (SBox V 26 w.heap.size #[.slice (some ⟨b, off, none⟩) n' c'] ∧ SBox V 29 (w.heap.size + 1) #[.int .i64 st, .int .i64 ld, .slice A n c]) ∧ V.cell? ⟨b, off, none⟩ = some (.slice B L C)) (by kernel_rfl) S0 (fun hHeld => ?_)
  refine take_slotC (i := 0) (d := some 5) (v := .pointer (some ⟨w.heap.size + 1, 2, none⟩)) rfl (by kernel_rfl) (by kernel_rfl) (by kernel_rfl) (by kernel_rfl) (fun _ _ _ h => h) (.inl ⟨by kernel_rfl, fun V hV => by obtain ⟨⟨hV1, hV2⟩, hV3⟩ := hV; have hV4 := hV2.p2; have hV5 := (hV1.cell 0).trans rfl; go_simp⟩) hHeld ?_
  try simp only [Act.put, List.setIfInBounds_toArray, List.set_cons_zero, List.set_cons_succ]
  refine take_slotC (i := 1) (d := some 6) (v := .slice A n c) rfl (by kernel_rfl) (by kernel_rfl) (by kernel_rfl) (by kernel_rfl) (fun _ _ _ h => h) (.inl ⟨by kernel_rfl, fun V hV => by obtain ⟨⟨hV1, hV2⟩, hV3⟩ := hV; have hV4 := hV2.p2; have hV5 := (hV1.cell 0).trans rfl; go_simp⟩) hHeld ?_
  try simp only [Act.put, List.setIfInBounds_toArray, List.set_cons_zero, List.set_cons_succ]
  refine take_slotC (i := 2) (d := some 7) (v := .int .i64 (n : Int)) rfl (by kernel_rfl) (by kernel_rfl) (by kernel_rfl) (by kernel_rfl) (fun _ _ _ h => h) (.inl ⟨by kernel_rfl, fun V hV => by obtain ⟨⟨hV1, hV2⟩, hV3⟩ := hV; have hV4 := hV2.p2; have hV5 := (hV1.cell 0).trans rfl; go_simp⟩) hHeld ?_
  try simp only [Act.put, List.setIfInBounds_toArray, List.set_cons_zero, List.set_cons_succ]
  refine take_slotC (i := 3) (d := some 8) (v := .pointer (some ⟨w.heap.size, 0, none⟩)) rfl (by kernel_rfl) (by kernel_rfl) (by kernel_rfl) (by kernel_rfl) (fun _ _ _ h => h) (.inl ⟨by kernel_rfl, fun V hV => by obtain ⟨⟨hV1, hV2⟩, hV3⟩ := hV; have hV4 := hV2.p2; have hV5 := (hV1.cell 0).trans rfl; go_simp⟩) hHeld ?_
  try simp only [Act.put, List.setIfInBounds_toArray, List.set_cons_zero, List.set_cons_succ]
  refine take_slotC (i := 4) (d := some 9) (v := .slice (some ⟨b, off, none⟩) n' c') rfl (by kernel_rfl) (by kernel_rfl) (by kernel_rfl) (by kernel_rfl) (fun _ _ _ h => h) (.inl ⟨by kernel_rfl, fun V hV => by obtain ⟨⟨hV1, hV2⟩, hV3⟩ := hV; have hV4 := hV2.p2; have hV5 := (hV1.cell 0).trans rfl; go_simp⟩) hHeld ?_
  try simp only [Act.put, List.setIfInBounds_toArray, List.set_cons_zero, List.set_cons_succ]
  refine take_slotC (i := 5) (d := some 10) (v := .pointer (some ⟨b, off, none⟩)) rfl (by kernel_rfl) (by kernel_rfl) (by kernel_rfl) (by kernel_rfl) (fun _ _ _ h => h) (.inl ⟨by kernel_rfl, fun V hV => by obtain ⟨⟨hV1, hV2⟩, hV3⟩ := hV; have hV4 := hV2.p2; have hV5 := (hV1.cell 0).trans rfl; go_simp⟩) hHeld ?_
  try simp only [Act.put, List.setIfInBounds_toArray, List.set_cons_zero, List.set_cons_succ]
  refine take_slotC (i := 6) (d := some 11) (v := .slice B L C) rfl (by kernel_rfl) (by kernel_rfl) (by kernel_rfl) (by kernel_rfl) (fun _ _ _ h => h) (.inl ⟨by kernel_rfl, fun V hV => by obtain ⟨⟨hV1, hV2⟩, hV3⟩ := hV; have hV4 := hV2.p2; have hV5 := (hV1.cell 0).trans rfl; go_simp⟩) hHeld ?_
  try simp only [Act.put, List.setIfInBounds_toArray, List.set_cons_zero, List.set_cons_succ]
  refine take_slotC (i := 7) (d := some 12) (v := .int .i64 (L : Int)) rfl (by kernel_rfl) (by kernel_rfl) (by kernel_rfl) (by kernel_rfl) (fun _ _ _ h => h) (.inl ⟨by kernel_rfl, fun V hV => by obtain ⟨⟨hV1, hV2⟩, hV3⟩ := hV; have hV4 := hV2.p2; have hV5 := (hV1.cell 0).trans rfl; go_simp⟩) hHeld ?_
  try simp only [Act.put, List.setIfInBounds_toArray, List.set_cons_zero, List.set_cons_succ]
  refine take_slotC (i := 8) (d := some 13) (v := .int .i64 (4 * (L : Int))) rfl (by kernel_rfl) (by kernel_rfl) (by kernel_rfl) (by kernel_rfl) (fun _ _ _ h => h) (.inl ⟨by kernel_rfl, fun V hV => by obtain ⟨⟨hV1, hV2⟩, hV3⟩ := hV; have hV4 := hV2.p2; have hV5 := (hV1.cell 0).trans rfl; go_simp⟩) hHeld ?_
  try simp only [Act.put, List.setIfInBounds_toArray, List.set_cons_zero, List.set_cons_succ]
  refine take_slotC (i := 9) (d := some 14) (v := .bool R) rfl (by kernel_rfl) (by kernel_rfl) (by kernel_rfl) (by kernel_rfl) (fun _ _ _ h => h) (.inl ⟨by kernel_rfl, fun V hV => by obtain ⟨⟨hV1, hV2⟩, hV3⟩ := hV; have hV4 := hV2.p2; have hV5 := (hV1.cell 0).trans rfl; go_simp⟩) hHeld ?_
  try simp only [Act.put, List.setIfInBounds_toArray, List.set_cons_zero, List.set_cons_succ]
  refine take_slotC (i := 10) (d := some 4) (v := .bool R) rfl (by kernel_rfl) (by kernel_rfl) (by kernel_rfl) (by kernel_rfl) (fun _ _ _ h => h) (.inl ⟨by kernel_rfl, fun V hV => by obtain ⟨⟨hV1, hV2⟩, hV3⟩ := hV; have hV4 := hV2.p2; have hV5 := (hV1.cell 0).trans rfl; go_simp⟩) hHeld ?_
  try simp only [Act.put, List.setIfInBounds_toArray, List.set_cons_zero, List.set_cons_succ]
  refine wpAnyH_done (by kernel_rfl) ?_ _
  go_wp2_with fail
  go_ret
  exact ⟨rfl, C0.out.trans cd⟩

theorem turn_ok {zss : List (List Int)} {st ld : Int} {cs : List Int} (h : playB zss st ld cs = true) : dealB zss = true ∧ (0 ≤ ld ∧ ld ≤ 3) ∧ ∀ j, j < cs.length → 0 ≤ cs.getD j 0 ∧ cs.getD j 0 ≤ 51 := by
  unfold playB at h
  simp only [Bool.and_eq_true] at h
  obtain ⟨hdf, _, hld, _⟩ := plain_parts h.1.2
  exact ⟨h.1.1, hld, diff_cards hdf⟩
set_option maxHeartbeats 8000000 in
/-- spec.TurnOf -/
theorem spec_TurnOf (A' : Option Addr) (n' c' : Nat) (zss : List (List Int)) (st ld : Int) (A : Option Addr) (n c : Nat) (cs : List Int) (w : World) (hD : RdR w 0 w.heap.size A' n' zss) (hlz : ∀ j, j < n' → (zss.getD j []).length ≤ 1048576) (h : Rd w 0 w.heap.size A n cs) (hn : n ≤ 1048576) (hcap : n ≤ c) (hnil : A = none → c = 0) :
    Calls Try.prog 21 #[.agg #[.slice A' n' c'], .agg #[.int .i64 st, .int .i64 ld, .slice A n c]] w fun e w' => e = .returned (.int .i64 (turnV zss st ld cs)) ∧ Chg w w' 0 0 := by
  have hl := Lib.hid h.1
  have hn' := Lib.hid hD.1
  have HT := Lib.hid (show turnV zss st ld cs = if playB zss st ld cs && !doneB zss cs then turnL st ld cs else -1 from rfl)
  obtain ⟨R, hR⟩ : ∃ R, R = turnV zss st ld cs := ⟨_, rfl⟩
  rw [← hR] at HT ⊢
  clear hR
  have e1 : (w.alloc (.cells #[.slice A' n' c'] 26)).heap.size = w.heap.size + 1 := by simp
  have c1 := Chg.of_alloc w (.cells #[.slice A' n' c'] 26) 0 0
  have c2 := Chg.of_alloc (w.alloc (.cells #[.slice A' n' c'] 26)) (.cells #[.int .i64 st, .int .i64 ld, .slice A n c] 29) 0 0
  have x1 := (SBox.new w 26 #[.slice A' n' c']).still c2
  have x2 := SBox.new (w.alloc (.cells #[.slice A' n' c'] 26)) 29 #[.int .i64 st, .int .i64 ld, .slice A n c]
  rw [e1] at x2
  have C0 := Lib.hid (c1.trans c2)
  have X1 := Lib.hid x1
  have X2 := Lib.hid x2
  have z0 : w.heap.size + 1 < ((w.alloc (.cells #[.slice A' n' c'] 26)).alloc (.cells #[.int .i64 st, .int .i64 ld, .slice A n c] 29)).heap.size := by simp
  have D0 := Lib.hid (hD.still C0.out)
  have H0 := Lib.hid (h.still C0.out)
  clear hD h e1 c1 c2 x1 x2
  go_enter Try.func21, Try.ntmps21
  go_wp2_with (first | (refine wpList_load_row rfl 26 _ rfl w.heap.size rfl 26 #[.slice A' n' c'] (0, 0) _ X1.out Try.underlying26 rfl (deal_info7 _) ?_) | (refine wpList_load_row rfl 29 _ rfl (w.heap.size + 1) rfl 29 #[.int .i64 st, .int .i64 ld, .slice A n c] (0, 0) _ X2.out Try.underlying29 rfl (play_info _ _ _ _ _) ?_))
  generalize ((w.alloc (.cells #[.slice A' n' c'] 26)).alloc (.cells #[.int .i64 st, .int .i64 ld, .slice A n c] 29)) = W at C0 X1 X2 D0 H0 z0 ⊢
  refine (spec_IsPlay A' n' c' zss st ld A n c cs W (D0.out.more (Nat.le_refl 0) (by omega)) hlz (H0.out.more (Nat.le_refl 0) (by omega)) hn hcap hnil).mono ?_
  rintro e w1 ⟨rfl, c1⟩
  have Y1 := Lib.hid (X1.out.still c1)
  have Y2 := Lib.hid (X2.out.still c1)
  have D1 := Lib.hid (D0.out.still c1)
  have R1 := Lib.hid (H0.out.still c1)
  have C1 := Lib.hid (C0.out.trans c1)
  have z1 : w.heap.size + 1 < w1.heap.size := by have := c1.size; omega
  clear c1 X1 X2 D0 H0 C0 z0
  have p0 := Y2.out.p0
  have p1 := Y2.out.p1
  have p2 := Y2.out.p2
  have d0 : w1.cell? ⟨w.heap.size, 0, none⟩ = some (.slice A' n' c') := (Y1.out.cell 0).trans rfl
  cases hpb : playB zss st ld cs
  · have hr := Lib.hid (show R = -1 by rw [HT.out, hpb]; rfl)
    go_wp2_with fail
    go_ret
    exact ⟨ret_int8 hr.out.symm, C1.out⟩
  obtain ⟨hdl, hld, hcz⟩ := turn_ok hpb
  have HT := Lib.hid (show R = if !doneB zss cs then turnL st ld cs else -1 by rw [HT.out, hpb]; rfl)
  have hn4 := Lib.hid (show n' = 4 by rw [← hn'.out]; exact ((deal_iff zss).1 hdl).1)
  rw [hl.out] at hcz
  have HCZ := Lib.hid hcz
  clear hpb hdl hcz
  go_wp2_with fail
  refine (l08Done A' n' c' zss st ld A n c cs _ (D1.out.more (Nat.le_refl 0) (by omega)) (by have := hn4.out; omega) (hlz 0 (by have := hn4.out; omega)) (R1.out.more (Nat.le_refl 0) (by omega)) hn).mono ?_
  rintro e w2 ⟨rfl, c2⟩
  have X2 := Lib.hid (Y2.out.still c2)
  have R2 := Lib.hid (R1.out.still c2)
  have C2 := Lib.hid (C1.out.trans c2)
  have z2 : w.heap.size + 1 < w2.heap.size := by have := c2.size; omega
  clear c2 Y1 Y2 D1 R1 C1 z1 p0 p1 p2 d0
  cases hdn : doneB zss cs
  · have hr := Lib.hid (show R = turnL st ld cs by rw [HT.out, hdn]; rfl)
    clear hdn
    go_wp2_with (refine wpList_load_row rfl 29 _ rfl (w.heap.size + 1) rfl 29 #[.int .i64 st, .int .i64 ld, .slice A n c] (0, 0) _ X2.out Try.underlying29 rfl (play_info _ _ _ _ _) ?_)
    refine (l08Turn st ld A n c cs _ (R2.out.more (Nat.le_refl 0) (by omega)) hn hcap HCZ.out hld).mono ?_
    rintro e w3 ⟨rfl, c3⟩
    have C3 := Lib.hid (C2.out.trans c3)
    clear c3
    go_wp2_with fail
    go_ret
    exact ⟨ret_int8 hr.out.symm, C3.out⟩
  · have hr := Lib.hid (show R = -1 by rw [HT.out, hdn]; rfl)
    clear hdn
    go_wp2_with fail
    go_ret
    exact ⟨ret_int8 hr.out.symm, C2.out⟩

theorem RetS.nil_ (w w' : World) (c : Chg w w' 0 0) : RetS w [] (.returned (.slice none 0 0)) w' := RetS.of_V ⟨_, rfl, OwnV.nil_ _ _, c.to_below⟩
set_option maxHeartbeats 8000000 in
/-- spec.LegalCards -/
theorem spec_LegalCards (A' : Option Addr) (n' c' : Nat) (zss : List (List Int)) (st ld : Int) (A : Option Addr) (n c : Nat) (cs : List Int) (w : World) (hD : RdR w 0 w.heap.size A' n' zss) (hlz : ∀ j, j < n' → (zss.getD j []).length ≤ 1048576) (h : Rd w 0 w.heap.size A n cs) (hn : n ≤ 1048576) (hcap : n ≤ c) (hnil : A = none → c = 0) :
    Calls Try.prog 51 #[.agg #[.slice A' n' c'], .agg #[.int .i64 st, .int .i64 ld, .slice A n c]] w (RetS w (legV zss st ld cs)) := by
  have hl := Lib.hid h.1
  have hn' := Lib.hid hD.1
  have HT := Lib.hid (show turnV zss st ld cs = if playB zss st ld cs && !doneB zss cs then turnL st ld cs else -1 from rfl)
  have HG := Lib.hid (show legV zss st ld cs = if playB zss st ld cs && !doneB zss cs then legL zss st ld cs else [] from rfl)
  have htr := turnL_rng st ld cs
  obtain ⟨R, hR⟩ : ∃ R, R = legV zss st ld cs := ⟨_, rfl⟩
  rw [← hR] at HG ⊢
  obtain ⟨tv, htv⟩ : ∃ tv, tv = turnV zss st ld cs := ⟨_, rfl⟩
  rw [← htv] at HT
  have HTV := Lib.hid htv
  clear hR htv
  have e1 : (w.alloc (.cells #[.slice A' n' c'] 26)).heap.size = w.heap.size + 1 := by simp
  have c1 := Chg.of_alloc w (.cells #[.slice A' n' c'] 26) 0 0
  have c2 := Chg.of_alloc (w.alloc (.cells #[.slice A' n' c'] 26)) (.cells #[.int .i64 st, .int .i64 ld, .slice A n c] 29) 0 0
  have x1 := (SBox.new w 26 #[.slice A' n' c']).still c2
  have x2 := SBox.new (w.alloc (.cells #[.slice A' n' c'] 26)) 29 #[.int .i64 st, .int .i64 ld, .slice A n c]
  rw [e1] at x2
  have C0 := Lib.hid (c1.trans c2)
  have X1 := Lib.hid x1
  have X2 := Lib.hid x2
  have z0 : w.heap.size + 1 < ((w.alloc (.cells #[.slice A' n' c'] 26)).alloc (.cells #[.int .i64 st, .int .i64 ld, .slice A n c] 29)).heap.size := by simp
  have D0 := Lib.hid (hD.still C0.out)
  have H0 := Lib.hid (h.still C0.out)
  clear hD h e1 c1 c2 x1 x2
  go_enter Try.func51, Try.ntmps51
  go_wp2_with (first | (refine wpList_load_row rfl 26 _ rfl w.heap.size rfl 26 #[.slice A' n' c'] (0, 0) _ X1.out Try.underlying26 rfl (deal_info7 _) ?_) | (refine wpList_load_row rfl 29 _ rfl (w.heap.size + 1) rfl 29 #[.int .i64 st, .int .i64 ld, .slice A n c] (0, 0) _ X2.out Try.underlying29 rfl (play_info _ _ _ _ _) ?_))
  generalize ((w.alloc (.cells #[.slice A' n' c'] 26)).alloc (.cells #[.int .i64 st, .int .i64 ld, .slice A n c] 29)) = W at C0 X1 X2 D0 H0 z0 ⊢
  refine (spec_TurnOf A' n' c' zss st ld A n c cs W (D0.out.more (Nat.le_refl 0) (by omega)) hlz (H0.out.more (Nat.le_refl 0) (by omega)) hn hcap hnil).mono ?_
  rw [← HTV.out]
  rintro e w1 ⟨rfl, c1⟩
  have Y1 := Lib.hid (X1.out.still c1)
  have Y2 := Lib.hid (X2.out.still c1)
  have D1 := Lib.hid (D0.out.still c1)
  have R1 := Lib.hid (H0.out.still c1)
  have C1 := Lib.hid (C0.out.trans c1)
  have z1 : w.heap.size + 1 < w1.heap.size := by have := c1.size; omega
  clear c1 X1 X2 D0 H0 C0 z0
  cases hb : playB zss st ld cs && !doneB zss cs
  · have ht : tv = -1 := by rw [HT.out, hb]; rfl
    have hr := Lib.hid (show R = [] by rw [HG.out, hb]; rfl)
    subst ht
    clear hb
    go_wp2_with fail
    go_ret
    rw [hr.out]
    exact RetS.nil_ _ _ C1.out
  · have ht : tv = turnL st ld cs := by rw [HT.out, hb]; rfl
    have hr := Lib.hid (show R = legL zss st ld cs by rw [HG.out, hb]; rfl)
    obtain ⟨hdl, hld, hcz⟩ := turn_ok (Bool.and_eq_true_iff.1 hb).1
    rw [hl.out] at hcz
    have HCZ := Lib.hid hcz
    have HDL := Lib.hid hdl
    have htn : ¬ tv < 0 := by omega
    clear hb ht hcz hdl htr
    go_wp2_with (first | (refine wpList_load_row rfl 26 _ rfl w.heap.size rfl 26 #[.slice A' n' c'] (0, 0) _ Y1.out Try.underlying26 rfl (deal_info7 _) ?_) | (refine wpList_load_row rfl 29 _ rfl (w.heap.size + 1) rfl 29 #[.int .i64 st, .int .i64 ld, .slice A n c] (0, 0) _ Y2.out Try.underlying29 rfl (play_info _ _ _ _ _) ?_))
    refine (l08Legal A' n' c' zss st ld A n c cs _ (D1.out.more (Nat.le_refl 0) (by omega)) HDL.out (R1.out.more (Nat.le_refl 0) (by omega)) hn hcap HCZ.out hld).mono ?_
    rintro e w2 ⟨U, cu, rfl, hcu, hpl, ho, c2⟩
    have O2 := Lib.hid (ho.more (show w.heap.size ≤ w1.heap.size by omega) (Nat.le_refl _))
    have C2 := Lib.hid (C1.out.trans c2)
    clear c2 ho
    go_wp2_with fail
    go_ret
    rw [hr.out]
    exact ⟨U, cu, rfl, hcu, hpl, O2.out, C2.out⟩

/-- The leaders of a plain play, none of another. -/
def leadV (st ld : Int) (cs : List Int) : List Int := if plainB st ld cs then leadL st ld cs (cs.length / 4 + 1) else []
set_option maxHeartbeats 4000000 in
/-- spec.TrickLeaders -/
theorem spec_TrickLeaders (st ld : Int) (A : Option Addr) (n c : Nat) (cs : List Int) (w : World) (h : Rd w 0 w.heap.size A n cs) (hn : n ≤ 1048576) (hcap : n ≤ c) :
    Calls Try.prog 46 #[.agg #[.int .i64 st, .int .i64 ld, .slice A n c]] w (RetV w (leadV st ld cs)) := by
  have hl := Lib.hid h.1
  have HR := Lib.hid (show leadV st ld cs = if plainB st ld cs then leadL st ld cs (n / 4 + 1) else [] by unfold leadV; rw [hl.out])
  have B0 := Lib.hid (SBox.new w 29 #[.int .i64 st, .int .i64 ld, .slice A n c])
  have C0 := Lib.hid (Chg.of_alloc w (.cells #[.int .i64 st, .int .i64 ld, .slice A n c] 29) 0 0)
  have z0 : w.heap.size < (w.alloc (.cells #[.int .i64 st, .int .i64 ld, .slice A n c] 29)).heap.size := by simp
  have H := Lib.hid (h.still C0.out)
  clear h
  go_enter Try.func46, Try.ntmps46
  go_wp2_with (refine wpList_load_row rfl 29 _ rfl w.heap.size rfl 29 #[.int .i64 st, .int .i64 ld, .slice A n c] (0, 0) _ B0.out Try.underlying29 rfl (play_info _ _ _ _ _) ?_)
  generalize w.alloc (.cells #[.int .i64 st, .int .i64 ld, .slice A n c] 29) = W at B0 C0 H z0 ⊢
  refine (spec_IsPlainPlay st ld A n c cs 0 w.heap.size W H.out hn hcap).mono ?_
  rintro e w1 ⟨rfl, c1⟩
  have B1 := Lib.hid (B0.out.still c1)
  have C1 := Lib.hid (C0.out.trans c1)
  have H1 := Lib.hid (H.out.still c1)
  have z1 : w.heap.size < w1.heap.size := by have := c1.size; omega
  clear c1 B0 C0 H z0
  cases hp : plainB st ld cs
  · have hr := Lib.hid (show leadV st ld cs = [] by rw [HR.out, hp]; rfl)
    clear hp
    go_wp2_with fail
    go_ret
    exact ⟨_, rfl, by rw [hr.out]; exact OwnV.nil_ _ _, C1.out.to_below⟩
  · have hr := Lib.hid (show leadV st ld cs = leadL st ld cs (n / 4 + 1) by rw [HR.out, hp]; rfl)
    obtain ⟨hdf, _, hld, _⟩ := plain_parts hp
    rw [hl.out] at hdf
    have HDF := Lib.hid (diff_cards hdf)
    clear hp hdf
    go_wp2_with (refine wpList_load_row rfl 29 _ rfl w.heap.size rfl 29 #[.int .i64 st, .int .i64 ld, .slice A n c] (0, 0) _ B1.out Try.underlying29 rfl (play_info _ _ _ _ _) ?_)
    refine (l08Leaders st ld A n c cs w1 (H1.out.more (Nat.le_refl 0) (by omega)) hn hcap HDF.out hld).mono ?_
    rintro e w2 ⟨u, rfl, ou, b2⟩
    have O2 := Lib.hid (ou.more (show w.heap.size ≤ w1.heap.size by omega))
    have K2 := Lib.hid (C1.out.to_below.trans (b2.mono (by omega)))
    clear ou b2
    go_wp2_with fail
    go_ret
    exact ⟨_, rfl, by rw [hr.out]; exact O2.out, K2.out⟩
end Go.Proofs.Yteglffbeldlibaa.Lib1
