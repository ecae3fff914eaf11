/- Chapter 8, the model: plays of a deal, whose turn it is, legal cards, leaders. (Written by wip/gen8c.py.) -/
import Derived.Test.YteglffbeldlibaaPlayN8
import Derived.Test.YteglffbeldlibaaS03
namespace Go.Proofs.Yteglffbeldlibaa.Lib1
open Go.RowKit
set_option maxRecDepth 100000

theorem take_getD {cs : List Int} {k j : Nat} (h : j < k) : (cs.take k).getD j 0 = cs.getD j 0 := by simp [List.getD, h]
theorem diff_cards {cs : List Int} {n : Nat} (h : diffTo cs n = true) : ∀ j, j < n → 0 ≤ cs.getD j 0 ∧ cs.getD j 0 ≤ 51 := fun _ hj => diff_card h hj
set_option maxHeartbeats 8000000 in
/-- spec.IsPlay -/
theorem spec_IsPlay (A' : Option Addr) (n' c' : Nat) (zss : List (List Int)) (st ld : Int) (A : Option Addr) (n c : Nat) (cs : List Int) (w : World) (hD : RdR w 0 w.heap.size A' n' zss) (hlz : ∀ j, j < n' → (zss.getD j []).length ≤ 1048576) (h : Rd w 0 w.heap.size A n cs) (hn : n ≤ 1048576) (hcap : n ≤ c) (hnil : A = none → c = 0) :
    Calls Try.prog 37 #[.agg #[.slice A' n' c'], .agg #[.int .i64 st, .int .i64 ld, .slice A n c]] w fun e w' => e = .returned (.bool (playB zss st ld cs)) ∧ Chg w w' 0 0 := by
  have hl := Lib.hid h.1
  have HPB := Lib.hid (show playB zss st ld cs = (dealB zss && plainB st ld cs && playTo zss st ld cs cs.length) from rfl)
  rw [hl.out] at HPB
  obtain ⟨R, hR⟩ : ∃ R, R = playB zss st ld cs := ⟨_, rfl⟩
  rw [← hR] at HPB ⊢
  clear hR
  have e1 : (w.alloc (.cells #[.slice A' n' c'] 26)).heap.size = w.heap.size + 1 := by simp
  have c1 := Chg.of_alloc w (.cells #[.slice A' n' c'] 26) 0 0
  have c2 := Chg.of_alloc (w.alloc (.cells #[.slice A' n' c'] 26)) (.cells #[.int .i64 st, .int .i64 ld, .slice A n c] 29) 0 0
  have x1 := (SBox.new w 26 #[.slice A' n' c']).still c2
  have x2 := SBox.new (w.alloc (.cells #[.slice A' n' c'] 26)) 29 #[.int .i64 st, .int .i64 ld, .slice A n c]
  rw [e1] at x2
  have C0 := Lib.hid (c1.trans c2)
  have X1 := Lib.hid x1
  have X2 := Lib.hid x2
  have z0 : w.heap.size + 1 < ((w.alloc (.cells #[.slice A' n' c'] 26)).alloc (.cells #[.int .i64 st, .int .i64 ld, .slice A n c] 29)).heap.size := by simp
  have D0 := Lib.hid (hD.still C0.out)
  have H0 := Lib.hid (h.still C0.out)
  clear hD h e1 c1 c2 x1 x2
  go_enter Try.func37, Try.ntmps37
  go_wp2_with (first | (refine wpList_load_row rfl 26 _ rfl w.heap.size rfl 26 #[.slice A' n' c'] (0, 0) _ X1.out Try.underlying26 rfl (deal_info7 _) ?_) | (refine wpList_load_row rfl 29 _ rfl (w.heap.size + 1) rfl 29 #[.int .i64 st, .int .i64 ld, .slice A n c] (0, 0) _ X2.out Try.underlying29 rfl (play_info _ _ _ _ _) ?_))
  generalize ((w.alloc (.cells #[.slice A' n' c'] 26)).alloc (.cells #[.int .i64 st, .int .i64 ld, .slice A n c] 29)) = W at C0 X1 X2 D0 H0 z0 ⊢
  refine (spec_IsDeal A' n' c' zss 0 _ W D0.out hlz).mono ?_
  rintro e w1 ⟨rfl, c1⟩
  have Y1 := Lib.hid (X1.out.still c1)
  have Y2 := Lib.hid (X2.out.still c1)
  have D1 := Lib.hid (D0.out.still c1)
  have R1 := Lib.hid (H0.out.still c1)
  have C1 := Lib.hid (C0.out.trans c1)
  have z1 : w.heap.size + 1 < w1.heap.size := by have := c1.size; omega
  clear c1 X1 X2 D0 H0 C0 z0
  have p0 := Y2.out.p0
  have p1 := Y2.out.p1
  have p2 := Y2.out.p2
  cases hdb : dealB zss
  · have hr := Lib.hid (show R = false by rw [HPB.out, hdb]; rfl)
    go_wp2_with fail
    go_ret
    exact ⟨ret_bool hr.out.symm, C1.out⟩
  have HPB := Lib.hid (show R = (plainB st ld cs && playTo zss st ld cs n) by rw [HPB.out, hdb]; rfl)
  have HDB := Lib.hid hdb
  clear hdb
  go_wp2_with fail
  refine (spec_IsPlainPlay st ld A n c cs 0 w.heap.size _ R1.out hn hcap).mono ?_
  rintro e w2 ⟨rfl, c2⟩
  have X1 := Lib.hid (Y1.out.still c2)
  have X2 := Lib.hid (Y2.out.still c2)
  have D2 := Lib.hid (D1.out.still c2)
  have R2 := Lib.hid (R1.out.still c2)
  have C2 := Lib.hid (C1.out.trans c2)
  have z2 : w.heap.size + 1 < w2.heap.size := by have := c2.size; omega
  clear c2 Y1 Y2 D1 R1 C1 z1 p0 p1 p2
  cases hpb : plainB st ld cs
  · have hr := Lib.hid (show R = false by rw [HPB.out, hpb]; rfl)
    go_wp2_with fail
    go_ret
    exact ⟨ret_bool hr.out.symm, C2.out⟩
  have HPB := Lib.hid (show R = playTo zss st ld cs n by rw [HPB.out, hpb]; rfl)
  obtain ⟨hdf, _, hld, _⟩ := plain_parts hpb
  rw [hl.out] at hdf
  have HDF := Lib.hid (diff_cards hdf)
  clear hpb hdf
  go_wp2_with fail
  go_loopw [5] (fun i wr => ∃ k : Nat, k ≤ n ∧ i = .int .i64 k ∧ Hid (playTo zss st ld cs k = true) ∧ Hid (SBox wr 26 w.heap.size #[.slice A' n' c']) ∧ Hid (SBox wr 29 (w.heap.size + 1) #[.int .i64 st, .int .i64 ld, .slice A n c]) ∧ Hid (RdR wr 0 w.heap.size A' n' zss) ∧ Hid (Rd wr 0 w.heap.size A n cs) ∧ Hid (Chg w wr 0 0) ∧ Hid (w.heap.size + 1 < wr.heap.size)) (fun i _ => n - (intOf i).toNat)
  case atStart => exact ⟨0, Nat.zero_le _, rfl, rfl, X1.out, X2.out, D2.out, R2.out, C2.out, z2⟩
  case round =>
    obtain ⟨k, hk, rfl, hv, hX1, hX2, hDD, hRR, hC, hz⟩ := hrel
    have q2 := hX2.out.p2
    by_cases hlt : k < n
    · obtain ⟨b, off, rfl, _, _, hc⟩ := hRR.out.2 (by omega)
      have hkl : (k : Int) < (n : Int) := by omega
      have hck := hc k hlt
      have hvs : Hid (playTo zss st ld cs (k + 1) = hasB (legL zss st ld (cs.take k)) (cs.getD k 0)) := by show _ = _; rw [playTo, hv.out]; simp
      have hno : Hid (playTo zss st ld cs (k + 1) = false → R = false) := fun q => by
        rw [HPB.out]
        cases e : playTo zss st ld cs n
        · rfl
        · have := play_le (show k + 1 ≤ n by omega) e; rw [q] at this; cases this
      have hllen := legL_len zss st ld (cs.take k)
      have htr := turnL_rng st ld (cs.take k)
      have hrow := (rows_ok HDB.out (s := (turnL st ld (cs.take k)).toNat) (by omega)).1
      have hleg : (legL zss st ld (cs.take k)).length ≤ 1048576 := by omega
      generalize cs.getD k 0 = z at hck hvs
      obtain ⟨LG, hLG⟩ : ∃ LG, LG = legL zss st ld (cs.take k) := ⟨_, rfl⟩
      rw [← hLG] at hvs hleg
      have HLG := Lib.hid hLG
      clear hc hLG hllen hrow htr
      have cd : Chg wr wr.drew 0 0 := Chg.of_drew ⟨1, rfl⟩ 0 0
      have S0 : (SBox wr.drew 26 w.heap.size #[.slice A' n' c'] ∧ SBox wr.drew 29 (w.heap.size + 1) #[.int .i64 st, .int .i64 ld, .slice (some ⟨b, off, none⟩) n c]) ∧ wr.drew.cell? ⟨b, off + k, none⟩ = some (.int .i64 z) := ⟨⟨hX1.out.still cd, hX2.out.still cd⟩, hck⟩
      have RA : Rd wr.drew 0 wr.drew.heap.size (some ⟨b, off, none⟩) n cs := (hRR.out.still cd).more (Nat.le_refl 0) (by have := cd.size; have := hz.out; omega)
      have kz : (k : Int) ≤ (n : Int) := by omega
      cases hb : hasB LG z
      · have hr := Lib.hid (hno.out (by rw [hvs.out, hb]))
        go_wp2_with fail
        refine wp_region_held_drew (S := fun V => (SBox V 26 w.heap.size #[.slice A' n' c'] ∧ SBox V 29 (w.heap.size + 1) #[.int .i64 st, .int .i64 ld, .slice (some ⟨b, off, none⟩) n c]) ∧ V.cell? ⟨b, off + k, none⟩ = some (.int .i64 z)) (by kernel_rfl) S0 (fun hHeld => ?_)
        refine take_slotC (i := 0) (d := some 21) (v := .agg #[.slice A' n' c']) rfl (by kernel_rfl) (by kernel_rfl) (by kernel_rfl) (by kernel_rfl) (fun _ _ _ h => h) (yieldsIf_load_mid (by kernel_rfl) 26 (.tmp 2) rfl w.heap.size 0 rfl [.slice A' n' c'] _ (fun V hV => hV.1.1.range) Try.underlying26 rfl (deal_infoL _)) hHeld ?_
        try simp only [Act.put, List.setIfInBounds_toArray, List.set_cons_zero, List.set_cons_succ]
        refine take_slotC (i := 1) (d := some 22) (v := .agg #[.int .i64 st, .int .i64 ld, .slice (some ⟨b, off, none⟩) n c]) rfl (by kernel_rfl) (by kernel_rfl) (by kernel_rfl) (by kernel_rfl) (fun _ _ _ h => h) (yieldsIf_load_mid (by kernel_rfl) 29 (.tmp 3) rfl (w.heap.size + 1) 0 rfl [.int .i64 st, .int .i64 ld, .slice (some ⟨b, off, none⟩) n c] _ (fun V hV => hV.1.2.range) Try.underlying29 rfl (play_infoL _ _ _)) hHeld ?_
        try simp only [Act.put, List.setIfInBounds_toArray, List.set_cons_zero, List.set_cons_succ]
        refine take_slotC (i := 2) (d := some 23) (v := .int .i64 (k : Int)) rfl (by kernel_rfl) (by kernel_rfl) (by kernel_rfl) (by kernel_rfl) (fun _ _ _ h => h) (.inl ⟨by kernel_rfl, fun V hV => by obtain ⟨⟨hV1, hV2⟩, hV3⟩ := hV; have hV4 := hV2.p2; go_simp⟩) hHeld ?_
        try simp only [Act.put, List.setIfInBounds_toArray, List.set_cons_zero, List.set_cons_succ]
        refine take_slotC (i := 5) (d := some 26) (v := .pointer (some ⟨w.heap.size + 1, 2, none⟩)) rfl (by kernel_rfl) (by kernel_rfl) (by kernel_rfl) (by kernel_rfl) (fun _ _ _ h => h) (.inl ⟨by kernel_rfl, fun V hV => by obtain ⟨⟨hV1, hV2⟩, hV3⟩ := hV; have hV4 := hV2.p2; go_simp⟩) hHeld ?_
        try simp only [Act.put, List.setIfInBounds_toArray, List.set_cons_zero, List.set_cons_succ]
        refine take_slotC (i := 6) (d := some 27) (v := .slice (some ⟨b, off, none⟩) n c) rfl (by kernel_rfl) (by kernel_rfl) (by kernel_rfl) (by kernel_rfl) (fun _ _ _ h => h) (.inl ⟨by kernel_rfl, fun V hV => by obtain ⟨⟨hV1, hV2⟩, hV3⟩ := hV; have hV4 := hV2.p2; go_simp⟩) hHeld ?_
        try simp only [Act.put, List.setIfInBounds_toArray, List.set_cons_zero, List.set_cons_succ]
        refine take_slotC (i := 7) (d := some 28) (v := .int .i64 (k : Int)) rfl (by kernel_rfl) (by kernel_rfl) (by kernel_rfl) (by kernel_rfl) (fun _ _ _ h => h) (.inl ⟨by kernel_rfl, fun V hV => by obtain ⟨⟨hV1, hV2⟩, hV3⟩ := hV; have hV4 := hV2.p2; go_simp⟩) hHeld ?_
        try simp only [Act.put, List.setIfInBounds_toArray, List.set_cons_zero, List.set_cons_succ]
        refine take_slotC (i := 8) (d := some 29) (v := .pointer (some ⟨b, off + k, none⟩)) rfl (by kernel_rfl) (by kernel_rfl) (by kernel_rfl) (by kernel_rfl) (fun _ _ _ h => h) (.inl ⟨by kernel_rfl, fun V hV => by obtain ⟨⟨hV1, hV2⟩, hV3⟩ := hV; have hV4 := hV2.p2; go_simp⟩) hHeld ?_
        try simp only [Act.put, List.setIfInBounds_toArray, List.set_cons_zero, List.set_cons_succ]
        refine take_slotC (i := 9) (d := some 30) (v := .int .i64 z) rfl (by kernel_rfl) (by kernel_rfl) (by kernel_rfl) (by kernel_rfl) (fun _ _ _ h => h) (.inl ⟨by kernel_rfl, fun V hV => by obtain ⟨⟨hV1, hV2⟩, hV3⟩ := hV; have hV4 := hV2.p2; go_simp⟩) hHeld ?_
        try simp only [Act.put, List.setIfInBounds_toArray, List.set_cons_zero, List.set_cons_succ]
        refine wpAnyH_ready (rs := [3]) (by kernel_rfl) (by simp) (AllReadyH.cons (i := 3) rfl (fun K' hK' => ?_) AllReadyH.nil)
        go_simp
        refine (l08Begin st ld (some ⟨b, off, none⟩) n c cs k _ RA hn hcap hnil hk).mono ?_
        rintro e w5 ⟨u5, rfl, o5, b5⟩
        obtain ⟨U5, cu5, rfl, hcu5, hpl5, ho5⟩ := o5.form_at (n := k) (by rw [List.length_take, hl.out]; omega)
        have c5 : Chg wr.drew w5 0 0 := Chg.of_below b5 0 0
        have hh5 : (fun V => (SBox V 26 w.heap.size #[.slice A' n' c'] ∧ SBox V 29 (w.heap.size + 1) #[.int .i64 st, .int .i64 ld, .slice (some ⟨b, off, none⟩) n c]) ∧ V.cell? ⟨b, off + k, none⟩ = some (.int .i64 z)) w5 := ⟨⟨hHeld.1.1.still c5, hHeld.1.2.still c5⟩, (World.cell?_of_block (c5.block _ (lt_of_cell hHeld.2) (.inr (Nat.zero_le _)))).trans hHeld.2⟩
        have K5 := Lib.hid (cd.trans c5)
        have R5 : Rd w5 0 w5.heap.size U5 k (cs.take k) := ho5.rd.more (Nat.zero_le _) (Nat.le_refl _)
        clear o5 b5 c5 ho5
        refine hK'.out _ _ hh5 (fun hHeld => ?_)
        clear hK'
        try simp only [Act.put, List.setIfInBounds_toArray, List.set_cons_zero, List.set_cons_succ]
        refine wpAnyH_ready (rs := [4]) (by kernel_rfl) (by simp) (AllReadyH.cons (i := 4) rfl (fun K' hK' => ?_) AllReadyH.nil)
        go_simp
        refine (l08Legal A' n' c' zss st ld U5 k cu5 (cs.take k) _ ((hDD.out.still K5.out).more (Nat.le_refl 0) (by have := K5.out.size; have := hz.out; omega)) HDB.out R5 (by omega) hcu5 (fun j hj => by rw [take_getD hj]; exact HDF.out j (by omega)) hld).mono ?_
        rw [← HLG.out]
        rintro e w6 ⟨U6, cu6, rfl, _, _, ho6, c6⟩
        have hh6 : (fun V => (SBox V 26 w.heap.size #[.slice A' n' c'] ∧ SBox V 29 (w.heap.size + 1) #[.int .i64 st, .int .i64 ld, .slice (some ⟨b, off, none⟩) n c]) ∧ V.cell? ⟨b, off + k, none⟩ = some (.int .i64 z)) w6 := ⟨⟨hHeld.1.1.still c6, hHeld.1.2.still c6⟩, (World.cell?_of_block (c6.block _ (lt_of_cell hHeld.2) (.inr (Nat.zero_le _)))).trans hHeld.2⟩
        have K6 := Lib.hid (K5.out.trans c6)
        have R6 := Lib.hid ho6.rd
        clear c6 ho6 R5 hpl5
        refine hK'.out _ _ hh6 (fun hHeld => ?_)
        clear hK'
        try simp only [Act.put, List.setIfInBounds_toArray, List.set_cons_zero, List.set_cons_succ]
        refine wpAnyH_ready (rs := [10]) (by kernel_rfl) (by simp) (AllReadyH.cons (i := 10) rfl (fun K' hK' => ?_) AllReadyH.nil)
        go_simp
        refine (l01Has U6 LG.length cu6 z LG _ _ _ R6.out hleg).mono ?_
        rw [hb]
        rintro e w7 ⟨rfl, hw7⟩
        subst hw7
        refine hK'.out _ _ hHeld (fun hHeld => ?_)
        clear hK'
        try simp only [Act.put, List.setIfInBounds_toArray, List.set_cons_zero, List.set_cons_succ]
        refine take_slotC (i := 11) (d := some 32) (v := .bool true) rfl (by kernel_rfl) (by kernel_rfl) (by kernel_rfl) (by kernel_rfl) (fun _ _ _ h => h) (.inl ⟨by kernel_rfl, fun V hV => by obtain ⟨⟨hV1, hV2⟩, hV3⟩ := hV; have hV4 := hV2.p2; go_simp⟩) hHeld ?_
        try simp only [Act.put, List.setIfInBounds_toArray, List.set_cons_zero, List.set_cons_succ]
        refine wpAnyH_done (by kernel_rfl) ?_ _
        have K7 := Lib.hid K6.out
        have C7 := Lib.hid (hC.out.trans K6.out)
        go_wp2_with fail
        go_ret
        exact ⟨ret_bool hr.out.symm, C7.out⟩
      · have hv' := Lib.hid (show playTo zss st ld cs (k + 1) = true by rw [hvs.out, hb])
        go_wp2_with fail
        refine wp_region_held_drew (S := fun V => (SBox V 26 w.heap.size #[.slice A' n' c'] ∧ SBox V 29 (w.heap.size + 1) #[.int .i64 st, .int .i64 ld, .slice (some ⟨b, off, none⟩) n c]) ∧ V.cell? ⟨b, off + k, none⟩ = some (.int .i64 z)) (by kernel_rfl) S0 (fun hHeld => ?_)
        refine take_slotC (i := 0) (d := some 21) (v := .agg #[.slice A' n' c']) rfl (by kernel_rfl) (by kernel_rfl) (by kernel_rfl) (by kernel_rfl) (fun _ _ _ h => h) (yieldsIf_load_mid (by kernel_rfl) 26 (.tmp 2) rfl w.heap.size 0 rfl [.slice A' n' c'] _ (fun V hV => hV.1.1.range) Try.underlying26 rfl (deal_infoL _)) hHeld ?_
        try simp only [Act.put, List.setIfInBounds_toArray, List.set_cons_zero, List.set_cons_succ]
        refine take_slotC (i := 1) (d := some 22) (v := .agg #[.int .i64 st, .int .i64 ld, .slice (some ⟨b, off, none⟩) n c]) rfl (by kernel_rfl) (by kernel_rfl) (by kernel_rfl) (by kernel_rfl) (fun _ _ _ h => h) (yieldsIf_load_mid (by kernel_rfl) 29 (.tmp 3) rfl (w.heap.size + 1) 0 rfl [.int .i64 st, .int .i64 ld, .slice (some ⟨b, off, none⟩) n c] _ (fun V hV => hV.1.2.range) Try.underlying29 rfl (play_infoL _ _ _)) hHeld ?_
        try simp only [Act.put, List.setIfInBounds_toArray, List.set_cons_zero, List.set_cons_succ]
        refine take_slotC (i := 2) (d := some 23) (v := .int .i64 (k : Int)) rfl (by kernel_rfl) (by kernel_rfl) (by kernel_rfl) (by kernel_rfl) (fun _ _ _ h => h) (.inl ⟨by kernel_rfl, fun V hV => by obtain ⟨⟨hV1, hV2⟩, hV3⟩ := hV; have hV4 := hV2.p2; go_simp⟩) hHeld ?_
        try simp only [Act.put, List.setIfInBounds_toArray, List.set_cons_zero, List.set_cons_succ]
        refine take_slotC (i := 5) (d := some 26) (v := .pointer (some ⟨w.heap.size + 1, 2, none⟩)) rfl (by kernel_rfl) (by kernel_rfl) (by kernel_rfl) (by kernel_rfl) (fun _ _ _ h => h) (.inl ⟨by kernel_rfl, fun V hV => by obtain ⟨⟨hV1, hV2⟩, hV3⟩ := hV; have hV4 := hV2.p2; go_simp⟩) hHeld ?_
        try simp only [Act.put, List.setIfInBounds_toArray, List.set_cons_zero, List.set_cons_succ]
        refine take_slotC (i := 6) (d := some 27) (v := .slice (some ⟨b, off, none⟩) n c) rfl (by kernel_rfl) (by kernel_rfl) (by kernel_rfl) (by kernel_rfl) (fun _ _ _ h => h) (.inl ⟨by kernel_rfl, fun V hV => by obtain ⟨⟨hV1, hV2⟩, hV3⟩ := hV; have hV4 := hV2.p2; go_simp⟩) hHeld ?_
        try simp only [Act.put, List.setIfInBounds_toArray, List.set_cons_zero, List.set_cons_succ]
        refine take_slotC (i := 7) (d := some 28) (v := .int .i64 (k : Int)) rfl (by kernel_rfl) (by kernel_rfl) (by kernel_rfl) (by kernel_rfl) (fun _ _ _ h => h) (.inl ⟨by kernel_rfl, fun V hV => by obtain ⟨⟨hV1, hV2⟩, hV3⟩ := hV; have hV4 := hV2.p2; go_simp⟩) hHeld ?_
        try simp only [Act.put, List.setIfInBounds_toArray, List.set_cons_zero, List.set_cons_succ]
        refine take_slotC (i := 8) (d := some 29) (v := .pointer (some ⟨b, off + k, none⟩)) rfl (by kernel_rfl) (by kernel_rfl) (by kernel_rfl) (by kernel_rfl) (fun _ _ _ h => h) (.inl ⟨by kernel_rfl, fun V hV => by obtain ⟨⟨hV1, hV2⟩, hV3⟩ := hV; have hV4 := hV2.p2; go_simp⟩) hHeld ?_
        try simp only [Act.put, List.setIfInBounds_toArray, List.set_cons_zero, List.set_cons_succ]
        refine take_slotC (i := 9) (d := some 30) (v := .int .i64 z) rfl (by kernel_rfl) (by kernel_rfl) (by kernel_rfl) (by kernel_rfl) (fun _ _ _ h => h) (.inl ⟨by kernel_rfl, fun V hV => by obtain ⟨⟨hV1, hV2⟩, hV3⟩ := hV; have hV4 := hV2.p2; go_simp⟩) hHeld ?_
        try simp only [Act.put, List.setIfInBounds_toArray, List.set_cons_zero, List.set_cons_succ]
        refine wpAnyH_ready (rs := [3]) (by kernel_rfl) (by simp) (AllReadyH.cons (i := 3) rfl (fun K' hK' => ?_) AllReadyH.nil)
        go_simp
        refine (l08Begin st ld (some ⟨b, off, none⟩) n c cs k _ RA hn hcap hnil hk).mono ?_
        rintro e w5 ⟨u5, rfl, o5, b5⟩
        obtain ⟨U5, cu5, rfl, hcu5, hpl5, ho5⟩ := o5.form_at (n := k) (by rw [List.length_take, hl.out]; omega)
        have c5 : Chg wr.drew w5 0 0 := Chg.of_below b5 0 0
        have hh5 : (fun V => (SBox V 26 w.heap.size #[.slice A' n' c'] ∧ SBox V 29 (w.heap.size + 1) #[.int .i64 st, .int .i64 ld, .slice (some ⟨b, off, none⟩) n c]) ∧ V.cell? ⟨b, off + k, none⟩ = some (.int .i64 z)) w5 := ⟨⟨hHeld.1.1.still c5, hHeld.1.2.still c5⟩, (World.cell?_of_block (c5.block _ (lt_of_cell hHeld.2) (.inr (Nat.zero_le _)))).trans hHeld.2⟩
        have K5 := Lib.hid (cd.trans c5)
        have R5 : Rd w5 0 w5.heap.size U5 k (cs.take k) := ho5.rd.more (Nat.zero_le _) (Nat.le_refl _)
        clear o5 b5 c5 ho5
        refine hK'.out _ _ hh5 (fun hHeld => ?_)
        clear hK'
        try simp only [Act.put, List.setIfInBounds_toArray, List.set_cons_zero, List.set_cons_succ]
        refine wpAnyH_ready (rs := [4]) (by kernel_rfl) (by simp) (AllReadyH.cons (i := 4) rfl (fun K' hK' => ?_) AllReadyH.nil)
        go_simp
        refine (l08Legal A' n' c' zss st ld U5 k cu5 (cs.take k) _ ((hDD.out.still K5.out).more (Nat.le_refl 0) (by have := K5.out.size; have := hz.out; omega)) HDB.out R5 (by omega) hcu5 (fun j hj => by rw [take_getD hj]; exact HDF.out j (by omega)) hld).mono ?_
        rw [← HLG.out]
        rintro e w6 ⟨U6, cu6, rfl, _, _, ho6, c6⟩
        have hh6 : (fun V => (SBox V 26 w.heap.size #[.slice A' n' c'] ∧ SBox V 29 (w.heap.size + 1) #[.int .i64 st, .int .i64 ld, .slice (some ⟨b, off, none⟩) n c]) ∧ V.cell? ⟨b, off + k, none⟩ = some (.int .i64 z)) w6 := ⟨⟨hHeld.1.1.still c6, hHeld.1.2.still c6⟩, (World.cell?_of_block (c6.block _ (lt_of_cell hHeld.2) (.inr (Nat.zero_le _)))).trans hHeld.2⟩
        have K6 := Lib.hid (K5.out.trans c6)
        have R6 := Lib.hid ho6.rd
        clear c6 ho6 R5 hpl5
        refine hK'.out _ _ hh6 (fun hHeld => ?_)
        clear hK'
        try simp only [Act.put, List.setIfInBounds_toArray, List.set_cons_zero, List.set_cons_succ]
        refine wpAnyH_ready (rs := [10]) (by kernel_rfl) (by simp) (AllReadyH.cons (i := 10) rfl (fun K' hK' => ?_) AllReadyH.nil)
        go_simp
        refine (l01Has U6 LG.length cu6 z LG _ _ _ R6.out hleg).mono ?_
        rw [hb]
        rintro e w7 ⟨rfl, hw7⟩
        subst hw7
        refine hK'.out _ _ hHeld (fun hHeld => ?_)
        clear hK'
        try simp only [Act.put, List.setIfInBounds_toArray, List.set_cons_zero, List.set_cons_succ]
        refine take_slotC (i := 11) (d := some 32) (v := .bool false) rfl (by kernel_rfl) (by kernel_rfl) (by kernel_rfl) (by kernel_rfl) (fun _ _ _ h => h) (.inl ⟨by kernel_rfl, fun V hV => by obtain ⟨⟨hV1, hV2⟩, hV3⟩ := hV; have hV4 := hV2.p2; go_simp⟩) hHeld ?_
        try simp only [Act.put, List.setIfInBounds_toArray, List.set_cons_zero, List.set_cons_succ]
        refine wpAnyH_done (by kernel_rfl) ?_ _
        have K7 := Lib.hid K6.out
        have C7 := Lib.hid (hC.out.trans K6.out)
        have E3 := Lib.hid (hDD.out.still K7.out)
        have E4 := Lib.hid (hRR.out.still K7.out)
        have E1 := Lib.hid hHeld.1.1
        have E2 := Lib.hid hHeld.1.2
        have E5 := Lib.hid (show w.heap.size + 1 < w6.heap.size by have := K7.out.size; have := hz.out; omega)
        go_wp2_with fail
        go_roundw
        case rel => exact ⟨k + 1, by omega, by go_num, hv'.out, E1.out, E2.out, E3.out, E4.out, C7.out, E5.out⟩
        case measure => simp [intOf]; omega
    · obtain rfl : k = n := by omega
      have hkl : ¬ (k : Int) < (k : Int) := by omega
      have hr := Lib.hid (show R = true by rw [HPB.out, hv.out])
      go_wp2_with fail
      go_ret
      exact ⟨ret_bool hr.out.symm, hC.out⟩
end Go.Proofs.Yteglffbeldlibaa.Lib1
