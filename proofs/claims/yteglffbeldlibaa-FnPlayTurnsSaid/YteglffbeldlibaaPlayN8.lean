/- Chapter 8, the model: legal cards, plays of a deal, whose turn it is. (Written by wip/gen8b.py.) -/
import Derived.Test.YteglffbeldlibaaPlayM8
namespace Go.Proofs.Yteglffbeldlibaa.Lib1
open Go.RowKit
set_option maxRecDepth 100000

theorem deal_info7 (v : Value) : (Try.prog.info? 26).map (·.size) = some (#[v] : Array Value).size := by kernel_rfl
theorem rows_ok {zss : List (List Int)} (h : dealB zss = true) {s : Nat} (hs : s < 4) : (zss.getD s []).length ≤ 13 ∧ ∀ j, j < (zss.getD s []).length → 0 ≤ (zss.getD s []).getD j 0 ∧ (zss.getD s []).getD j 0 ≤ 51 :=
  hand_bounds (((deal_iff zss).1 h).2.1 s hs).1
theorem leftL_card {hs cs : List Int} (h : ∀ j, j < hs.length → 0 ≤ hs.getD j 0 ∧ hs.getD j 0 ≤ 51) : ∀ j, j < (leftL hs cs).length → 0 ≤ (leftL hs cs).getD j 0 ∧ (leftL hs cs).getD j 0 ≤ 51 := fun j hj => by
  have hm : (leftL hs cs).getD j 0 ∈ leftL hs cs := by
    simp only [List.getD, List.getElem?_eq_getElem hj, Option.getD_some]
    exact List.getElem_mem hj
  have hm2 := (List.mem_filter.1 hm).1
  obtain ⟨i, hi, e⟩ := List.getElem_of_mem hm2
  have := h i hi
  simp only [List.getD, List.getElem?_eq_getElem hi, Option.getD_some] at this
  rw [e] at this
  exact this
set_option maxHeartbeats 8000000 in
/-- spec.l08Legal -/
theorem l08Legal (A' : Option Addr) (n' c' : Nat) (zss : List (List Int)) (st ld : Int) (A : Option Addr) (n c : Nat) (cs : List Int) (w : World) (hD : RdR w 0 w.heap.size A' n' zss) (hdl : dealB zss = true) (h : Rd w 0 w.heap.size A n cs) (hn : n ≤ 1048576) (hcap : n ≤ c) (hz : ∀ j, j < n → 0 ≤ cs.getD j 0 ∧ cs.getD j 0 ≤ 51) (hd : 0 ≤ ld ∧ ld ≤ 3) :
    Calls Try.prog 97 #[.agg #[.slice A' n' c'], .agg #[.int .i64 st, .int .i64 ld, .slice A n c]] w (RetS w (legL zss st ld cs)) := by
  have hl := h.1
  have hn4 := Lib.hid (show n' = 4 by rw [← hD.1]; exact ((deal_iff zss).1 hdl).1)
  have htr := turnL_rng st ld cs
  obtain ⟨s, hs⟩ : ∃ s : Nat, turnL st ld cs = (s : Int) := ⟨_, (Int.toNat_of_nonneg htr.1).symm⟩
  have hs4 : s < 4 := by omega
  have hrow := rows_ok hdl hs4
  have HLG := Lib.hid (show legL zss st ld cs = if n % 4 = 0 then leftL (zss.getD s []) cs else if 0 < (suitF (cs.getD (n - n % 4) 0 / 13) (leftL (zss.getD s []) cs)).length then suitF (cs.getD (n - n % 4) 0 / 13) (leftL (zss.getD s []) cs) else leftL (zss.getD s []) cs by
    unfold legL
    rw [hs, hl]
    rfl)
  have hlc := Lib.hid (leftL_card (cs := cs) hrow.2)
  have hll := leftL_le (zss.getD s []) cs
  have hllen : (leftL (zss.getD s []) cs).length ≤ 1048576 := by omega
  have HTU := Lib.hid (fun (V : World) (hV : Rd V 0 V.heap.size A n cs) => l08Turn st ld A n c cs V hV hn hcap hz hd)
  rw [hs] at HTU
  have HZ := Lib.hid hz
  obtain ⟨LG, hLG⟩ : ∃ LG, LG = legL zss st ld cs := ⟨_, rfl⟩
  rw [← hLG] at HLG ⊢
  clear hLG hl htr hs hdl hz hd
  have e1 : (w.alloc (.cells #[.slice A' n' c'] 26)).heap.size = w.heap.size + 1 := by simp
  have c1 := Chg.of_alloc w (.cells #[.slice A' n' c'] 26) 0 0
  have c2 := Chg.of_alloc (w.alloc (.cells #[.slice A' n' c'] 26)) (.cells #[.int .i64 st, .int .i64 ld, .slice A n c] 29) 0 0
  have x1 := (SBox.new w 26 #[.slice A' n' c']).still c2
  have x2 := SBox.new (w.alloc (.cells #[.slice A' n' c'] 26)) 29 #[.int .i64 st, .int .i64 ld, .slice A n c]
  rw [e1] at x2
  have C0 := Lib.hid (c1.trans c2)
  have X1 := Lib.hid x1
  have X2 := Lib.hid x2
  have z0 : w.heap.size + 1 < ((w.alloc (.cells #[.slice A' n' c'] 26)).alloc (.cells #[.int .i64 st, .int .i64 ld, .slice A n c] 29)).heap.size := by simp
  have D0 := Lib.hid (hD.still C0.out)
  have H0 := Lib.hid (h.still C0.out)
  clear hD h e1 c1 c2 x1 x2
  go_enter Try.func97, Try.ntmps97
  go_wp2_with fail
  generalize ((w.alloc (.cells #[.slice A' n' c'] 26)).alloc (.cells #[.int .i64 st, .int .i64 ld, .slice A n c] 29)) = W at C0 X1 X2 D0 H0 z0 ⊢
  have cd : Chg W W.drew 0 0 := Chg.of_drew ⟨1, rfl⟩ 0 0
  have S0 : SBox W.drew 26 w.heap.size #[.slice A' n' c'] ∧ SBox W.drew 29 (w.heap.size + 1) #[.int .i64 st, .int .i64 ld, .slice A n c] := ⟨X1.out.still cd, X2.out.still cd⟩
  have HRA : Rd W.drew 0 W.drew.heap.size A n cs := (H0.out.still cd).more (Nat.le_refl 0) (by have := cd.size; omega)
  have DRA : RdR W.drew 0 W.drew.heap.size A' n' zss := (D0.out.still cd).more (Nat.le_refl 0) (by have := cd.size; omega)
  refine wp_region_held_drew (S := fun V => SBox V 26 w.heap.size #[.slice A' n' c'] ∧ SBox V 29 (w.heap.size + 1) #[.int .i64 st, .int .i64 ld, .slice A n c]) (by kernel_rfl) S0 (fun hHeld => ?_)
  refine take_slotC (i := 0) (d := some 8) (v := .agg #[.slice A' n' c']) rfl (by kernel_rfl) (by kernel_rfl) (by kernel_rfl) (by kernel_rfl) (fun _ _ _ h => h) (yieldsIf_load_mid (by kernel_rfl) 26 (.tmp 2) rfl w.heap.size 0 rfl [.slice A' n' c'] _ (fun V hV => hV.1.range) Try.underlying26 rfl (deal_infoL _)) hHeld ?_
  try simp only [Act.put, List.setIfInBounds_toArray, List.set_cons_zero, List.set_cons_succ]
  refine take_slotC (i := 1) (d := some 9) (v := .agg #[.int .i64 st, .int .i64 ld, .slice A n c]) rfl (by kernel_rfl) (by kernel_rfl) (by kernel_rfl) (by kernel_rfl) (fun _ _ _ h => h) (yieldsIf_load_mid (by kernel_rfl) 29 (.tmp 3) rfl (w.heap.size + 1) 0 rfl [.int .i64 st, .int .i64 ld, .slice A n c] _ (fun V hV => hV.2.range) Try.underlying29 rfl (play_infoL _ _ _)) hHeld ?_
  try simp only [Act.put, List.setIfInBounds_toArray, List.set_cons_zero, List.set_cons_succ]
  refine take_slotC (i := 2) (d := some 10) (v := .agg #[.int .i64 st, .int .i64 ld, .slice A n c]) rfl (by kernel_rfl) (by kernel_rfl) (by kernel_rfl) (by kernel_rfl) (fun _ _ _ h => h) (yieldsIf_load_mid (by kernel_rfl) 29 (.tmp 3) rfl (w.heap.size + 1) 0 rfl [.int .i64 st, .int .i64 ld, .slice A n c] _ (fun V hV => hV.2.range) Try.underlying29 rfl (play_infoL _ _ _)) hHeld ?_
  try simp only [Act.put, List.setIfInBounds_toArray, List.set_cons_zero, List.set_cons_succ]
  refine wpAnyH_ready (rs := [3]) (by kernel_rfl) (by simp) (AllReadyH.cons (i := 3) rfl (fun K' hK' => ?_) AllReadyH.nil)
  go_simp
  refine (HTU.out _ HRA).mono ?_
  rintro e w2 ⟨rfl, c2⟩
  have hh2 : (fun V => SBox V 26 w.heap.size #[.slice A' n' c'] ∧ SBox V 29 (w.heap.size + 1) #[.int .i64 st, .int .i64 ld, .slice A n c]) w2 := ⟨hHeld.1.still c2, hHeld.2.still c2⟩
  have C2 := Lib.hid ((C0.out.trans cd).trans c2)
  have R2 := (HRA.still c2).more (Nat.le_refl 0) c2.size
  have D2 := (DRA.still c2).more (Nat.le_refl 0) c2.size
  have z2 := c2.size
  have zd := cd.size
  clear c2 HRA DRA
  refine hK'.out _ _ hh2 (fun hHeld => ?_)
  clear hK'
  try simp only [Act.put, List.setIfInBounds_toArray, List.set_cons_zero, List.set_cons_succ]
  refine wpAnyH_ready (rs := [4]) (by kernel_rfl) (by simp) (AllReadyH.cons (i := 4) rfl (fun K' hK' => ?_) AllReadyH.nil)
  go_simp
  refine (l08Left A' n' c' zss st ld A n c cs s _ D2 (by have := hn4.out; omega) (by omega) (by have := hn4.out; omega) R2 hn).mono ?_
  rintro e w3 ⟨u3, rfl, o3, b3⟩
  obtain ⟨U, cu, rfl, hcu, hplu, ho3⟩ := o3.form
  have c3 : Chg w2 w3 0 0 := Chg.of_below b3 0 0
  have hh3 : (fun V => SBox V 26 w.heap.size #[.slice A' n' c'] ∧ SBox V 29 (w.heap.size + 1) #[.int .i64 st, .int .i64 ld, .slice A n c]) w3 := ⟨hHeld.1.still c3, hHeld.2.still c3⟩
  have C3 := Lib.hid (C2.out.trans c3)
  have R3 := Lib.hid (R2.still c3)
  have z3 := c3.size
  have OL := Lib.hid ho3
  clear c3 o3 b3 R2 D2 ho3
  refine hK'.out _ _ hh3 (fun hHeld => ?_)
  clear hK'
  try simp only [Act.put, List.setIfInBounds_toArray, List.set_cons_zero, List.set_cons_succ]
  refine take_slotC (i := 5) (d := some 5) (v := .slice U (leftL (zss.getD s []) cs).length cu) rfl (by kernel_rfl) (by kernel_rfl) (by kernel_rfl) (by kernel_rfl) (fun _ _ _ h => h) (.inl ⟨by kernel_rfl, fun V hV => by go_simp⟩) hHeld ?_
  try simp only [Act.put, List.setIfInBounds_toArray, List.set_cons_zero, List.set_cons_succ]
  refine wpAnyH_done (by kernel_rfl) ?_ _
  obtain ⟨LL, hLL⟩ : ∃ LL, LL = leftL (zss.getD s []) cs := ⟨_, rfl⟩
  rw [← hLL] at HLG hlc hllen OL hcu ⊢
  clear hLL hll
  have Y2 := Lib.hid hHeld.2
  have q2 := Y2.out.p2
  by_cases h0 : n % 4 = 0
  · have h0i : (n : Int) % 4 = 0 := by omega
    have hr := Lib.hid (show LG = LL by rw [HLG.out, if_pos h0])
    clear h0
    go_wp2_with fail
    go_ret
    rw [hr.out]
    exact ⟨U, cu, rfl, hcu, hplu, OL.out.more (by omega) (Nat.le_refl _), C3.out⟩
  · have h0i : ((n : Int) % 4 == 0) = false := by simp; omega
    have HLG := Lib.hid (show LG = if 0 < (suitF (cs.getD (n - n % 4) 0 / 13) LL).length then suitF (cs.getD (n - n % 4) 0 / 13) LL else LL by rw [HLG.out, if_neg h0])
    obtain ⟨b, off, rfl, _, _, hc⟩ := R3.out.2 (by omega)
    have hcx := hc (n - n % 4) (by omega)
    have hzx := HZ.out (n - n % 4) (by omega)
    have i1 : ((n : Int) - (n : Int) % 4).toNat = n - n % 4 := by omega
    have i2 : 0 ≤ (n : Int) - (n : Int) % 4 := by omega
    have i3 : (n : Int) - (n : Int) % 4 < (n : Int) := by omega
    generalize cs.getD (n - n % 4) 0 = y at hcx hzx HLG
    obtain ⟨y0, y1⟩ := hzx
    clear hc h0
    go_wp2_with fail
    refine (l01Suit U LL.length cu (y / 13) LL _ _ _ OL.out.rd hllen hlc.out).mono ?_
    rintro e w4 ⟨U2, c4, rfl, hle2, hpl2, ho2, ch4⟩
    have O4 := Lib.hid (OL.out.still ch4)
    have C4 := Lib.hid (C3.out.trans ch4)
    have z4 := ch4.size
    have P2 := Lib.hid ho2
    clear ch4 ho2 OL
    generalize suitF (y / 13) LL = SU at HLG hle2 P2 ⊢
    by_cases hp : 0 < SU.length
    · have hpi : 0 < (SU.length : Int) := by omega
      have hr := Lib.hid (show LG = SU by rw [HLG.out, if_pos hp])
      clear hp
      go_wp2_with fail
      go_ret
      rw [hr.out]
      exact ⟨U2, c4, rfl, hle2, hpl2, P2.out.more (by omega) (Nat.le_refl _), C4.out⟩
    · have hpi : ¬ 0 < (SU.length : Int) := by omega
      have hr := Lib.hid (show LG = LL by rw [HLG.out, if_neg hp])
      clear hp
      go_wp2_with fail
      go_ret
      rw [hr.out]
      exact ⟨U, cu, rfl, hcu, hplu, O4.out.more (by omega) (by omega), C4.out⟩

/-- What l08Begin and l08Add hand back: a play in memory of the call's own. -/
def RetP (w : World) (st ld : Int) (cs : List Int) (e : Ending) (w' : World) : Prop := ∃ v, e = .returned (.agg #[.int .i64 st, .int .i64 ld, v]) ∧ OwnV w' w.heap.size v cs ∧ Below w.heap.size w w'
set_option maxHeartbeats 8000000 in
/-- spec.l08Begin -/
theorem l08Begin (st ld : Int) (A : Option Addr) (n c : Nat) (cs : List Int) (k : Nat) (w : World) (h : Rd w 0 w.heap.size A n cs) (hn : n ≤ 1048576) (hcap : n ≤ c) (hnil : A = none → c = 0) (hk : k ≤ n) :
    Calls Try.prog 98 #[.agg #[.int .i64 st, .int .i64 ld, .slice A n c], .int .i64 (k : Int)] w (RetP w st ld (cs.take k)) := by
  have e1 : (w.alloc (.cells #[.int .i64 st, .int .i64 ld, .slice A n c] 29)).heap.size = w.heap.size + 1 := by simp
  have c1 := Chg.of_alloc w (.cells #[.int .i64 st, .int .i64 ld, .slice A n c] 29) 0 0
  have c2 := Chg.of_alloc (w.alloc (.cells #[.int .i64 st, .int .i64 ld, .slice A n c] 29)) (.cells #[.int .i64 0, .int .i64 0, .slice none 0 0] 29) 0 0
  have x1 := (SBox.new w 29 #[.int .i64 st, .int .i64 ld, .slice A n c]).still c2
  have x2 := SBox.new (w.alloc (.cells #[.int .i64 st, .int .i64 ld, .slice A n c] 29)) 29 #[.int .i64 0, .int .i64 0, .slice none 0 0]
  rw [e1] at x2
  have C0 := Lib.hid (c1.trans c2)
  have X1 := Lib.hid x1
  have X2 := Lib.hid x2
  have z0 : w.heap.size + 1 < ((w.alloc (.cells #[.int .i64 st, .int .i64 ld, .slice A n c] 29)).alloc (.cells #[.int .i64 0, .int .i64 0, .slice none 0 0] 29)).heap.size := by simp
  have H0 := Lib.hid (h.still C0.out)
  have kn : (k : Int) ≤ (c : Int) := by omega
  have k0 : 0 ≤ (k : Int) := by omega
  clear h e1 c1 c2 x1 x2
  go_enter Try.func98, Try.ntmps98
  go_wp2_with fail
  generalize (w.alloc (.cells #[.int .i64 st, .int .i64 ld, .slice A n c] 29)).alloc (.cells #[.int .i64 0, .int .i64 0, .slice none 0 0] 29) = W at C0 X1 X2 H0 z0 ⊢
  have cd : Chg W W.drew 0 0 := Chg.of_drew ⟨1, rfl⟩ 0 0
  have S0 : SBox W.drew 29 w.heap.size #[.int .i64 st, .int .i64 ld, .slice A n c] := X1.out.still cd
  refine wp_region_held_drew (S := fun V => SBox V 29 w.heap.size #[.int .i64 st, .int .i64 ld, .slice A n c]) (by kernel_rfl) S0 (fun hHeld => ?_)
  refine take_slotC (i := 0) (d := some 5) (v := .pointer (some ⟨w.heap.size, 0, none⟩)) rfl (by kernel_rfl) (by kernel_rfl) (by kernel_rfl) (by kernel_rfl) (fun _ _ _ h => h) (.inl ⟨by kernel_rfl, fun V hV => by have hV0 := SBox.p0 hV; have hV1 := SBox.p1 hV; have hV2 := SBox.p2 hV; go_simp⟩) hHeld ?_
  try simp only [Act.put, List.setIfInBounds_toArray, List.set_cons_zero, List.set_cons_succ]
  refine take_slotC (i := 1) (d := some 6) (v := .int .i64 st) rfl (by kernel_rfl) (by kernel_rfl) (by kernel_rfl) (by kernel_rfl) (fun _ _ _ h => h) (.inl ⟨by kernel_rfl, fun V hV => by have hV0 := SBox.p0 hV; have hV1 := SBox.p1 hV; have hV2 := SBox.p2 hV; go_simp⟩) hHeld ?_
  try simp only [Act.put, List.setIfInBounds_toArray, List.set_cons_zero, List.set_cons_succ]
  refine take_slotC (i := 2) (d := some 7) (v := .pointer (some ⟨w.heap.size, 1, none⟩)) rfl (by kernel_rfl) (by kernel_rfl) (by kernel_rfl) (by kernel_rfl) (fun _ _ _ h => h) (.inl ⟨by kernel_rfl, fun V hV => by have hV0 := SBox.p0 hV; have hV1 := SBox.p1 hV; have hV2 := SBox.p2 hV; go_simp⟩) hHeld ?_
  try simp only [Act.put, List.setIfInBounds_toArray, List.set_cons_zero, List.set_cons_succ]
  refine take_slotC (i := 3) (d := some 8) (v := .int .i64 ld) rfl (by kernel_rfl) (by kernel_rfl) (by kernel_rfl) (by kernel_rfl) (fun _ _ _ h => h) (.inl ⟨by kernel_rfl, fun V hV => by have hV0 := SBox.p0 hV; have hV1 := SBox.p1 hV; have hV2 := SBox.p2 hV; go_simp⟩) hHeld ?_
  try simp only [Act.put, List.setIfInBounds_toArray, List.set_cons_zero, List.set_cons_succ]
  refine take_slotC (i := 5) (d := some 10) (v := .pointer (some ⟨w.heap.size, 2, none⟩)) rfl (by kernel_rfl) (by kernel_rfl) (by kernel_rfl) (by kernel_rfl) (fun _ _ _ h => h) (.inl ⟨by kernel_rfl, fun V hV => by have hV0 := SBox.p0 hV; have hV1 := SBox.p1 hV; have hV2 := SBox.p2 hV; go_simp⟩) hHeld ?_
  try simp only [Act.put, List.setIfInBounds_toArray, List.set_cons_zero, List.set_cons_succ]
  refine take_slotC (i := 6) (d := some 11) (v := .slice A n c) rfl (by kernel_rfl) (by kernel_rfl) (by kernel_rfl) (by kernel_rfl) (fun _ _ _ h => h) (.inl ⟨by kernel_rfl, fun V hV => by have hV0 := SBox.p0 hV; have hV1 := SBox.p1 hV; have hV2 := SBox.p2 hV; go_simp⟩) hHeld ?_
  try simp only [Act.put, List.setIfInBounds_toArray, List.set_cons_zero, List.set_cons_succ]
  refine take_slotC (i := 7) (d := some 12) (v := .int .i64 (k : Int)) rfl (by kernel_rfl) (by kernel_rfl) (by kernel_rfl) (by kernel_rfl) (fun _ _ _ h => h) (.inl ⟨by kernel_rfl, fun V hV => by have hV0 := SBox.p0 hV; have hV1 := SBox.p1 hV; have hV2 := SBox.p2 hV; go_simp⟩) hHeld ?_
  try simp only [Act.put, List.setIfInBounds_toArray, List.set_cons_zero, List.set_cons_succ]
  refine take_slotC (i := 8) (d := some 13) (v := .slice A k c) rfl (by kernel_rfl) (by kernel_rfl) (by kernel_rfl) (by kernel_rfl) (fun _ _ _ h => h) (.inl ⟨by kernel_rfl, fun V hV => by have hV0 := SBox.p0 hV; have hV1 := SBox.p1 hV; have hV2 := SBox.p2 hV; go_simp⟩) hHeld ?_
  try simp only [Act.put, List.setIfInBounds_toArray, List.set_cons_zero, List.set_cons_succ]
  refine wpAnyH_ready (rs := [4]) (by kernel_rfl) (by simp) (AllReadyH.cons (i := 4) rfl (fun K' hK' => ?_) AllReadyH.nil)
  go_simp
  have ca : Chg W (W.alloc (.cells #[] 2)).drew 0 0 := (Chg.of_alloc W (.cells #[] 2) 0 0).trans (Chg.of_drew ⟨1, rfl⟩ 0 0)
  have O1 : OwnV (W.alloc (.cells #[] 2)).drew (w.heap.size + 2) (.slice (some ⟨W.heap.size, 0, none⟩) 0 0) [] := (OwnV.made W (base := w.heap.size + 2) (by omega)).chg (Chg.of_drew ⟨1, rfl⟩ 0 0) (Nat.zero_le _)
  have B1 := Lib.hid (X1.out.still ca)
  have Z1 := Lib.hid (X2.out.still ca)
  have R1 := Lib.hid ((H0.out.still ca).take hk)
  have C1 := Lib.hid (C0.out.trans ca)
  have z1 : w.heap.size + 2 ≤ (W.alloc (.cells #[] 2)).drew.heap.size := by have := ca.size; omega
  refine hK'.out _ _ B1.out (fun hHeld => ?_)
  clear hK' ca cd
  obtain ⟨u1, hu1⟩ : ∃ u, u = Value.slice (some ⟨W.heap.size, 0, none⟩) 0 0 := ⟨_, rfl⟩
  rw [← hu1] at O1 ⊢
  have O1 := Lib.hid O1
  clear hu1
  generalize (W.alloc (.cells #[] 2)).drew = w2 at O1 B1 Z1 R1 C1 z1 hHeld ⊢
  try simp only [Act.put, List.setIfInBounds_toArray, List.set_cons_zero, List.set_cons_succ]
  refine wpAnyH_ready (rs := [9]) (by kernel_rfl) (by simp) (AllReadyH.cons (i := 9) rfl (fun K' hK' => ?_) AllReadyH.nil)
  refine step_cat7 rfl (.tmp 9) (.tmp 13) rfl (w.heap.size + 2) u1 [] (by rfl) O1.out 0 w.heap.size A k c (cs.take k) (by rfl) hnil R1.out (by simp; omega) (by omega) ?_
  intro u3 w3 o3 b3 _
  have O3 := Lib.hid (show OwnV w3 (w.heap.size + 2) u3 (cs.take k) by simpa using o3)
  have Z3 := Lib.hid ((b3.block _ (by omega)).trans Z1.out)
  have B3 : SBox w3 29 w.heap.size #[.int .i64 st, .int .i64 ld, .slice A n c] := (b3.block _ (by omega)).trans B1.out
  have K3 := Lib.hid (C1.out.to_below.trans (b3.mono (by omega)))
  refine hK'.out _ _ B3 (fun hHeld => ?_)
  clear hK' o3 b3 O1 B1 Z1 R1 C1
  obtain ⟨U, cu, hu, hcu, _⟩ := O3.out.form
  generalize hm : (cs.take k).length = m at hu
  clear hm
  subst hu
  refine wpAnyH_ready (rs := [10]) (by kernel_rfl) (by simp) (AllReadyH.cons (i := 10) rfl (fun K' hK' => ?_) AllReadyH.nil)
  go_simp
  refine hK'.out _ _ hHeld (fun hHeld => ?_)
  clear hK'
  have ZS := Lib.hid (setRow_heap w3 (w.heap.size + 1) _ #[.int .i64 st, .int .i64 ld, .slice U m cu] _ _ Z3.out)
  have KS := Lib.hid (K3.out.trans (rowB w3 (show w.heap.size ≤ w.heap.size + 1 by omega) #[.int .i64 st, .int .i64 ld, .slice U m cu]))
  have OS := Lib.hid ((O3.out.far w3 #[.int .i64 st, .int .i64 ld, .slice U m cu] (show w.heap.size + 1 < w.heap.size + 2 by omega)).more (show w.heap.size ≤ w.heap.size + 2 by omega))
  refine wpAnyH_ready (rs := [11]) (by kernel_rfl) (by simp) (AllReadyH.cons (i := 11) rfl (fun K' hK' => ?_) AllReadyH.nil)
  refine step_of_wp7 rfl (wp_store_row 29 _ _ rfl (w.heap.size + 1) #[.int .i64 st, .int .i64 ld, .slice U m cu] rfl rfl 29 #[.int .i64 0, .int .i64 0, .slice none 0 0] Z3.out (play_info _ _ _ _ _) rfl (play_cells _ _ _ _ _) ?_)
  refine hK'.out _ _ (show SBox (w3.setRow (w.heap.size + 1) #[.int .i64 st, .int .i64 ld, .slice U m cu]) 29 w.heap.size #[.int .i64 st, .int .i64 ld, .slice A n c] from (setRow_other w3 (w.heap.size + 1) w.heap.size _ (by omega)).trans hHeld) (fun hHeld => ?_)
  clear hK'
  refine wpAnyH_done (by kernel_rfl) ?_ _
  go_wp2_with fail
  refine bodyPost_ret (v := .agg #[.int .i64 st, .int .i64 ld, .slice U m cu]) (results_cell_row Try.results98 _ _ (w.heap.size + 1) 29 #[.int .i64 st, .int .i64 ld, .slice U m cu] (0, 0) _ rfl ZS.out Try.underlying29 rfl (play_info _ _ _ _ _)) rfl ?_
  exact ⟨_, rfl, OS.out, KS.out⟩
end Go.Proofs.Yteglffbeldlibaa.Lib1
