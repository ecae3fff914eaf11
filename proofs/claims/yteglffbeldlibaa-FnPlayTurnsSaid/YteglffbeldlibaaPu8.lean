/- Chapter 8, the program: a playing: what is legal, a card played. (Written by wip/gen8m.py.) -/
import Derived.Test.YteglffbeldlibaaPs8
namespace Go.Proofs.Yteglffbeldlibaa.Lib1
open Go.RowKit
set_option maxRecDepth 100000

/-- Block g holds a playing: its tricks, what is left. -/
def GBox (w : World) (g : Nat) (p : Value) (s : Value) : Prop := SBox w 84 g #[p, s]
section
variable {w w' : World} {g : Nat} {p : Value} {s : Value}
theorem GBox.lt (h : GBox w g p s) : g < w.heap.size := lt_of_block h
theorem GBox.of (h : GBox w g p s) (e : w'.heap[g]? = w.heap[g]?) : GBox w' g p s := e.trans h
theorem GBox.still (h : GBox w g p s) (k : Chg w w' 0 0) : GBox w' g p s := (k.block g (lt_of_block h) (.inr (Nat.zero_le _))).trans h
theorem GBox.c0 (h : GBox w g p s) : w.cell? ⟨g, 0, none⟩ = some (p) := by rw [cell_of_row w g 0 _ _ _ h]; rfl
theorem GBox.c1 (h : GBox w g p s) : w.cell? ⟨g, 1, none⟩ = some (s) := by rw [cell_of_row w g 1 _ _ _ h]; rfl
theorem GBox.fr (h : GBox w g p s) (i : Nat) : w.frozen? ⟨g, i, none⟩ = false := by unfold GBox SBox at h; simp [World.frozen?, h]
theorem GBox.set0 (h : GBox w g p s) (u : Value) : GBox (w.setCell ⟨g, 0, none⟩ u) g u s := set_heapS h 0 u
theorem GBox.set1 (h : GBox w g p s) (u : Value) : GBox (w.setCell ⟨g, 1, none⟩ u) g p u := set_heapS h 1 u
end
theorem OwnR.row8 {w : World} {lo hi b n : Nat} {zss : List (List Int)} (h : OwnR w lo hi (some ⟨b, 0, none⟩) n zss) {j : Nat} (hj : j < n) : ∃ Bj C,
    w.cell? ⟨b, j, none⟩ = some (.slice Bj (zss.getD j []).length C) ∧ Own w lo hi Bj (zss.getD j []).length (zss.getD j []) ∧ (zss.getD j []).length ≤ C ∧ Plain Bj C := by
  obtain ⟨h0, B, C, h1, h2, _⟩ := h
  obtain ⟨b', cs, e, l1, l2, hb, hcs, _⟩ := h1 (by omega)
  obtain rfl : b = b' := by injection e with e; injection e
  exact ⟨B j, C j, by rw [cell_of_row w b j cs _ _ hb]; exact hcs j hj, (h2 j hj).1, (h2 j hj).2⟩
theorem Own.fr8 {w w' : World} {lo hi n : Nat} {A : Option Addr} {zs : List Int} (r : Own w lo hi A n zs) (hb : ∀ k, lo ≤ k → k < hi → k < w.heap.size → w'.heap[k]? = w.heap[k]?) : Own w' lo hi A n zs :=
  ⟨r.1, fun hn => by
    obtain ⟨b, cs, e, h1, h2, hbk, hc⟩ := r.2 hn
    exact ⟨b, cs, e, h1, h2, (hb b h1 h2 (lt_of_block hbk)).trans hbk, hc⟩⟩
theorem OwnR.fr8 {w w' : World} {lo hi n : Nat} {A : Option Addr} {zss : List (List Int)} (r : OwnR w lo hi A n zss) (hb : ∀ k, lo ≤ k → k < hi → k < w.heap.size → w'.heap[k]? = w.heap[k]?) : OwnR w' lo hi A n zss := by
  obtain ⟨h0, B, C, h1, h2, h3⟩ := r
  refine ⟨h0, B, C, fun hn => ?_, fun j hj => ⟨(h2 j hj).1.fr8 hb, (h2 j hj).2⟩, h3⟩
  obtain ⟨b, cs, e, l1, l2, hbk, hc⟩ := h1 hn
  exact ⟨b, cs, e, l1, l2, (hb b l1 l2 (lt_of_block hbk)).trans hbk, hc⟩
/-- The playing at g behind the cards us. -/
def Gst (w : World) (g B : Nat) (zss : List (List Int)) (st ld : Int) (us : List Int) : Prop := ∃ c b cb lo hi, GBox w g (.pointer (some ⟨c, 0, none⟩)) (.slice (some ⟨b, 0, none⟩) 4 cb) ∧ Tch w c B (fun k => k = g ∨ (lo ≤ k ∧ k < hi)) st ld us ∧
  OwnR w lo hi (some ⟨b, 0, none⟩) 4 (leftTo zss us 4) ∧ (g < lo ∨ hi ≤ g) ∧ (B ≤ g ∧ B ≤ lo ∧ 4 ≤ cb) ∧ hi ≤ w.heap.size
theorem Gst.still {w w' : World} {g B : Nat} {zss : List (List Int)} {st ld : Int} {us : List Int} (h : Gst w g B zss st ld us) (k : Chg w w' 0 0) : Gst w' g B zss st ld us := by
  obtain ⟨c, b, cb, lo, hi, h1, h2, h3, h4, h5, h6⟩ := h
  exact ⟨c, b, cb, lo, hi, h1.still k, h2.still k, h3.still k, h4, h5, Nat.le_trans h6 k.size⟩
/-- A list of the call's own, above B. -/
def RetG8 (w : World) (B : Nat) (zs : List Int) (e : Ending) (w' : World) : Prop := ∃ A c, e = .returned (.slice A zs.length c) ∧ zs.length ≤ c ∧ Plain A c ∧ Own w' B w'.heap.size A zs.length zs ∧ Chg w w' 0 0
theorem turn_nat8 (st ld : Int) (us : List Int) : ∃ s : Nat, turnL st ld us = (s : Int) ∧ s < 4 := by
  have h := turnL_rng st ld us
  obtain ⟨s, hs⟩ : ∃ s : Nat, turnL st ld us = (s : Int) := ⟨_, (Int.toNat_of_nonneg h.1).symm⟩
  exact ⟨s, hs, by omega⟩
theorem left_hand8 {hs cs : List Int} (h : handB hs = true) : handB (leftL hs cs) = true := by
  obtain ⟨h1, h2, h3⟩ := (hand_iff hs).1 h
  exact (hand_iff _).2 ⟨Nat.le_trans (leftL_le _ _) h1, h2.sublist List.filter_sublist, fun z hz => h3 z (List.mem_filter.1 hz).1⟩

set_option maxHeartbeats 3200000 in
theorem finished8 (g B : Nat) (zss : List (List Int)) (st ld : Int) (us : List Int) (w : World) (h : Gst w g B zss st ld us) (hl : 0 ≤ ld ∧ ld ≤ 3) (hd : dealB zss = true) :
    Calls Try.prog 68 #[.pointer (some ⟨g, 0, none⟩)] w fun e w' => e = .returned (.bool (decide ((leftL (zss.getD (turnL st ld us).toNat []) us).length = 0))) ∧ Chg w w' 0 0 := by
  obtain ⟨s, hts, hs4⟩ := turn_nat8 st ld us
  obtain ⟨c, b, cb, lo, hi, h1, h2, h3, h4, ⟨h5, h6, h7⟩, h8⟩ := h
  obtain ⟨Bs, C, hcell, hown, hcap, hpl⟩ := h3.row8 hs4
  rw [leftTo_at hs4] at hcell hown hcap
  rw [hts, Int.toNat_natCast]
  have HTS := Lib.hid hts
  have hL13 : (leftL (zss.getD s []) us).length ≤ 13 := Nat.le_trans (leftL_le _ _) (rows_ok hd hs4).1
  generalize (leftL (zss.getD s []) us).length = L at *
  have cd : Chg w w.drew 0 0 := Chg.of_drew ⟨1, rfl⟩ 0 0
  generalize (fun k => k = g ∨ (lo ≤ k ∧ k < hi)) = Z at h2
  have H0 := And.intro (h1.still cd) (And.intro (h2.still cd) (cd.cellS hcell))
  have hs4i : (s : Int) < 4 := by omega
  obtain ⟨R, hR⟩ : ∃ R, R = decide (L = 0) := ⟨_, rfl⟩
  have hR2 : ((L : Int) == 0) = R := by rw [hR]; by_cases e : L = 0 <;> simp [e]
  have HR := Lib.hid hR
  rw [← HR.out]
  clear hR h1 h2 h3 hown hpl hts cd hcell
  go_enter Try.func68, Try.ntmps68
  go_wp2_with fail
  refine wp_region_held_drew (S := fun V => GBox V g (.pointer (some ⟨c, 0, none⟩)) (.slice (some ⟨b, 0, none⟩) 4 cb) ∧ Tch V c B Z st ld us ∧ V.cell? ⟨b, s, none⟩ = some (.slice Bs L C)) (by kernel_rfl) H0 (fun hHeld => ?_)
  refine take_slotC (i := 0) (d := some 3) (v := .pointer (some ⟨g, 0, none⟩)) rfl (by kernel_rfl) (by kernel_rfl) (by kernel_rfl) (by kernel_rfl) (fun _ _ _ h => h) (.inl ⟨by kernel_rfl, fun V hV => by obtain ⟨hV1, hV2, hV3⟩ := hV; have q0 := GBox.c0 hV1; have q1 := GBox.c1 hV1; go_simp⟩) hHeld ?_
  try simp only [Act.put, List.setIfInBounds_toArray, List.set_cons_zero, List.set_cons_succ]
  refine take_slotC (i := 1) (d := some 4) (v := .pointer (some ⟨g, 0, none⟩)) rfl (by kernel_rfl) (by kernel_rfl) (by kernel_rfl) (by kernel_rfl) (fun _ _ _ h => h) (.inl ⟨by kernel_rfl, fun V hV => by obtain ⟨hV1, hV2, hV3⟩ := hV; have q0 := GBox.c0 hV1; have q1 := GBox.c1 hV1; go_simp⟩) hHeld ?_
  try simp only [Act.put, List.setIfInBounds_toArray, List.set_cons_zero, List.set_cons_succ]
  refine take_slotC (i := 2) (d := some 5) (v := .pointer (some ⟨g, 1, none⟩)) rfl (by kernel_rfl) (by kernel_rfl) (by kernel_rfl) (by kernel_rfl) (fun _ _ _ h => h) (.inl ⟨by kernel_rfl, fun V hV => by obtain ⟨hV1, hV2, hV3⟩ := hV; have q0 := GBox.c0 hV1; have q1 := GBox.c1 hV1; go_simp⟩) hHeld ?_
  try simp only [Act.put, List.setIfInBounds_toArray, List.set_cons_zero, List.set_cons_succ]
  refine take_slotC (i := 3) (d := some 6) (v := .slice (some ⟨b, 0, none⟩) 4 cb) rfl (by kernel_rfl) (by kernel_rfl) (by kernel_rfl) (by kernel_rfl) (fun _ _ _ h => h) (.inl ⟨by kernel_rfl, fun V hV => by obtain ⟨hV1, hV2, hV3⟩ := hV; have q0 := GBox.c0 hV1; have q1 := GBox.c1 hV1; go_simp⟩) hHeld ?_
  try simp only [Act.put, List.setIfInBounds_toArray, List.set_cons_zero, List.set_cons_succ]
  refine take_slotC (i := 4) (d := some 7) (v := .pointer (some ⟨g, 0, none⟩)) rfl (by kernel_rfl) (by kernel_rfl) (by kernel_rfl) (by kernel_rfl) (fun _ _ _ h => h) (.inl ⟨by kernel_rfl, fun V hV => by obtain ⟨hV1, hV2, hV3⟩ := hV; have q0 := GBox.c0 hV1; have q1 := GBox.c1 hV1; go_simp⟩) hHeld ?_
  try simp only [Act.put, List.setIfInBounds_toArray, List.set_cons_zero, List.set_cons_succ]
  refine take_slotC (i := 5) (d := some 8) (v := .pointer (some ⟨g, 0, none⟩)) rfl (by kernel_rfl) (by kernel_rfl) (by kernel_rfl) (by kernel_rfl) (fun _ _ _ h => h) (.inl ⟨by kernel_rfl, fun V hV => by obtain ⟨hV1, hV2, hV3⟩ := hV; have q0 := GBox.c0 hV1; have q1 := GBox.c1 hV1; go_simp⟩) hHeld ?_
  try simp only [Act.put, List.setIfInBounds_toArray, List.set_cons_zero, List.set_cons_succ]
  refine take_slotC (i := 6) (d := some 9) (v := .pointer (some ⟨g, 0, none⟩)) rfl (by kernel_rfl) (by kernel_rfl) (by kernel_rfl) (by kernel_rfl) (fun _ _ _ h => h) (.inl ⟨by kernel_rfl, fun V hV => by obtain ⟨hV1, hV2, hV3⟩ := hV; have q0 := GBox.c0 hV1; have q1 := GBox.c1 hV1; go_simp⟩) hHeld ?_
  try simp only [Act.put, List.setIfInBounds_toArray, List.set_cons_zero, List.set_cons_succ]
  refine take_slotC (i := 7) (d := some 10) (v := .pointer (some ⟨c, 0, none⟩)) rfl (by kernel_rfl) (by kernel_rfl) (by kernel_rfl) (by kernel_rfl) (fun _ _ _ h => h) (.inl ⟨by kernel_rfl, fun V hV => by obtain ⟨hV1, hV2, hV3⟩ := hV; have q0 := GBox.c0 hV1; have q1 := GBox.c1 hV1; go_simp⟩) hHeld ?_
  try simp only [Act.put, List.setIfInBounds_toArray, List.set_cons_zero, List.set_cons_succ]
  refine wpAnyH_ready (rs := [8]) (by kernel_rfl) (by simp) (AllReadyH.cons (i := 8) rfl (fun K' hK' => ?_) AllReadyH.nil)
  go_simp
  refine (turn8 c B Z st ld us _ hHeld.2.1 hl).mono ?_
  rw [HTS.out]
  rintro e w2 ⟨rfl, c2⟩
  have C2 := Lib.hid ((Chg.of_drew ⟨1, rfl⟩ 0 0 : Chg w w.drew 0 0).trans c2)
  have hHeld2 := And.intro (hHeld.1.still c2) (And.intro (hHeld.2.1.still c2) (c2.cellS hHeld.2.2))
  clear c2
  refine hK'.out _ _ hHeld2 (fun hHeld => ?_)
  clear hK'
  try simp only [Act.put, List.setIfInBounds_toArray, List.set_cons_zero, List.set_cons_succ]
  refine take_slotC (i := 9) (d := some 12) (v := .pointer (some ⟨b, s, none⟩)) rfl (by kernel_rfl) (by kernel_rfl) (by kernel_rfl) (by kernel_rfl) (fun _ _ _ h => h) (.inl ⟨by kernel_rfl, fun V hV => by obtain ⟨hV1, hV2, hV3⟩ := hV; have q0 := GBox.c0 hV1; have q1 := GBox.c1 hV1; go_simp⟩) hHeld ?_
  try simp only [Act.put, List.setIfInBounds_toArray, List.set_cons_zero, List.set_cons_succ]
  refine take_slotC (i := 10) (d := some 13) (v := .slice Bs L C) rfl (by kernel_rfl) (by kernel_rfl) (by kernel_rfl) (by kernel_rfl) (fun _ _ _ h => h) (.inl ⟨by kernel_rfl, fun V hV => by obtain ⟨hV1, hV2, hV3⟩ := hV; have q0 := GBox.c0 hV1; have q1 := GBox.c1 hV1; go_simp⟩) hHeld ?_
  try simp only [Act.put, List.setIfInBounds_toArray, List.set_cons_zero, List.set_cons_succ]
  refine take_slotC (i := 11) (d := some 14) (v := .int .i64 (L : Int)) rfl (by kernel_rfl) (by kernel_rfl) (by kernel_rfl) (by kernel_rfl) (fun _ _ _ h => h) (.inl ⟨by kernel_rfl, fun V hV => by obtain ⟨hV1, hV2, hV3⟩ := hV; have q0 := GBox.c0 hV1; have q1 := GBox.c1 hV1; go_simp⟩) hHeld ?_
  try simp only [Act.put, List.setIfInBounds_toArray, List.set_cons_zero, List.set_cons_succ]
  refine take_slotC (i := 12) (d := some 15) (v := .bool R) rfl (by kernel_rfl) (by kernel_rfl) (by kernel_rfl) (by kernel_rfl) (fun _ _ _ h => h) (.inl ⟨by kernel_rfl, fun V hV => by obtain ⟨hV1, hV2, hV3⟩ := hV; have q0 := GBox.c0 hV1; have q1 := GBox.c1 hV1; go_simp⟩) hHeld ?_
  try simp only [Act.put, List.setIfInBounds_toArray, List.set_cons_zero, List.set_cons_succ]
  refine take_slotC (i := 13) (d := some 2) (v := .bool R) rfl (by kernel_rfl) (by kernel_rfl) (by kernel_rfl) (by kernel_rfl) (fun _ _ _ h => h) (.inl ⟨by kernel_rfl, fun V hV => by obtain ⟨hV1, hV2, hV3⟩ := hV; have q0 := GBox.c0 hV1; have q1 := GBox.c1 hV1; go_simp⟩) hHeld ?_
  try simp only [Act.put, List.setIfInBounds_toArray, List.set_cons_zero, List.set_cons_succ]
  refine wpAnyH_done (by kernel_rfl) ?_ _
  go_wp2_with fail
  go_ret
  exact ⟨rfl, C2.out⟩

set_option maxHeartbeats 6400000 in
theorem legal8 (g B : Nat) (zss : List (List Int)) (st ld : Int) (us : List Int) (w : World) (h : Gst w g B zss st ld us) (hB : B ≤ w.heap.size) (hl : 0 ≤ ld ∧ ld ≤ 3) (hd : dealB zss = true) (hz : ∀ j, j < us.length → 0 ≤ us.getD j 0 ∧ us.getD j 0 ≤ 51) :
    Calls Try.prog 67 #[.pointer (some ⟨g, 0, none⟩)] w (RetG8 w B (legL zss st ld us)) := by
  obtain ⟨s, hts, hs4⟩ := turn_nat8 st ld us
  obtain ⟨c, b, cb, lo, hi, h1, h2, h3, h4, ⟨h5, h6, h7⟩, h8⟩ := h
  obtain ⟨Bs, C, hcell, hown, hcap, hpl⟩ := h3.row8 hs4
  rw [leftTo_at hs4] at hcell hown hcap
  have hh := left_hand8 (cs := us) (((deal_iff zss).1 hd).2.1 s hs4).1
  have HLG := Lib.hid (show legL zss st ld us = if us.length % 4 = 0 then leftL (zss.getD s []) us else if 0 < (suitF (us.getD (us.length - us.length % 4) 0 / 13) (leftL (zss.getD s []) us)).length then suitF (us.getD (us.length - us.length % 4) 0 / 13) (leftL (zss.getD s []) us) else leftL (zss.getD s []) us by unfold legL; rw [hts, Int.toNat_natCast])
  obtain ⟨G, hG⟩ : ∃ G, G = legL zss st ld us := ⟨_, rfl⟩
  rw [← hG] at HLG ⊢
  have HTS := Lib.hid hts
  generalize leftL (zss.getD s []) us = zs at *
  obtain ⟨L, hL⟩ : ∃ L, L = zs.length := ⟨_, rfl⟩
  rw [← hL] at hcell hown hcap
  have HOW := Lib.hid hown
  have HPL := Lib.hid hpl
  have HH := Lib.hid hh
  have HL := Lib.hid hL
  have cd : Chg w w.drew 0 0 := Chg.of_drew ⟨1, rfl⟩ 0 0
  generalize (fun k => k = g ∨ (lo ≤ k ∧ k < hi)) = Z at h2
  have H0 := And.intro (h1.still cd) (And.intro (h2.still cd) (cd.cellS hcell))
  have hs4i : (s : Int) < 4 := by omega
  have HCAP := Lib.hid hcap
  clear hG h1 h2 h3 hown hpl hts cd hcell hh hL hcap
  go_enter Try.func67, Try.ntmps67
  go_wp2_with fail
  refine wp_region_held_drew (S := fun V => GBox V g (.pointer (some ⟨c, 0, none⟩)) (.slice (some ⟨b, 0, none⟩) 4 cb) ∧ Tch V c B Z st ld us ∧ V.cell? ⟨b, s, none⟩ = some (.slice Bs L C)) (by kernel_rfl) H0 (fun hHeld => ?_)
  refine take_slotC (i := 0) (d := some 6) (v := .pointer (some ⟨g, 0, none⟩)) rfl (by kernel_rfl) (by kernel_rfl) (by kernel_rfl) (by kernel_rfl) (fun _ _ _ h => h) (.inl ⟨by kernel_rfl, fun V hV => by obtain ⟨hV1, hV2, hV3⟩ := hV; have q0 := GBox.c0 hV1; have q1 := GBox.c1 hV1; go_simp⟩) hHeld ?_
  try simp only [Act.put, List.setIfInBounds_toArray, List.set_cons_zero, List.set_cons_succ]
  refine take_slotC (i := 1) (d := some 7) (v := .pointer (some ⟨g, 0, none⟩)) rfl (by kernel_rfl) (by kernel_rfl) (by kernel_rfl) (by kernel_rfl) (fun _ _ _ h => h) (.inl ⟨by kernel_rfl, fun V hV => by obtain ⟨hV1, hV2, hV3⟩ := hV; have q0 := GBox.c0 hV1; have q1 := GBox.c1 hV1; go_simp⟩) hHeld ?_
  try simp only [Act.put, List.setIfInBounds_toArray, List.set_cons_zero, List.set_cons_succ]
  refine take_slotC (i := 2) (d := some 8) (v := .pointer (some ⟨g, 1, none⟩)) rfl (by kernel_rfl) (by kernel_rfl) (by kernel_rfl) (by kernel_rfl) (fun _ _ _ h => h) (.inl ⟨by kernel_rfl, fun V hV => by obtain ⟨hV1, hV2, hV3⟩ := hV; have q0 := GBox.c0 hV1; have q1 := GBox.c1 hV1; go_simp⟩) hHeld ?_
  try simp only [Act.put, List.setIfInBounds_toArray, List.set_cons_zero, List.set_cons_succ]
  refine take_slotC (i := 3) (d := some 9) (v := .slice (some ⟨b, 0, none⟩) 4 cb) rfl (by kernel_rfl) (by kernel_rfl) (by kernel_rfl) (by kernel_rfl) (fun _ _ _ h => h) (.inl ⟨by kernel_rfl, fun V hV => by obtain ⟨hV1, hV2, hV3⟩ := hV; have q0 := GBox.c0 hV1; have q1 := GBox.c1 hV1; go_simp⟩) hHeld ?_
  try simp only [Act.put, List.setIfInBounds_toArray, List.set_cons_zero, List.set_cons_succ]
  refine take_slotC (i := 4) (d := some 10) (v := .pointer (some ⟨g, 0, none⟩)) rfl (by kernel_rfl) (by kernel_rfl) (by kernel_rfl) (by kernel_rfl) (fun _ _ _ h => h) (.inl ⟨by kernel_rfl, fun V hV => by obtain ⟨hV1, hV2, hV3⟩ := hV; have q0 := GBox.c0 hV1; have q1 := GBox.c1 hV1; go_simp⟩) hHeld ?_
  try simp only [Act.put, List.setIfInBounds_toArray, List.set_cons_zero, List.set_cons_succ]
  refine take_slotC (i := 5) (d := some 11) (v := .pointer (some ⟨g, 0, none⟩)) rfl (by kernel_rfl) (by kernel_rfl) (by kernel_rfl) (by kernel_rfl) (fun _ _ _ h => h) (.inl ⟨by kernel_rfl, fun V hV => by obtain ⟨hV1, hV2, hV3⟩ := hV; have q0 := GBox.c0 hV1; have q1 := GBox.c1 hV1; go_simp⟩) hHeld ?_
  try simp only [Act.put, List.setIfInBounds_toArray, List.set_cons_zero, List.set_cons_succ]
  refine take_slotC (i := 6) (d := some 12) (v := .pointer (some ⟨g, 0, none⟩)) rfl (by kernel_rfl) (by kernel_rfl) (by kernel_rfl) (by kernel_rfl) (fun _ _ _ h => h) (.inl ⟨by kernel_rfl, fun V hV => by obtain ⟨hV1, hV2, hV3⟩ := hV; have q0 := GBox.c0 hV1; have q1 := GBox.c1 hV1; go_simp⟩) hHeld ?_
  try simp only [Act.put, List.setIfInBounds_toArray, List.set_cons_zero, List.set_cons_succ]
  refine take_slotC (i := 7) (d := some 13) (v := .pointer (some ⟨c, 0, none⟩)) rfl (by kernel_rfl) (by kernel_rfl) (by kernel_rfl) (by kernel_rfl) (fun _ _ _ h => h) (.inl ⟨by kernel_rfl, fun V hV => by obtain ⟨hV1, hV2, hV3⟩ := hV; have q0 := GBox.c0 hV1; have q1 := GBox.c1 hV1; go_simp⟩) hHeld ?_
  try simp only [Act.put, List.setIfInBounds_toArray, List.set_cons_zero, List.set_cons_succ]
  refine wpAnyH_ready (rs := [8]) (by kernel_rfl) (by simp) (AllReadyH.cons (i := 8) rfl (fun K' hK' => ?_) AllReadyH.nil)
  go_simp
  refine (turn8 c B Z st ld us _ hHeld.2.1 hl).mono ?_
  rw [HTS.out]
  rintro e w2 ⟨rfl, c2⟩
  have C2 := Lib.hid ((Chg.of_drew ⟨1, rfl⟩ 0 0 : Chg w w.drew 0 0).trans c2)
  have hHeld2 := And.intro (hHeld.1.still c2) (And.intro (hHeld.2.1.still c2) (c2.cellS hHeld.2.2))
  clear c2
  refine hK'.out _ _ hHeld2 (fun hHeld => ?_)
  clear hK'
  try simp only [Act.put, List.setIfInBounds_toArray, List.set_cons_zero, List.set_cons_succ]
  refine take_slotC (i := 9) (d := some 15) (v := .pointer (some ⟨b, s, none⟩)) rfl (by kernel_rfl) (by kernel_rfl) (by kernel_rfl) (by kernel_rfl) (fun _ _ _ h => h) (.inl ⟨by kernel_rfl, fun V hV => by obtain ⟨hV1, hV2, hV3⟩ := hV; have q0 := GBox.c0 hV1; have q1 := GBox.c1 hV1; go_simp⟩) hHeld ?_
  try simp only [Act.put, List.setIfInBounds_toArray, List.set_cons_zero, List.set_cons_succ]
  refine take_slotC (i := 10) (d := some 16) (v := .slice Bs L C) rfl (by kernel_rfl) (by kernel_rfl) (by kernel_rfl) (by kernel_rfl) (fun _ _ _ h => h) (.inl ⟨by kernel_rfl, fun V hV => by obtain ⟨hV1, hV2, hV3⟩ := hV; have q0 := GBox.c0 hV1; have q1 := GBox.c1 hV1; go_simp⟩) hHeld ?_
  try simp only [Act.put, List.setIfInBounds_toArray, List.set_cons_zero, List.set_cons_succ]
  refine take_slotC (i := 11) (d := some 3) (v := .slice Bs L C) rfl (by kernel_rfl) (by kernel_rfl) (by kernel_rfl) (by kernel_rfl) (fun _ _ _ h => h) (.inl ⟨by kernel_rfl, fun V hV => by obtain ⟨hV1, hV2, hV3⟩ := hV; have q0 := GBox.c0 hV1; have q1 := GBox.c1 hV1; go_simp⟩) hHeld ?_
  try simp only [Act.put, List.setIfInBounds_toArray, List.set_cons_zero, List.set_cons_succ]
  refine wpAnyH_done (by kernel_rfl) ?_ _
  obtain ⟨p, f, am, A, n, cp, hn, hK, hT, hRd⟩ := hHeld.2.1.open_
  have q0 := hHeld.1.c0
  have k1 := hK.c1
  have t1 := hT.c1
  have HRD := Lib.hid hRd
  have HN := Lib.hid hn
  have hn4 : n < 4 := by omega
  clear hHeld hK hT hRd hHeld2 hn
  have HOW2 := Lib.hid ((HOW.out.still C2.out).more h6 (Nat.le_trans h8 C2.out.size))
  by_cases hn0 : n = 0
  · have hr : Hid (G = zs) := by show G = zs; rw [HLG.out, if_pos (by rw [← HN.out]; exact hn0)]
    subst hn0
    go_wp2
    go_ret
    exact ⟨Bs, C, by rw [hr.out, ← HL.out]; first | done | rfl, by rw [hr.out, ← HL.out]; exact HCAP.out, HPL.out, by rw [hr.out, ← HL.out]; exact HOW2.out, C2.out⟩
  · have hn0i : ((n : Int) == 0) = false := by simp; omega
    obtain ⟨bA, off, hA, _, _, hcs⟩ := HRD.out.2 (by omega)
    subst hA
    have hc0 := hcs 0 (by omega)
    have hx := hz (us.length - us.length % 4) (by have := HN.out; omega)
    have ex : (us.drop (4 * (us.length / 4))).getD 0 0 = us.getD (us.length - us.length % 4) 0 := by rw [getD_drop8]; congr 1; omega
    rw [ex, Nat.add_zero] at hc0
    have HLG := Lib.hid (show G = if 0 < (suitF (us.getD (us.length - us.length % 4) 0 / 13) zs).length then suitF (us.getD (us.length - us.length % 4) 0 / 13) zs else zs by rw [HLG.out, if_neg (by rw [← HN.out]; exact hn0)])
    generalize us.getD (us.length - us.length % 4) 0 = x at hc0 hx HLG
    have HX := Lib.hid hx
    have hp0 : (0 : Int) < (n : Int) := by omega
    clear ex hcs hx hn0
    go_wp2_with fail
    refine (impl_SuitOf x _).mono ?_
    rintro e w' ⟨rfl, rfl⟩
    rw [suitV_yes HX.out]
    have hcs := impl_CardsOfSuit Bs L C (x / 13) zs 0 _ _ HOW2.out.rd.all
    have eb : inB (x / 13) 0 3 = true := inB_true (by have := HX.out; omega)
    rw [cardsV_yes HH.out eb] at hcs
    have HCS := Lib.hid hcs
    clear hcs eb
    go_wp2_with fail
    refine HCS.out.mono ?_
    rintro e w3 ⟨A3, c3, rfl, g1, g2, g3, g4⟩
    have G1 := Lib.hid g1
    have G2 := Lib.hid g2
    have G3 := Lib.hid g3
    have C3 := Lib.hid (C2.out.trans g4)
    have HOW3 := Lib.hid ((HOW2.out.still g4).more (Nat.le_refl _) g4.size)
    have Z2 := Lib.hid (show B ≤ w2.heap.size from Nat.le_trans hB C2.out.size)
    have hfl : (suitF (x / 13) zs).length ≤ 1048576 := by have := suitF_le (x / 13) zs; have := hand_len HH.out; omega
    clear g1 g2 g3 g4 HCS HOW2 k1 t1 q0
    generalize hF : suitF (x / 13) zs = F at *
    clear hF
    by_cases hf : F.length = 0
    · have hr : Hid (G = zs) := by show G = zs; rw [HLG.out, if_neg (show ¬ 0 < F.length by omega)]
      have hfi : ((F.length : Int) == 0) = true := by simp [hf]
      clear hf
      go_wp2
      go_ret
      exact ⟨Bs, C, by rw [hr.out, ← HL.out]; first | done | rfl, by rw [hr.out, ← HL.out]; exact HCAP.out, HPL.out, by rw [hr.out, ← HL.out]; exact HOW3.out, C3.out⟩
    · have hr : Hid (G = F) := by show G = F; rw [HLG.out, if_pos (show 0 < F.length by omega)]
      have hfi : ((F.length : Int) == 0) = false := by rw [beq_eq_false_iff_ne]; omega
      clear hf
      go_wp2
      go_ret
      exact ⟨A3, c3, by rw [hr.out]; first | done | rfl, by rw [hr.out]; exact G1.out, G2.out, by rw [hr.out]; exact G3.out.more Z2.out (Nat.le_refl _), C3.out⟩
theorem allows8 (g B : Nat) (zss : List (List Int)) (st ld x : Int) (us : List Int) (w : World) (h : Gst w g B zss st ld us) (hB : B ≤ w.heap.size) (hl : 0 ≤ ld ∧ ld ≤ 3) (hd : dealB zss = true) (hz : ∀ j, j < us.length → 0 ≤ us.getD j 0 ∧ us.getD j 0 ≤ 51) :
    Calls Try.prog 69 #[.pointer (some ⟨g, 0, none⟩), .int .i64 x] w fun e w' => e = .returned (.bool (hasB (legL zss st ld us) x)) ∧ Chg w w' 0 0 := by
  have hL : (legL zss st ld us).length ≤ 1048576 := by
    obtain ⟨s, hts, hs4⟩ := turn_nat8 st ld us
    have := legL_len zss st ld us
    rw [hts, Int.toNat_natCast] at this
    have := (rows_ok hd hs4).1
    omega
  have HLG := legal8 g B zss st ld us w h hB hl hd hz
  generalize legL zss st ld us = G at *
  go_enter Try.func69, Try.ntmps69
  go_wp2_with fail
  refine HLG.mono ?_
  rintro e w2 ⟨A, c, rfl, g1, g2, g3, g4⟩
  have HC := Contains64 A G.length c x G _ _ w2 g3.rd hL
  clear g1 g2 g3
  go_wp2_with fail
  refine HC.mono ?_
  rintro e w' ⟨rfl, rfl⟩
  go_wp2
  go_ret
  exact ⟨rfl, g4⟩

theorem struck8 (pb : Nat) (x y : Int) (W : World) (h : SBox W 2 pb #[.int .i64 x]) :
    Calls Try.prog 149 #[.int .i64 y, .pointer (some ⟨pb, 0, none⟩)] W fun e w' => e = .returned (.bool (y == x)) ∧ W = w' := by
  have q0 : W.cell? ⟨pb, 0, none⟩ = some (.int .i64 x) := (h.cell 0).trans rfl
  go_enter Try.func149, Try.ntmps149
  go_wp2
  go_ret
  exact ⟨rfl, rfl⟩
set_option maxHeartbeats 8000000 in
/-- A card that is allowed is played. -/
theorem addG8 (g B : Nat) (zss : List (List Int)) (st ld x : Int) (us : List Int) (w : World) (h : Gst w g B zss st ld us) (hB : B ≤ w.heap.size) (hl : 0 ≤ ld ∧ ld ≤ 3) (hd : dealB zss = true) (hz : ∀ j, j < us.length → 0 ≤ us.getD j 0 ∧ us.getD j 0 ≤ 51) (hx : hasB (legL zss st ld us) x = true) :
    Calls Try.prog 118 #[.pointer (some ⟨g, 0, none⟩), .int .i64 x] w fun e w' => e = .returned (.tuple #[]) ∧ Gst w' g B zss st ld (us ++ [x]) ∧ Below B w w' := by
  obtain ⟨s, hts, hs4⟩ := turn_nat8 st ld us
  obtain ⟨c, b, cb, lo, hi, h1, h2, h3, h4, ⟨h5, h6, h7⟩, h8⟩ := h
  have hmem := legL_sub hx
  rw [hts, Int.toNat_natCast] at hmem
  have hmem2 := (List.mem_filter.1 hmem).1
  have hx51 : 0 ≤ x ∧ x ≤ 51 := by
    obtain ⟨i, hi, e⟩ := List.getElem_of_mem hmem2
    have := (rows_ok hd hs4).2 i hi
    rw [getD_at _ _ hi, e] at this
    exact this
  have hpos0 : 0 < (leftL (zss.getD s []) us).length := List.length_pos_of_mem hmem
  have hL13 : (leftL (zss.getD s []) us).length ≤ 13 := Nat.le_trans (leftL_le _ _) (rows_ok hd hs4).1
  have HNX := Lib.hid (leftTo_add hd hs4 us hmem2)
  have HTS := Lib.hid hts
  have hzl : Hid (hi ≤ w.heap.size) := h8
  have HZ0 := Lib.hid h8
  have CA := Lib.hid (Chg.of_alloc w (.cells #[.int .i64 x] 2) 0 0)
  have P1 := Lib.hid (SBox.new w 2 #[.int .i64 x])
  have G1 := Lib.hid (h1.still CA.out)
  have T1 := Lib.hid (h2.still CA.out)
  have R1 := Lib.hid (h3.still CA.out)
  have HX := Lib.hid hx51
  have g0 := G1.out.c0
  clear hmem hmem2 hx hx51 hts h1 h2 h3 h8
  go_enter Try.func118, Try.ntmps118
  go_wp2_with fail
  obtain ⟨pb, hpb⟩ : ∃ pb, pb = w.heap.size := ⟨_, rfl⟩
  rw [← hpb] at P1 hzl ⊢
  have hpbB : B ≤ pb := by omega
  have K1 := Lib.hid (CA.out.to_below.mono (show B ≤ w.heap.size from hB))
  clear CA hpb
  generalize w.alloc (.cells #[.int .i64 x] 2) = W at P1 G1 T1 R1 g0 K1 ⊢
  refine (turn8 c B _ st ld us W T1.out hl).mono ?_
  rw [HTS.out]
  rintro e w1 ⟨rfl, c1⟩
  have P1 := Lib.hid (P1.out.still c1)
  have G1 := Lib.hid (G1.out.still c1)
  have T1 := Lib.hid (T1.out.still c1)
  have R1 := Lib.hid (R1.out.still c1)
  have K1 := Lib.hid (K1.out.trans (c1.to_below.mono (Nat.le_trans hB K1.out.size)))
  clear g0 c1
  go_wp2_with fail
  have cd : Chg w1 w1.drew 0 0 := Chg.of_drew ⟨1, rfl⟩ 0 0
  have P1 := Lib.hid (P1.out.still cd)
  have G1 := Lib.hid (G1.out.still cd)
  have T1 := Lib.hid (T1.out.still cd)
  have R1 := Lib.hid (R1.out.still cd)
  have K1 := Lib.hid (K1.out.trans (cd.to_below.mono (Nat.le_trans hB K1.out.size)))
  clear cd
  have hs4i : (s : Int) < 4 := by omega
  refine wp_region_held_drew (S := fun V => GBox V g (.pointer (some ⟨c, 0, none⟩)) (.slice (some ⟨b, 0, none⟩) 4 cb)) (by kernel_rfl) G1.out (fun hHeld => ?_)
  refine take_slotC (i := 0) (d := some 12) (v := .pointer (some ⟨g, 0, none⟩)) rfl (by kernel_rfl) (by kernel_rfl) (by kernel_rfl) (by kernel_rfl) (fun _ _ _ h => h) (.inl ⟨by kernel_rfl, fun V hV => by have q0 := GBox.c0 hV; have q1 := GBox.c1 hV; go_simp⟩) hHeld ?_
  try simp only [Act.put, List.setIfInBounds_toArray, List.set_cons_zero, List.set_cons_succ]
  refine take_slotC (i := 1) (d := some 13) (v := .pointer (some ⟨g, 0, none⟩)) rfl (by kernel_rfl) (by kernel_rfl) (by kernel_rfl) (by kernel_rfl) (fun _ _ _ h => h) (.inl ⟨by kernel_rfl, fun V hV => by have q0 := GBox.c0 hV; have q1 := GBox.c1 hV; go_simp⟩) hHeld ?_
  try simp only [Act.put, List.setIfInBounds_toArray, List.set_cons_zero, List.set_cons_succ]
  refine take_slotC (i := 2) (d := some 14) (v := .pointer (some ⟨g, 1, none⟩)) rfl (by kernel_rfl) (by kernel_rfl) (by kernel_rfl) (by kernel_rfl) (fun _ _ _ h => h) (.inl ⟨by kernel_rfl, fun V hV => by have q0 := GBox.c0 hV; have q1 := GBox.c1 hV; go_simp⟩) hHeld ?_
  try simp only [Act.put, List.setIfInBounds_toArray, List.set_cons_zero, List.set_cons_succ]
  refine take_slotC (i := 3) (d := some 15) (v := .slice (some ⟨b, 0, none⟩) 4 cb) rfl (by kernel_rfl) (by kernel_rfl) (by kernel_rfl) (by kernel_rfl) (fun _ _ _ h => h) (.inl ⟨by kernel_rfl, fun V hV => by have q0 := GBox.c0 hV; have q1 := GBox.c1 hV; go_simp⟩) hHeld ?_
  try simp only [Act.put, List.setIfInBounds_toArray, List.set_cons_zero, List.set_cons_succ]
  refine take_slotC (i := 4) (d := some 16) (v := .int .i64 (s : Int)) rfl (by kernel_rfl) (by kernel_rfl) (by kernel_rfl) (by kernel_rfl) (fun _ _ _ h => h) (.inl ⟨by kernel_rfl, fun V hV => by have q0 := GBox.c0 hV; have q1 := GBox.c1 hV; go_simp⟩) hHeld ?_
  try simp only [Act.put, List.setIfInBounds_toArray, List.set_cons_zero, List.set_cons_succ]
  refine take_slotC (i := 5) (d := some 17) (v := .pointer (some ⟨g, 0, none⟩)) rfl (by kernel_rfl) (by kernel_rfl) (by kernel_rfl) (by kernel_rfl) (fun _ _ _ h => h) (.inl ⟨by kernel_rfl, fun V hV => by have q0 := GBox.c0 hV; have q1 := GBox.c1 hV; go_simp⟩) hHeld ?_
  try simp only [Act.put, List.setIfInBounds_toArray, List.set_cons_zero, List.set_cons_succ]
  refine take_slotC (i := 6) (d := some 18) (v := .pointer (some ⟨g, 0, none⟩)) rfl (by kernel_rfl) (by kernel_rfl) (by kernel_rfl) (by kernel_rfl) (fun _ _ _ h => h) (.inl ⟨by kernel_rfl, fun V hV => by have q0 := GBox.c0 hV; have q1 := GBox.c1 hV; go_simp⟩) hHeld ?_
  try simp only [Act.put, List.setIfInBounds_toArray, List.set_cons_zero, List.set_cons_succ]
  refine take_slotC (i := 7) (d := some 19) (v := .pointer (some ⟨g, 1, none⟩)) rfl (by kernel_rfl) (by kernel_rfl) (by kernel_rfl) (by kernel_rfl) (fun _ _ _ h => h) (.inl ⟨by kernel_rfl, fun V hV => by have q0 := GBox.c0 hV; have q1 := GBox.c1 hV; go_simp⟩) hHeld ?_
  try simp only [Act.put, List.setIfInBounds_toArray, List.set_cons_zero, List.set_cons_succ]
  refine take_slotC (i := 8) (d := some 20) (v := .slice (some ⟨b, 0, none⟩) 4 cb) rfl (by kernel_rfl) (by kernel_rfl) (by kernel_rfl) (by kernel_rfl) (fun _ _ _ h => h) (.inl ⟨by kernel_rfl, fun V hV => by have q0 := GBox.c0 hV; have q1 := GBox.c1 hV; go_simp⟩) hHeld ?_
  try simp only [Act.put, List.setIfInBounds_toArray, List.set_cons_zero, List.set_cons_succ]
  refine take_slotC (i := 9) (d := some 21) (v := .int .i64 (s : Int)) rfl (by kernel_rfl) (by kernel_rfl) (by kernel_rfl) (by kernel_rfl) (fun _ _ _ h => h) (.inl ⟨by kernel_rfl, fun V hV => by have q0 := GBox.c0 hV; have q1 := GBox.c1 hV; go_simp⟩) hHeld ?_
  try simp only [Act.put, List.setIfInBounds_toArray, List.set_cons_zero, List.set_cons_succ]
  refine take_slotC (i := 10) (d := some 22) (v := .pointer (some ⟨b, s, none⟩)) rfl (by kernel_rfl) (by kernel_rfl) (by kernel_rfl) (by kernel_rfl) (fun _ _ _ h => h) (.inl ⟨by kernel_rfl, fun V hV => by have q0 := GBox.c0 hV; have q1 := GBox.c1 hV; go_simp⟩) hHeld ?_
  try simp only [Act.put, List.setIfInBounds_toArray, List.set_cons_zero, List.set_cons_succ]
  refine take_slotC (i := 12) (d := some 24) (v := .func (.func 149) #[] #[.pointer (some ⟨pb, 0, none⟩)]) rfl (by kernel_rfl) (by kernel_rfl) (by kernel_rfl) (by kernel_rfl) (fun _ _ _ h => h) (.inl ⟨by kernel_rfl, fun V hV => by have q0 := GBox.c0 hV; have q1 := GBox.c1 hV; go_simp⟩) hHeld ?_
  try simp only [Act.put, List.setIfInBounds_toArray, List.set_cons_zero, List.set_cons_succ]
  have hcut := R1.out.cut8 hs4 (by rw [leftTo_at hs4]; exact hpos0)
  rw [leftTo_at hs4] at hcut
  generalize leftL (zss.getD s []) us = zs at hcut hpos0 hL13 HNX
  obtain ⟨bj, C, hcell, hown, ⟨m1, m2⟩, ⟨l1, l2⟩, hne, hcap, hnew⟩ := hcut
  have HOWN := Lib.hid hown
  have HNEW := Lib.hid hnew
  clear hown hnew
  have eg : ∀ args w, (callFunc 149 args).run Try.prog w = .ok (.enter 149 args) w := enters_of Try.func149 (by kernel_rfl) rfl
  refine wpAnyH_ready (rs := [11]) (by kernel_rfl) (by simp) (AllReadyH.cons (i := 11) rfl (fun K' hK' => ?_) AllReadyH.nil)
  go_simp
  refine hK'.out _ _ hHeld (fun hHeld => ?_)
  clear hK' hcell
  try simp only [Act.put, List.setIfInBounds_toArray, List.set_cons_zero, List.set_cons_succ]
  have hdel := Lib.hid (delete8 (p := fun y => y == x) (lb := #[.pointer (some ⟨pb, 0, none⟩)]) eg HOWN.out hpos0 (by omega) hcap (fun W y hW => (struck8 pb x y W (P1.out.chg hW (by have := hzl.out; omega))).mono fun e w' ⟨he, hw⟩ => ⟨he, 0, by rw [← hw]; rfl⟩))
  refine wpAnyH_ready (rs := [13]) (by kernel_rfl) (by simp) (AllReadyH.cons (i := 13) rfl (fun K' hK' => ?_) AllReadyH.nil)
  go_simp
  refine hdel.out.mono ?_
  rintro e w2 ⟨rfl, ho2, c2⟩
  have hle := List.length_filter_le (fun y => !(y == x)) zs
  obtain ⟨⟨u2, hu2⟩, hf2, HR2, HC2⟩ := HNEW.out w2 _ c2 ho2 hle
  rw [HNX.out] at HR2
  have HR2 := Lib.hid HR2
  have HC2 := Lib.hid HC2
  have hgz := G1.out.lt
  have HG2 := Lib.hid (G1.out.of (c2.block g hgz (by omega)))
  clear hHeld HNEW HOWN hdel ho2 c2
  refine hK'.out _ _ HG2.out (fun hHeld => ?_)
  clear hK'
  try simp only [Act.put, List.setIfInBounds_toArray, List.set_cons_zero, List.set_cons_succ]
  refine take_slotC (i := 14) (d := some 26) (v := .pointer (some ⟨b, s, none⟩)) rfl (by kernel_rfl) (by kernel_rfl) (by kernel_rfl) (by kernel_rfl) (fun _ _ _ h => h) (.inl ⟨by kernel_rfl, fun V hV => by have q0 := GBox.c0 hV; have q1 := GBox.c1 hV; go_simp⟩) hHeld ?_
  try simp only [Act.put, List.setIfInBounds_toArray, List.set_cons_zero, List.set_cons_succ]
  refine wpAnyH_ready (rs := [15]) (by kernel_rfl) (by simp) (AllReadyH.cons (i := 15) rfl (fun K' hK' => ?_) AllReadyH.nil)
  go_simp
  have hgb : g ≠ b := by omega
  have G3 := Lib.hid (HG2.out.of (set_otherS w2 b g s (.slice (some ⟨bj, 0, none⟩) (List.filter (fun y => !(y == x)) zs).length C) hgb))
  refine hK'.out _ _ G3.out (fun hHeld => ?_)
  clear hK' hHeld hu2 hf2
  refine wpAnyH_done (by kernel_rfl) ?_ _
  generalize w2.setCell ⟨b, s, none⟩ (.slice (some ⟨bj, 0, none⟩) (List.filter (fun y => !(y == x)) zs).length C) = W3 at HR2 HC2 G3 ⊢
  have T3 := Lib.hid (T1.out.zone (ChgZ.of_chg HC2.out (fun k k1 k2 => .inr ⟨k1, k2⟩)))
  have P3 := Lib.hid (P1.out.chg HC2.out (by have := hzl.out; omega))
  have K3 := Lib.hid (Chg.above K1.out HC2.out (Nat.le_trans hB K1.out.size) (.inl h6))
  clear HC2 T1 P1 G1 R1 HG2 K1
  go_wp2_with fail
  have cd : Chg W3 W3.drew 0 0 := Chg.of_drew ⟨1, rfl⟩ 0 0
  have G4 := Lib.hid (G3.out.still cd)
  have P4 := Lib.hid (P3.out.still cd)
  have T4 := Lib.hid (T3.out.still cd)
  have R4 := Lib.hid (HR2.out.still cd)
  have K4 := Lib.hid (K3.out.trans (cd.to_below.mono (Nat.le_trans hB K3.out.size)))
  clear cd T3 HR2 K3 G3 P3
  refine wp_region_held_drew (S := fun V => GBox V g (.pointer (some ⟨c, 0, none⟩)) (.slice (some ⟨b, 0, none⟩) 4 cb)) (by kernel_rfl) G4.out (fun hHeld => ?_)
  refine take_slotC (i := 0) (d := some 27) (v := .pointer (some ⟨g, 0, none⟩)) rfl (by kernel_rfl) (by kernel_rfl) (by kernel_rfl) (by kernel_rfl) (fun _ _ _ h => h) (.inl ⟨by kernel_rfl, fun V hV => by have q0 := GBox.c0 hV; have q1 := GBox.c1 hV; go_simp⟩) hHeld ?_
  try simp only [Act.put, List.setIfInBounds_toArray, List.set_cons_zero, List.set_cons_succ]
  refine take_slotC (i := 1) (d := some 28) (v := .pointer (some ⟨g, 0, none⟩)) rfl (by kernel_rfl) (by kernel_rfl) (by kernel_rfl) (by kernel_rfl) (fun _ _ _ h => h) (.inl ⟨by kernel_rfl, fun V hV => by have q0 := GBox.c0 hV; have q1 := GBox.c1 hV; go_simp⟩) hHeld ?_
  try simp only [Act.put, List.setIfInBounds_toArray, List.set_cons_zero, List.set_cons_succ]
  refine take_slotC (i := 2) (d := some 29) (v := .pointer (some ⟨g, 0, none⟩)) rfl (by kernel_rfl) (by kernel_rfl) (by kernel_rfl) (by kernel_rfl) (fun _ _ _ h => h) (.inl ⟨by kernel_rfl, fun V hV => by have q0 := GBox.c0 hV; have q1 := GBox.c1 hV; go_simp⟩) hHeld ?_
  try simp only [Act.put, List.setIfInBounds_toArray, List.set_cons_zero, List.set_cons_succ]
  refine take_slotC (i := 3) (d := some 30) (v := .pointer (some ⟨c, 0, none⟩)) rfl (by kernel_rfl) (by kernel_rfl) (by kernel_rfl) (by kernel_rfl) (fun _ _ _ h => h) (.inl ⟨by kernel_rfl, fun V hV => by have q0 := GBox.c0 hV; have q1 := GBox.c1 hV; go_simp⟩) hHeld ?_
  try simp only [Act.put, List.setIfInBounds_toArray, List.set_cons_zero, List.set_cons_succ]
  refine wpAnyH_ready (rs := [4]) (by kernel_rfl) (by simp) (AllReadyH.cons (i := 4) rfl (fun K' hK' => ?_) AllReadyH.nil)
  have p0 : W3.drew.cell? ⟨pb, 0, none⟩ = some (.int .i64 x) := (P4.out.cell 0).trans rfl
  go_simp
  clear p0
  refine hK'.out _ _ hHeld (fun hHeld => ?_)
  clear hK'
  try simp only [Act.put, List.setIfInBounds_toArray, List.set_cons_zero, List.set_cons_succ]
  refine wpAnyH_ready (rs := [5]) (by kernel_rfl) (by simp) (AllReadyH.cons (i := 5) rfl (fun K' hK' => ?_) AllReadyH.nil)
  go_simp
  refine (add8 c B _ st ld x us _ T4.out hl HX.out hz).mono ?_
  rintro e w5 ⟨rfl, t5, f5⟩
  have HT5 := Lib.hid t5
  have HF5 := Lib.hid f5
  have HG5 := Lib.hid (hHeld.of (f5.block g hHeld.lt (.inr (.inl rfl))))
  have HR5 := Lib.hid (R4.out.fr8 (fun k k1 k2 k3 => f5.block k k3 (.inr (.inr ⟨k1, k2⟩))))
  clear t5 f5 hHeld
  refine hK'.out _ _ HG5.out (fun hHeld => ?_)
  clear hK'
  try simp only [Act.put, List.setIfInBounds_toArray, List.set_cons_zero, List.set_cons_succ]
  refine wpAnyH_done (by kernel_rfl) ?_ _
  go_wp2_with fail
  (first | go_end0 | refine bodyPost_ret (results_none rfl _ _ _) rfl ?_)
  exact ⟨rfl, ⟨c, b, cb, lo, hi, HG5.out, HT5.out, HR5.out, h4, ⟨h5, h6, h7⟩, by have := HF5.out.size; have := K4.out.size; have := HZ0.out; omega⟩, K4.out.trans (HF5.out.below (Nat.le_trans hB K4.out.size))⟩
end Go.Proofs.Yteglffbeldlibaa.Lib1
