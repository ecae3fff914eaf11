/- Chapter 8, the program: tricks: whose turn, who wins. (Written by wip/gen8j.py.) -/
import Derived.Test.YteglffbeldlibaaPp8
import Derived.Deep.MidRow
namespace Go.Proofs.Yteglffbeldlibaa.Lib1
open Go.RowKit
set_option maxRecDepth 100000

theorem SBox.ne {w : World} {t t' : TypeId} {g g' : Nat} {cs cs' : Array Value} (h : SBox w t g cs) (h' : SBox w t' g' cs') (ht : t ≠ t') : g ≠ g' := by
  intro e
  subst e
  unfold SBox at h h'
  rw [h] at h'
  injection h' with e
  injection e with _ e
  exact ht e
/-- Block g holds a trick: leader, cards, the next one. -/
def TBox (w : World) (g : Nat) (ld : Int) (v : Value) (nx : Value) : Prop := SBox w 118 g #[.int .i64 ld, v, nx]
section
variable {w w' : World} {g : Nat} {ld : Int} {v : Value} {nx : Value}
theorem TBox.lt (h : TBox w g ld v nx) : g < w.heap.size := lt_of_block h
theorem TBox.of (h : TBox w g ld v nx) (e : w'.heap[g]? = w.heap[g]?) : TBox w' g ld v nx := e.trans h
theorem TBox.still (h : TBox w g ld v nx) (k : Chg w w' 0 0) : TBox w' g ld v nx := (k.block g (lt_of_block h) (.inr (Nat.zero_le _))).trans h
theorem TBox.c0 (h : TBox w g ld v nx) : w.cell? ⟨g, 0, none⟩ = some (.int .i64 ld) := by rw [cell_of_row w g 0 _ _ _ h]; rfl
theorem TBox.c1 (h : TBox w g ld v nx) : w.cell? ⟨g, 1, none⟩ = some (v) := by rw [cell_of_row w g 1 _ _ _ h]; rfl
theorem TBox.c2 (h : TBox w g ld v nx) : w.cell? ⟨g, 2, none⟩ = some (nx) := by rw [cell_of_row w g 2 _ _ _ h]; rfl
theorem TBox.fr (h : TBox w g ld v nx) (i : Nat) : w.frozen? ⟨g, i, none⟩ = false := by unfold TBox SBox at h; simp [World.frozen?, h]
theorem TBox.set1 (h : TBox w g ld v nx) (u : Value) : TBox (w.setCell ⟨g, 1, none⟩ u) g ld u nx := set_heapS h 1 u
theorem TBox.set2 (h : TBox w g ld v nx) (u : Value) : TBox (w.setCell ⟨g, 2, none⟩ u) g ld v u := set_heapS h 2 u
end
/-- Block g holds a chain of tricks: the first, the last, who wins one. -/
def KBox (w : World) (g : Nat) (p : Value) (q : Value) (f : Value) : Prop := SBox w 115 g #[p, q, f]
section
variable {w w' : World} {g : Nat} {p : Value} {q : Value} {f : Value}
theorem KBox.lt (h : KBox w g p q f) : g < w.heap.size := lt_of_block h
theorem KBox.of (h : KBox w g p q f) (e : w'.heap[g]? = w.heap[g]?) : KBox w' g p q f := e.trans h
theorem KBox.still (h : KBox w g p q f) (k : Chg w w' 0 0) : KBox w' g p q f := (k.block g (lt_of_block h) (.inr (Nat.zero_le _))).trans h
theorem KBox.c0 (h : KBox w g p q f) : w.cell? ⟨g, 0, none⟩ = some (p) := by rw [cell_of_row w g 0 _ _ _ h]; rfl
theorem KBox.c1 (h : KBox w g p q f) : w.cell? ⟨g, 1, none⟩ = some (q) := by rw [cell_of_row w g 1 _ _ _ h]; rfl
theorem KBox.c2 (h : KBox w g p q f) : w.cell? ⟨g, 2, none⟩ = some (f) := by rw [cell_of_row w g 2 _ _ _ h]; rfl
theorem KBox.fr (h : KBox w g p q f) (i : Nat) : w.frozen? ⟨g, i, none⟩ = false := by unfold KBox SBox at h; simp [World.frozen?, h]
theorem KBox.set0 (h : KBox w g p q f) (u : Value) : KBox (w.setCell ⟨g, 0, none⟩ u) g u q f := set_heapS h 0 u
theorem KBox.set1 (h : KBox w g p q f) (u : Value) : KBox (w.setCell ⟨g, 1, none⟩ u) g p u f := set_heapS h 1 u
theorem KBox.set2 (h : KBox w g p q f) (u : Value) : KBox (w.setCell ⟨g, 2, none⟩ u) g p q u := set_heapS h 2 u
end
/-- What the function that finds a winner has at hand. -/
def WinV (w : World) (st : Int) (bb sb : Nat) : Prop := SBox w 176 bb #[.func (.func 171) #[] #[.pointer (some ⟨sb, 0, none⟩)]] ∧ SBox w 2 sb #[.int .i64 st]
theorem WinV.still {w w' : World} {st : Int} {bb sb : Nat} (h : WinV w st bb sb) (k : Chg w w' 0 0) : WinV w' st bb sb := ⟨h.1.still k, h.2.still k⟩
theorem WinV.of {w w' : World} {st : Int} {bb sb : Nat} (h : WinV w st bb sb) (e1 : w'.heap[bb]? = w.heap[bb]?) (e2 : w'.heap[sb]? = w.heap[sb]?) : WinV w' st bb sb := ⟨e1.trans h.1, e2.trans h.2⟩
theorem WinV.c0 {w : World} {st : Int} {bb sb : Nat} (h : WinV w st bb sb) : w.cell? ⟨bb, 0, none⟩ = some (.func (.func 171) #[] #[.pointer (some ⟨sb, 0, none⟩)]) := (h.1.cell 0).trans rfl
theorem WinV.c1 {w : World} {st : Int} {bb sb : Nat} (h : WinV w st bb sb) : w.cell? ⟨sb, 0, none⟩ = some (.int .i64 st) := (h.2.cell 0).trans rfl

theorem Chg.cellS {w w' : World} {a : Addr} {v : Value} (c : Chg w w' 0 0) (h : w.cell? a = some v) : w'.cell? a = some v := by
  rw [World.cell?_of_block (c.block a.block (lt_of_cell h) (.inr (Nat.zero_le _)))]; exact h
theorem seatAt8 (d k : Int) (w : World) (hd : 0 ≤ d ∧ d ≤ 3) (k0 : 0 ≤ k) (k1 : k ≤ 1048577) :
    Calls Try.prog 153 #[.int .i64 d, .int .i64 k] w fun e w' => e = .returned (.int .i64 ((d + k) % 4)) ∧ w = w' := by
  obtain ⟨d0, d1⟩ := hd
  have s0 : 0 ≤ d + k := by omega
  go_enter Try.func153, Try.ntmps153
  go_wp2
  go_ret
  exact ⟨rfl, rfl⟩
theorem isSeat8 (s : Int) (w : World) : Calls Try.prog 92 #[.int .i64 s] w fun e w' => e = .returned (.bool (inB s 0 3)) ∧ w = w' := by
  by_cases h1 : 0 ≤ s
  · by_cases h2 : s < 4
    · rw [inB_true (by omega)]
      go_enter Try.func92, Try.ntmps92
      go_wp2
      go_ret
      exact ⟨rfl, rfl⟩
    · rw [inB_false (by omega)]
      go_enter Try.func92, Try.ntmps92
      go_wp2
      go_ret
      exact ⟨rfl, rfl⟩
  · rw [inB_false (by omega)]
    go_enter Try.func92, Try.ntmps92
    go_wp2
    go_ret
    exact ⟨rfl, rfl⟩
theorem isStrain8 (s : Int) (w : World) : Calls Try.prog 91 #[.int .i64 s] w fun e w' => e = .returned (.bool (inB s 0 4)) ∧ w = w' := by
  by_cases h1 : 0 ≤ s
  · by_cases h2 : s ≤ 4
    · rw [inB_true (by omega)]
      go_enter Try.func91, Try.ntmps91
      go_wp2
      go_ret
      exact ⟨rfl, rfl⟩
    · rw [inB_false (by omega)]
      go_enter Try.func91, Try.ntmps91
      go_wp2
      go_ret
      exact ⟨rfl, rfl⟩
  · rw [inB_false (by omega)]
    go_enter Try.func91, Try.ntmps91
    go_wp2
    go_ret
    exact ⟨rfl, rfl⟩
theorem sideOf8 (s : Int) (w : World) (h0 : 0 ≤ s) : Calls Try.prog 95 #[.int .i64 s] w fun e w' => e = .returned (.int .i64 (s % 2)) ∧ w = w' := by
  go_enter Try.func95, Try.ntmps95
  go_wp2
  go_ret
  exact ⟨rfl, rfl⟩
theorem player8 (g : Nat) (d k : Int) (v nx : Value) (w : World) (h : TBox w g d v nx) (hd : 0 ≤ d ∧ d ≤ 3) (k0 : 0 ≤ k) (k1 : k ≤ 1048577) :
    Calls Try.prog 123 #[.pointer (some ⟨g, 0, none⟩), .int .i64 k] w fun e w' => e = .returned (.int .i64 ((d + k) % 4)) ∧ w = w' := by
  have q0 := h.c0
  have HS := seatAt8 d k w hd k0 k1
  go_enter Try.func123, Try.ntmps123
  go_wp2_with fail
  refine HS.mono ?_
  rintro e w' ⟨rfl, rfl⟩
  go_wp2
  go_ret
  exact ⟨rfl, rfl⟩
theorem isComplete8 (g : Nat) (d : Int) (A : Option Addr) (n c : Nat) (nx : Value) (w : World) (h : TBox w g d (.slice A n c) nx) (hn : n ≤ 1048576) :
    Calls Try.prog 162 #[.pointer (some ⟨g, 0, none⟩)] w fun e w' => e = .returned (.bool (decide (n = 4))) ∧ w = w' := by
  have q1 := h.c1
  by_cases h4 : n = 4
  · subst h4
    go_enter Try.func162, Try.ntmps162
    go_wp2
    go_ret
    exact ⟨rfl, rfl⟩
  · have h4i : ((n : Int) == 4) = false := by simp; omega
    rw [decide_eq_false h4]
    go_enter Try.func162, Try.ntmps162
    go_wp2
    go_ret
    exact ⟨rfl, rfl⟩

/-- Does the card x beat the card y? -/
def beatB (st x y : Int) : Bool := if x / 13 = y / 13 then decide (y < x) else decide (x / 13 = st)
theorem best_step (st : Int) (t : Nat → Int) (k : Nat) : bestTo st t (k + 1) = if beatB st (t k) (t (bestTo st t k)) then k else bestTo st t k := by
  rw [bestTo]
  unfold beatB
  by_cases h0 : k = 0
  · subst h0
    have : bestTo st t 0 = 0 := rfl
    simp [this]
  · rw [if_neg h0]
    by_cases h1 : t k / 13 = t (bestTo st t k) / 13
    · rw [if_pos h1.symm, if_pos h1]
      simp
    · rw [if_neg (fun e => h1 e.symm), if_neg h1]
      simp
set_option maxHeartbeats 1600000 in
theorem beats8 (st x y : Int) (sb : Nat) (w : World) (hx : 0 ≤ x ∧ x ≤ 51) (hy : 0 ≤ y ∧ y ≤ 51) (h : SBox w 2 sb #[.int .i64 st]) :
    Calls Try.prog 171 #[.int .i64 x, .int .i64 y, .pointer (some ⟨sb, 0, none⟩)] w fun e w' => e = .returned (.bool (beatB st x y)) ∧ Chg w w' 0 0 := by
  have HS (z : Int) (w : World) (hz : 0 ≤ z ∧ z ≤ 51) := suit z w hz.1 hz.2
  by_cases e1 : x / 13 = y / 13
  · have hr : Hid (beatB st x y = decide (y < x)) := by show _ = _; unfold beatB; rw [if_pos e1]
    have e1b : (x / 13 == y / 13) = true := by simpa using e1
    clear e1
    by_cases e2 : y < x
    · have e2b : decide (y < x) = true := decide_eq_true e2
      go_enter Try.func171, Try.ntmps171
      go_wp2_with (go_at_call 151; refine (HS _ _ (by first | exact hx | exact hy)).mono ?_; rintro e w' ⟨rfl, rfl⟩)
      go_ret
      exact ⟨ret_bool (by rw [hr.out, e2b]), Chg.refl _ _ _⟩
    · have e2b : decide (y < x) = false := decide_eq_false e2
      go_enter Try.func171, Try.ntmps171
      go_wp2_with (go_at_call 151; refine (HS _ _ (by first | exact hx | exact hy)).mono ?_; rintro e w' ⟨rfl, rfl⟩)
      go_ret
      exact ⟨ret_bool (by rw [hr.out, e2b]), Chg.refl _ _ _⟩
  · have hr : Hid (beatB st x y = decide (x / 13 = st)) := by show _ = _; unfold beatB; rw [if_neg e1]
    have e1b : (x / 13 == y / 13) = false := by simpa using e1
    clear e1
    obtain ⟨R, hR⟩ : ∃ R, R = decide (x / 13 = st) := ⟨_, rfl⟩
    have hR2 : (x / 13 == st) = R := by rw [hR]; by_cases q : x / 13 = st <;> simp [q]
    have HR := Lib.hid hR
    clear hR
    have H0 := (h.still (Chg.of_drew ⟨1, rfl⟩ 0 0) : SBox w.drew 2 sb #[.int .i64 st])
    go_enter Try.func171, Try.ntmps171
    go_wp2_with (go_at_call 151; refine (HS _ _ (by first | exact hx | exact hy)).mono ?_; rintro e w' ⟨rfl, rfl⟩)
    refine wp_region_held_drew (S := fun V => SBox V 2 sb #[.int .i64 st]) (by kernel_rfl) H0 (fun hHeld => ?_)
    refine take_slotC (i := 0) (d := some 14) (v := .int .i64 x) rfl (by kernel_rfl) (by kernel_rfl) (by kernel_rfl) (by kernel_rfl) (fun _ _ _ h => h) (.inl ⟨by kernel_rfl, fun V hV => by have q0 := (SBox.cell hV 0).trans rfl; go_simp⟩) hHeld ?_
    try simp only [Act.put, List.setIfInBounds_toArray, List.set_cons_zero, List.set_cons_succ]
    refine take_slotC (i := 2) (d := some 16) (v := .int .i64 st) rfl (by kernel_rfl) (by kernel_rfl) (by kernel_rfl) (by kernel_rfl) (fun _ _ _ h => h) (.inl ⟨by kernel_rfl, fun V hV => by have q0 := (SBox.cell hV 0).trans rfl; go_simp⟩) hHeld ?_
    try simp only [Act.put, List.setIfInBounds_toArray, List.set_cons_zero, List.set_cons_succ]
    refine wpAnyH_ready (rs := [1]) (by kernel_rfl) (by simp) (AllReadyH.cons (i := 1) rfl (fun K' hK' => ?_) AllReadyH.nil)
    go_simp
    refine (HS x _ hx).mono ?_
    rintro e w' ⟨rfl, rfl⟩
    refine hK'.out _ _ hHeld (fun hHeld => ?_)
    clear hK'
    try simp only [Act.put, List.setIfInBounds_toArray, List.set_cons_zero, List.set_cons_succ]
    refine take_slotC (i := 3) (d := some 17) (v := .bool R) rfl (by kernel_rfl) (by kernel_rfl) (by kernel_rfl) (by kernel_rfl) (fun _ _ _ h => h) (.inl ⟨by kernel_rfl, fun V hV => by have q0 := (SBox.cell hV 0).trans rfl; go_simp⟩) hHeld ?_
    try simp only [Act.put, List.setIfInBounds_toArray, List.set_cons_zero, List.set_cons_succ]
    refine take_slotC (i := 4) (d := some 5) (v := .bool R) rfl (by kernel_rfl) (by kernel_rfl) (by kernel_rfl) (by kernel_rfl) (fun _ _ _ h => h) (.inl ⟨by kernel_rfl, fun V hV => by have q0 := (SBox.cell hV 0).trans rfl; go_simp⟩) hHeld ?_
    try simp only [Act.put, List.setIfInBounds_toArray, List.set_cons_zero, List.set_cons_succ]
    refine wpAnyH_done (by kernel_rfl) ?_ _
    go_wp2_with fail
    go_ret
    exact ⟨ret_bool (by rw [hr.out, HR.out]), Chg.of_drew ⟨1, rfl⟩ 0 0⟩

set_option maxHeartbeats 3200000 in
/-- who wins the cards of a trick -/
theorem winner8 (g : Nat) (ld st : Int) (A : Option Addr) (n c : Nat) (zs : List Int) (nx : Value) (bb sb lo hi : Nat) (w : World) (h : TBox w g ld (.slice A n c) nx) (hr : Rd w lo hi A n zs) (hw : WinV w st bb sb)
    (hn : n ≤ 1048576) (hz : ∀ j, j < n → 0 ≤ zs.getD j 0 ∧ zs.getD j 0 ≤ 51) (hl : 0 ≤ ld ∧ ld ≤ 3) :
    Calls Try.prog 172 #[.pointer (some ⟨g, 0, none⟩), .pointer (some ⟨bb, 0, none⟩)] w fun e w' => e = .returned (.int .i64 (winV st ld (fun i => zs.getD i 0) n)) ∧ Chg w w' 0 0 := by
  have hgl := lt_of_block h
  have H := Lib.hid h
  have HW := Lib.hid hw
  have HR := Lib.hid hr
  have HZ := Lib.hid hz
  have q1 := h.c1
  clear h hw hr hz
  have he := enters_of Try.func171 (by kernel_rfl) rfl
  go_enter Try.func172, Try.ntmps172
  go_wp2_with fail
  go_loopw [12, 4] (fun i b wr => ∃ k m : Nat, k ≤ n ∧ i = .int .i64 k ∧ b = .int .i64 m ∧ m ≤ k - 1 ∧ Hid (m = bestTo st (fun i => zs.getD i 0) k) ∧ Hid (Chg w wr 0 0)) (fun i _ _ => n - (intOf i).toNat)
  case atStart => exact ⟨0, 0, Nat.zero_le _, rfl, rfl, Nat.le_refl _, rfl, Chg.refl _ _ _⟩
  case round =>
    obtain ⟨k, m, hk, rfl, rfl, hm, hb, hc⟩ := hrel
    have Hk := Lib.hid (H.out.still hc.out)
    have HWk := Lib.hid (HW.out.still hc.out)
    clear q1
    by_cases hlt : k < n
    · obtain ⟨b, off, hA, hcs⟩ := (HR.out.still hc.out).2 (by omega)
      obtain ⟨_, _, hcs⟩ := hcs
      subst hA
      have hmn : m < n := by omega
      have hck := hcs k hlt
      have hcm := hcs m hmn
      have hkl : (k : Int) < (n : Int) := by omega
      have hxk := HZ.out k hlt
      have hxm := HZ.out m hmn
      have hst := best_step st (fun i => zs.getD i 0) k
      rw [← hb.out] at hst
      clear hcs
      generalize zs.getD k 0 = x at hck hxk hst
      generalize zs.getD m 0 = y at hcm hxm hst
      have HST := Lib.hid hst
      have HXK := Lib.hid hxk
      have HXM := Lib.hid hxm
      clear hst hxk hxm
      have H0 : (fun V => TBox V g ld (.slice (some ⟨b, off, none⟩) n c) nx ∧ WinV V st bb sb ∧ V.cell? ⟨b, off + k, none⟩ = some (.int .i64 x) ∧ V.cell? ⟨b, off + m, none⟩ = some (.int .i64 y)) wr := ⟨Hk.out, HWk.out, hck, hcm⟩
      have H0 := And.intro (H0.1.still (Chg.of_drew (w' := wr.drew) ⟨1, rfl⟩ 0 0)) (And.intro (H0.2.1.still (Chg.of_drew (w' := wr.drew) ⟨1, rfl⟩ 0 0)) (And.intro H0.2.2.1 H0.2.2.2))
      have q1 := Hk.out.c1
      clear hcm
      go_wp2_with fail
      refine wp_region_held_drew (S := fun V => TBox V g ld (.slice (some ⟨b, off, none⟩) n c) nx ∧ WinV V st bb sb ∧ V.cell? ⟨b, off + k, none⟩ = some (.int .i64 x) ∧ V.cell? ⟨b, off + m, none⟩ = some (.int .i64 y)) (by kernel_rfl) H0 (fun hHeld => ?_)
      refine take_slotC (i := 0) (d := some 17) (v := .func (.func 171) #[] #[.pointer (some ⟨sb, 0, none⟩)]) rfl (by kernel_rfl) (by kernel_rfl) (by kernel_rfl) (by kernel_rfl) (fun _ _ _ h => h) (.inl ⟨by kernel_rfl, fun V hV => by obtain ⟨hV1, hV2, hV3, hV4⟩ := hV; have q0 := TBox.c1 hV1; have q2 := WinV.c0 hV2; go_simp⟩) hHeld ?_
      try simp only [Act.put, List.setIfInBounds_toArray, List.set_cons_zero, List.set_cons_succ]
      refine take_slotC (i := 1) (d := some 18) (v := .int .i64 x) rfl (by kernel_rfl) (by kernel_rfl) (by kernel_rfl) (by kernel_rfl) (fun _ _ _ h => h) (.inl ⟨by kernel_rfl, fun V hV => by obtain ⟨hV1, hV2, hV3, hV4⟩ := hV; have q0 := TBox.c1 hV1; have q2 := WinV.c0 hV2; go_simp⟩) hHeld ?_
      try simp only [Act.put, List.setIfInBounds_toArray, List.set_cons_zero, List.set_cons_succ]
      refine take_slotC (i := 2) (d := some 19) (v := .pointer (some ⟨g, 0, none⟩)) rfl (by kernel_rfl) (by kernel_rfl) (by kernel_rfl) (by kernel_rfl) (fun _ _ _ h => h) (.inl ⟨by kernel_rfl, fun V hV => by obtain ⟨hV1, hV2, hV3, hV4⟩ := hV; have q0 := TBox.c1 hV1; have q2 := WinV.c0 hV2; go_simp⟩) hHeld ?_
      try simp only [Act.put, List.setIfInBounds_toArray, List.set_cons_zero, List.set_cons_succ]
      refine take_slotC (i := 3) (d := some 20) (v := .pointer (some ⟨g, 0, none⟩)) rfl (by kernel_rfl) (by kernel_rfl) (by kernel_rfl) (by kernel_rfl) (fun _ _ _ h => h) (.inl ⟨by kernel_rfl, fun V hV => by obtain ⟨hV1, hV2, hV3, hV4⟩ := hV; have q0 := TBox.c1 hV1; have q2 := WinV.c0 hV2; go_simp⟩) hHeld ?_
      try simp only [Act.put, List.setIfInBounds_toArray, List.set_cons_zero, List.set_cons_succ]
      refine take_slotC (i := 4) (d := some 21) (v := .pointer (some ⟨g, 1, none⟩)) rfl (by kernel_rfl) (by kernel_rfl) (by kernel_rfl) (by kernel_rfl) (fun _ _ _ h => h) (.inl ⟨by kernel_rfl, fun V hV => by obtain ⟨hV1, hV2, hV3, hV4⟩ := hV; have q0 := TBox.c1 hV1; have q2 := WinV.c0 hV2; go_simp⟩) hHeld ?_
      try simp only [Act.put, List.setIfInBounds_toArray, List.set_cons_zero, List.set_cons_succ]
      refine take_slotC (i := 5) (d := some 22) (v := .slice (some ⟨b, off, none⟩) n c) rfl (by kernel_rfl) (by kernel_rfl) (by kernel_rfl) (by kernel_rfl) (fun _ _ _ h => h) (.inl ⟨by kernel_rfl, fun V hV => by obtain ⟨hV1, hV2, hV3, hV4⟩ := hV; have q0 := TBox.c1 hV1; have q2 := WinV.c0 hV2; go_simp⟩) hHeld ?_
      try simp only [Act.put, List.setIfInBounds_toArray, List.set_cons_zero, List.set_cons_succ]
      refine take_slotC (i := 6) (d := some 23) (v := .int .i64 (m : Int)) rfl (by kernel_rfl) (by kernel_rfl) (by kernel_rfl) (by kernel_rfl) (fun _ _ _ h => h) (.inl ⟨by kernel_rfl, fun V hV => by obtain ⟨hV1, hV2, hV3, hV4⟩ := hV; have q0 := TBox.c1 hV1; have q2 := WinV.c0 hV2; go_simp⟩) hHeld ?_
      try simp only [Act.put, List.setIfInBounds_toArray, List.set_cons_zero, List.set_cons_succ]
      refine take_slotC (i := 7) (d := some 24) (v := .pointer (some ⟨b, off + m, none⟩)) rfl (by kernel_rfl) (by kernel_rfl) (by kernel_rfl) (by kernel_rfl) (fun _ _ _ h => h) (.inl ⟨by kernel_rfl, fun V hV => by obtain ⟨hV1, hV2, hV3, hV4⟩ := hV; have q0 := TBox.c1 hV1; have q2 := WinV.c0 hV2; go_simp⟩) hHeld ?_
      try simp only [Act.put, List.setIfInBounds_toArray, List.set_cons_zero, List.set_cons_succ]
      refine take_slotC (i := 8) (d := some 25) (v := .int .i64 y) rfl (by kernel_rfl) (by kernel_rfl) (by kernel_rfl) (by kernel_rfl) (fun _ _ _ h => h) (.inl ⟨by kernel_rfl, fun V hV => by obtain ⟨hV1, hV2, hV3, hV4⟩ := hV; have q0 := TBox.c1 hV1; have q2 := WinV.c0 hV2; go_simp⟩) hHeld ?_
      try simp only [Act.put, List.setIfInBounds_toArray, List.set_cons_zero, List.set_cons_succ]
      refine wpAnyH_ready (rs := [9]) (by kernel_rfl) (by simp) (AllReadyH.cons (i := 9) rfl (fun K' hK' => ?_) AllReadyH.nil)
      go_simp
      refine (beats8 st x y sb _ HXK.out HXM.out hHeld.2.1.2).mono ?_
      rintro e w2 ⟨rfl, c2⟩
      have C2 := Lib.hid (hc.out.trans ((Chg.of_drew ⟨1, rfl⟩ 0 0).trans c2))
      have hHeld2 := And.intro (hHeld.1.still c2) (And.intro (hHeld.2.1.still c2) (And.intro (c2.cellS hHeld.2.2.1) (c2.cellS hHeld.2.2.2)))
      clear c2
      refine hK'.out _ _ hHeld2 (fun hHeld => ?_)
      clear hK'
      try simp only [Act.put, List.setIfInBounds_toArray, List.set_cons_zero, List.set_cons_succ]
      refine wpAnyH_done (by kernel_rfl) ?_ _
      generalize hR : beatB st x y = R at HST
      cases R
      · have HB := Lib.hid (show m = bestTo st (fun i => zs.getD i 0) (k + 1) by rw [HST.out]; rfl)
        go_wp2_with fail
        go_roundw
        case rel => exact ⟨k + 1, m, by omega, by go_num, rfl, by omega, HB.out, C2.out⟩
        case measure => simp [intOf]; omega
      · have HB := Lib.hid (show k = bestTo st (fun i => zs.getD i 0) (k + 1) by rw [HST.out]; rfl)
        go_wp2_with fail
        go_roundw
        case rel => exact ⟨k + 1, k, by omega, by go_num, rfl, by omega, HB.out, C2.out⟩
        case measure => simp [intOf]; omega
    · obtain rfl : k = n := by omega
      have hv := Lib.hid (show winV st ld (fun i => zs.getD i 0) k = (ld + (m : Int)) % 4 by unfold winV; rw [← hb.out])
      have HP := player8 g ld (m : Int) (.slice A k c) nx wr Hk.out hl (by omega) (by omega)
      go_wp2_with fail
      refine HP.mono ?_
      rintro e w' ⟨rfl, rfl⟩
      go_wp2
      go_ret
      exact ⟨by rw [hv.out]; first | done | rfl, hc.out⟩
end Go.Proofs.Yteglffbeldlibaa.Lib1
