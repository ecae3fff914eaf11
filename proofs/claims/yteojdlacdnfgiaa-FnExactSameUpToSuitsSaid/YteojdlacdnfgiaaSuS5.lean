/- Chapter 5: the model's SameUpToSuits. (Written by wip/gensus5.py.) -/
import Derived.Test.YteojdlacdnfgiaaCanT5
import Derived.Test.YteojdlacdnfgiaaSuI5
import Derived.Deep.RegionHeld3
namespace Go.Proofs.Yteojdlacdnfgiaa.Lib1
open Go.RowKit
set_option maxRecDepth 100000
set_option linter.unusedSimpArgs false

theorem same_less {zss yss : List (List Int)} {strain : Int} (hd : dealB zss = true) (hd' : dealB yss = true) (hs : inB strain 0 4 = true) : sameV zss yss strain = (!lessB (canL zss strain) (canL yss strain) && !lessB (canL yss strain) (canL zss strain)) := by
  have e := same_flat hd hd' hs
  simp only [sameV, hd, hd', hs, Bool.and_self, Bool.true_and]
  cases h1 : lessB (canL zss strain) (canL yss strain) with
  | true =>
    have : canL zss strain ≠ canL yss strain := fun q => by rw [q] at h1; rw [show lessB (canL yss strain) (canL yss strain) = false from lex_irrefl _] at h1; cases h1
    simp [this]
  | false =>
    cases h2 : lessB (canL yss strain) (canL zss strain) with
    | true =>
      have : canL zss strain ≠ canL yss strain := fun q => by rw [q] at h2; rw [show lessB (canL yss strain) (canL yss strain) = false from lex_irrefl _] at h2; cases h2
      simp [this]
    | false => simp [e.2 (lex_tri h1 h2)]
theorem same_len {zss yss : List (List Int)} {strain : Int} (h : (zss.getD 0 []).length ≠ (yss.getD 0 []).length) : sameV zss yss strain = false := by
  cases hd : dealB zss <;> cases hd' : dealB yss <;> cases hs : inB strain 0 4 <;> simp [sameV, hd, hd', hs]
  intro q
  have h1 := can_row hd hs 0
  have h2 := can_row hd' hs 0
  rw [q] at h1
  exact h (h1.symm.trans h2)
theorem can_rows {zss yss : List (List Int)} {strain : Int} (hd : dealB zss = true) (hd' : dealB yss = true) (hs : inB strain 0 4 = true) (h : (zss.getD 0 []).length = (yss.getD 0 []).length) : ∀ j, j < 4 → ((canL zss strain).getD j []).length = ((canL yss strain).getD j []).length := fun j hj => by
  rw [can_row hd hs, can_row hd' hs, (((deal_iff _).1 hd).2.1 j hj).2, (((deal_iff _).1 hd').2.1 j hj).2, h]

/-- wpAnyH_take with the slot told: the frame behind it stands written out. -/
theorem take_slot {P : Program} {ops : Array Oper} {Q : Exit → Act → World → Prop} {md : Region.Mode} {S : World → Prop} {i : Nat} {oi : Oper} {d : Option Tmp} {v : Value} {fuel : Nat} {listed : Array Bool} {a : Act} {w : World} (hi : ops[i]? = some oi) (hd : oi.dst = d)
    (hs : Region.noSelect ops = true) (hf : Region.free md ops listed i = true) (hr : (Region.ready md ops listed).contains i = true)
    (hQ : ∀ c a w, Q (.panic c) (a.put d v) w → Q (.panic c) a w) (hy : YieldsIf P ops S oi v a) (hS : S w)
    (h : wpAnyH P md ops Q S fuel (listed.setIfInBounds i true) (a.put d v) w) : wpAnyH P md ops Q S (fuel + 1) listed a w := by
  subst hd
  exact wpAnyH_take hi hs hf hr hQ hy hS h

set_option maxHeartbeats 8000000 in
/-- spec.SameUpToSuits -/
theorem spec_SameUpToSuits (A : Option Addr) (n c : Nat) (zss : List (List Int)) (lo hi : Nat) (A' : Option Addr) (n' c' : Nat) (yss : List (List Int)) (lo' hi' : Nat) (strain : Int) (w : World) (h : RdR w lo hi A n zss) (h' : RdR w lo' hi' A' n' yss)
    (hl : ∀ j, j < n → (zss.getD j []).length ≤ 1048576) (hl' : ∀ j, j < n' → (yss.getD j []).length ≤ 1048576) :
    Calls Try.prog 44 #[.agg #[.slice A n c], .agg #[.slice A' n' c'], .int .i64 strain] w fun e w' => e = .returned (.bool (sameV zss yss strain)) ∧ Chg w w' 0 0 := by
  have c2 := Lib.hid ((Chg.of_alloc w (.cells #[.slice A n c] 36) 0 0).trans (Chg.of_alloc _ (.cells #[.slice A' n' c'] 36) 0 0))
  have B0 := Lib.hid ((BoxAt.new w (.slice A n c) 36 rfl).alloc (.cells #[.slice A' n' c'] 36))
  have B1 := Lib.hid (BoxAt.new (w.alloc (.cells #[.slice A n c] 36)) (.slice A' n' c') 36 (g := w.heap.size + 1) (by simp))
  go_enter Try.func44, Try.ntmps44
  go_wp2_with fail
  generalize (w.alloc (.cells #[.slice A n c] 36)).alloc (.cells #[.slice A' n' c'] 36) = W at c2 B0 B1 ⊢
  have dr := Lib.hid (c2.out.trans (Chg.drewN W 1 0 0))
  have dw := Lib.hid (Chg.drewN W 1 0 0)
  have q0 := B0.out.c
  have q1 := B1.out.c
  have I1 := Lib.hid (fun V (k : Chg w V 0 0) => l03Deal A n c zss lo hi V (h.still k) hl)
  have I2 := Lib.hid (fun V (k : Chg w V 0 0) => l03Deal A' n' c' yss lo' hi' V (h'.still k) hl')
  cases hd : dealB zss with
  | false =>
    have hv : Hid (sameV zss yss strain = false) := by show _ = _; simp [sameV, hd]
    rw [hd] at I1
    clear hd
    refine wp_region_held_drew (S := fun V => V.cell? ⟨w.heap.size, 0, none⟩ = some (.slice A n c) ∧ V.cell? ⟨w.heap.size + 1, 0, none⟩ = some (.slice A' n' c')) (by kernel_rfl) ⟨q0, q1⟩ (fun hHeld => ?_)
    refine take_slot (i := 0) (d := some 9) (v := .agg #[.slice A n c]) rfl (by kernel_rfl) (by kernel_rfl) (by kernel_rfl) (by kernel_rfl) (fun _ _ _ h => h) (.inl ⟨by kernel_rfl, fun V hV => by obtain ⟨hV1, hV2⟩ := hV; go_simp⟩) hHeld ?_
    try simp only [Act.put, List.setIfInBounds_toArray, List.set_cons_zero, List.set_cons_succ]
    refine wpAnyH_ready (rs := [1]) (by kernel_rfl) (by simp) (AllReadyH.cons (i := 1) rfl (fun K' hK' => ?_) AllReadyH.nil)
    go_simp
    refine (I1.out _ dr.out).mono ?_
    rintro e w5 ⟨rfl, c5⟩
    have j5 := Lib.hid (dw.out.trans c5)
    have k5 := Lib.hid (dr.out.trans c5)
    refine hK'.out _ _ ⟨box_still q0 j5.out, box_still q1 j5.out⟩ (fun hHeld => ?_)
    clear hK'
    try simp only [Act.put, List.setIfInBounds_toArray, List.set_cons_zero, List.set_cons_succ]
    refine take_slot (i := 2) (d := some 11) (v := .bool true) rfl (by kernel_rfl) (by kernel_rfl) (by kernel_rfl) (by kernel_rfl) (fun _ _ _ h => h) (.inl ⟨by kernel_rfl, fun V hV => by obtain ⟨hV1, hV2⟩ := hV; go_simp⟩) hHeld ?_
    try simp only [Act.put, List.setIfInBounds_toArray, List.set_cons_zero, List.set_cons_succ]
    refine take_slot (i := 3) (d := some 12) (v := .bool true) rfl (by kernel_rfl) (by kernel_rfl) (by kernel_rfl) (by kernel_rfl) (fun _ _ _ h => h) (.inl ⟨by kernel_rfl, fun V hV => by obtain ⟨hV1, hV2⟩ := hV; go_simp⟩) hHeld ?_
    try simp only [Act.put, List.setIfInBounds_toArray, List.set_cons_zero, List.set_cons_succ]
    refine take_slot (i := 4) (d := some 13) (v := undef) rfl (by kernel_rfl) (by kernel_rfl) (by kernel_rfl) (by kernel_rfl) (fun _ _ _ h => h) (.inr ⟨by kernel_rfl, rfl⟩) hHeld ?_
    try simp only [Act.put, List.setIfInBounds_toArray, List.set_cons_zero, List.set_cons_succ]
    refine take_slot (i := 5) (d := some 14) (v := undef) rfl (by kernel_rfl) (by kernel_rfl) (by kernel_rfl) (by kernel_rfl) (fun _ _ _ h => h) (.inr ⟨by kernel_rfl, rfl⟩) hHeld ?_
    try simp only [Act.put, List.setIfInBounds_toArray, List.set_cons_zero, List.set_cons_succ]
    refine take_slot (i := 6) (d := some 15) (v := undef) rfl (by kernel_rfl) (by kernel_rfl) (by kernel_rfl) (by kernel_rfl) (fun _ _ _ h => h) (.inr ⟨by kernel_rfl, rfl⟩) hHeld ?_
    try simp only [Act.put, List.setIfInBounds_toArray, List.set_cons_zero, List.set_cons_succ]
    refine take_slot (i := 7) (d := some 16) (v := .bool true) rfl (by kernel_rfl) (by kernel_rfl) (by kernel_rfl) (by kernel_rfl) (fun _ _ _ h => h) (.inl ⟨by kernel_rfl, fun V hV => by obtain ⟨hV1, hV2⟩ := hV; go_simp⟩) hHeld ?_
    try simp only [Act.put, List.setIfInBounds_toArray, List.set_cons_zero, List.set_cons_succ]
    refine take_slot (i := 8) (d := some 17) (v := .bool true) rfl (by kernel_rfl) (by kernel_rfl) (by kernel_rfl) (by kernel_rfl) (fun _ _ _ h => h) (.inl ⟨by kernel_rfl, fun V hV => by obtain ⟨hV1, hV2⟩ := hV; go_simp⟩) hHeld ?_
    try simp only [Act.put, List.setIfInBounds_toArray, List.set_cons_zero, List.set_cons_succ]
    refine take_slot (i := 9) (d := some 18) (v := undef) rfl (by kernel_rfl) (by kernel_rfl) (by kernel_rfl) (by kernel_rfl) (fun _ _ _ h => h) (.inr ⟨by kernel_rfl, rfl⟩) hHeld ?_
    try simp only [Act.put, List.setIfInBounds_toArray, List.set_cons_zero, List.set_cons_succ]
    refine take_slot (i := 10) (d := some 19) (v := undef) rfl (by kernel_rfl) (by kernel_rfl) (by kernel_rfl) (by kernel_rfl) (fun _ _ _ h => h) (.inr ⟨by kernel_rfl, rfl⟩) hHeld ?_
    try simp only [Act.put, List.setIfInBounds_toArray, List.set_cons_zero, List.set_cons_succ]
    refine take_slot (i := 11) (d := some 20) (v := undef) rfl (by kernel_rfl) (by kernel_rfl) (by kernel_rfl) (by kernel_rfl) (fun _ _ _ h => h) (.inr ⟨by kernel_rfl, rfl⟩) hHeld ?_
    try simp only [Act.put, List.setIfInBounds_toArray, List.set_cons_zero, List.set_cons_succ]
    refine take_slot (i := 12) (d := some 21) (v := .bool true) rfl (by kernel_rfl) (by kernel_rfl) (by kernel_rfl) (by kernel_rfl) (fun _ _ _ h => h) (.inl ⟨by kernel_rfl, fun V hV => by obtain ⟨hV1, hV2⟩ := hV; go_simp⟩) hHeld ?_
    try simp only [Act.put, List.setIfInBounds_toArray, List.set_cons_zero, List.set_cons_succ]
    refine take_slot (i := 13) (d := some 22) (v := .bool true) rfl (by kernel_rfl) (by kernel_rfl) (by kernel_rfl) (by kernel_rfl) (fun _ _ _ h => h) (.inl ⟨by kernel_rfl, fun V hV => by obtain ⟨hV1, hV2⟩ := hV; go_simp⟩) hHeld ?_
    try simp only [Act.put, List.setIfInBounds_toArray, List.set_cons_zero, List.set_cons_succ]
    refine take_slot (i := 14) (d := some 23) (v := undef) rfl (by kernel_rfl) (by kernel_rfl) (by kernel_rfl) (by kernel_rfl) (fun _ _ _ h => h) (.inr ⟨by kernel_rfl, rfl⟩) hHeld ?_
    try simp only [Act.put, List.setIfInBounds_toArray, List.set_cons_zero, List.set_cons_succ]
    refine take_slot (i := 15) (d := some 24) (v := undef) rfl (by kernel_rfl) (by kernel_rfl) (by kernel_rfl) (by kernel_rfl) (fun _ _ _ h => h) (.inr ⟨by kernel_rfl, rfl⟩) hHeld ?_
    try simp only [Act.put, List.setIfInBounds_toArray, List.set_cons_zero, List.set_cons_succ]
    refine take_slot (i := 16) (d := some 25) (v := undef) rfl (by kernel_rfl) (by kernel_rfl) (by kernel_rfl) (by kernel_rfl) (fun _ _ _ h => h) (.inr ⟨by kernel_rfl, rfl⟩) hHeld ?_
    try simp only [Act.put, List.setIfInBounds_toArray, List.set_cons_zero, List.set_cons_succ]
    refine take_slot (i := 17) (d := some 26) (v := undef) rfl (by kernel_rfl) (by kernel_rfl) (by kernel_rfl) (by kernel_rfl) (fun _ _ _ h => h) (.inr ⟨by kernel_rfl, rfl⟩) hHeld ?_
    try simp only [Act.put, List.setIfInBounds_toArray, List.set_cons_zero, List.set_cons_succ]
    refine take_slot (i := 18) (d := some 27) (v := undef) rfl (by kernel_rfl) (by kernel_rfl) (by kernel_rfl) (by kernel_rfl) (fun _ _ _ h => h) (.inr ⟨by kernel_rfl, rfl⟩) hHeld ?_
    try simp only [Act.put, List.setIfInBounds_toArray, List.set_cons_zero, List.set_cons_succ]
    refine take_slot (i := 19) (d := some 28) (v := undef) rfl (by kernel_rfl) (by kernel_rfl) (by kernel_rfl) (by kernel_rfl) (fun _ _ _ h => h) (.inr ⟨by kernel_rfl, rfl⟩) hHeld ?_
    try simp only [Act.put, List.setIfInBounds_toArray, List.set_cons_zero, List.set_cons_succ]
    refine take_slot (i := 20) (d := some 29) (v := undef) rfl (by kernel_rfl) (by kernel_rfl) (by kernel_rfl) (by kernel_rfl) (fun _ _ _ h => h) (.inr ⟨by kernel_rfl, rfl⟩) hHeld ?_
    try simp only [Act.put, List.setIfInBounds_toArray, List.set_cons_zero, List.set_cons_succ]
    refine take_slot (i := 21) (d := some 30) (v := undef) rfl (by kernel_rfl) (by kernel_rfl) (by kernel_rfl) (by kernel_rfl) (fun _ _ _ h => h) (.inr ⟨by kernel_rfl, rfl⟩) hHeld ?_
    try simp only [Act.put, List.setIfInBounds_toArray, List.set_cons_zero, List.set_cons_succ]
    refine take_slot (i := 22) (d := some 31) (v := undef) rfl (by kernel_rfl) (by kernel_rfl) (by kernel_rfl) (by kernel_rfl) (fun _ _ _ h => h) (.inr ⟨by kernel_rfl, rfl⟩) hHeld ?_
    try simp only [Act.put, List.setIfInBounds_toArray, List.set_cons_zero, List.set_cons_succ]
    refine take_slot (i := 23) (d := some 32) (v := undef) rfl (by kernel_rfl) (by kernel_rfl) (by kernel_rfl) (by kernel_rfl) (fun _ _ _ h => h) (.inr ⟨by kernel_rfl, rfl⟩) hHeld ?_
    try simp only [Act.put, List.setIfInBounds_toArray, List.set_cons_zero, List.set_cons_succ]
    refine take_slot (i := 24) (d := some 33) (v := undef) rfl (by kernel_rfl) (by kernel_rfl) (by kernel_rfl) (by kernel_rfl) (fun _ _ _ h => h) (.inr ⟨by kernel_rfl, rfl⟩) hHeld ?_
    try simp only [Act.put, List.setIfInBounds_toArray, List.set_cons_zero, List.set_cons_succ]
    refine take_slot (i := 25) (d := some 34) (v := .bool true) rfl (by kernel_rfl) (by kernel_rfl) (by kernel_rfl) (by kernel_rfl) (fun _ _ _ h => h) (.inl ⟨by kernel_rfl, fun V hV => by obtain ⟨hV1, hV2⟩ := hV; go_simp⟩) hHeld ?_
    try simp only [Act.put, List.setIfInBounds_toArray, List.set_cons_zero, List.set_cons_succ]
    refine wpAnyH_done (by kernel_rfl) ?_ _
    go_wp2_with fail
    go_ret
    exact ⟨by rw [hv.out]; rfl, k5.out⟩
  | true =>
    have hz4 : n = 4 := by rw [← h.1]; exact ((deal_iff zss).1 hd).1
    subst hz4
    have HD := Lib.hid hd
    rw [hd] at I1
    clear hd
    cases hd' : dealB yss with
    | false =>
      have hv : Hid (sameV zss yss strain = false) := by show _ = _; simp [sameV, hd']
      rw [hd'] at I2
      clear hd'
      refine wp_region_held_drew (S := fun V => V.cell? ⟨w.heap.size, 0, none⟩ = some (.slice A 4 c) ∧ V.cell? ⟨w.heap.size + 1, 0, none⟩ = some (.slice A' n' c')) (by kernel_rfl) ⟨q0, q1⟩ (fun hHeld => ?_)
      refine take_slot (i := 0) (d := some 9) (v := .agg #[.slice A 4 c]) rfl (by kernel_rfl) (by kernel_rfl) (by kernel_rfl) (by kernel_rfl) (fun _ _ _ h => h) (.inl ⟨by kernel_rfl, fun V hV => by obtain ⟨hV1, hV2⟩ := hV; go_simp⟩) hHeld ?_
      try simp only [Act.put, List.setIfInBounds_toArray, List.set_cons_zero, List.set_cons_succ]
      refine wpAnyH_ready (rs := [1]) (by kernel_rfl) (by simp) (AllReadyH.cons (i := 1) rfl (fun K' hK' => ?_) AllReadyH.nil)
      go_simp
      refine (I1.out _ dr.out).mono ?_
      rintro e w5 ⟨rfl, c5⟩
      have j5 := Lib.hid (dw.out.trans c5)
      have k5 := Lib.hid (dr.out.trans c5)
      refine hK'.out _ _ ⟨box_still q0 j5.out, box_still q1 j5.out⟩ (fun hHeld => ?_)
      clear hK'
      try simp only [Act.put, List.setIfInBounds_toArray, List.set_cons_zero, List.set_cons_succ]
      refine take_slot (i := 2) (d := some 11) (v := .bool false) rfl (by kernel_rfl) (by kernel_rfl) (by kernel_rfl) (by kernel_rfl) (fun _ _ _ h => h) (.inl ⟨by kernel_rfl, fun V hV => by obtain ⟨hV1, hV2⟩ := hV; go_simp⟩) hHeld ?_
      try simp only [Act.put, List.setIfInBounds_toArray, List.set_cons_zero, List.set_cons_succ]
      refine take_slot (i := 3) (d := some 12) (v := .bool false) rfl (by kernel_rfl) (by kernel_rfl) (by kernel_rfl) (by kernel_rfl) (fun _ _ _ h => h) (.inl ⟨by kernel_rfl, fun V hV => by obtain ⟨hV1, hV2⟩ := hV; go_simp⟩) hHeld ?_
      try simp only [Act.put, List.setIfInBounds_toArray, List.set_cons_zero, List.set_cons_succ]
      refine take_slot (i := 4) (d := some 13) (v := .agg #[.slice A' n' c']) rfl (by kernel_rfl) (by kernel_rfl) (by kernel_rfl) (by kernel_rfl) (fun _ _ _ h => h) (.inl ⟨by kernel_rfl, fun V hV => by obtain ⟨hV1, hV2⟩ := hV; go_simp⟩) hHeld ?_
      try simp only [Act.put, List.setIfInBounds_toArray, List.set_cons_zero, List.set_cons_succ]
      refine wpAnyH_ready (rs := [5]) (by kernel_rfl) (by simp) (AllReadyH.cons (i := 5) rfl (fun K' hK' => ?_) AllReadyH.nil)
      go_simp
      refine (I2.out w5 k5.out).mono ?_
      rintro e w6 ⟨rfl, c6⟩
      have j6 := Lib.hid (j5.out.trans c6)
      have k6 := Lib.hid (k5.out.trans c6)
      refine hK'.out _ _ ⟨box_still q0 j6.out, box_still q1 j6.out⟩ (fun hHeld => ?_)
      clear hK'
      try simp only [Act.put, List.setIfInBounds_toArray, List.set_cons_zero, List.set_cons_succ]
      refine take_slot (i := 6) (d := some 15) (v := .bool true) rfl (by kernel_rfl) (by kernel_rfl) (by kernel_rfl) (by kernel_rfl) (fun _ _ _ h => h) (.inl ⟨by kernel_rfl, fun V hV => by obtain ⟨hV1, hV2⟩ := hV; go_simp⟩) hHeld ?_
      try simp only [Act.put, List.setIfInBounds_toArray, List.set_cons_zero, List.set_cons_succ]
      refine take_slot (i := 7) (d := some 16) (v := .bool true) rfl (by kernel_rfl) (by kernel_rfl) (by kernel_rfl) (by kernel_rfl) (fun _ _ _ h => h) (.inl ⟨by kernel_rfl, fun V hV => by obtain ⟨hV1, hV2⟩ := hV; go_simp⟩) hHeld ?_
      try simp only [Act.put, List.setIfInBounds_toArray, List.set_cons_zero, List.set_cons_succ]
      refine take_slot (i := 8) (d := some 17) (v := .bool true) rfl (by kernel_rfl) (by kernel_rfl) (by kernel_rfl) (by kernel_rfl) (fun _ _ _ h => h) (.inl ⟨by kernel_rfl, fun V hV => by obtain ⟨hV1, hV2⟩ := hV; go_simp⟩) hHeld ?_
      try simp only [Act.put, List.setIfInBounds_toArray, List.set_cons_zero, List.set_cons_succ]
      refine take_slot (i := 9) (d := some 18) (v := undef) rfl (by kernel_rfl) (by kernel_rfl) (by kernel_rfl) (by kernel_rfl) (fun _ _ _ h => h) (.inr ⟨by kernel_rfl, rfl⟩) hHeld ?_
      try simp only [Act.put, List.setIfInBounds_toArray, List.set_cons_zero, List.set_cons_succ]
      refine take_slot (i := 10) (d := some 19) (v := undef) rfl (by kernel_rfl) (by kernel_rfl) (by kernel_rfl) (by kernel_rfl) (fun _ _ _ h => h) (.inr ⟨by kernel_rfl, rfl⟩) hHeld ?_
      try simp only [Act.put, List.setIfInBounds_toArray, List.set_cons_zero, List.set_cons_succ]
      refine take_slot (i := 11) (d := some 20) (v := undef) rfl (by kernel_rfl) (by kernel_rfl) (by kernel_rfl) (by kernel_rfl) (fun _ _ _ h => h) (.inr ⟨by kernel_rfl, rfl⟩) hHeld ?_
      try simp only [Act.put, List.setIfInBounds_toArray, List.set_cons_zero, List.set_cons_succ]
      refine take_slot (i := 12) (d := some 21) (v := .bool true) rfl (by kernel_rfl) (by kernel_rfl) (by kernel_rfl) (by kernel_rfl) (fun _ _ _ h => h) (.inl ⟨by kernel_rfl, fun V hV => by obtain ⟨hV1, hV2⟩ := hV; go_simp⟩) hHeld ?_
      try simp only [Act.put, List.setIfInBounds_toArray, List.set_cons_zero, List.set_cons_succ]
      refine take_slot (i := 13) (d := some 22) (v := .bool true) rfl (by kernel_rfl) (by kernel_rfl) (by kernel_rfl) (by kernel_rfl) (fun _ _ _ h => h) (.inl ⟨by kernel_rfl, fun V hV => by obtain ⟨hV1, hV2⟩ := hV; go_simp⟩) hHeld ?_
      try simp only [Act.put, List.setIfInBounds_toArray, List.set_cons_zero, List.set_cons_succ]
      refine take_slot (i := 14) (d := some 23) (v := undef) rfl (by kernel_rfl) (by kernel_rfl) (by kernel_rfl) (by kernel_rfl) (fun _ _ _ h => h) (.inr ⟨by kernel_rfl, rfl⟩) hHeld ?_
      try simp only [Act.put, List.setIfInBounds_toArray, List.set_cons_zero, List.set_cons_succ]
      refine take_slot (i := 15) (d := some 24) (v := undef) rfl (by kernel_rfl) (by kernel_rfl) (by kernel_rfl) (by kernel_rfl) (fun _ _ _ h => h) (.inr ⟨by kernel_rfl, rfl⟩) hHeld ?_
      try simp only [Act.put, List.setIfInBounds_toArray, List.set_cons_zero, List.set_cons_succ]
      refine take_slot (i := 16) (d := some 25) (v := undef) rfl (by kernel_rfl) (by kernel_rfl) (by kernel_rfl) (by kernel_rfl) (fun _ _ _ h => h) (.inr ⟨by kernel_rfl, rfl⟩) hHeld ?_
      try simp only [Act.put, List.setIfInBounds_toArray, List.set_cons_zero, List.set_cons_succ]
      refine take_slot (i := 17) (d := some 26) (v := undef) rfl (by kernel_rfl) (by kernel_rfl) (by kernel_rfl) (by kernel_rfl) (fun _ _ _ h => h) (.inr ⟨by kernel_rfl, rfl⟩) hHeld ?_
      try simp only [Act.put, List.setIfInBounds_toArray, List.set_cons_zero, List.set_cons_succ]
      refine take_slot (i := 18) (d := some 27) (v := undef) rfl (by kernel_rfl) (by kernel_rfl) (by kernel_rfl) (by kernel_rfl) (fun _ _ _ h => h) (.inr ⟨by kernel_rfl, rfl⟩) hHeld ?_
      try simp only [Act.put, List.setIfInBounds_toArray, List.set_cons_zero, List.set_cons_succ]
      refine take_slot (i := 19) (d := some 28) (v := undef) rfl (by kernel_rfl) (by kernel_rfl) (by kernel_rfl) (by kernel_rfl) (fun _ _ _ h => h) (.inr ⟨by kernel_rfl, rfl⟩) hHeld ?_
      try simp only [Act.put, List.setIfInBounds_toArray, List.set_cons_zero, List.set_cons_succ]
      refine take_slot (i := 20) (d := some 29) (v := undef) rfl (by kernel_rfl) (by kernel_rfl) (by kernel_rfl) (by kernel_rfl) (fun _ _ _ h => h) (.inr ⟨by kernel_rfl, rfl⟩) hHeld ?_
      try simp only [Act.put, List.setIfInBounds_toArray, List.set_cons_zero, List.set_cons_succ]
      refine take_slot (i := 21) (d := some 30) (v := undef) rfl (by kernel_rfl) (by kernel_rfl) (by kernel_rfl) (by kernel_rfl) (fun _ _ _ h => h) (.inr ⟨by kernel_rfl, rfl⟩) hHeld ?_
      try simp only [Act.put, List.setIfInBounds_toArray, List.set_cons_zero, List.set_cons_succ]
      refine take_slot (i := 22) (d := some 31) (v := undef) rfl (by kernel_rfl) (by kernel_rfl) (by kernel_rfl) (by kernel_rfl) (fun _ _ _ h => h) (.inr ⟨by kernel_rfl, rfl⟩) hHeld ?_
      try simp only [Act.put, List.setIfInBounds_toArray, List.set_cons_zero, List.set_cons_succ]
      refine take_slot (i := 23) (d := some 32) (v := undef) rfl (by kernel_rfl) (by kernel_rfl) (by kernel_rfl) (by kernel_rfl) (fun _ _ _ h => h) (.inr ⟨by kernel_rfl, rfl⟩) hHeld ?_
      try simp only [Act.put, List.setIfInBounds_toArray, List.set_cons_zero, List.set_cons_succ]
      refine take_slot (i := 24) (d := some 33) (v := undef) rfl (by kernel_rfl) (by kernel_rfl) (by kernel_rfl) (by kernel_rfl) (fun _ _ _ h => h) (.inr ⟨by kernel_rfl, rfl⟩) hHeld ?_
      try simp only [Act.put, List.setIfInBounds_toArray, List.set_cons_zero, List.set_cons_succ]
      refine take_slot (i := 25) (d := some 34) (v := .bool true) rfl (by kernel_rfl) (by kernel_rfl) (by kernel_rfl) (by kernel_rfl) (fun _ _ _ h => h) (.inl ⟨by kernel_rfl, fun V hV => by obtain ⟨hV1, hV2⟩ := hV; go_simp⟩) hHeld ?_
      try simp only [Act.put, List.setIfInBounds_toArray, List.set_cons_zero, List.set_cons_succ]
      refine wpAnyH_done (by kernel_rfl) ?_ _
      go_wp2_with fail
      go_ret
      exact ⟨by rw [hv.out]; rfl, k6.out⟩
    | true =>
      have hz4' : n' = 4 := by rw [← h'.1]; exact ((deal_iff yss).1 hd').1
      subst hz4'
      have HD' := Lib.hid hd'
      rw [hd'] at I2
      clear hd'
      cases hs : inB strain 0 4 with
      | false =>
        have hv : Hid (sameV zss yss strain = false) := by show _ = _; simp [sameV, hs]
        have HS := Lib.hid (fun V => l01In strain 0 4 V)
        rw [hs] at HS
        clear hs
        refine wp_region_held_drew (S := fun V => V.cell? ⟨w.heap.size, 0, none⟩ = some (.slice A 4 c) ∧ V.cell? ⟨w.heap.size + 1, 0, none⟩ = some (.slice A' 4 c')) (by kernel_rfl) ⟨q0, q1⟩ (fun hHeld => ?_)
        refine take_slot (i := 0) (d := some 9) (v := .agg #[.slice A 4 c]) rfl (by kernel_rfl) (by kernel_rfl) (by kernel_rfl) (by kernel_rfl) (fun _ _ _ h => h) (.inl ⟨by kernel_rfl, fun V hV => by obtain ⟨hV1, hV2⟩ := hV; go_simp⟩) hHeld ?_
        try simp only [Act.put, List.setIfInBounds_toArray, List.set_cons_zero, List.set_cons_succ]
        refine wpAnyH_ready (rs := [1]) (by kernel_rfl) (by simp) (AllReadyH.cons (i := 1) rfl (fun K' hK' => ?_) AllReadyH.nil)
        go_simp
        refine (I1.out _ dr.out).mono ?_
        rintro e w5 ⟨rfl, c5⟩
        have j5 := Lib.hid (dw.out.trans c5)
        have k5 := Lib.hid (dr.out.trans c5)
        refine hK'.out _ _ ⟨box_still q0 j5.out, box_still q1 j5.out⟩ (fun hHeld => ?_)
        clear hK'
        try simp only [Act.put, List.setIfInBounds_toArray, List.set_cons_zero, List.set_cons_succ]
        refine take_slot (i := 2) (d := some 11) (v := .bool false) rfl (by kernel_rfl) (by kernel_rfl) (by kernel_rfl) (by kernel_rfl) (fun _ _ _ h => h) (.inl ⟨by kernel_rfl, fun V hV => by obtain ⟨hV1, hV2⟩ := hV; go_simp⟩) hHeld ?_
        try simp only [Act.put, List.setIfInBounds_toArray, List.set_cons_zero, List.set_cons_succ]
        refine take_slot (i := 3) (d := some 12) (v := .bool false) rfl (by kernel_rfl) (by kernel_rfl) (by kernel_rfl) (by kernel_rfl) (fun _ _ _ h => h) (.inl ⟨by kernel_rfl, fun V hV => by obtain ⟨hV1, hV2⟩ := hV; go_simp⟩) hHeld ?_
        try simp only [Act.put, List.setIfInBounds_toArray, List.set_cons_zero, List.set_cons_succ]
        refine take_slot (i := 4) (d := some 13) (v := .agg #[.slice A' 4 c']) rfl (by kernel_rfl) (by kernel_rfl) (by kernel_rfl) (by kernel_rfl) (fun _ _ _ h => h) (.inl ⟨by kernel_rfl, fun V hV => by obtain ⟨hV1, hV2⟩ := hV; go_simp⟩) hHeld ?_
        try simp only [Act.put, List.setIfInBounds_toArray, List.set_cons_zero, List.set_cons_succ]
        refine wpAnyH_ready (rs := [5]) (by kernel_rfl) (by simp) (AllReadyH.cons (i := 5) rfl (fun K' hK' => ?_) AllReadyH.nil)
        go_simp
        refine (I2.out w5 k5.out).mono ?_
        rintro e w6 ⟨rfl, c6⟩
        have j6 := Lib.hid (j5.out.trans c6)
        have k6 := Lib.hid (k5.out.trans c6)
        refine hK'.out _ _ ⟨box_still q0 j6.out, box_still q1 j6.out⟩ (fun hHeld => ?_)
        clear hK'
        try simp only [Act.put, List.setIfInBounds_toArray, List.set_cons_zero, List.set_cons_succ]
        refine take_slot (i := 6) (d := some 15) (v := .bool false) rfl (by kernel_rfl) (by kernel_rfl) (by kernel_rfl) (by kernel_rfl) (fun _ _ _ h => h) (.inl ⟨by kernel_rfl, fun V hV => by obtain ⟨hV1, hV2⟩ := hV; go_simp⟩) hHeld ?_
        try simp only [Act.put, List.setIfInBounds_toArray, List.set_cons_zero, List.set_cons_succ]
        refine take_slot (i := 7) (d := some 16) (v := .bool false) rfl (by kernel_rfl) (by kernel_rfl) (by kernel_rfl) (by kernel_rfl) (fun _ _ _ h => h) (.inl ⟨by kernel_rfl, fun V hV => by obtain ⟨hV1, hV2⟩ := hV; go_simp⟩) hHeld ?_
        try simp only [Act.put, List.setIfInBounds_toArray, List.set_cons_zero, List.set_cons_succ]
        refine take_slot (i := 8) (d := some 17) (v := .bool false) rfl (by kernel_rfl) (by kernel_rfl) (by kernel_rfl) (by kernel_rfl) (fun _ _ _ h => h) (.inl ⟨by kernel_rfl, fun V hV => by obtain ⟨hV1, hV2⟩ := hV; go_simp⟩) hHeld ?_
        try simp only [Act.put, List.setIfInBounds_toArray, List.set_cons_zero, List.set_cons_succ]
        refine take_slot (i := 9) (d := some 18) (v := .int .i64 strain) rfl (by kernel_rfl) (by kernel_rfl) (by kernel_rfl) (by kernel_rfl) (fun _ _ _ h => h) (.inl ⟨by kernel_rfl, fun V hV => by obtain ⟨hV1, hV2⟩ := hV; go_simp⟩) hHeld ?_
        try simp only [Act.put, List.setIfInBounds_toArray, List.set_cons_zero, List.set_cons_succ]
        refine wpAnyH_ready (rs := [10]) (by kernel_rfl) (by simp) (AllReadyH.cons (i := 10) rfl (fun K' hK' => ?_) AllReadyH.nil)
        go_simp
        refine (HS.out _).mono ?_
        rintro e w' ⟨rfl, rfl⟩
        refine hK'.out _ _ ⟨box_still q0 j6.out, box_still q1 j6.out⟩ (fun hHeld => ?_)
        clear hK'
        try simp only [Act.put, List.setIfInBounds_toArray, List.set_cons_zero, List.set_cons_succ]
        refine take_slot (i := 11) (d := some 20) (v := .bool true) rfl (by kernel_rfl) (by kernel_rfl) (by kernel_rfl) (by kernel_rfl) (fun _ _ _ h => h) (.inl ⟨by kernel_rfl, fun V hV => by obtain ⟨hV1, hV2⟩ := hV; go_simp⟩) hHeld ?_
        try simp only [Act.put, List.setIfInBounds_toArray, List.set_cons_zero, List.set_cons_succ]
        refine take_slot (i := 12) (d := some 21) (v := .bool true) rfl (by kernel_rfl) (by kernel_rfl) (by kernel_rfl) (by kernel_rfl) (fun _ _ _ h => h) (.inl ⟨by kernel_rfl, fun V hV => by obtain ⟨hV1, hV2⟩ := hV; go_simp⟩) hHeld ?_
        try simp only [Act.put, List.setIfInBounds_toArray, List.set_cons_zero, List.set_cons_succ]
        refine take_slot (i := 13) (d := some 22) (v := .bool true) rfl (by kernel_rfl) (by kernel_rfl) (by kernel_rfl) (by kernel_rfl) (fun _ _ _ h => h) (.inl ⟨by kernel_rfl, fun V hV => by obtain ⟨hV1, hV2⟩ := hV; go_simp⟩) hHeld ?_
        try simp only [Act.put, List.setIfInBounds_toArray, List.set_cons_zero, List.set_cons_succ]
        refine take_slot (i := 14) (d := some 23) (v := undef) rfl (by kernel_rfl) (by kernel_rfl) (by kernel_rfl) (by kernel_rfl) (fun _ _ _ h => h) (.inr ⟨by kernel_rfl, rfl⟩) hHeld ?_
        try simp only [Act.put, List.setIfInBounds_toArray, List.set_cons_zero, List.set_cons_succ]
        refine take_slot (i := 15) (d := some 24) (v := undef) rfl (by kernel_rfl) (by kernel_rfl) (by kernel_rfl) (by kernel_rfl) (fun _ _ _ h => h) (.inr ⟨by kernel_rfl, rfl⟩) hHeld ?_
        try simp only [Act.put, List.setIfInBounds_toArray, List.set_cons_zero, List.set_cons_succ]
        refine take_slot (i := 16) (d := some 25) (v := undef) rfl (by kernel_rfl) (by kernel_rfl) (by kernel_rfl) (by kernel_rfl) (fun _ _ _ h => h) (.inr ⟨by kernel_rfl, rfl⟩) hHeld ?_
        try simp only [Act.put, List.setIfInBounds_toArray, List.set_cons_zero, List.set_cons_succ]
        refine take_slot (i := 17) (d := some 26) (v := undef) rfl (by kernel_rfl) (by kernel_rfl) (by kernel_rfl) (by kernel_rfl) (fun _ _ _ h => h) (.inr ⟨by kernel_rfl, rfl⟩) hHeld ?_
        try simp only [Act.put, List.setIfInBounds_toArray, List.set_cons_zero, List.set_cons_succ]
        refine take_slot (i := 18) (d := some 27) (v := undef) rfl (by kernel_rfl) (by kernel_rfl) (by kernel_rfl) (by kernel_rfl) (fun _ _ _ h => h) (.inr ⟨by kernel_rfl, rfl⟩) hHeld ?_
        try simp only [Act.put, List.setIfInBounds_toArray, List.set_cons_zero, List.set_cons_succ]
        refine take_slot (i := 19) (d := some 28) (v := undef) rfl (by kernel_rfl) (by kernel_rfl) (by kernel_rfl) (by kernel_rfl) (fun _ _ _ h => h) (.inr ⟨by kernel_rfl, rfl⟩) hHeld ?_
        try simp only [Act.put, List.setIfInBounds_toArray, List.set_cons_zero, List.set_cons_succ]
        refine take_slot (i := 20) (d := some 29) (v := undef) rfl (by kernel_rfl) (by kernel_rfl) (by kernel_rfl) (by kernel_rfl) (fun _ _ _ h => h) (.inr ⟨by kernel_rfl, rfl⟩) hHeld ?_
        try simp only [Act.put, List.setIfInBounds_toArray, List.set_cons_zero, List.set_cons_succ]
        refine take_slot (i := 21) (d := some 30) (v := undef) rfl (by kernel_rfl) (by kernel_rfl) (by kernel_rfl) (by kernel_rfl) (fun _ _ _ h => h) (.inr ⟨by kernel_rfl, rfl⟩) hHeld ?_
        try simp only [Act.put, List.setIfInBounds_toArray, List.set_cons_zero, List.set_cons_succ]
        refine take_slot (i := 22) (d := some 31) (v := undef) rfl (by kernel_rfl) (by kernel_rfl) (by kernel_rfl) (by kernel_rfl) (fun _ _ _ h => h) (.inr ⟨by kernel_rfl, rfl⟩) hHeld ?_
        try simp only [Act.put, List.setIfInBounds_toArray, List.set_cons_zero, List.set_cons_succ]
        refine take_slot (i := 23) (d := some 32) (v := undef) rfl (by kernel_rfl) (by kernel_rfl) (by kernel_rfl) (by kernel_rfl) (fun _ _ _ h => h) (.inr ⟨by kernel_rfl, rfl⟩) hHeld ?_
        try simp only [Act.put, List.setIfInBounds_toArray, List.set_cons_zero, List.set_cons_succ]
        refine take_slot (i := 24) (d := some 33) (v := undef) rfl (by kernel_rfl) (by kernel_rfl) (by kernel_rfl) (by kernel_rfl) (fun _ _ _ h => h) (.inr ⟨by kernel_rfl, rfl⟩) hHeld ?_
        try simp only [Act.put, List.setIfInBounds_toArray, List.set_cons_zero, List.set_cons_succ]
        refine take_slot (i := 25) (d := some 34) (v := .bool true) rfl (by kernel_rfl) (by kernel_rfl) (by kernel_rfl) (by kernel_rfl) (fun _ _ _ h => h) (.inl ⟨by kernel_rfl, fun V hV => by obtain ⟨hV1, hV2⟩ := hV; go_simp⟩) hHeld ?_
        try simp only [Act.put, List.setIfInBounds_toArray, List.set_cons_zero, List.set_cons_succ]
        refine wpAnyH_done (by kernel_rfl) ?_ _
        go_wp2_with fail
        go_ret
        exact ⟨by rw [hv.out]; rfl, k6.out⟩
      | true =>
        have HSS := Lib.hid hs
        have HS := Lib.hid (fun V => l01In strain 0 4 V)
        rw [hs] at HS
        clear hs
        obtain ⟨b, off, Bq, Cq, eA, _, _, hcw, _, _, _⟩ := h.at_ (show 0 < 4 by omega)
        obtain ⟨b', off', Bq', Cq', eA', _, _, hcw', _, _, _⟩ := h'.at_ (show 0 < 4 by omega)
        subst eA
        subst eA'
        have q2 := box_still hcw c2.out
        have q3 := box_still hcw' c2.out
        obtain ⟨z1, hz1⟩ : ∃ z, (zss.getD 0 []).length = z := ⟨_, rfl⟩
        obtain ⟨z2, hz2⟩ : ∃ z, (yss.getD 0 []).length = z := ⟨_, rfl⟩
        rw [hz1] at q2
        rw [hz2] at q3
        have HZ1 := Lib.hid hz1
        have HZ2 := Lib.hid hz2
        have X1 := Lib.hid (fun V (k : Chg w V 0 0) => l05Canonical _ c strain zss lo hi V (h.still k) HD.out HSS.out)
        have X2 := Lib.hid (fun V (k : Chg w V 0 0) => l05Canonical _ c' strain yss lo' hi' V (h'.still k) HD'.out HSS.out)
        rw [Nat.add_zero] at q2 q3
        clear hcw hcw' hz1 hz2
        by_cases hz : z1 = z2
        · subst hz
          have HCR := Lib.hid (can_rows HD.out HD'.out HSS.out (HZ1.out.trans HZ2.out.symm))
          have HSL := Lib.hid (same_less HD.out HD'.out HSS.out)
          have H13 := Lib.hid (fun j (hj : j < 4) => (show ((canL zss strain).getD j []).length ≤ 52 by have := deal_row13 (can_deal HD.out HSS.out) j hj; omega))
          generalize canL zss strain = xs at X1 HCR HSL H13
          generalize canL yss strain = ys at X2 HCR HSL
          refine wp_region_held_drew (S := fun V => V.cell? ⟨w.heap.size, 0, none⟩ = some (.slice (some ⟨b, off, none⟩) 4 c) ∧ V.cell? ⟨w.heap.size + 1, 0, none⟩ = some (.slice (some ⟨b', off', none⟩) 4 c') ∧ V.cell? ⟨b, off, none⟩ = some (.slice Bq z1 Cq) ∧ V.cell? ⟨b', off', none⟩ = some (.slice Bq' z1 Cq')) (by kernel_rfl) ⟨q0, q1, q2, q3⟩ (fun hHeld => ?_)
          refine take_slot (i := 0) (d := some 9) (v := .agg #[.slice (some ⟨b, off, none⟩) 4 c]) rfl (by kernel_rfl) (by kernel_rfl) (by kernel_rfl) (by kernel_rfl) (fun _ _ _ h => h) (.inl ⟨by kernel_rfl, fun V hV => by obtain ⟨hV1, hV2, hV3, hV4⟩ := hV; go_simp⟩) hHeld ?_
          try simp only [Act.put, List.setIfInBounds_toArray, List.set_cons_zero, List.set_cons_succ]
          refine wpAnyH_ready (rs := [1]) (by kernel_rfl) (by simp) (AllReadyH.cons (i := 1) rfl (fun K' hK' => ?_) AllReadyH.nil)
          go_simp
          refine (I1.out _ dr.out).mono ?_
          rintro e w5 ⟨rfl, c5⟩
          have j5 := Lib.hid (dw.out.trans c5)
          have k5 := Lib.hid (dr.out.trans c5)
          refine hK'.out _ _ ⟨box_still q0 j5.out, box_still q1 j5.out, box_still q2 j5.out, box_still q3 j5.out⟩ (fun hHeld => ?_)
          clear hK'
          try simp only [Act.put, List.setIfInBounds_toArray, List.set_cons_zero, List.set_cons_succ]
          refine take_slot (i := 2) (d := some 11) (v := .bool false) rfl (by kernel_rfl) (by kernel_rfl) (by kernel_rfl) (by kernel_rfl) (fun _ _ _ h => h) (.inl ⟨by kernel_rfl, fun V hV => by obtain ⟨hV1, hV2, hV3, hV4⟩ := hV; go_simp⟩) hHeld ?_
          try simp only [Act.put, List.setIfInBounds_toArray, List.set_cons_zero, List.set_cons_succ]
          refine take_slot (i := 3) (d := some 12) (v := .bool false) rfl (by kernel_rfl) (by kernel_rfl) (by kernel_rfl) (by kernel_rfl) (fun _ _ _ h => h) (.inl ⟨by kernel_rfl, fun V hV => by obtain ⟨hV1, hV2, hV3, hV4⟩ := hV; go_simp⟩) hHeld ?_
          try simp only [Act.put, List.setIfInBounds_toArray, List.set_cons_zero, List.set_cons_succ]
          refine take_slot (i := 4) (d := some 13) (v := .agg #[.slice (some ⟨b', off', none⟩) 4 c']) rfl (by kernel_rfl) (by kernel_rfl) (by kernel_rfl) (by kernel_rfl) (fun _ _ _ h => h) (.inl ⟨by kernel_rfl, fun V hV => by obtain ⟨hV1, hV2, hV3, hV4⟩ := hV; go_simp⟩) hHeld ?_
          try simp only [Act.put, List.setIfInBounds_toArray, List.set_cons_zero, List.set_cons_succ]
          refine wpAnyH_ready (rs := [5]) (by kernel_rfl) (by simp) (AllReadyH.cons (i := 5) rfl (fun K' hK' => ?_) AllReadyH.nil)
          go_simp
          refine (I2.out w5 k5.out).mono ?_
          rintro e w6 ⟨rfl, c6⟩
          have j6 := Lib.hid (j5.out.trans c6)
          have k6 := Lib.hid (k5.out.trans c6)
          refine hK'.out _ _ ⟨box_still q0 j6.out, box_still q1 j6.out, box_still q2 j6.out, box_still q3 j6.out⟩ (fun hHeld => ?_)
          clear hK'
          try simp only [Act.put, List.setIfInBounds_toArray, List.set_cons_zero, List.set_cons_succ]
          refine take_slot (i := 6) (d := some 15) (v := .bool false) rfl (by kernel_rfl) (by kernel_rfl) (by kernel_rfl) (by kernel_rfl) (fun _ _ _ h => h) (.inl ⟨by kernel_rfl, fun V hV => by obtain ⟨hV1, hV2, hV3, hV4⟩ := hV; go_simp⟩) hHeld ?_
          try simp only [Act.put, List.setIfInBounds_toArray, List.set_cons_zero, List.set_cons_succ]
          refine take_slot (i := 7) (d := some 16) (v := .bool false) rfl (by kernel_rfl) (by kernel_rfl) (by kernel_rfl) (by kernel_rfl) (fun _ _ _ h => h) (.inl ⟨by kernel_rfl, fun V hV => by obtain ⟨hV1, hV2, hV3, hV4⟩ := hV; go_simp⟩) hHeld ?_
          try simp only [Act.put, List.setIfInBounds_toArray, List.set_cons_zero, List.set_cons_succ]
          refine take_slot (i := 8) (d := some 17) (v := .bool false) rfl (by kernel_rfl) (by kernel_rfl) (by kernel_rfl) (by kernel_rfl) (fun _ _ _ h => h) (.inl ⟨by kernel_rfl, fun V hV => by obtain ⟨hV1, hV2, hV3, hV4⟩ := hV; go_simp⟩) hHeld ?_
          try simp only [Act.put, List.setIfInBounds_toArray, List.set_cons_zero, List.set_cons_succ]
          refine take_slot (i := 9) (d := some 18) (v := .int .i64 strain) rfl (by kernel_rfl) (by kernel_rfl) (by kernel_rfl) (by kernel_rfl) (fun _ _ _ h => h) (.inl ⟨by kernel_rfl, fun V hV => by obtain ⟨hV1, hV2, hV3, hV4⟩ := hV; go_simp⟩) hHeld ?_
          try simp only [Act.put, List.setIfInBounds_toArray, List.set_cons_zero, List.set_cons_succ]
          refine wpAnyH_ready (rs := [10]) (by kernel_rfl) (by simp) (AllReadyH.cons (i := 10) rfl (fun K' hK' => ?_) AllReadyH.nil)
          go_simp
          refine (HS.out _).mono ?_
          rintro e w' ⟨rfl, rfl⟩
          refine hK'.out _ _ ⟨box_still q0 j6.out, box_still q1 j6.out, box_still q2 j6.out, box_still q3 j6.out⟩ (fun hHeld => ?_)
          clear hK'
          try simp only [Act.put, List.setIfInBounds_toArray, List.set_cons_zero, List.set_cons_succ]
          refine take_slot (i := 11) (d := some 20) (v := .bool false) rfl (by kernel_rfl) (by kernel_rfl) (by kernel_rfl) (by kernel_rfl) (fun _ _ _ h => h) (.inl ⟨by kernel_rfl, fun V hV => by obtain ⟨hV1, hV2, hV3, hV4⟩ := hV; go_simp⟩) hHeld ?_
          try simp only [Act.put, List.setIfInBounds_toArray, List.set_cons_zero, List.set_cons_succ]
          refine take_slot (i := 12) (d := some 21) (v := .bool false) rfl (by kernel_rfl) (by kernel_rfl) (by kernel_rfl) (by kernel_rfl) (fun _ _ _ h => h) (.inl ⟨by kernel_rfl, fun V hV => by obtain ⟨hV1, hV2, hV3, hV4⟩ := hV; go_simp⟩) hHeld ?_
          try simp only [Act.put, List.setIfInBounds_toArray, List.set_cons_zero, List.set_cons_succ]
          refine take_slot (i := 13) (d := some 22) (v := .bool false) rfl (by kernel_rfl) (by kernel_rfl) (by kernel_rfl) (by kernel_rfl) (fun _ _ _ h => h) (.inl ⟨by kernel_rfl, fun V hV => by obtain ⟨hV1, hV2, hV3, hV4⟩ := hV; go_simp⟩) hHeld ?_
          try simp only [Act.put, List.setIfInBounds_toArray, List.set_cons_zero, List.set_cons_succ]
          refine take_slot (i := 14) (d := some 23) (v := .pointer (some ⟨w.heap.size, 0, none⟩)) rfl (by kernel_rfl) (by kernel_rfl) (by kernel_rfl) (by kernel_rfl) (fun _ _ _ h => h) (.inl ⟨by kernel_rfl, fun V hV => by obtain ⟨hV1, hV2, hV3, hV4⟩ := hV; go_simp⟩) hHeld ?_
          try simp only [Act.put, List.setIfInBounds_toArray, List.set_cons_zero, List.set_cons_succ]
          refine take_slot (i := 15) (d := some 24) (v := .slice (some ⟨b, off, none⟩) 4 c) rfl (by kernel_rfl) (by kernel_rfl) (by kernel_rfl) (by kernel_rfl) (fun _ _ _ h => h) (.inl ⟨by kernel_rfl, fun V hV => by obtain ⟨hV1, hV2, hV3, hV4⟩ := hV; go_simp⟩) hHeld ?_
          try simp only [Act.put, List.setIfInBounds_toArray, List.set_cons_zero, List.set_cons_succ]
          refine take_slot (i := 16) (d := some 25) (v := .pointer (some ⟨b, off, none⟩)) rfl (by kernel_rfl) (by kernel_rfl) (by kernel_rfl) (by kernel_rfl) (fun _ _ _ h => h) (.inl ⟨by kernel_rfl, fun V hV => by obtain ⟨hV1, hV2, hV3, hV4⟩ := hV; go_simp⟩) hHeld ?_
          try simp only [Act.put, List.setIfInBounds_toArray, List.set_cons_zero, List.set_cons_succ]
          refine take_slot (i := 17) (d := some 26) (v := .slice Bq z1 Cq) rfl (by kernel_rfl) (by kernel_rfl) (by kernel_rfl) (by kernel_rfl) (fun _ _ _ h => h) (.inl ⟨by kernel_rfl, fun V hV => by obtain ⟨hV1, hV2, hV3, hV4⟩ := hV; go_simp⟩) hHeld ?_
          try simp only [Act.put, List.setIfInBounds_toArray, List.set_cons_zero, List.set_cons_succ]
          refine take_slot (i := 18) (d := some 27) (v := .int .i64 (z1 : Int)) rfl (by kernel_rfl) (by kernel_rfl) (by kernel_rfl) (by kernel_rfl) (fun _ _ _ h => h) (.inl ⟨by kernel_rfl, fun V hV => by obtain ⟨hV1, hV2, hV3, hV4⟩ := hV; go_simp⟩) hHeld ?_
          try simp only [Act.put, List.setIfInBounds_toArray, List.set_cons_zero, List.set_cons_succ]
          refine take_slot (i := 19) (d := some 28) (v := .pointer (some ⟨w.heap.size + 1, 0, none⟩)) rfl (by kernel_rfl) (by kernel_rfl) (by kernel_rfl) (by kernel_rfl) (fun _ _ _ h => h) (.inl ⟨by kernel_rfl, fun V hV => by obtain ⟨hV1, hV2, hV3, hV4⟩ := hV; go_simp⟩) hHeld ?_
          try simp only [Act.put, List.setIfInBounds_toArray, List.set_cons_zero, List.set_cons_succ]
          refine take_slot (i := 20) (d := some 29) (v := .slice (some ⟨b', off', none⟩) 4 c') rfl (by kernel_rfl) (by kernel_rfl) (by kernel_rfl) (by kernel_rfl) (fun _ _ _ h => h) (.inl ⟨by kernel_rfl, fun V hV => by obtain ⟨hV1, hV2, hV3, hV4⟩ := hV; go_simp⟩) hHeld ?_
          try simp only [Act.put, List.setIfInBounds_toArray, List.set_cons_zero, List.set_cons_succ]
          refine take_slot (i := 21) (d := some 30) (v := .pointer (some ⟨b', off', none⟩)) rfl (by kernel_rfl) (by kernel_rfl) (by kernel_rfl) (by kernel_rfl) (fun _ _ _ h => h) (.inl ⟨by kernel_rfl, fun V hV => by obtain ⟨hV1, hV2, hV3, hV4⟩ := hV; go_simp⟩) hHeld ?_
          try simp only [Act.put, List.setIfInBounds_toArray, List.set_cons_zero, List.set_cons_succ]
          refine take_slot (i := 22) (d := some 31) (v := .slice Bq' z1 Cq') rfl (by kernel_rfl) (by kernel_rfl) (by kernel_rfl) (by kernel_rfl) (fun _ _ _ h => h) (.inl ⟨by kernel_rfl, fun V hV => by obtain ⟨hV1, hV2, hV3, hV4⟩ := hV; go_simp⟩) hHeld ?_
          try simp only [Act.put, List.setIfInBounds_toArray, List.set_cons_zero, List.set_cons_succ]
          refine take_slot (i := 23) (d := some 32) (v := .int .i64 (z1 : Int)) rfl (by kernel_rfl) (by kernel_rfl) (by kernel_rfl) (by kernel_rfl) (fun _ _ _ h => h) (.inl ⟨by kernel_rfl, fun V hV => by obtain ⟨hV1, hV2, hV3, hV4⟩ := hV; go_simp⟩) hHeld ?_
          try simp only [Act.put, List.setIfInBounds_toArray, List.set_cons_zero, List.set_cons_succ]
          refine take_slot (i := 24) (d := some 33) (v := .bool false) rfl (by kernel_rfl) (by kernel_rfl) (by kernel_rfl) (by kernel_rfl) (fun _ _ _ h => h) (.inl ⟨by kernel_rfl, fun V hV => by obtain ⟨hV1, hV2, hV3, hV4⟩ := hV; go_simp⟩) hHeld ?_
          try simp only [Act.put, List.setIfInBounds_toArray, List.set_cons_zero, List.set_cons_succ]
          refine take_slot (i := 25) (d := some 34) (v := .bool false) rfl (by kernel_rfl) (by kernel_rfl) (by kernel_rfl) (by kernel_rfl) (fun _ _ _ h => h) (.inl ⟨by kernel_rfl, fun V hV => by obtain ⟨hV1, hV2, hV3, hV4⟩ := hV; go_simp⟩) hHeld ?_
          try simp only [Act.put, List.setIfInBounds_toArray, List.set_cons_zero, List.set_cons_succ]
          refine wpAnyH_done (by kernel_rfl) ?_ _
          have D0 := Lib.hid (B0.out.still j6.out)
          have D1 := Lib.hid (B1.out.still j6.out)
          have kV := Lib.hid (k6.out.trans (Chg.drewN w6 1 0 0))
          clear q0 q1 q2 q3 I1 I2 HS c5 c6 j5 j6 k5 B0 B1
          go_wp2_with fail
          have p0 := (show BoxAt w6.drew _ _ _ from D0.out).c
          have p1 := (show BoxAt w6.drew _ _ _ from D1.out).c
          refine wp_region_held_drew (S := fun V => V.cell? ⟨w.heap.size, 0, none⟩ = some (.slice (some ⟨b, off, none⟩) 4 c) ∧ V.cell? ⟨w.heap.size + 1, 0, none⟩ = some (.slice (some ⟨b', off', none⟩) 4 c')) (by kernel_rfl) ⟨p0, p1⟩ (fun hHeld => ?_)
          refine take_slot (i := 0) (d := some 35) (v := .agg #[.slice (some ⟨b, off, none⟩) 4 c]) rfl (by kernel_rfl) (by kernel_rfl) (by kernel_rfl) (by kernel_rfl) (fun _ _ _ h => h) (.inl ⟨by rfl, fun V hV => by have hV1 := hV.1; go_simp⟩) hHeld ?_
          refine take_slot (i := 1) (d := some 36) (v := .int .i64 strain) rfl (by kernel_rfl) (by kernel_rfl) (by kernel_rfl) (by kernel_rfl) (fun _ _ _ h => h) (.inl ⟨by rfl, fun V hV => by go_simp⟩) hHeld ?_
          refine take_slot (i := 3) (d := some 38) (v := .agg #[.slice (some ⟨b', off', none⟩) 4 c']) rfl (by kernel_rfl) (by kernel_rfl) (by kernel_rfl) (by kernel_rfl) (fun _ _ _ h => h) (.inl ⟨by rfl, fun V hV => by have hV2 := hV.2; go_simp⟩) hHeld ?_
          refine take_slot (i := 4) (d := some 39) (v := .int .i64 strain) rfl (by kernel_rfl) (by kernel_rfl) (by kernel_rfl) (by kernel_rfl) (fun _ _ _ h => h) (.inl ⟨by rfl, fun V hV => by go_simp⟩) hHeld ?_
          have D0 := Lib.hid (show BoxAt w6.drew _ _ _ from D0.out)
          have D1 := Lib.hid (show BoxAt w6.drew _ _ _ from D1.out)
          have kV := Lib.hid (show Chg w w6.drew 0 0 from kV.out)
          clear p0 p1 k6 hHeld
          generalize w6.drew = v0 at D0 D1 kV ⊢
          refine wpAnyH_ready (rs := [2, 6, 7]) (by kernel_rfl) (by simp) (AllReadyH.cons (i := 2) rfl (fun K' hK' => ?n_2) (AllReadyH.cons (i := 6) rfl (fun K' hK' => ?n_6) (AllReadyH.cons (i := 7) rfl (fun K' hK' => ?n_7) AllReadyH.nil)))
          case' n_2 =>
            go_simp
            refine (X1.out _ kV.out).mono ?_
            rintro e v1 ⟨A1, cx, rfl, hcx, o1, ch⟩
            have o1 := Lib.hid (o1.more (lo' := w.heap.size) kV.out.size (Nat.le_refl _))
            have kV := Lib.hid (kV.out.trans ch)
            have D0 := Lib.hid (D0.out.still ch)
            have D1 := Lib.hid (D1.out.still ch)
            refine hK'.out _ _ ⟨D0.out.c, D1.out.c⟩ (fun hHeld => ?_)
            clear hK' ch
            refine wpAnyH_ready (rs := [5, 6, 7]) (by kernel_rfl) (by simp) (AllReadyH.cons (i := 5) rfl (fun K' hK' => ?n2_5) (AllReadyH.cons (i := 6) rfl (fun K' hK' => ?n2_6) (AllReadyH.cons (i := 7) rfl (fun K' hK' => ?n2_7) AllReadyH.nil)))
            case' n2_5 =>
              go_simp
              refine (X2.out _ kV.out).mono ?_
              rintro e v2 ⟨A2, cy, rfl, hcy, o2, ch⟩
              have o2 := Lib.hid (o2.more (lo' := w.heap.size) kV.out.size (Nat.le_refl _))
              have kV := Lib.hid (kV.out.trans ch)
              have D0 := Lib.hid (D0.out.still ch)
              have D1 := Lib.hid (D1.out.still ch)
              have o1 := Lib.hid ((o1.out.still ch).more (Nat.le_refl _) ch.size)
              refine hK'.out _ _ ⟨D0.out.c, D1.out.c⟩ (fun hHeld => ?_)
              clear hK' ch
              refine wpAnyH_ready (rs := [6, 7]) (by kernel_rfl) (by simp) (AllReadyH.cons (i := 6) rfl (fun K' hK' => ?n25_6) (AllReadyH.cons (i := 7) rfl (fun K' hK' => ?n25_7) AllReadyH.nil))
              case' n25_6 =>
                go_simp
                have B7 := Lib.hid (BoxAt.new v2 (.slice none 0 0) 36 rfl)
                have z7 := Lib.hid (show w.heap.size + 1 < v2.heap.size from D1.out.lt)
                have kV := Lib.hid (kV.out.trans (Chg.of_alloc v2 (.cells #[.slice none 0 0] 36) 0 0))
                have D0 := Lib.hid (D0.out.still (Chg.of_alloc v2 (.cells #[.slice none 0 0] 36) 0 0))
                have D1 := Lib.hid (D1.out.still (Chg.of_alloc v2 (.cells #[.slice none 0 0] 36) 0 0))
                have o1 := Lib.hid ((o1.out.still (Chg.of_alloc v2 (.cells #[.slice none 0 0] 36) 0 0)).more (Nat.le_refl _) (Chg.of_alloc v2 (.cells #[.slice none 0 0] 36) 0 0).size)
                have o2 := Lib.hid ((o2.out.still (Chg.of_alloc v2 (.cells #[.slice none 0 0] 36) 0 0)).more (Nat.le_refl _) (Chg.of_alloc v2 (.cells #[.slice none 0 0] 36) 0 0).size)
                refine hK'.out _ _ ⟨D0.out.c, D1.out.c⟩ (fun hHeld => ?_)
                clear hK'
                obtain ⟨g7, hg7⟩ : ∃ g, g = v2.heap.size := ⟨_, rfl⟩
                rw [← hg7] at B7 z7 ⊢
                clear hg7
                generalize v2.alloc (.cells #[.slice none 0 0] 36) = v3 at B7 kV D0 D1 o1 o2 ⊢
                refine wpAnyH_ready (rs := [7]) (by kernel_rfl) (by simp) (AllReadyH.cons (i := 7) rfl (fun K' hK' => ?n256_7) AllReadyH.nil)
                case' n256_7 =>
                  go_simp
                  have B8 := Lib.hid (BoxAt.new v3 (.slice none 0 0) 36 rfl)
                  have hne := B7.out.lt
                  have z8 := Lib.hid (show w.heap.size + 1 < v3.heap.size from D1.out.lt)
                  have kV := Lib.hid (kV.out.trans (Chg.of_alloc v3 (.cells #[.slice none 0 0] 36) 0 0))
                  have D0 := Lib.hid (D0.out.still (Chg.of_alloc v3 (.cells #[.slice none 0 0] 36) 0 0))
                  have D1 := Lib.hid (D1.out.still (Chg.of_alloc v3 (.cells #[.slice none 0 0] 36) 0 0))
                  have B7 := Lib.hid (B7.out.still (Chg.of_alloc v3 (.cells #[.slice none 0 0] 36) 0 0))
                  have o1 := Lib.hid ((o1.out.still (Chg.of_alloc v3 (.cells #[.slice none 0 0] 36) 0 0)).more (Nat.le_refl _) (Chg.of_alloc v3 (.cells #[.slice none 0 0] 36) 0 0).size)
                  have o2 := Lib.hid ((o2.out.still (Chg.of_alloc v3 (.cells #[.slice none 0 0] 36) 0 0)).more (Nat.le_refl _) (Chg.of_alloc v3 (.cells #[.slice none 0 0] 36) 0 0).size)
                  refine hK'.out _ _ ⟨D0.out.c, D1.out.c⟩ (fun hHeld => ?_)
                  clear hK'
                  obtain ⟨g8, hg8⟩ : ∃ g, g = v3.heap.size := ⟨_, rfl⟩
                  rw [← hg8] at B8 z8 ⊢
                  have hne : g7 ≠ g8 := by omega
                  clear hg8
                  generalize v3.alloc (.cells #[.slice none 0 0] 36) = v4 at B8 kV D0 D1 B7 o1 o2 ⊢
              case' n25_7 =>
                go_simp
                have B8 := Lib.hid (BoxAt.new v2 (.slice none 0 0) 36 rfl)
                have z8 := Lib.hid (show w.heap.size + 1 < v2.heap.size from D1.out.lt)
                have kV := Lib.hid (kV.out.trans (Chg.of_alloc v2 (.cells #[.slice none 0 0] 36) 0 0))
                have D0 := Lib.hid (D0.out.still (Chg.of_alloc v2 (.cells #[.slice none 0 0] 36) 0 0))
                have D1 := Lib.hid (D1.out.still (Chg.of_alloc v2 (.cells #[.slice none 0 0] 36) 0 0))
                have o1 := Lib.hid ((o1.out.still (Chg.of_alloc v2 (.cells #[.slice none 0 0] 36) 0 0)).more (Nat.le_refl _) (Chg.of_alloc v2 (.cells #[.slice none 0 0] 36) 0 0).size)
                have o2 := Lib.hid ((o2.out.still (Chg.of_alloc v2 (.cells #[.slice none 0 0] 36) 0 0)).more (Nat.le_refl _) (Chg.of_alloc v2 (.cells #[.slice none 0 0] 36) 0 0).size)
                refine hK'.out _ _ ⟨D0.out.c, D1.out.c⟩ (fun hHeld => ?_)
                clear hK'
                obtain ⟨g8, hg8⟩ : ∃ g, g = v2.heap.size := ⟨_, rfl⟩
                rw [← hg8] at B8 z8 ⊢
                clear hg8
                generalize v2.alloc (.cells #[.slice none 0 0] 36) = v3 at B8 kV D0 D1 o1 o2 ⊢
                refine wpAnyH_ready (rs := [6]) (by kernel_rfl) (by simp) (AllReadyH.cons (i := 6) rfl (fun K' hK' => ?n257_6) AllReadyH.nil)
                case' n257_6 =>
                  go_simp
                  have B7 := Lib.hid (BoxAt.new v3 (.slice none 0 0) 36 rfl)
                  have hne := B8.out.lt
                  have z7 := Lib.hid (show w.heap.size + 1 < v3.heap.size from D1.out.lt)
                  have kV := Lib.hid (kV.out.trans (Chg.of_alloc v3 (.cells #[.slice none 0 0] 36) 0 0))
                  have D0 := Lib.hid (D0.out.still (Chg.of_alloc v3 (.cells #[.slice none 0 0] 36) 0 0))
                  have D1 := Lib.hid (D1.out.still (Chg.of_alloc v3 (.cells #[.slice none 0 0] 36) 0 0))
                  have B8 := Lib.hid (B8.out.still (Chg.of_alloc v3 (.cells #[.slice none 0 0] 36) 0 0))
                  have o1 := Lib.hid ((o1.out.still (Chg.of_alloc v3 (.cells #[.slice none 0 0] 36) 0 0)).more (Nat.le_refl _) (Chg.of_alloc v3 (.cells #[.slice none 0 0] 36) 0 0).size)
                  have o2 := Lib.hid ((o2.out.still (Chg.of_alloc v3 (.cells #[.slice none 0 0] 36) 0 0)).more (Nat.le_refl _) (Chg.of_alloc v3 (.cells #[.slice none 0 0] 36) 0 0).size)
                  refine hK'.out _ _ ⟨D0.out.c, D1.out.c⟩ (fun hHeld => ?_)
                  clear hK'
                  obtain ⟨g7, hg7⟩ : ∃ g, g = v3.heap.size := ⟨_, rfl⟩
                  rw [← hg7] at B7 z7 ⊢
                  have hne : g7 ≠ g8 := by omega
                  clear hg7
                  generalize v3.alloc (.cells #[.slice none 0 0] 36) = v4 at B7 kV D0 D1 B8 o1 o2 ⊢
            case' n2_6 =>
              go_simp
              have B7 := Lib.hid (BoxAt.new v1 (.slice none 0 0) 36 rfl)
              have z7 := Lib.hid (show w.heap.size + 1 < v1.heap.size from D1.out.lt)
              have kV := Lib.hid (kV.out.trans (Chg.of_alloc v1 (.cells #[.slice none 0 0] 36) 0 0))
              have D0 := Lib.hid (D0.out.still (Chg.of_alloc v1 (.cells #[.slice none 0 0] 36) 0 0))
              have D1 := Lib.hid (D1.out.still (Chg.of_alloc v1 (.cells #[.slice none 0 0] 36) 0 0))
              have o1 := Lib.hid ((o1.out.still (Chg.of_alloc v1 (.cells #[.slice none 0 0] 36) 0 0)).more (Nat.le_refl _) (Chg.of_alloc v1 (.cells #[.slice none 0 0] 36) 0 0).size)
              refine hK'.out _ _ ⟨D0.out.c, D1.out.c⟩ (fun hHeld => ?_)
              clear hK'
              obtain ⟨g7, hg7⟩ : ∃ g, g = v1.heap.size := ⟨_, rfl⟩
              rw [← hg7] at B7 z7 ⊢
              clear hg7
              generalize v1.alloc (.cells #[.slice none 0 0] 36) = v2 at B7 kV D0 D1 o1 ⊢
              refine wpAnyH_ready (rs := [5, 7]) (by kernel_rfl) (by simp) (AllReadyH.cons (i := 5) rfl (fun K' hK' => ?n26_5) (AllReadyH.cons (i := 7) rfl (fun K' hK' => ?n26_7) AllReadyH.nil))
              case' n26_5 =>
                go_simp
                refine (X2.out _ kV.out).mono ?_
                rintro e v3 ⟨A2, cy, rfl, hcy, o2, ch⟩
                have o2 := Lib.hid (o2.more (lo' := w.heap.size) kV.out.size (Nat.le_refl _))
                have kV := Lib.hid (kV.out.trans ch)
                have D0 := Lib.hid (D0.out.still ch)
                have D1 := Lib.hid (D1.out.still ch)
                have B7 := Lib.hid (B7.out.still ch)
                have o1 := Lib.hid ((o1.out.still ch).more (Nat.le_refl _) ch.size)
                refine hK'.out _ _ ⟨D0.out.c, D1.out.c⟩ (fun hHeld => ?_)
                clear hK' ch
                refine wpAnyH_ready (rs := [7]) (by kernel_rfl) (by simp) (AllReadyH.cons (i := 7) rfl (fun K' hK' => ?n265_7) AllReadyH.nil)
                case' n265_7 =>
                  go_simp
                  have B8 := Lib.hid (BoxAt.new v3 (.slice none 0 0) 36 rfl)
                  have hne := B7.out.lt
                  have z8 := Lib.hid (show w.heap.size + 1 < v3.heap.size from D1.out.lt)
                  have kV := Lib.hid (kV.out.trans (Chg.of_alloc v3 (.cells #[.slice none 0 0] 36) 0 0))
                  have D0 := Lib.hid (D0.out.still (Chg.of_alloc v3 (.cells #[.slice none 0 0] 36) 0 0))
                  have D1 := Lib.hid (D1.out.still (Chg.of_alloc v3 (.cells #[.slice none 0 0] 36) 0 0))
                  have B7 := Lib.hid (B7.out.still (Chg.of_alloc v3 (.cells #[.slice none 0 0] 36) 0 0))
                  have o1 := Lib.hid ((o1.out.still (Chg.of_alloc v3 (.cells #[.slice none 0 0] 36) 0 0)).more (Nat.le_refl _) (Chg.of_alloc v3 (.cells #[.slice none 0 0] 36) 0 0).size)
                  have o2 := Lib.hid ((o2.out.still (Chg.of_alloc v3 (.cells #[.slice none 0 0] 36) 0 0)).more (Nat.le_refl _) (Chg.of_alloc v3 (.cells #[.slice none 0 0] 36) 0 0).size)
                  refine hK'.out _ _ ⟨D0.out.c, D1.out.c⟩ (fun hHeld => ?_)
                  clear hK'
                  obtain ⟨g8, hg8⟩ : ∃ g, g = v3.heap.size := ⟨_, rfl⟩
                  rw [← hg8] at B8 z8 ⊢
                  have hne : g7 ≠ g8 := by omega
                  clear hg8
                  generalize v3.alloc (.cells #[.slice none 0 0] 36) = v4 at B8 kV D0 D1 B7 o1 o2 ⊢
              case' n26_7 =>
                go_simp
                have B8 := Lib.hid (BoxAt.new v2 (.slice none 0 0) 36 rfl)
                have hne := B7.out.lt
                have z8 := Lib.hid (show w.heap.size + 1 < v2.heap.size from D1.out.lt)
                have kV := Lib.hid (kV.out.trans (Chg.of_alloc v2 (.cells #[.slice none 0 0] 36) 0 0))
                have D0 := Lib.hid (D0.out.still (Chg.of_alloc v2 (.cells #[.slice none 0 0] 36) 0 0))
                have D1 := Lib.hid (D1.out.still (Chg.of_alloc v2 (.cells #[.slice none 0 0] 36) 0 0))
                have B7 := Lib.hid (B7.out.still (Chg.of_alloc v2 (.cells #[.slice none 0 0] 36) 0 0))
                have o1 := Lib.hid ((o1.out.still (Chg.of_alloc v2 (.cells #[.slice none 0 0] 36) 0 0)).more (Nat.le_refl _) (Chg.of_alloc v2 (.cells #[.slice none 0 0] 36) 0 0).size)
                refine hK'.out _ _ ⟨D0.out.c, D1.out.c⟩ (fun hHeld => ?_)
                clear hK'
                obtain ⟨g8, hg8⟩ : ∃ g, g = v2.heap.size := ⟨_, rfl⟩
                rw [← hg8] at B8 z8 ⊢
                have hne : g7 ≠ g8 := by omega
                clear hg8
                generalize v2.alloc (.cells #[.slice none 0 0] 36) = v3 at B8 kV D0 D1 B7 o1 ⊢
                refine wpAnyH_ready (rs := [5]) (by kernel_rfl) (by simp) (AllReadyH.cons (i := 5) rfl (fun K' hK' => ?n267_5) AllReadyH.nil)
                case' n267_5 =>
                  go_simp
                  refine (X2.out _ kV.out).mono ?_
                  rintro e v4 ⟨A2, cy, rfl, hcy, o2, ch⟩
                  have o2 := Lib.hid (o2.more (lo' := w.heap.size) kV.out.size (Nat.le_refl _))
                  have kV := Lib.hid (kV.out.trans ch)
                  have D0 := Lib.hid (D0.out.still ch)
                  have D1 := Lib.hid (D1.out.still ch)
                  have B7 := Lib.hid (B7.out.still ch)
                  have B8 := Lib.hid (B8.out.still ch)
                  have o1 := Lib.hid ((o1.out.still ch).more (Nat.le_refl _) ch.size)
                  refine hK'.out _ _ ⟨D0.out.c, D1.out.c⟩ (fun hHeld => ?_)
                  clear hK' ch
            case' n2_7 =>
              go_simp
              have B8 := Lib.hid (BoxAt.new v1 (.slice none 0 0) 36 rfl)
              have z8 := Lib.hid (show w.heap.size + 1 < v1.heap.size from D1.out.lt)
              have kV := Lib.hid (kV.out.trans (Chg.of_alloc v1 (.cells #[.slice none 0 0] 36) 0 0))
              have D0 := Lib.hid (D0.out.still (Chg.of_alloc v1 (.cells #[.slice none 0 0] 36) 0 0))
              have D1 := Lib.hid (D1.out.still (Chg.of_alloc v1 (.cells #[.slice none 0 0] 36) 0 0))
              have o1 := Lib.hid ((o1.out.still (Chg.of_alloc v1 (.cells #[.slice none 0 0] 36) 0 0)).more (Nat.le_refl _) (Chg.of_alloc v1 (.cells #[.slice none 0 0] 36) 0 0).size)
              refine hK'.out _ _ ⟨D0.out.c, D1.out.c⟩ (fun hHeld => ?_)
              clear hK'
              obtain ⟨g8, hg8⟩ : ∃ g, g = v1.heap.size := ⟨_, rfl⟩
              rw [← hg8] at B8 z8 ⊢
              clear hg8
              generalize v1.alloc (.cells #[.slice none 0 0] 36) = v2 at B8 kV D0 D1 o1 ⊢
              refine wpAnyH_ready (rs := [5, 6]) (by kernel_rfl) (by simp) (AllReadyH.cons (i := 5) rfl (fun K' hK' => ?n27_5) (AllReadyH.cons (i := 6) rfl (fun K' hK' => ?n27_6) AllReadyH.nil))
              case' n27_5 =>
                go_simp
                refine (X2.out _ kV.out).mono ?_
                rintro e v3 ⟨A2, cy, rfl, hcy, o2, ch⟩
                have o2 := Lib.hid (o2.more (lo' := w.heap.size) kV.out.size (Nat.le_refl _))
                have kV := Lib.hid (kV.out.trans ch)
                have D0 := Lib.hid (D0.out.still ch)
                have D1 := Lib.hid (D1.out.still ch)
                have B8 := Lib.hid (B8.out.still ch)
                have o1 := Lib.hid ((o1.out.still ch).more (Nat.le_refl _) ch.size)
                refine hK'.out _ _ ⟨D0.out.c, D1.out.c⟩ (fun hHeld => ?_)
                clear hK' ch
                refine wpAnyH_ready (rs := [6]) (by kernel_rfl) (by simp) (AllReadyH.cons (i := 6) rfl (fun K' hK' => ?n275_6) AllReadyH.nil)
                case' n275_6 =>
                  go_simp
                  have B7 := Lib.hid (BoxAt.new v3 (.slice none 0 0) 36 rfl)
                  have hne := B8.out.lt
                  have z7 := Lib.hid (show w.heap.size + 1 < v3.heap.size from D1.out.lt)
                  have kV := Lib.hid (kV.out.trans (Chg.of_alloc v3 (.cells #[.slice none 0 0] 36) 0 0))
                  have D0 := Lib.hid (D0.out.still (Chg.of_alloc v3 (.cells #[.slice none 0 0] 36) 0 0))
                  have D1 := Lib.hid (D1.out.still (Chg.of_alloc v3 (.cells #[.slice none 0 0] 36) 0 0))
                  have B8 := Lib.hid (B8.out.still (Chg.of_alloc v3 (.cells #[.slice none 0 0] 36) 0 0))
                  have o1 := Lib.hid ((o1.out.still (Chg.of_alloc v3 (.cells #[.slice none 0 0] 36) 0 0)).more (Nat.le_refl _) (Chg.of_alloc v3 (.cells #[.slice none 0 0] 36) 0 0).size)
                  have o2 := Lib.hid ((o2.out.still (Chg.of_alloc v3 (.cells #[.slice none 0 0] 36) 0 0)).more (Nat.le_refl _) (Chg.of_alloc v3 (.cells #[.slice none 0 0] 36) 0 0).size)
                  refine hK'.out _ _ ⟨D0.out.c, D1.out.c⟩ (fun hHeld => ?_)
                  clear hK'
                  obtain ⟨g7, hg7⟩ : ∃ g, g = v3.heap.size := ⟨_, rfl⟩
                  rw [← hg7] at B7 z7 ⊢
                  have hne : g7 ≠ g8 := by omega
                  clear hg7
                  generalize v3.alloc (.cells #[.slice none 0 0] 36) = v4 at B7 kV D0 D1 B8 o1 o2 ⊢
              case' n27_6 =>
                go_simp
                have B7 := Lib.hid (BoxAt.new v2 (.slice none 0 0) 36 rfl)
                have hne := B8.out.lt
                have z7 := Lib.hid (show w.heap.size + 1 < v2.heap.size from D1.out.lt)
                have kV := Lib.hid (kV.out.trans (Chg.of_alloc v2 (.cells #[.slice none 0 0] 36) 0 0))
                have D0 := Lib.hid (D0.out.still (Chg.of_alloc v2 (.cells #[.slice none 0 0] 36) 0 0))
                have D1 := Lib.hid (D1.out.still (Chg.of_alloc v2 (.cells #[.slice none 0 0] 36) 0 0))
                have B8 := Lib.hid (B8.out.still (Chg.of_alloc v2 (.cells #[.slice none 0 0] 36) 0 0))
                have o1 := Lib.hid ((o1.out.still (Chg.of_alloc v2 (.cells #[.slice none 0 0] 36) 0 0)).more (Nat.le_refl _) (Chg.of_alloc v2 (.cells #[.slice none 0 0] 36) 0 0).size)
                refine hK'.out _ _ ⟨D0.out.c, D1.out.c⟩ (fun hHeld => ?_)
                clear hK'
                obtain ⟨g7, hg7⟩ : ∃ g, g = v2.heap.size := ⟨_, rfl⟩
                rw [← hg7] at B7 z7 ⊢
                have hne : g7 ≠ g8 := by omega
                clear hg7
                generalize v2.alloc (.cells #[.slice none 0 0] 36) = v3 at B7 kV D0 D1 B8 o1 ⊢
                refine wpAnyH_ready (rs := [5]) (by kernel_rfl) (by simp) (AllReadyH.cons (i := 5) rfl (fun K' hK' => ?n276_5) AllReadyH.nil)
                case' n276_5 =>
                  go_simp
                  refine (X2.out _ kV.out).mono ?_
                  rintro e v4 ⟨A2, cy, rfl, hcy, o2, ch⟩
                  have o2 := Lib.hid (o2.more (lo' := w.heap.size) kV.out.size (Nat.le_refl _))
                  have kV := Lib.hid (kV.out.trans ch)
                  have D0 := Lib.hid (D0.out.still ch)
                  have D1 := Lib.hid (D1.out.still ch)
                  have B7 := Lib.hid (B7.out.still ch)
                  have B8 := Lib.hid (B8.out.still ch)
                  have o1 := Lib.hid ((o1.out.still ch).more (Nat.le_refl _) ch.size)
                  refine hK'.out _ _ ⟨D0.out.c, D1.out.c⟩ (fun hHeld => ?_)
                  clear hK' ch
          case' n_6 =>
            go_simp
            have B7 := Lib.hid (BoxAt.new v0 (.slice none 0 0) 36 rfl)
            have z7 := Lib.hid (show w.heap.size + 1 < v0.heap.size from D1.out.lt)
            have kV := Lib.hid (kV.out.trans (Chg.of_alloc v0 (.cells #[.slice none 0 0] 36) 0 0))
            have D0 := Lib.hid (D0.out.still (Chg.of_alloc v0 (.cells #[.slice none 0 0] 36) 0 0))
            have D1 := Lib.hid (D1.out.still (Chg.of_alloc v0 (.cells #[.slice none 0 0] 36) 0 0))
            refine hK'.out _ _ ⟨D0.out.c, D1.out.c⟩ (fun hHeld => ?_)
            clear hK'
            obtain ⟨g7, hg7⟩ : ∃ g, g = v0.heap.size := ⟨_, rfl⟩
            rw [← hg7] at B7 z7 ⊢
            clear hg7
            generalize v0.alloc (.cells #[.slice none 0 0] 36) = v1 at B7 kV D0 D1  ⊢
            refine wpAnyH_ready (rs := [2, 7]) (by kernel_rfl) (by simp) (AllReadyH.cons (i := 2) rfl (fun K' hK' => ?n6_2) (AllReadyH.cons (i := 7) rfl (fun K' hK' => ?n6_7) AllReadyH.nil))
            case' n6_2 =>
              go_simp
              refine (X1.out _ kV.out).mono ?_
              rintro e v2 ⟨A1, cx, rfl, hcx, o1, ch⟩
              have o1 := Lib.hid (o1.more (lo' := w.heap.size) kV.out.size (Nat.le_refl _))
              have kV := Lib.hid (kV.out.trans ch)
              have D0 := Lib.hid (D0.out.still ch)
              have D1 := Lib.hid (D1.out.still ch)
              have B7 := Lib.hid (B7.out.still ch)
              refine hK'.out _ _ ⟨D0.out.c, D1.out.c⟩ (fun hHeld => ?_)
              clear hK' ch
              refine wpAnyH_ready (rs := [5, 7]) (by kernel_rfl) (by simp) (AllReadyH.cons (i := 5) rfl (fun K' hK' => ?n62_5) (AllReadyH.cons (i := 7) rfl (fun K' hK' => ?n62_7) AllReadyH.nil))
              case' n62_5 =>
                go_simp
                refine (X2.out _ kV.out).mono ?_
                rintro e v3 ⟨A2, cy, rfl, hcy, o2, ch⟩
                have o2 := Lib.hid (o2.more (lo' := w.heap.size) kV.out.size (Nat.le_refl _))
                have kV := Lib.hid (kV.out.trans ch)
                have D0 := Lib.hid (D0.out.still ch)
                have D1 := Lib.hid (D1.out.still ch)
                have B7 := Lib.hid (B7.out.still ch)
                have o1 := Lib.hid ((o1.out.still ch).more (Nat.le_refl _) ch.size)
                refine hK'.out _ _ ⟨D0.out.c, D1.out.c⟩ (fun hHeld => ?_)
                clear hK' ch
                refine wpAnyH_ready (rs := [7]) (by kernel_rfl) (by simp) (AllReadyH.cons (i := 7) rfl (fun K' hK' => ?n625_7) AllReadyH.nil)
                case' n625_7 =>
                  go_simp
                  have B8 := Lib.hid (BoxAt.new v3 (.slice none 0 0) 36 rfl)
                  have hne := B7.out.lt
                  have z8 := Lib.hid (show w.heap.size + 1 < v3.heap.size from D1.out.lt)
                  have kV := Lib.hid (kV.out.trans (Chg.of_alloc v3 (.cells #[.slice none 0 0] 36) 0 0))
                  have D0 := Lib.hid (D0.out.still (Chg.of_alloc v3 (.cells #[.slice none 0 0] 36) 0 0))
                  have D1 := Lib.hid (D1.out.still (Chg.of_alloc v3 (.cells #[.slice none 0 0] 36) 0 0))
                  have B7 := Lib.hid (B7.out.still (Chg.of_alloc v3 (.cells #[.slice none 0 0] 36) 0 0))
                  have o1 := Lib.hid ((o1.out.still (Chg.of_alloc v3 (.cells #[.slice none 0 0] 36) 0 0)).more (Nat.le_refl _) (Chg.of_alloc v3 (.cells #[.slice none 0 0] 36) 0 0).size)
                  have o2 := Lib.hid ((o2.out.still (Chg.of_alloc v3 (.cells #[.slice none 0 0] 36) 0 0)).more (Nat.le_refl _) (Chg.of_alloc v3 (.cells #[.slice none 0 0] 36) 0 0).size)
                  refine hK'.out _ _ ⟨D0.out.c, D1.out.c⟩ (fun hHeld => ?_)
                  clear hK'
                  obtain ⟨g8, hg8⟩ : ∃ g, g = v3.heap.size := ⟨_, rfl⟩
                  rw [← hg8] at B8 z8 ⊢
                  have hne : g7 ≠ g8 := by omega
                  clear hg8
                  generalize v3.alloc (.cells #[.slice none 0 0] 36) = v4 at B8 kV D0 D1 B7 o1 o2 ⊢
              case' n62_7 =>
                go_simp
                have B8 := Lib.hid (BoxAt.new v2 (.slice none 0 0) 36 rfl)
                have hne := B7.out.lt
                have z8 := Lib.hid (show w.heap.size + 1 < v2.heap.size from D1.out.lt)
                have kV := Lib.hid (kV.out.trans (Chg.of_alloc v2 (.cells #[.slice none 0 0] 36) 0 0))
                have D0 := Lib.hid (D0.out.still (Chg.of_alloc v2 (.cells #[.slice none 0 0] 36) 0 0))
                have D1 := Lib.hid (D1.out.still (Chg.of_alloc v2 (.cells #[.slice none 0 0] 36) 0 0))
                have B7 := Lib.hid (B7.out.still (Chg.of_alloc v2 (.cells #[.slice none 0 0] 36) 0 0))
                have o1 := Lib.hid ((o1.out.still (Chg.of_alloc v2 (.cells #[.slice none 0 0] 36) 0 0)).more (Nat.le_refl _) (Chg.of_alloc v2 (.cells #[.slice none 0 0] 36) 0 0).size)
                refine hK'.out _ _ ⟨D0.out.c, D1.out.c⟩ (fun hHeld => ?_)
                clear hK'
                obtain ⟨g8, hg8⟩ : ∃ g, g = v2.heap.size := ⟨_, rfl⟩
                rw [← hg8] at B8 z8 ⊢
                have hne : g7 ≠ g8 := by omega
                clear hg8
                generalize v2.alloc (.cells #[.slice none 0 0] 36) = v3 at B8 kV D0 D1 B7 o1 ⊢
                refine wpAnyH_ready (rs := [5]) (by kernel_rfl) (by simp) (AllReadyH.cons (i := 5) rfl (fun K' hK' => ?n627_5) AllReadyH.nil)
                case' n627_5 =>
                  go_simp
                  refine (X2.out _ kV.out).mono ?_
                  rintro e v4 ⟨A2, cy, rfl, hcy, o2, ch⟩
                  have o2 := Lib.hid (o2.more (lo' := w.heap.size) kV.out.size (Nat.le_refl _))
                  have kV := Lib.hid (kV.out.trans ch)
                  have D0 := Lib.hid (D0.out.still ch)
                  have D1 := Lib.hid (D1.out.still ch)
                  have B7 := Lib.hid (B7.out.still ch)
                  have B8 := Lib.hid (B8.out.still ch)
                  have o1 := Lib.hid ((o1.out.still ch).more (Nat.le_refl _) ch.size)
                  refine hK'.out _ _ ⟨D0.out.c, D1.out.c⟩ (fun hHeld => ?_)
                  clear hK' ch
            case' n6_7 =>
              go_simp
              have B8 := Lib.hid (BoxAt.new v1 (.slice none 0 0) 36 rfl)
              have hne := B7.out.lt
              have z8 := Lib.hid (show w.heap.size + 1 < v1.heap.size from D1.out.lt)
              have kV := Lib.hid (kV.out.trans (Chg.of_alloc v1 (.cells #[.slice none 0 0] 36) 0 0))
              have D0 := Lib.hid (D0.out.still (Chg.of_alloc v1 (.cells #[.slice none 0 0] 36) 0 0))
              have D1 := Lib.hid (D1.out.still (Chg.of_alloc v1 (.cells #[.slice none 0 0] 36) 0 0))
              have B7 := Lib.hid (B7.out.still (Chg.of_alloc v1 (.cells #[.slice none 0 0] 36) 0 0))
              refine hK'.out _ _ ⟨D0.out.c, D1.out.c⟩ (fun hHeld => ?_)
              clear hK'
              obtain ⟨g8, hg8⟩ : ∃ g, g = v1.heap.size := ⟨_, rfl⟩
              rw [← hg8] at B8 z8 ⊢
              have hne : g7 ≠ g8 := by omega
              clear hg8
              generalize v1.alloc (.cells #[.slice none 0 0] 36) = v2 at B8 kV D0 D1 B7 ⊢
              refine wpAnyH_ready (rs := [2]) (by kernel_rfl) (by simp) (AllReadyH.cons (i := 2) rfl (fun K' hK' => ?n67_2) AllReadyH.nil)
              case' n67_2 =>
                go_simp
                refine (X1.out _ kV.out).mono ?_
                rintro e v3 ⟨A1, cx, rfl, hcx, o1, ch⟩
                have o1 := Lib.hid (o1.more (lo' := w.heap.size) kV.out.size (Nat.le_refl _))
                have kV := Lib.hid (kV.out.trans ch)
                have D0 := Lib.hid (D0.out.still ch)
                have D1 := Lib.hid (D1.out.still ch)
                have B7 := Lib.hid (B7.out.still ch)
                have B8 := Lib.hid (B8.out.still ch)
                refine hK'.out _ _ ⟨D0.out.c, D1.out.c⟩ (fun hHeld => ?_)
                clear hK' ch
                refine wpAnyH_ready (rs := [5]) (by kernel_rfl) (by simp) (AllReadyH.cons (i := 5) rfl (fun K' hK' => ?n672_5) AllReadyH.nil)
                case' n672_5 =>
                  go_simp
                  refine (X2.out _ kV.out).mono ?_
                  rintro e v4 ⟨A2, cy, rfl, hcy, o2, ch⟩
                  have o2 := Lib.hid (o2.more (lo' := w.heap.size) kV.out.size (Nat.le_refl _))
                  have kV := Lib.hid (kV.out.trans ch)
                  have D0 := Lib.hid (D0.out.still ch)
                  have D1 := Lib.hid (D1.out.still ch)
                  have B7 := Lib.hid (B7.out.still ch)
                  have B8 := Lib.hid (B8.out.still ch)
                  have o1 := Lib.hid ((o1.out.still ch).more (Nat.le_refl _) ch.size)
                  refine hK'.out _ _ ⟨D0.out.c, D1.out.c⟩ (fun hHeld => ?_)
                  clear hK' ch
          case' n_7 =>
            go_simp
            have B8 := Lib.hid (BoxAt.new v0 (.slice none 0 0) 36 rfl)
            have z8 := Lib.hid (show w.heap.size + 1 < v0.heap.size from D1.out.lt)
            have kV := Lib.hid (kV.out.trans (Chg.of_alloc v0 (.cells #[.slice none 0 0] 36) 0 0))
            have D0 := Lib.hid (D0.out.still (Chg.of_alloc v0 (.cells #[.slice none 0 0] 36) 0 0))
            have D1 := Lib.hid (D1.out.still (Chg.of_alloc v0 (.cells #[.slice none 0 0] 36) 0 0))
            refine hK'.out _ _ ⟨D0.out.c, D1.out.c⟩ (fun hHeld => ?_)
            clear hK'
            obtain ⟨g8, hg8⟩ : ∃ g, g = v0.heap.size := ⟨_, rfl⟩
            rw [← hg8] at B8 z8 ⊢
            clear hg8
            generalize v0.alloc (.cells #[.slice none 0 0] 36) = v1 at B8 kV D0 D1  ⊢
            refine wpAnyH_ready (rs := [2, 6]) (by kernel_rfl) (by simp) (AllReadyH.cons (i := 2) rfl (fun K' hK' => ?n7_2) (AllReadyH.cons (i := 6) rfl (fun K' hK' => ?n7_6) AllReadyH.nil))
            case' n7_2 =>
              go_simp
              refine (X1.out _ kV.out).mono ?_
              rintro e v2 ⟨A1, cx, rfl, hcx, o1, ch⟩
              have o1 := Lib.hid (o1.more (lo' := w.heap.size) kV.out.size (Nat.le_refl _))
              have kV := Lib.hid (kV.out.trans ch)
              have D0 := Lib.hid (D0.out.still ch)
              have D1 := Lib.hid (D1.out.still ch)
              have B8 := Lib.hid (B8.out.still ch)
              refine hK'.out _ _ ⟨D0.out.c, D1.out.c⟩ (fun hHeld => ?_)
              clear hK' ch
              refine wpAnyH_ready (rs := [5, 6]) (by kernel_rfl) (by simp) (AllReadyH.cons (i := 5) rfl (fun K' hK' => ?n72_5) (AllReadyH.cons (i := 6) rfl (fun K' hK' => ?n72_6) AllReadyH.nil))
              case' n72_5 =>
                go_simp
                refine (X2.out _ kV.out).mono ?_
                rintro e v3 ⟨A2, cy, rfl, hcy, o2, ch⟩
                have o2 := Lib.hid (o2.more (lo' := w.heap.size) kV.out.size (Nat.le_refl _))
                have kV := Lib.hid (kV.out.trans ch)
                have D0 := Lib.hid (D0.out.still ch)
                have D1 := Lib.hid (D1.out.still ch)
                have B8 := Lib.hid (B8.out.still ch)
                have o1 := Lib.hid ((o1.out.still ch).more (Nat.le_refl _) ch.size)
                refine hK'.out _ _ ⟨D0.out.c, D1.out.c⟩ (fun hHeld => ?_)
                clear hK' ch
                refine wpAnyH_ready (rs := [6]) (by kernel_rfl) (by simp) (AllReadyH.cons (i := 6) rfl (fun K' hK' => ?n725_6) AllReadyH.nil)
                case' n725_6 =>
                  go_simp
                  have B7 := Lib.hid (BoxAt.new v3 (.slice none 0 0) 36 rfl)
                  have hne := B8.out.lt
                  have z7 := Lib.hid (show w.heap.size + 1 < v3.heap.size from D1.out.lt)
                  have kV := Lib.hid (kV.out.trans (Chg.of_alloc v3 (.cells #[.slice none 0 0] 36) 0 0))
                  have D0 := Lib.hid (D0.out.still (Chg.of_alloc v3 (.cells #[.slice none 0 0] 36) 0 0))
                  have D1 := Lib.hid (D1.out.still (Chg.of_alloc v3 (.cells #[.slice none 0 0] 36) 0 0))
                  have B8 := Lib.hid (B8.out.still (Chg.of_alloc v3 (.cells #[.slice none 0 0] 36) 0 0))
                  have o1 := Lib.hid ((o1.out.still (Chg.of_alloc v3 (.cells #[.slice none 0 0] 36) 0 0)).more (Nat.le_refl _) (Chg.of_alloc v3 (.cells #[.slice none 0 0] 36) 0 0).size)
                  have o2 := Lib.hid ((o2.out.still (Chg.of_alloc v3 (.cells #[.slice none 0 0] 36) 0 0)).more (Nat.le_refl _) (Chg.of_alloc v3 (.cells #[.slice none 0 0] 36) 0 0).size)
                  refine hK'.out _ _ ⟨D0.out.c, D1.out.c⟩ (fun hHeld => ?_)
                  clear hK'
                  obtain ⟨g7, hg7⟩ : ∃ g, g = v3.heap.size := ⟨_, rfl⟩
                  rw [← hg7] at B7 z7 ⊢
                  have hne : g7 ≠ g8 := by omega
                  clear hg7
                  generalize v3.alloc (.cells #[.slice none 0 0] 36) = v4 at B7 kV D0 D1 B8 o1 o2 ⊢
              case' n72_6 =>
                go_simp
                have B7 := Lib.hid (BoxAt.new v2 (.slice none 0 0) 36 rfl)
                have hne := B8.out.lt
                have z7 := Lib.hid (show w.heap.size + 1 < v2.heap.size from D1.out.lt)
                have kV := Lib.hid (kV.out.trans (Chg.of_alloc v2 (.cells #[.slice none 0 0] 36) 0 0))
                have D0 := Lib.hid (D0.out.still (Chg.of_alloc v2 (.cells #[.slice none 0 0] 36) 0 0))
                have D1 := Lib.hid (D1.out.still (Chg.of_alloc v2 (.cells #[.slice none 0 0] 36) 0 0))
                have B8 := Lib.hid (B8.out.still (Chg.of_alloc v2 (.cells #[.slice none 0 0] 36) 0 0))
                have o1 := Lib.hid ((o1.out.still (Chg.of_alloc v2 (.cells #[.slice none 0 0] 36) 0 0)).more (Nat.le_refl _) (Chg.of_alloc v2 (.cells #[.slice none 0 0] 36) 0 0).size)
                refine hK'.out _ _ ⟨D0.out.c, D1.out.c⟩ (fun hHeld => ?_)
                clear hK'
                obtain ⟨g7, hg7⟩ : ∃ g, g = v2.heap.size := ⟨_, rfl⟩
                rw [← hg7] at B7 z7 ⊢
                have hne : g7 ≠ g8 := by omega
                clear hg7
                generalize v2.alloc (.cells #[.slice none 0 0] 36) = v3 at B7 kV D0 D1 B8 o1 ⊢
                refine wpAnyH_ready (rs := [5]) (by kernel_rfl) (by simp) (AllReadyH.cons (i := 5) rfl (fun K' hK' => ?n726_5) AllReadyH.nil)
                case' n726_5 =>
                  go_simp
                  refine (X2.out _ kV.out).mono ?_
                  rintro e v4 ⟨A2, cy, rfl, hcy, o2, ch⟩
                  have o2 := Lib.hid (o2.more (lo' := w.heap.size) kV.out.size (Nat.le_refl _))
                  have kV := Lib.hid (kV.out.trans ch)
                  have D0 := Lib.hid (D0.out.still ch)
                  have D1 := Lib.hid (D1.out.still ch)
                  have B7 := Lib.hid (B7.out.still ch)
                  have B8 := Lib.hid (B8.out.still ch)
                  have o1 := Lib.hid ((o1.out.still ch).more (Nat.le_refl _) ch.size)
                  refine hK'.out _ _ ⟨D0.out.c, D1.out.c⟩ (fun hHeld => ?_)
                  clear hK' ch
            case' n7_6 =>
              go_simp
              have B7 := Lib.hid (BoxAt.new v1 (.slice none 0 0) 36 rfl)
              have hne := B8.out.lt
              have z7 := Lib.hid (show w.heap.size + 1 < v1.heap.size from D1.out.lt)
              have kV := Lib.hid (kV.out.trans (Chg.of_alloc v1 (.cells #[.slice none 0 0] 36) 0 0))
              have D0 := Lib.hid (D0.out.still (Chg.of_alloc v1 (.cells #[.slice none 0 0] 36) 0 0))
              have D1 := Lib.hid (D1.out.still (Chg.of_alloc v1 (.cells #[.slice none 0 0] 36) 0 0))
              have B8 := Lib.hid (B8.out.still (Chg.of_alloc v1 (.cells #[.slice none 0 0] 36) 0 0))
              refine hK'.out _ _ ⟨D0.out.c, D1.out.c⟩ (fun hHeld => ?_)
              clear hK'
              obtain ⟨g7, hg7⟩ : ∃ g, g = v1.heap.size := ⟨_, rfl⟩
              rw [← hg7] at B7 z7 ⊢
              have hne : g7 ≠ g8 := by omega
              clear hg7
              generalize v1.alloc (.cells #[.slice none 0 0] 36) = v2 at B7 kV D0 D1 B8 ⊢
              refine wpAnyH_ready (rs := [2]) (by kernel_rfl) (by simp) (AllReadyH.cons (i := 2) rfl (fun K' hK' => ?n76_2) AllReadyH.nil)
              case' n76_2 =>
                go_simp
                refine (X1.out _ kV.out).mono ?_
                rintro e v3 ⟨A1, cx, rfl, hcx, o1, ch⟩
                have o1 := Lib.hid (o1.more (lo' := w.heap.size) kV.out.size (Nat.le_refl _))
                have kV := Lib.hid (kV.out.trans ch)
                have D0 := Lib.hid (D0.out.still ch)
                have D1 := Lib.hid (D1.out.still ch)
                have B7 := Lib.hid (B7.out.still ch)
                have B8 := Lib.hid (B8.out.still ch)
                refine hK'.out _ _ ⟨D0.out.c, D1.out.c⟩ (fun hHeld => ?_)
                clear hK' ch
                refine wpAnyH_ready (rs := [5]) (by kernel_rfl) (by simp) (AllReadyH.cons (i := 5) rfl (fun K' hK' => ?n762_5) AllReadyH.nil)
                case' n762_5 =>
                  go_simp
                  refine (X2.out _ kV.out).mono ?_
                  rintro e v4 ⟨A2, cy, rfl, hcy, o2, ch⟩
                  have o2 := Lib.hid (o2.more (lo' := w.heap.size) kV.out.size (Nat.le_refl _))
                  have kV := Lib.hid (kV.out.trans ch)
                  have D0 := Lib.hid (D0.out.still ch)
                  have D1 := Lib.hid (D1.out.still ch)
                  have B7 := Lib.hid (B7.out.still ch)
                  have B8 := Lib.hid (B8.out.still ch)
                  have o1 := Lib.hid ((o1.out.still ch).more (Nat.le_refl _) ch.size)
                  refine hK'.out _ _ ⟨D0.out.c, D1.out.c⟩ (fun hHeld => ?_)
                  clear hK' ch
          all_goals
            have f7 := B7.out.f
            have c7 := B7.out.c
            have z7o := z7.out
            have z8o := z8.out
            have e0 := (D0.out.set (g := g7) (i := 0) (u := .slice A1 4 cx) (by omega))
            have e1 := (D1.out.set (g := g7) (i := 0) (u := .slice A1 4 cx) (by omega))
            have s7 := Lib.hid (B7.out.put (.slice A1 4 cx))
            have s8 := Lib.hid (B8.out.set (g := g7) (i := 0) (u := .slice A1 4 cx) (Ne.symm hne))
            have kV := Lib.hid (kV.out.cell (g := g7) (i := 0) (v := .slice A1 4 cx) (by omega))
            have r1 := Lib.hid (o1.out.store (u := .slice A1 4 cx) B7.out)
            have r2 := Lib.hid (o2.out.store (u := .slice A1 4 cx) B7.out)
            refine wpAnyH_ready (rs := [8]) (by kernel_rfl) (by simp) (AllReadyH.cons (i := 8) rfl (fun K' hK' => ?_) AllReadyH.nil)
            go_simp
            refine hK'.out _ _ ⟨e0.c, e1.c⟩ (fun hHeld => ?_)
            clear hK' f7 c7 B7 B8 o1 o2 D0 D1
            have D0 := Lib.hid e0
            have D1 := Lib.hid e1
            clear e0 e1 hHeld
            generalize v4.setCell ⟨g7, 0, none⟩ (.slice A1 4 cx) = v5 at D0 D1 s7 s8 kV r1 r2 ⊢
            have f8 := s8.out.f
            have c8 := s8.out.c
            have e0 := (D0.out.set (g := g8) (i := 0) (u := .slice A2 4 cy) (by omega))
            have e1 := (D1.out.set (g := g8) (i := 0) (u := .slice A2 4 cy) (by omega))
            have p7 := (s7.out.set (g := g8) (i := 0) (u := .slice A2 4 cy) hne).c
            have p8 := (s8.out.put (.slice A2 4 cy)).c
            have kV := Lib.hid (kV.out.cell (g := g8) (i := 0) (v := .slice A2 4 cy) (by omega))
            have r1 := Lib.hid (r1.out.store (u := .slice A2 4 cy) s8.out)
            have r2 := Lib.hid (r2.out.store (u := .slice A2 4 cy) s8.out)
            refine wpAnyH_ready (rs := [9]) (by kernel_rfl) (by simp) (AllReadyH.cons (i := 9) rfl (fun K' hK' => ?_) AllReadyH.nil)
            go_simp
            refine hK'.out _ _ ⟨e0.c, e1.c⟩ (fun hHeld => ?_)
            clear hK' f8 c8 s7 s8 D0 D1 e0 e1 hHeld
            generalize v5.setCell ⟨g8, 0, none⟩ (.slice A2 4 cy) = v6 at p7 p8 kV r1 r2 ⊢
            refine wpAnyH_done (by kernel_rfl) ?_ _
            have L1 := Lib.hid (l05Less A1 cx xs _ _ A2 cy ys _ _ v6 r1.out.rd r2.out.rd HCR.out H13.out)
            have L2 := Lib.hid (fun V (k : Chg v6 V 0 0) => l05Less A2 cy ys _ _ A1 cx xs _ _ V (r2.out.still k).rd (r1.out.still k).rd (fun j hj => (HCR.out j hj).symm) (fun j hj => by rw [← HCR.out j hj]; exact H13.out j hj))
            clear X1 X2 HCR H13 r1 r2 hne z7 z8 z7o z8o
            cases hb : lessB xs ys with
            | true =>
              have hv : Hid (sameV zss yss strain = false) := by show _ = _; rw [HSL.out, hb]; rfl
              rw [hb] at L1
              clear hb HSL
              go_wp2_with fail
              refine L1.out.mono ?_
              rintro e w7 ⟨rfl, k7⟩
              go_wp2_with fail
              go_ret
              exact ⟨by rw [hv.out]; rfl, kV.out.trans k7⟩
            | false =>
              have hv : Hid (sameV zss yss strain = !lessB ys xs) := by show _ = _; rw [HSL.out, hb]; rfl
              rw [hb] at L1
              clear hb HSL
              go_wp2_with fail
              refine L1.out.mono ?_
              rintro e w7 ⟨rfl, k7⟩
              have p7 := box_still p7 k7
              have p8 := box_still p8 k7
              have kW := Lib.hid (kV.out.trans k7)
              have L3 := Lib.hid (L2.out w7 k7)
              clear L1 L2 k7 kV
              generalize lessB ys xs = b2 at hv L3
              go_wp2_with fail
              refine L3.out.mono ?_
              rintro e w8 ⟨rfl, k8⟩
              go_wp2_with fail
              go_ret
              exact ⟨by first | (rw [hv.out]; done) | (rw [hv.out]; rfl), kW.out.trans k8⟩
        · have hv := Lib.hid (same_len (zss := zss) (yss := yss) (strain := strain) (by rw [HZ1.out, HZ2.out]; exact hz))
          have hzI : ((z1 : Int) == (z2 : Int)) = false := by simp; omega
          have hzJ : ((z1 : Int) != (z2 : Int)) = true := by simp; omega
          refine wp_region_held_drew (S := fun V => V.cell? ⟨w.heap.size, 0, none⟩ = some (.slice (some ⟨b, off, none⟩) 4 c) ∧ V.cell? ⟨w.heap.size + 1, 0, none⟩ = some (.slice (some ⟨b', off', none⟩) 4 c') ∧ V.cell? ⟨b, off, none⟩ = some (.slice Bq z1 Cq) ∧ V.cell? ⟨b', off', none⟩ = some (.slice Bq' z2 Cq')) (by kernel_rfl) ⟨q0, q1, q2, q3⟩ (fun hHeld => ?_)
          refine take_slot (i := 0) (d := some 9) (v := .agg #[.slice (some ⟨b, off, none⟩) 4 c]) rfl (by kernel_rfl) (by kernel_rfl) (by kernel_rfl) (by kernel_rfl) (fun _ _ _ h => h) (.inl ⟨by kernel_rfl, fun V hV => by obtain ⟨hV1, hV2, hV3, hV4⟩ := hV; go_simp⟩) hHeld ?_
          try simp only [Act.put, List.setIfInBounds_toArray, List.set_cons_zero, List.set_cons_succ]
          refine wpAnyH_ready (rs := [1]) (by kernel_rfl) (by simp) (AllReadyH.cons (i := 1) rfl (fun K' hK' => ?_) AllReadyH.nil)
          go_simp
          refine (I1.out _ dr.out).mono ?_
          rintro e w5 ⟨rfl, c5⟩
          have j5 := Lib.hid (dw.out.trans c5)
          have k5 := Lib.hid (dr.out.trans c5)
          refine hK'.out _ _ ⟨box_still q0 j5.out, box_still q1 j5.out, box_still q2 j5.out, box_still q3 j5.out⟩ (fun hHeld => ?_)
          clear hK'
          try simp only [Act.put, List.setIfInBounds_toArray, List.set_cons_zero, List.set_cons_succ]
          refine take_slot (i := 2) (d := some 11) (v := .bool false) rfl (by kernel_rfl) (by kernel_rfl) (by kernel_rfl) (by kernel_rfl) (fun _ _ _ h => h) (.inl ⟨by kernel_rfl, fun V hV => by obtain ⟨hV1, hV2, hV3, hV4⟩ := hV; go_simp⟩) hHeld ?_
          try simp only [Act.put, List.setIfInBounds_toArray, List.set_cons_zero, List.set_cons_succ]
          refine take_slot (i := 3) (d := some 12) (v := .bool false) rfl (by kernel_rfl) (by kernel_rfl) (by kernel_rfl) (by kernel_rfl) (fun _ _ _ h => h) (.inl ⟨by kernel_rfl, fun V hV => by obtain ⟨hV1, hV2, hV3, hV4⟩ := hV; go_simp⟩) hHeld ?_
          try simp only [Act.put, List.setIfInBounds_toArray, List.set_cons_zero, List.set_cons_succ]
          refine take_slot (i := 4) (d := some 13) (v := .agg #[.slice (some ⟨b', off', none⟩) 4 c']) rfl (by kernel_rfl) (by kernel_rfl) (by kernel_rfl) (by kernel_rfl) (fun _ _ _ h => h) (.inl ⟨by kernel_rfl, fun V hV => by obtain ⟨hV1, hV2, hV3, hV4⟩ := hV; go_simp⟩) hHeld ?_
          try simp only [Act.put, List.setIfInBounds_toArray, List.set_cons_zero, List.set_cons_succ]
          refine wpAnyH_ready (rs := [5]) (by kernel_rfl) (by simp) (AllReadyH.cons (i := 5) rfl (fun K' hK' => ?_) AllReadyH.nil)
          go_simp
          refine (I2.out w5 k5.out).mono ?_
          rintro e w6 ⟨rfl, c6⟩
          have j6 := Lib.hid (j5.out.trans c6)
          have k6 := Lib.hid (k5.out.trans c6)
          refine hK'.out _ _ ⟨box_still q0 j6.out, box_still q1 j6.out, box_still q2 j6.out, box_still q3 j6.out⟩ (fun hHeld => ?_)
          clear hK'
          try simp only [Act.put, List.setIfInBounds_toArray, List.set_cons_zero, List.set_cons_succ]
          refine take_slot (i := 6) (d := some 15) (v := .bool false) rfl (by kernel_rfl) (by kernel_rfl) (by kernel_rfl) (by kernel_rfl) (fun _ _ _ h => h) (.inl ⟨by kernel_rfl, fun V hV => by obtain ⟨hV1, hV2, hV3, hV4⟩ := hV; go_simp⟩) hHeld ?_
          try simp only [Act.put, List.setIfInBounds_toArray, List.set_cons_zero, List.set_cons_succ]
          refine take_slot (i := 7) (d := some 16) (v := .bool false) rfl (by kernel_rfl) (by kernel_rfl) (by kernel_rfl) (by kernel_rfl) (fun _ _ _ h => h) (.inl ⟨by kernel_rfl, fun V hV => by obtain ⟨hV1, hV2, hV3, hV4⟩ := hV; go_simp⟩) hHeld ?_
          try simp only [Act.put, List.setIfInBounds_toArray, List.set_cons_zero, List.set_cons_succ]
          refine take_slot (i := 8) (d := some 17) (v := .bool false) rfl (by kernel_rfl) (by kernel_rfl) (by kernel_rfl) (by kernel_rfl) (fun _ _ _ h => h) (.inl ⟨by kernel_rfl, fun V hV => by obtain ⟨hV1, hV2, hV3, hV4⟩ := hV; go_simp⟩) hHeld ?_
          try simp only [Act.put, List.setIfInBounds_toArray, List.set_cons_zero, List.set_cons_succ]
          refine take_slot (i := 9) (d := some 18) (v := .int .i64 strain) rfl (by kernel_rfl) (by kernel_rfl) (by kernel_rfl) (by kernel_rfl) (fun _ _ _ h => h) (.inl ⟨by kernel_rfl, fun V hV => by obtain ⟨hV1, hV2, hV3, hV4⟩ := hV; go_simp⟩) hHeld ?_
          try simp only [Act.put, List.setIfInBounds_toArray, List.set_cons_zero, List.set_cons_succ]
          refine wpAnyH_ready (rs := [10]) (by kernel_rfl) (by simp) (AllReadyH.cons (i := 10) rfl (fun K' hK' => ?_) AllReadyH.nil)
          go_simp
          refine (HS.out _).mono ?_
          rintro e w' ⟨rfl, rfl⟩
          refine hK'.out _ _ ⟨box_still q0 j6.out, box_still q1 j6.out, box_still q2 j6.out, box_still q3 j6.out⟩ (fun hHeld => ?_)
          clear hK'
          try simp only [Act.put, List.setIfInBounds_toArray, List.set_cons_zero, List.set_cons_succ]
          refine take_slot (i := 11) (d := some 20) (v := .bool false) rfl (by kernel_rfl) (by kernel_rfl) (by kernel_rfl) (by kernel_rfl) (fun _ _ _ h => h) (.inl ⟨by kernel_rfl, fun V hV => by obtain ⟨hV1, hV2, hV3, hV4⟩ := hV; go_simp⟩) hHeld ?_
          try simp only [Act.put, List.setIfInBounds_toArray, List.set_cons_zero, List.set_cons_succ]
          refine take_slot (i := 12) (d := some 21) (v := .bool false) rfl (by kernel_rfl) (by kernel_rfl) (by kernel_rfl) (by kernel_rfl) (fun _ _ _ h => h) (.inl ⟨by kernel_rfl, fun V hV => by obtain ⟨hV1, hV2, hV3, hV4⟩ := hV; go_simp⟩) hHeld ?_
          try simp only [Act.put, List.setIfInBounds_toArray, List.set_cons_zero, List.set_cons_succ]
          refine take_slot (i := 13) (d := some 22) (v := .bool false) rfl (by kernel_rfl) (by kernel_rfl) (by kernel_rfl) (by kernel_rfl) (fun _ _ _ h => h) (.inl ⟨by kernel_rfl, fun V hV => by obtain ⟨hV1, hV2, hV3, hV4⟩ := hV; go_simp⟩) hHeld ?_
          try simp only [Act.put, List.setIfInBounds_toArray, List.set_cons_zero, List.set_cons_succ]
          refine take_slot (i := 14) (d := some 23) (v := .pointer (some ⟨w.heap.size, 0, none⟩)) rfl (by kernel_rfl) (by kernel_rfl) (by kernel_rfl) (by kernel_rfl) (fun _ _ _ h => h) (.inl ⟨by kernel_rfl, fun V hV => by obtain ⟨hV1, hV2, hV3, hV4⟩ := hV; go_simp⟩) hHeld ?_
          try simp only [Act.put, List.setIfInBounds_toArray, List.set_cons_zero, List.set_cons_succ]
          refine take_slot (i := 15) (d := some 24) (v := .slice (some ⟨b, off, none⟩) 4 c) rfl (by kernel_rfl) (by kernel_rfl) (by kernel_rfl) (by kernel_rfl) (fun _ _ _ h => h) (.inl ⟨by kernel_rfl, fun V hV => by obtain ⟨hV1, hV2, hV3, hV4⟩ := hV; go_simp⟩) hHeld ?_
          try simp only [Act.put, List.setIfInBounds_toArray, List.set_cons_zero, List.set_cons_succ]
          refine take_slot (i := 16) (d := some 25) (v := .pointer (some ⟨b, off, none⟩)) rfl (by kernel_rfl) (by kernel_rfl) (by kernel_rfl) (by kernel_rfl) (fun _ _ _ h => h) (.inl ⟨by kernel_rfl, fun V hV => by obtain ⟨hV1, hV2, hV3, hV4⟩ := hV; go_simp⟩) hHeld ?_
          try simp only [Act.put, List.setIfInBounds_toArray, List.set_cons_zero, List.set_cons_succ]
          refine take_slot (i := 17) (d := some 26) (v := .slice Bq z1 Cq) rfl (by kernel_rfl) (by kernel_rfl) (by kernel_rfl) (by kernel_rfl) (fun _ _ _ h => h) (.inl ⟨by kernel_rfl, fun V hV => by obtain ⟨hV1, hV2, hV3, hV4⟩ := hV; go_simp⟩) hHeld ?_
          try simp only [Act.put, List.setIfInBounds_toArray, List.set_cons_zero, List.set_cons_succ]
          refine take_slot (i := 18) (d := some 27) (v := .int .i64 (z1 : Int)) rfl (by kernel_rfl) (by kernel_rfl) (by kernel_rfl) (by kernel_rfl) (fun _ _ _ h => h) (.inl ⟨by kernel_rfl, fun V hV => by obtain ⟨hV1, hV2, hV3, hV4⟩ := hV; go_simp⟩) hHeld ?_
          try simp only [Act.put, List.setIfInBounds_toArray, List.set_cons_zero, List.set_cons_succ]
          refine take_slot (i := 19) (d := some 28) (v := .pointer (some ⟨w.heap.size + 1, 0, none⟩)) rfl (by kernel_rfl) (by kernel_rfl) (by kernel_rfl) (by kernel_rfl) (fun _ _ _ h => h) (.inl ⟨by kernel_rfl, fun V hV => by obtain ⟨hV1, hV2, hV3, hV4⟩ := hV; go_simp⟩) hHeld ?_
          try simp only [Act.put, List.setIfInBounds_toArray, List.set_cons_zero, List.set_cons_succ]
          refine take_slot (i := 20) (d := some 29) (v := .slice (some ⟨b', off', none⟩) 4 c') rfl (by kernel_rfl) (by kernel_rfl) (by kernel_rfl) (by kernel_rfl) (fun _ _ _ h => h) (.inl ⟨by kernel_rfl, fun V hV => by obtain ⟨hV1, hV2, hV3, hV4⟩ := hV; go_simp⟩) hHeld ?_
          try simp only [Act.put, List.setIfInBounds_toArray, List.set_cons_zero, List.set_cons_succ]
          refine take_slot (i := 21) (d := some 30) (v := .pointer (some ⟨b', off', none⟩)) rfl (by kernel_rfl) (by kernel_rfl) (by kernel_rfl) (by kernel_rfl) (fun _ _ _ h => h) (.inl ⟨by kernel_rfl, fun V hV => by obtain ⟨hV1, hV2, hV3, hV4⟩ := hV; go_simp⟩) hHeld ?_
          try simp only [Act.put, List.setIfInBounds_toArray, List.set_cons_zero, List.set_cons_succ]
          refine take_slot (i := 22) (d := some 31) (v := .slice Bq' z2 Cq') rfl (by kernel_rfl) (by kernel_rfl) (by kernel_rfl) (by kernel_rfl) (fun _ _ _ h => h) (.inl ⟨by kernel_rfl, fun V hV => by obtain ⟨hV1, hV2, hV3, hV4⟩ := hV; go_simp⟩) hHeld ?_
          try simp only [Act.put, List.setIfInBounds_toArray, List.set_cons_zero, List.set_cons_succ]
          refine take_slot (i := 23) (d := some 32) (v := .int .i64 (z2 : Int)) rfl (by kernel_rfl) (by kernel_rfl) (by kernel_rfl) (by kernel_rfl) (fun _ _ _ h => h) (.inl ⟨by kernel_rfl, fun V hV => by obtain ⟨hV1, hV2, hV3, hV4⟩ := hV; go_simp⟩) hHeld ?_
          try simp only [Act.put, List.setIfInBounds_toArray, List.set_cons_zero, List.set_cons_succ]
          refine take_slot (i := 24) (d := some 33) (v := .bool true) rfl (by kernel_rfl) (by kernel_rfl) (by kernel_rfl) (by kernel_rfl) (fun _ _ _ h => h) (.inl ⟨by kernel_rfl, fun V hV => by obtain ⟨hV1, hV2, hV3, hV4⟩ := hV; go_simp⟩) hHeld ?_
          try simp only [Act.put, List.setIfInBounds_toArray, List.set_cons_zero, List.set_cons_succ]
          refine take_slot (i := 25) (d := some 34) (v := .bool true) rfl (by kernel_rfl) (by kernel_rfl) (by kernel_rfl) (by kernel_rfl) (fun _ _ _ h => h) (.inl ⟨by kernel_rfl, fun V hV => by obtain ⟨hV1, hV2, hV3, hV4⟩ := hV; go_simp⟩) hHeld ?_
          try simp only [Act.put, List.setIfInBounds_toArray, List.set_cons_zero, List.set_cons_succ]
          refine wpAnyH_done (by kernel_rfl) ?_ _
          go_wp2_with fail
          go_ret
          exact ⟨by rw [hv.out]; rfl, k6.out⟩

end Go.Proofs.Yteojdlacdnfgiaa.Lib1
