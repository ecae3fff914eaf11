/- Chapter 7: the program's contract of an auction, ContractOf and IsContract. (Written by wip/gen7f.py.) -/
import Derived.Test.YtnkbcmkngghnoaaPbX7
namespace Go.Proofs.Ytnkbcmkngghnoaa.Lib1
open Go.RowKit
set_option maxRecDepth 100000

theorem upTo_getD {cs : List Int} {n j : Nat} (h : j < n) : (upTo cs n).getD j 0 = cs.getD j 0 := by simp [upTo, List.getD, h]
set_option maxHeartbeats 4000000 in
theorem firstToBid7 (g : Nat) (d : Int) (A : Option Addr) (n c : Nat) (B S T st : Int) (P : Nat) (cs : List Int) (w : World) (h : PBox w g d (.slice A n c) B S T P) (ho : OwnV w (g + 1) (.slice A n c) (upTo cs n)) (hn : n ≤ 1048576) (hd : 0 ≤ d ∧ d ≤ 3)
    (hb : 0 ≤ bidTo cs n) (hS : S = sidP d cs n) (hst : st = strV (bidTo cs n)) :
    Calls Try.prog 71 #[.pointer (some ⟨g, 0, none⟩), .int .i64 st] w fun e w' => e = .returned (.int .i64 (conD d cs n)) ∧ Chg w w' 0 0 := by
  obtain ⟨A', c', hA, hcap, _, hown⟩ := ho.form_at (upTo_len cs n)
  obtain ⟨rfl, _, rfl⟩ : A = A' ∧ n = n ∧ c = c' := by injection hA with h1 h2 h3; exact ⟨h1, h2, h3⟩
  have hr0 : Rp w A n (upTo cs n) := Rp.of_rd hown.rd
  have HR := Lib.hid hr0
  have H0 := Lib.hid h
  have q1 := h.c1
  have HSS := Lib.hid hS
  have HST := Lib.hid hst
  have HB := Lib.hid hb
  obtain ⟨d0, d3⟩ := hd
  clear hA hown hr0 h ho hS hst hb
  go_enter Try.func71, Try.ntmps71
  go_wp2_with fail
  go_loopw [14] (fun i wr => ∃ k : Nat, k ≤ n ∧ i = .int .i64 k ∧ Hid (Chg w wr 0 0) ∧ Hid (∀ j, j < k → ¬ (strV (cs.getD j 0) = st ∧ (d + (j : Int)) % 4 % 2 = S))) (fun i _ => n - (intOf i).toNat)
  case atStart => exact ⟨0, Nat.zero_le _, rfl, Chg.refl _ _ _, fun j hj => by omega⟩
  case round =>
    obtain ⟨k, hk, rfl, hch, hno⟩ := hrel
    by_cases hlt : k < n
    · obtain ⟨b, off, rfl, hc⟩ := (HR.out.still hch.out) (by omega)
      have hck := hc k hlt
      rw [upTo_getD hlt] at hck
      have hkl : (k : Int) < (n : Int) := by omega
      have HNX : Hid (∀ e : Bool, (¬ (strV (cs.getD k 0) = st ∧ (d + (k : Int)) % 4 % 2 = S)) → ∀ j, j < k + 1 → ¬ (strV (cs.getD j 0) = st ∧ (d + (j : Int)) % 4 % 2 = S)) := fun _ hne j hj => by
        by_cases e : j = k
        · subst e; exact hne
        · exact hno.out j (by omega)
      have HYS : Hid (strV (cs.getD k 0) = st → (d + (k : Int)) % 4 % 2 = S → conD d cs n = (d + (k : Int)) % 4) := fun e1 e2 =>
        firstP (Int.not_lt.2 HB.out) (by rw [e2, HSS.out]) (by rw [e1, HST.out]) (fun j hj => by rw [← HST.out, ← HSS.out]; exact hno.out j hj)
      obtain ⟨x, hx⟩ : ∃ x, cs.getD k 0 = x := ⟨_, rfl⟩
      rw [hx] at hck HNX HYS
      clear hc hx
      have H1 := Lib.hid (H0.out.still hch.out)
      go_wp2_with (refine wpList_load_mid rfl 26 _ rfl g 0 rfl [.int .i64 d, .slice (some ⟨b, off, none⟩) n c] _ H1.out.r0 Try.underlying26 rfl (auc_info7 _ _) ?_)
      refine (caller7 d (k : Int) (some ⟨b, off, none⟩) n c _ ⟨d0, d3⟩ (by omega) (by omega)).mono ?_
      rintro e w4 ⟨rfl, c4⟩
      have H4 := Lib.hid (H1.out.still c4)
      have C4 := Lib.hid (hch.out.trans c4)
      have H4d := H4.out.drew
      clear c4 hck H1
      obtain ⟨t, ht⟩ : ∃ t, t = (d + (k : Int)) % 4 := ⟨_, rfl⟩
      rw [← ht] at HNX HYS ⊢
      have t0 : 0 ≤ t := by omega
      clear ht
      obtain ⟨A, hA⟩ : ∃ A, A = some (⟨b, off, none⟩ : Addr) := ⟨_, rfl⟩
      rw [← hA] at H4 H4d
      by_cases e1 : strV x = st
      · have b1 : (strV x == st) = true := by simpa using e1
        by_cases e2 : t % 2 = S
        · have b2 : (t % 2 == S) = true := by simpa using e2
          have hr := Lib.hid (HYS.out e1 e2)
          clear e1 e2 HNX HYS
          go_wp2_with fail
          refine wp_region_held_drew (S := fun V => PBox V g d (.slice A n c) B S T P) (by kernel_rfl) H4d (fun hHeld => ?_)
          refine take_slotC (i := 0) (d := some 25) (v := .int .i64 x) rfl (by kernel_rfl) (by kernel_rfl) (by kernel_rfl) (by kernel_rfl) (fun _ _ _ h => h) (.inl ⟨by kernel_rfl, fun V hV => by have q0 := PBox.c0 hV; have q1 := PBox.c1 hV; have q2 := PBox.c2 hV; have q3 := PBox.c3 hV; have q4 := PBox.c4 hV; go_simp⟩) hHeld ?_
          try simp only [Act.put, List.setIfInBounds_toArray, List.set_cons_zero, List.set_cons_succ]
          refine take_slotC (i := 2) (d := some 27) (v := .int .i64 st) rfl (by kernel_rfl) (by kernel_rfl) (by kernel_rfl) (by kernel_rfl) (fun _ _ _ h => h) (.inl ⟨by kernel_rfl, fun V hV => by have q0 := PBox.c0 hV; have q1 := PBox.c1 hV; have q2 := PBox.c2 hV; have q3 := PBox.c3 hV; have q4 := PBox.c4 hV; go_simp⟩) hHeld ?_
          try simp only [Act.put, List.setIfInBounds_toArray, List.set_cons_zero, List.set_cons_succ]
          refine wpAnyH_ready (rs := [1]) (by kernel_rfl) (by simp) (AllReadyH.cons (i := 1) rfl (fun K' hK' => ?_) AllReadyH.nil)
          go_simp
          refine (impl_StrainOf x _).mono ?_
          rintro e w5 ⟨rfl, c5⟩
          have C5 := Lib.hid ((Chg.of_drew ⟨1, rfl⟩ 0 0).trans c5)
          have H5 := Lib.hid (PBox.still hHeld c5)
          clear c5
          refine hK'.out _ _ H5.out (fun hHeld => ?_)
          clear hK'
          try simp only [Act.put, List.setIfInBounds_toArray, List.set_cons_zero, List.set_cons_succ]
          refine take_slotC (i := 3) (d := some 28) (v := .bool true) rfl (by kernel_rfl) (by kernel_rfl) (by kernel_rfl) (by kernel_rfl) (fun _ _ _ h => h) (.inl ⟨by kernel_rfl, fun V hV => by have q0 := PBox.c0 hV; have q1 := PBox.c1 hV; have q2 := PBox.c2 hV; have q3 := PBox.c3 hV; have q4 := PBox.c4 hV; go_simp⟩) hHeld ?_
          try simp only [Act.put, List.setIfInBounds_toArray, List.set_cons_zero, List.set_cons_succ]
          refine take_slotC (i := 4) (d := some 29) (v := .bool true) rfl (by kernel_rfl) (by kernel_rfl) (by kernel_rfl) (by kernel_rfl) (fun _ _ _ h => h) (.inl ⟨by kernel_rfl, fun V hV => by have q0 := PBox.c0 hV; have q1 := PBox.c1 hV; have q2 := PBox.c2 hV; have q3 := PBox.c3 hV; have q4 := PBox.c4 hV; go_simp⟩) hHeld ?_
          try simp only [Act.put, List.setIfInBounds_toArray, List.set_cons_zero, List.set_cons_succ]
          refine take_slotC (i := 5) (d := some 30) (v := .int .i64 t) rfl (by kernel_rfl) (by kernel_rfl) (by kernel_rfl) (by kernel_rfl) (fun _ _ _ h => h) (.inl ⟨by kernel_rfl, fun V hV => by have q0 := PBox.c0 hV; have q1 := PBox.c1 hV; have q2 := PBox.c2 hV; have q3 := PBox.c3 hV; have q4 := PBox.c4 hV; go_simp⟩) hHeld ?_
          try simp only [Act.put, List.setIfInBounds_toArray, List.set_cons_zero, List.set_cons_succ]
          refine take_slotC (i := 7) (d := some 32) (v := .pointer (some ⟨g, 0, none⟩)) rfl (by kernel_rfl) (by kernel_rfl) (by kernel_rfl) (by kernel_rfl) (fun _ _ _ h => h) (.inl ⟨by kernel_rfl, fun V hV => by have q0 := PBox.c0 hV; have q1 := PBox.c1 hV; have q2 := PBox.c2 hV; have q3 := PBox.c3 hV; have q4 := PBox.c4 hV; go_simp⟩) hHeld ?_
          try simp only [Act.put, List.setIfInBounds_toArray, List.set_cons_zero, List.set_cons_succ]
          refine take_slotC (i := 8) (d := some 33) (v := .pointer (some ⟨g, 0, none⟩)) rfl (by kernel_rfl) (by kernel_rfl) (by kernel_rfl) (by kernel_rfl) (fun _ _ _ h => h) (.inl ⟨by kernel_rfl, fun V hV => by have q0 := PBox.c0 hV; have q1 := PBox.c1 hV; have q2 := PBox.c2 hV; have q3 := PBox.c3 hV; have q4 := PBox.c4 hV; go_simp⟩) hHeld ?_
          try simp only [Act.put, List.setIfInBounds_toArray, List.set_cons_zero, List.set_cons_succ]
          refine take_slotC (i := 9) (d := some 34) (v := .pointer (some ⟨g, 3, none⟩)) rfl (by kernel_rfl) (by kernel_rfl) (by kernel_rfl) (by kernel_rfl) (fun _ _ _ h => h) (.inl ⟨by kernel_rfl, fun V hV => by have q0 := PBox.c0 hV; have q1 := PBox.c1 hV; have q2 := PBox.c2 hV; have q3 := PBox.c3 hV; have q4 := PBox.c4 hV; go_simp⟩) hHeld ?_
          try simp only [Act.put, List.setIfInBounds_toArray, List.set_cons_zero, List.set_cons_succ]
          refine take_slotC (i := 10) (d := some 35) (v := .pointer (some ⟨g, 3, none⟩)) rfl (by kernel_rfl) (by kernel_rfl) (by kernel_rfl) (by kernel_rfl) (fun _ _ _ h => h) (.inl ⟨by kernel_rfl, fun V hV => by have q0 := PBox.c0 hV; have q1 := PBox.c1 hV; have q2 := PBox.c2 hV; have q3 := PBox.c3 hV; have q4 := PBox.c4 hV; go_simp⟩) hHeld ?_
          try simp only [Act.put, List.setIfInBounds_toArray, List.set_cons_zero, List.set_cons_succ]
          refine take_slotC (i := 11) (d := some 36) (v := .int .i64 S) rfl (by kernel_rfl) (by kernel_rfl) (by kernel_rfl) (by kernel_rfl) (fun _ _ _ h => h) (.inl ⟨by kernel_rfl, fun V hV => by have q0 := PBox.c0 hV; have q1 := PBox.c1 hV; have q2 := PBox.c2 hV; have q3 := PBox.c3 hV; have q4 := PBox.c4 hV; go_simp⟩) hHeld ?_
          try simp only [Act.put, List.setIfInBounds_toArray, List.set_cons_zero, List.set_cons_succ]
          refine wpAnyH_ready (rs := [6]) (by kernel_rfl) (by simp) (AllReadyH.cons (i := 6) rfl (fun K' hK' => ?_) AllReadyH.nil)
          go_simp
          refine (sideOf7 t _ t0).mono ?_
          rintro e w' ⟨rfl, rfl⟩
          refine hK'.out _ _ hHeld (fun hHeld => ?_)
          clear hK'
          try simp only [Act.put, List.setIfInBounds_toArray, List.set_cons_zero, List.set_cons_succ]
          refine take_slotC (i := 12) (d := some 37) (v := .bool true) rfl (by kernel_rfl) (by kernel_rfl) (by kernel_rfl) (by kernel_rfl) (fun _ _ _ h => h) (.inl ⟨by kernel_rfl, fun V hV => by have q0 := PBox.c0 hV; have q1 := PBox.c1 hV; have q2 := PBox.c2 hV; have q3 := PBox.c3 hV; have q4 := PBox.c4 hV; go_simp⟩) hHeld ?_
          try simp only [Act.put, List.setIfInBounds_toArray, List.set_cons_zero, List.set_cons_succ]
          refine take_slotC (i := 13) (d := some 38) (v := .bool true) rfl (by kernel_rfl) (by kernel_rfl) (by kernel_rfl) (by kernel_rfl) (fun _ _ _ h => h) (.inl ⟨by kernel_rfl, fun V hV => by have q0 := PBox.c0 hV; have q1 := PBox.c1 hV; have q2 := PBox.c2 hV; have q3 := PBox.c3 hV; have q4 := PBox.c4 hV; go_simp⟩) hHeld ?_
          try simp only [Act.put, List.setIfInBounds_toArray, List.set_cons_zero, List.set_cons_succ]
          refine wpAnyH_done (by kernel_rfl) ?_ _
          go_wp2_with fail
          go_ret
          exact ⟨ret_int hr.out.symm, C4.out.trans C5.out⟩
        · have b2 : (t % 2 == S) = false := by simpa using e2
          have hr := Lib.hid (HNX.out true (fun q => e2 q.2))
          clear e1 e2 HNX HYS
          go_wp2_with fail
          refine wp_region_held_drew (S := fun V => PBox V g d (.slice A n c) B S T P) (by kernel_rfl) H4d (fun hHeld => ?_)
          refine take_slotC (i := 0) (d := some 25) (v := .int .i64 x) rfl (by kernel_rfl) (by kernel_rfl) (by kernel_rfl) (by kernel_rfl) (fun _ _ _ h => h) (.inl ⟨by kernel_rfl, fun V hV => by have q0 := PBox.c0 hV; have q1 := PBox.c1 hV; have q2 := PBox.c2 hV; have q3 := PBox.c3 hV; have q4 := PBox.c4 hV; go_simp⟩) hHeld ?_
          try simp only [Act.put, List.setIfInBounds_toArray, List.set_cons_zero, List.set_cons_succ]
          refine take_slotC (i := 2) (d := some 27) (v := .int .i64 st) rfl (by kernel_rfl) (by kernel_rfl) (by kernel_rfl) (by kernel_rfl) (fun _ _ _ h => h) (.inl ⟨by kernel_rfl, fun V hV => by have q0 := PBox.c0 hV; have q1 := PBox.c1 hV; have q2 := PBox.c2 hV; have q3 := PBox.c3 hV; have q4 := PBox.c4 hV; go_simp⟩) hHeld ?_
          try simp only [Act.put, List.setIfInBounds_toArray, List.set_cons_zero, List.set_cons_succ]
          refine wpAnyH_ready (rs := [1]) (by kernel_rfl) (by simp) (AllReadyH.cons (i := 1) rfl (fun K' hK' => ?_) AllReadyH.nil)
          go_simp
          refine (impl_StrainOf x _).mono ?_
          rintro e w5 ⟨rfl, c5⟩
          have C5 := Lib.hid ((Chg.of_drew ⟨1, rfl⟩ 0 0).trans c5)
          have H5 := Lib.hid (PBox.still hHeld c5)
          clear c5
          refine hK'.out _ _ H5.out (fun hHeld => ?_)
          clear hK'
          try simp only [Act.put, List.setIfInBounds_toArray, List.set_cons_zero, List.set_cons_succ]
          refine take_slotC (i := 3) (d := some 28) (v := .bool true) rfl (by kernel_rfl) (by kernel_rfl) (by kernel_rfl) (by kernel_rfl) (fun _ _ _ h => h) (.inl ⟨by kernel_rfl, fun V hV => by have q0 := PBox.c0 hV; have q1 := PBox.c1 hV; have q2 := PBox.c2 hV; have q3 := PBox.c3 hV; have q4 := PBox.c4 hV; go_simp⟩) hHeld ?_
          try simp only [Act.put, List.setIfInBounds_toArray, List.set_cons_zero, List.set_cons_succ]
          refine take_slotC (i := 4) (d := some 29) (v := .bool true) rfl (by kernel_rfl) (by kernel_rfl) (by kernel_rfl) (by kernel_rfl) (fun _ _ _ h => h) (.inl ⟨by kernel_rfl, fun V hV => by have q0 := PBox.c0 hV; have q1 := PBox.c1 hV; have q2 := PBox.c2 hV; have q3 := PBox.c3 hV; have q4 := PBox.c4 hV; go_simp⟩) hHeld ?_
          try simp only [Act.put, List.setIfInBounds_toArray, List.set_cons_zero, List.set_cons_succ]
          refine take_slotC (i := 5) (d := some 30) (v := .int .i64 t) rfl (by kernel_rfl) (by kernel_rfl) (by kernel_rfl) (by kernel_rfl) (fun _ _ _ h => h) (.inl ⟨by kernel_rfl, fun V hV => by have q0 := PBox.c0 hV; have q1 := PBox.c1 hV; have q2 := PBox.c2 hV; have q3 := PBox.c3 hV; have q4 := PBox.c4 hV; go_simp⟩) hHeld ?_
          try simp only [Act.put, List.setIfInBounds_toArray, List.set_cons_zero, List.set_cons_succ]
          refine take_slotC (i := 7) (d := some 32) (v := .pointer (some ⟨g, 0, none⟩)) rfl (by kernel_rfl) (by kernel_rfl) (by kernel_rfl) (by kernel_rfl) (fun _ _ _ h => h) (.inl ⟨by kernel_rfl, fun V hV => by have q0 := PBox.c0 hV; have q1 := PBox.c1 hV; have q2 := PBox.c2 hV; have q3 := PBox.c3 hV; have q4 := PBox.c4 hV; go_simp⟩) hHeld ?_
          try simp only [Act.put, List.setIfInBounds_toArray, List.set_cons_zero, List.set_cons_succ]
          refine take_slotC (i := 8) (d := some 33) (v := .pointer (some ⟨g, 0, none⟩)) rfl (by kernel_rfl) (by kernel_rfl) (by kernel_rfl) (by kernel_rfl) (fun _ _ _ h => h) (.inl ⟨by kernel_rfl, fun V hV => by have q0 := PBox.c0 hV; have q1 := PBox.c1 hV; have q2 := PBox.c2 hV; have q3 := PBox.c3 hV; have q4 := PBox.c4 hV; go_simp⟩) hHeld ?_
          try simp only [Act.put, List.setIfInBounds_toArray, List.set_cons_zero, List.set_cons_succ]
          refine take_slotC (i := 9) (d := some 34) (v := .pointer (some ⟨g, 3, none⟩)) rfl (by kernel_rfl) (by kernel_rfl) (by kernel_rfl) (by kernel_rfl) (fun _ _ _ h => h) (.inl ⟨by kernel_rfl, fun V hV => by have q0 := PBox.c0 hV; have q1 := PBox.c1 hV; have q2 := PBox.c2 hV; have q3 := PBox.c3 hV; have q4 := PBox.c4 hV; go_simp⟩) hHeld ?_
          try simp only [Act.put, List.setIfInBounds_toArray, List.set_cons_zero, List.set_cons_succ]
          refine take_slotC (i := 10) (d := some 35) (v := .pointer (some ⟨g, 3, none⟩)) rfl (by kernel_rfl) (by kernel_rfl) (by kernel_rfl) (by kernel_rfl) (fun _ _ _ h => h) (.inl ⟨by kernel_rfl, fun V hV => by have q0 := PBox.c0 hV; have q1 := PBox.c1 hV; have q2 := PBox.c2 hV; have q3 := PBox.c3 hV; have q4 := PBox.c4 hV; go_simp⟩) hHeld ?_
          try simp only [Act.put, List.setIfInBounds_toArray, List.set_cons_zero, List.set_cons_succ]
          refine take_slotC (i := 11) (d := some 36) (v := .int .i64 S) rfl (by kernel_rfl) (by kernel_rfl) (by kernel_rfl) (by kernel_rfl) (fun _ _ _ h => h) (.inl ⟨by kernel_rfl, fun V hV => by have q0 := PBox.c0 hV; have q1 := PBox.c1 hV; have q2 := PBox.c2 hV; have q3 := PBox.c3 hV; have q4 := PBox.c4 hV; go_simp⟩) hHeld ?_
          try simp only [Act.put, List.setIfInBounds_toArray, List.set_cons_zero, List.set_cons_succ]
          refine wpAnyH_ready (rs := [6]) (by kernel_rfl) (by simp) (AllReadyH.cons (i := 6) rfl (fun K' hK' => ?_) AllReadyH.nil)
          go_simp
          refine (sideOf7 t _ t0).mono ?_
          rintro e w' ⟨rfl, rfl⟩
          refine hK'.out _ _ hHeld (fun hHeld => ?_)
          clear hK'
          try simp only [Act.put, List.setIfInBounds_toArray, List.set_cons_zero, List.set_cons_succ]
          refine take_slotC (i := 12) (d := some 37) (v := .bool false) rfl (by kernel_rfl) (by kernel_rfl) (by kernel_rfl) (by kernel_rfl) (fun _ _ _ h => h) (.inl ⟨by kernel_rfl, fun V hV => by have q0 := PBox.c0 hV; have q1 := PBox.c1 hV; have q2 := PBox.c2 hV; have q3 := PBox.c3 hV; have q4 := PBox.c4 hV; go_simp⟩) hHeld ?_
          try simp only [Act.put, List.setIfInBounds_toArray, List.set_cons_zero, List.set_cons_succ]
          refine take_slotC (i := 13) (d := some 38) (v := .bool false) rfl (by kernel_rfl) (by kernel_rfl) (by kernel_rfl) (by kernel_rfl) (fun _ _ _ h => h) (.inl ⟨by kernel_rfl, fun V hV => by have q0 := PBox.c0 hV; have q1 := PBox.c1 hV; have q2 := PBox.c2 hV; have q3 := PBox.c3 hV; have q4 := PBox.c4 hV; go_simp⟩) hHeld ?_
          try simp only [Act.put, List.setIfInBounds_toArray, List.set_cons_zero, List.set_cons_succ]
          refine wpAnyH_done (by kernel_rfl) ?_ _
          go_wp2_with fail
          have C6 := Lib.hid (C4.out.trans C5.out)
          go_roundw
          case rel => exact ⟨k + 1, by omega, by go_num, C6.out, hr.out⟩
          case measure => simp [intOf]; omega
      · have b1 : (strV x == st) = false := by simpa using e1
        have hr := Lib.hid (HNX.out true (fun q => e1 q.1))
        clear e1 HNX HYS
        go_wp2_with fail
        refine wp_region_held_drew (S := fun V => PBox V g d (.slice A n c) B S T P) (by kernel_rfl) H4d (fun hHeld => ?_)
        refine take_slotC (i := 0) (d := some 25) (v := .int .i64 x) rfl (by kernel_rfl) (by kernel_rfl) (by kernel_rfl) (by kernel_rfl) (fun _ _ _ h => h) (.inl ⟨by kernel_rfl, fun V hV => by have q0 := PBox.c0 hV; have q1 := PBox.c1 hV; have q2 := PBox.c2 hV; have q3 := PBox.c3 hV; have q4 := PBox.c4 hV; go_simp⟩) hHeld ?_
        try simp only [Act.put, List.setIfInBounds_toArray, List.set_cons_zero, List.set_cons_succ]
        refine take_slotC (i := 2) (d := some 27) (v := .int .i64 st) rfl (by kernel_rfl) (by kernel_rfl) (by kernel_rfl) (by kernel_rfl) (fun _ _ _ h => h) (.inl ⟨by kernel_rfl, fun V hV => by have q0 := PBox.c0 hV; have q1 := PBox.c1 hV; have q2 := PBox.c2 hV; have q3 := PBox.c3 hV; have q4 := PBox.c4 hV; go_simp⟩) hHeld ?_
        try simp only [Act.put, List.setIfInBounds_toArray, List.set_cons_zero, List.set_cons_succ]
        refine wpAnyH_ready (rs := [1]) (by kernel_rfl) (by simp) (AllReadyH.cons (i := 1) rfl (fun K' hK' => ?_) AllReadyH.nil)
        go_simp
        refine (impl_StrainOf x _).mono ?_
        rintro e w5 ⟨rfl, c5⟩
        have C5 := Lib.hid ((Chg.of_drew ⟨1, rfl⟩ 0 0).trans c5)
        have H5 := Lib.hid (PBox.still hHeld c5)
        clear c5
        refine hK'.out _ _ H5.out (fun hHeld => ?_)
        clear hK'
        try simp only [Act.put, List.setIfInBounds_toArray, List.set_cons_zero, List.set_cons_succ]
        refine take_slotC (i := 3) (d := some 28) (v := .bool false) rfl (by kernel_rfl) (by kernel_rfl) (by kernel_rfl) (by kernel_rfl) (fun _ _ _ h => h) (.inl ⟨by kernel_rfl, fun V hV => by have q0 := PBox.c0 hV; have q1 := PBox.c1 hV; have q2 := PBox.c2 hV; have q3 := PBox.c3 hV; have q4 := PBox.c4 hV; go_simp⟩) hHeld ?_
        try simp only [Act.put, List.setIfInBounds_toArray, List.set_cons_zero, List.set_cons_succ]
        refine take_slotC (i := 4) (d := some 29) (v := .bool false) rfl (by kernel_rfl) (by kernel_rfl) (by kernel_rfl) (by kernel_rfl) (fun _ _ _ h => h) (.inl ⟨by kernel_rfl, fun V hV => by have q0 := PBox.c0 hV; have q1 := PBox.c1 hV; have q2 := PBox.c2 hV; have q3 := PBox.c3 hV; have q4 := PBox.c4 hV; go_simp⟩) hHeld ?_
        try simp only [Act.put, List.setIfInBounds_toArray, List.set_cons_zero, List.set_cons_succ]
        refine take_slotC (i := 5) (d := some 30) (v := undef) rfl (by kernel_rfl) (by kernel_rfl) (by kernel_rfl) (by kernel_rfl) (fun _ _ _ h => h) (.inr ⟨by kernel_rfl, rfl⟩) hHeld ?_
        try simp only [Act.put, List.setIfInBounds_toArray, List.set_cons_zero, List.set_cons_succ]
        refine take_slotC (i := 6) (d := some 31) (v := undef) rfl (by kernel_rfl) (by kernel_rfl) (by kernel_rfl) (by kernel_rfl) (fun _ _ _ h => h) (.inr ⟨by kernel_rfl, rfl⟩) hHeld ?_
        try simp only [Act.put, List.setIfInBounds_toArray, List.set_cons_zero, List.set_cons_succ]
        refine take_slotC (i := 7) (d := some 32) (v := undef) rfl (by kernel_rfl) (by kernel_rfl) (by kernel_rfl) (by kernel_rfl) (fun _ _ _ h => h) (.inr ⟨by kernel_rfl, rfl⟩) hHeld ?_
        try simp only [Act.put, List.setIfInBounds_toArray, List.set_cons_zero, List.set_cons_succ]
        refine take_slotC (i := 8) (d := some 33) (v := undef) rfl (by kernel_rfl) (by kernel_rfl) (by kernel_rfl) (by kernel_rfl) (fun _ _ _ h => h) (.inr ⟨by kernel_rfl, rfl⟩) hHeld ?_
        try simp only [Act.put, List.setIfInBounds_toArray, List.set_cons_zero, List.set_cons_succ]
        refine take_slotC (i := 9) (d := some 34) (v := undef) rfl (by kernel_rfl) (by kernel_rfl) (by kernel_rfl) (by kernel_rfl) (fun _ _ _ h => h) (.inr ⟨by kernel_rfl, rfl⟩) hHeld ?_
        try simp only [Act.put, List.setIfInBounds_toArray, List.set_cons_zero, List.set_cons_succ]
        refine take_slotC (i := 10) (d := some 35) (v := undef) rfl (by kernel_rfl) (by kernel_rfl) (by kernel_rfl) (by kernel_rfl) (fun _ _ _ h => h) (.inr ⟨by kernel_rfl, rfl⟩) hHeld ?_
        try simp only [Act.put, List.setIfInBounds_toArray, List.set_cons_zero, List.set_cons_succ]
        refine take_slotC (i := 11) (d := some 36) (v := undef) rfl (by kernel_rfl) (by kernel_rfl) (by kernel_rfl) (by kernel_rfl) (fun _ _ _ h => h) (.inr ⟨by kernel_rfl, rfl⟩) hHeld ?_
        try simp only [Act.put, List.setIfInBounds_toArray, List.set_cons_zero, List.set_cons_succ]
        refine take_slotC (i := 12) (d := some 37) (v := undef) rfl (by kernel_rfl) (by kernel_rfl) (by kernel_rfl) (by kernel_rfl) (fun _ _ _ h => h) (.inr ⟨by kernel_rfl, rfl⟩) hHeld ?_
        try simp only [Act.put, List.setIfInBounds_toArray, List.set_cons_zero, List.set_cons_succ]
        refine take_slotC (i := 13) (d := some 38) (v := .bool false) rfl (by kernel_rfl) (by kernel_rfl) (by kernel_rfl) (by kernel_rfl) (fun _ _ _ h => h) (.inl ⟨by kernel_rfl, fun V hV => by have q0 := PBox.c0 hV; have q1 := PBox.c1 hV; have q2 := PBox.c2 hV; have q3 := PBox.c3 hV; have q4 := PBox.c4 hV; go_simp⟩) hHeld ?_
        try simp only [Act.put, List.setIfInBounds_toArray, List.set_cons_zero, List.set_cons_succ]
        refine wpAnyH_done (by kernel_rfl) ?_ _
        go_wp2_with fail
        have C6 := Lib.hid (C4.out.trans C5.out)
        go_roundw
        case rel => exact ⟨k + 1, by omega, by go_num, C6.out, hr.out⟩
        case measure => simp [intOf]; omega
    · obtain rfl : k = n := by omega
      exact (firstP_ex (d := d) (Int.not_lt.2 HB.out) (fun j hj => by rw [← HST.out, ← HSS.out]; exact hno.out j hj)).elim

set_option maxHeartbeats 4000000 in
/-- The contract of a bidding. -/
theorem contract7 (g : Nat) (d : Int) (cs : List Int) (n : Nat) (w : World) (h : St w g d cs n) (hn : n ≤ 1048576) (hd : 0 ≤ d ∧ d ≤ 3) :
    Calls Try.prog 53 #[.pointer (some ⟨g, 0, none⟩)] w fun e w' => e = .returned (.agg (conA (conL cs n) (conS cs n) (conX cs n) (conD d cs n))) ∧ Chg w w' 0 0 := by
  have hlt := h.lt
  have C0 := Lib.hid (Chg.of_alloc w (.cells #[.int .i64 0, .int .i64 0, .int .i64 0, .int .i64 0] 36) 0 0)
  have HZ : Hid ((w.alloc (.cells #[.int .i64 0, .int .i64 0, .int .i64 0, .int .i64 0] 36)).heap[w.heap.size]? = some (.cells (conA 0 0 0 0) 36 (0, 0))) := heap_alloc_new w _
  obtain ⟨A, c, hcap, hb0, ho0⟩ := (h.still C0.out).open
  have hbr := bidP_range cs n
  have HL := Lib.hid (show conL cs n = if bidTo cs n < 0 then 0 else levV (bidTo cs n) from rfl)
  have HS := Lib.hid (show conS cs n = if bidTo cs n < 0 then 0 else strV (bidTo cs n) from rfl)
  have HX := Lib.hid (show conX cs n = if bidTo cs n < 0 then 0 else stTo cs n from rfl)
  have HDD := Lib.hid (show bidTo cs n < 0 → conD d cs n = 0 from fun e => by unfold conD; rw [if_pos e])
  have H0 := Lib.hid hb0
  have O0 := Lib.hid ho0
  have q2 := hb0.c2
  clear h hb0 ho0
  go_enter Try.func53, Try.ntmps53
  rcases hbr with ⟨e0, eb⟩ | ⟨e3, e37, eb⟩
  · have hneg : bidTo cs n < 0 := by omega
    have hl := Lib.hid (show conL cs n = 0 by rw [HL.out, if_pos hneg])
    have hs := Lib.hid (show conS cs n = 0 by rw [HS.out, if_pos hneg])
    have hx := Lib.hid (show conX cs n = 0 by rw [HX.out, if_pos hneg])
    have hdd := Lib.hid (HDD.out hneg)
    rw [e0] at q2
    clear e0 eb hneg HL HS HX HDD H0 O0
    have ZS := Lib.hid (setRow_heap (w.alloc (.cells #[.int .i64 0, .int .i64 0, .int .i64 0, .int .i64 0] 36)) w.heap.size _ (conA 0 0 0 0) _ _ HZ.out)
    have KS := Lib.hid (C0.out.rowC (Nat.le_refl _) (conA 0 0 0 0))
    go_wp2_with (refine wpList_store_row rfl 36 _ _ rfl w.heap.size (conA 0 0 0 0) rfl rfl 36 (conA 0 0 0 0) HZ.out (con_info 0 0 0 0) rfl (con_cells 0 0 0 0) ?_)
    refine bodyPost_ret (v := .agg (conA 0 0 0 0)) (results_cell_row Try.results53 _ _ w.heap.size 36 (conA 0 0 0 0) (0, 0) _ rfl ZS.out Try.underlying36 rfl (con_info 0 0 0 0)) rfl ?_
    rw [hl.out, hs.out, hx.out, hdd.out]
    exact ⟨rfl, KS.out⟩
  · have hbn : ¬ bidTo cs n < 0 := by omega
    have hb : 0 ≤ bidTo cs n := by omega
    have hl := Lib.hid (show conL cs n = levV (bidP cs n) by rw [HL.out, if_neg hbn, eb])
    have hs := Lib.hid (show conS cs n = strV (bidP cs n) by rw [HS.out, if_neg hbn, eb])
    have hx := Lib.hid (show conX cs n = stTo cs n by rw [HX.out, if_neg hbn])
    have HST : Hid (strV (bidP cs n) = strV (bidTo cs n)) := by show _ = _; rw [eb]
    obtain ⟨D, hD⟩ : ∃ D, D = conD d cs n := ⟨_, rfl⟩
    have HD := Lib.hid hD
    rw [← hD]
    clear hD HL HS HX HDD eb hbn
    generalize bidP cs n = B at H0 q2 hl hs HST e3 e37
    obtain ⟨S, hS⟩ : ∃ S, S = sidP d cs n := ⟨_, rfl⟩
    rw [← hS] at H0
    have HSS := Lib.hid hS
    clear hS
    obtain ⟨T, hT⟩ : ∃ T, T = stTo cs n := ⟨_, rfl⟩
    rw [← hT] at H0 hx
    clear hT
    generalize passTo cs n = P at H0
    have hB0 : (B == 0) = false := by simp; omega
    have H4d := H0.out.drew
    clear e3 e37
    go_wp2_with fail
    generalize w.alloc (.cells #[.int .i64 0, .int .i64 0, .int .i64 0, .int .i64 0] 36) = w4 at C0 HZ H0 O0 H4d q2 ⊢
    refine wp_region_held_drew (S := fun V => PBox V g d (.slice A n c) B S T P) (by kernel_rfl) H4d (fun hHeld => ?_)
    refine take_slotC (i := 0) (d := some 11) (v := .pointer (some ⟨g, 0, none⟩)) rfl (by kernel_rfl) (by kernel_rfl) (by kernel_rfl) (by kernel_rfl) (fun _ _ _ h => h) (.inl ⟨by kernel_rfl, fun V hV => by have q0 := PBox.c0 hV; have q1 := PBox.c1 hV; have q2 := PBox.c2 hV; have q3 := PBox.c3 hV; have q4 := PBox.c4 hV; go_simp⟩) hHeld ?_
    try simp only [Act.put, List.setIfInBounds_toArray, List.set_cons_zero, List.set_cons_succ]
    refine take_slotC (i := 1) (d := some 12) (v := .pointer (some ⟨g, 0, none⟩)) rfl (by kernel_rfl) (by kernel_rfl) (by kernel_rfl) (by kernel_rfl) (fun _ _ _ h => h) (.inl ⟨by kernel_rfl, fun V hV => by have q0 := PBox.c0 hV; have q1 := PBox.c1 hV; have q2 := PBox.c2 hV; have q3 := PBox.c3 hV; have q4 := PBox.c4 hV; go_simp⟩) hHeld ?_
    try simp only [Act.put, List.setIfInBounds_toArray, List.set_cons_zero, List.set_cons_succ]
    refine take_slotC (i := 2) (d := some 13) (v := .pointer (some ⟨g, 2, none⟩)) rfl (by kernel_rfl) (by kernel_rfl) (by kernel_rfl) (by kernel_rfl) (fun _ _ _ h => h) (.inl ⟨by kernel_rfl, fun V hV => by have q0 := PBox.c0 hV; have q1 := PBox.c1 hV; have q2 := PBox.c2 hV; have q3 := PBox.c3 hV; have q4 := PBox.c4 hV; go_simp⟩) hHeld ?_
    try simp only [Act.put, List.setIfInBounds_toArray, List.set_cons_zero, List.set_cons_succ]
    refine take_slotC (i := 3) (d := some 14) (v := .int .i64 B) rfl (by kernel_rfl) (by kernel_rfl) (by kernel_rfl) (by kernel_rfl) (fun _ _ _ h => h) (.inl ⟨by kernel_rfl, fun V hV => by have q0 := PBox.c0 hV; have q1 := PBox.c1 hV; have q2 := PBox.c2 hV; have q3 := PBox.c3 hV; have q4 := PBox.c4 hV; go_simp⟩) hHeld ?_
    try simp only [Act.put, List.setIfInBounds_toArray, List.set_cons_zero, List.set_cons_succ]
    refine take_slotC (i := 5) (d := some 16) (v := .pointer (some ⟨g, 0, none⟩)) rfl (by kernel_rfl) (by kernel_rfl) (by kernel_rfl) (by kernel_rfl) (fun _ _ _ h => h) (.inl ⟨by kernel_rfl, fun V hV => by have q0 := PBox.c0 hV; have q1 := PBox.c1 hV; have q2 := PBox.c2 hV; have q3 := PBox.c3 hV; have q4 := PBox.c4 hV; go_simp⟩) hHeld ?_
    try simp only [Act.put, List.setIfInBounds_toArray, List.set_cons_zero, List.set_cons_succ]
    refine take_slotC (i := 6) (d := some 17) (v := .pointer (some ⟨g, 0, none⟩)) rfl (by kernel_rfl) (by kernel_rfl) (by kernel_rfl) (by kernel_rfl) (fun _ _ _ h => h) (.inl ⟨by kernel_rfl, fun V hV => by have q0 := PBox.c0 hV; have q1 := PBox.c1 hV; have q2 := PBox.c2 hV; have q3 := PBox.c3 hV; have q4 := PBox.c4 hV; go_simp⟩) hHeld ?_
    try simp only [Act.put, List.setIfInBounds_toArray, List.set_cons_zero, List.set_cons_succ]
    refine take_slotC (i := 7) (d := some 18) (v := .pointer (some ⟨g, 2, none⟩)) rfl (by kernel_rfl) (by kernel_rfl) (by kernel_rfl) (by kernel_rfl) (fun _ _ _ h => h) (.inl ⟨by kernel_rfl, fun V hV => by have q0 := PBox.c0 hV; have q1 := PBox.c1 hV; have q2 := PBox.c2 hV; have q3 := PBox.c3 hV; have q4 := PBox.c4 hV; go_simp⟩) hHeld ?_
    try simp only [Act.put, List.setIfInBounds_toArray, List.set_cons_zero, List.set_cons_succ]
    refine take_slotC (i := 8) (d := some 19) (v := .int .i64 B) rfl (by kernel_rfl) (by kernel_rfl) (by kernel_rfl) (by kernel_rfl) (fun _ _ _ h => h) (.inl ⟨by kernel_rfl, fun V hV => by have q0 := PBox.c0 hV; have q1 := PBox.c1 hV; have q2 := PBox.c2 hV; have q3 := PBox.c3 hV; have q4 := PBox.c4 hV; go_simp⟩) hHeld ?_
    try simp only [Act.put, List.setIfInBounds_toArray, List.set_cons_zero, List.set_cons_succ]
    refine wpAnyH_ready (rs := [4]) (by kernel_rfl) (by simp) (AllReadyH.cons (i := 4) rfl (fun K' hK' => ?_) AllReadyH.nil)
    go_simp
    refine (impl_LevelOf B _).mono ?_
    rintro e w5 ⟨rfl, c5⟩
    have C5 := Lib.hid ((Chg.of_drew ⟨1, rfl⟩ 0 0).trans c5)
    have H5 := Lib.hid (PBox.still hHeld c5)
    clear c5
    refine hK'.out _ _ H5.out (fun hHeld => ?_)
    clear hK'
    try simp only [Act.put, List.setIfInBounds_toArray, List.set_cons_zero, List.set_cons_succ]
    refine wpAnyH_ready (rs := [9]) (by kernel_rfl) (by simp) (AllReadyH.cons (i := 9) rfl (fun K' hK' => ?_) AllReadyH.nil)
    go_simp
    refine (impl_StrainOf B _).mono ?_
    rintro e w6 ⟨rfl, c6⟩
    have C6 := Lib.hid (C5.out.trans c6)
    have H6 := Lib.hid (PBox.still hHeld c6)
    clear c6
    refine hK'.out _ _ H6.out (fun hHeld => ?_)
    clear hK'
    try simp only [Act.put, List.setIfInBounds_toArray, List.set_cons_zero, List.set_cons_succ]
    refine take_slotC (i := 10) (d := some 3) (v := .int .i64 (levV B)) rfl (by kernel_rfl) (by kernel_rfl) (by kernel_rfl) (by kernel_rfl) (fun _ _ _ h => h) (.inl ⟨by kernel_rfl, fun V hV => by have q0 := PBox.c0 hV; have q1 := PBox.c1 hV; have q2 := PBox.c2 hV; have q3 := PBox.c3 hV; have q4 := PBox.c4 hV; go_simp⟩) hHeld ?_
    try simp only [Act.put, List.setIfInBounds_toArray, List.set_cons_zero, List.set_cons_succ]
    refine take_slotC (i := 11) (d := some 4) (v := .int .i64 (strV B)) rfl (by kernel_rfl) (by kernel_rfl) (by kernel_rfl) (by kernel_rfl) (fun _ _ _ h => h) (.inl ⟨by kernel_rfl, fun V hV => by have q0 := PBox.c0 hV; have q1 := PBox.c1 hV; have q2 := PBox.c2 hV; have q3 := PBox.c3 hV; have q4 := PBox.c4 hV; go_simp⟩) hHeld ?_
    try simp only [Act.put, List.setIfInBounds_toArray, List.set_cons_zero, List.set_cons_succ]
    refine wpAnyH_done (by kernel_rfl) ?_ _
    have O6 := Lib.hid (O0.out.chg C6.out (Nat.zero_le _))
    have Z6 := Lib.hid ((C6.out.block w.heap.size (lt_of_block HZ.out) (.inr (Nat.zero_le _))).trans HZ.out)
    have C6 := Lib.hid (C0.out.trans C6.out)
    have H6d := H6.out.drew
    clear C0 HZ H0 O0 H4d q2 C5 H5 hHeld
    generalize hLL : levV B = L at hl ⊢
    generalize hSV : strV B = st at hs HST ⊢
    clear hLL hSV
    go_wp2_with fail
    refine wp_region_held_drew (S := fun V => PBox V g d (.slice A n c) B S T P) (by kernel_rfl) H6d (fun hHeld => ?_)
    refine take_slotC (i := 0) (d := some 21) (v := .int .i64 L) rfl (by kernel_rfl) (by kernel_rfl) (by kernel_rfl) (by kernel_rfl) (fun _ _ _ h => h) (.inl ⟨by kernel_rfl, fun V hV => by have q0 := PBox.c0 hV; have q1 := PBox.c1 hV; have q2 := PBox.c2 hV; have q3 := PBox.c3 hV; have q4 := PBox.c4 hV; go_simp⟩) hHeld ?_
    try simp only [Act.put, List.setIfInBounds_toArray, List.set_cons_zero, List.set_cons_succ]
    refine take_slotC (i := 1) (d := some 22) (v := .int .i64 st) rfl (by kernel_rfl) (by kernel_rfl) (by kernel_rfl) (by kernel_rfl) (fun _ _ _ h => h) (.inl ⟨by kernel_rfl, fun V hV => by have q0 := PBox.c0 hV; have q1 := PBox.c1 hV; have q2 := PBox.c2 hV; have q3 := PBox.c3 hV; have q4 := PBox.c4 hV; go_simp⟩) hHeld ?_
    try simp only [Act.put, List.setIfInBounds_toArray, List.set_cons_zero, List.set_cons_succ]
    refine take_slotC (i := 2) (d := some 23) (v := .pointer (some ⟨g, 0, none⟩)) rfl (by kernel_rfl) (by kernel_rfl) (by kernel_rfl) (by kernel_rfl) (fun _ _ _ h => h) (.inl ⟨by kernel_rfl, fun V hV => by have q0 := PBox.c0 hV; have q1 := PBox.c1 hV; have q2 := PBox.c2 hV; have q3 := PBox.c3 hV; have q4 := PBox.c4 hV; go_simp⟩) hHeld ?_
    try simp only [Act.put, List.setIfInBounds_toArray, List.set_cons_zero, List.set_cons_succ]
    refine take_slotC (i := 3) (d := some 24) (v := .pointer (some ⟨g, 0, none⟩)) rfl (by kernel_rfl) (by kernel_rfl) (by kernel_rfl) (by kernel_rfl) (fun _ _ _ h => h) (.inl ⟨by kernel_rfl, fun V hV => by have q0 := PBox.c0 hV; have q1 := PBox.c1 hV; have q2 := PBox.c2 hV; have q3 := PBox.c3 hV; have q4 := PBox.c4 hV; go_simp⟩) hHeld ?_
    try simp only [Act.put, List.setIfInBounds_toArray, List.set_cons_zero, List.set_cons_succ]
    refine take_slotC (i := 4) (d := some 25) (v := .pointer (some ⟨g, 3, none⟩)) rfl (by kernel_rfl) (by kernel_rfl) (by kernel_rfl) (by kernel_rfl) (fun _ _ _ h => h) (.inl ⟨by kernel_rfl, fun V hV => by have q0 := PBox.c0 hV; have q1 := PBox.c1 hV; have q2 := PBox.c2 hV; have q3 := PBox.c3 hV; have q4 := PBox.c4 hV; go_simp⟩) hHeld ?_
    try simp only [Act.put, List.setIfInBounds_toArray, List.set_cons_zero, List.set_cons_succ]
    refine take_slotC (i := 5) (d := some 26) (v := .pointer (some ⟨g, 4, none⟩)) rfl (by kernel_rfl) (by kernel_rfl) (by kernel_rfl) (by kernel_rfl) (fun _ _ _ h => h) (.inl ⟨by kernel_rfl, fun V hV => by have q0 := PBox.c0 hV; have q1 := PBox.c1 hV; have q2 := PBox.c2 hV; have q3 := PBox.c3 hV; have q4 := PBox.c4 hV; go_simp⟩) hHeld ?_
    try simp only [Act.put, List.setIfInBounds_toArray, List.set_cons_zero, List.set_cons_succ]
    refine take_slotC (i := 6) (d := some 27) (v := .int .i64 T) rfl (by kernel_rfl) (by kernel_rfl) (by kernel_rfl) (by kernel_rfl) (fun _ _ _ h => h) (.inl ⟨by kernel_rfl, fun V hV => by have q0 := PBox.c0 hV; have q1 := PBox.c1 hV; have q2 := PBox.c2 hV; have q3 := PBox.c3 hV; have q4 := PBox.c4 hV; go_simp⟩) hHeld ?_
    try simp only [Act.put, List.setIfInBounds_toArray, List.set_cons_zero, List.set_cons_succ]
    refine take_slotC (i := 7) (d := some 28) (v := .pointer (some ⟨g, 0, none⟩)) rfl (by kernel_rfl) (by kernel_rfl) (by kernel_rfl) (by kernel_rfl) (fun _ _ _ h => h) (.inl ⟨by kernel_rfl, fun V hV => by have q0 := PBox.c0 hV; have q1 := PBox.c1 hV; have q2 := PBox.c2 hV; have q3 := PBox.c3 hV; have q4 := PBox.c4 hV; go_simp⟩) hHeld ?_
    try simp only [Act.put, List.setIfInBounds_toArray, List.set_cons_zero, List.set_cons_succ]
    refine take_slotC (i := 8) (d := some 29) (v := .int .i64 st) rfl (by kernel_rfl) (by kernel_rfl) (by kernel_rfl) (by kernel_rfl) (fun _ _ _ h => h) (.inl ⟨by kernel_rfl, fun V hV => by have q0 := PBox.c0 hV; have q1 := PBox.c1 hV; have q2 := PBox.c2 hV; have q3 := PBox.c3 hV; have q4 := PBox.c4 hV; go_simp⟩) hHeld ?_
    try simp only [Act.put, List.setIfInBounds_toArray, List.set_cons_zero, List.set_cons_succ]
    refine wpAnyH_ready (rs := [9]) (by kernel_rfl) (by simp) (AllReadyH.cons (i := 9) rfl (fun K' hK' => ?_) AllReadyH.nil)
    go_simp
    refine (firstToBid7 g d A n c B S T st P cs _ hHeld (OwnV.chg O6.out (Chg.of_drew ⟨1, rfl⟩ 0 0) (Nat.zero_le _)) hn hd hb HSS.out HST.out).mono ?_
    rw [← HD.out]
    rintro e w8 ⟨rfl, c8⟩
    have C8 := Lib.hid (C6.out.trans ((Chg.of_drew ⟨1, rfl⟩ 0 0).trans c8))
    have H8 := Lib.hid (PBox.still hHeld c8)
    have Z8 := Lib.hid ((c8.block w.heap.size (by show w.heap.size < w6.heap.size; exact lt_of_block Z6.out) (.inr (Nat.zero_le _))).trans Z6.out)
    clear c8
    refine hK'.out _ _ H8.out (fun hHeld => ?_)
    clear hK'
    try simp only [Act.put, List.setIfInBounds_toArray, List.set_cons_zero, List.set_cons_succ]
    refine take_slotC (i := 10) (d := some 31) (v := .agg #[.int .i64 L, .int .i64 st, .int .i64 T, .int .i64 D]) rfl (by kernel_rfl) (by kernel_rfl) (by kernel_rfl) (by kernel_rfl) (fun _ _ _ h => h) (.inl ⟨by kernel_rfl, fun V hV => by have q0 := PBox.c0 hV; have q1 := PBox.c1 hV; have q2 := PBox.c2 hV; have q3 := PBox.c3 hV; have q4 := PBox.c4 hV; go_simp⟩) hHeld ?_
    try simp only [Act.put, List.setIfInBounds_toArray, List.set_cons_zero, List.set_cons_succ]
    have ZS := Lib.hid (setRow_heap w8 w.heap.size _ (conA L st T D) _ _ Z8.out)
    have KS := Lib.hid (C8.out.rowC (Nat.le_refl _) (conA L st T D))
    refine wpAnyH_ready (rs := [11]) (by kernel_rfl) (by simp) (AllReadyH.cons (i := 11) rfl (fun K' hK' => ?_) AllReadyH.nil)
    refine step_of_wp7 rfl (wp_store_row 36 _ _ rfl w.heap.size (conA L st T D) rfl rfl 36 (conA 0 0 0 0) Z8.out (con_info _ _ _ _) rfl (con_cells _ _ _ _) ?_)
    refine hK'.out _ _ (far_row hHeld (conA L st T D) (by omega)) (fun hHeld => ?_)
    clear hK'
    refine wpAnyH_done (by kernel_rfl) ?_ _
    go_wp2_with fail
    refine bodyPost_ret (v := .agg (conA L st T D)) (results_cell_row Try.results53 _ _ w.heap.size 36 (conA L st T D) (0, 0) _ rfl ZS.out Try.underlying36 rfl (con_info _ _ _ _)) rfl ?_
    rw [hl.out, hs.out, hx.out]
    exact ⟨rfl, KS.out⟩

set_option maxHeartbeats 3200000 in
/-- The program's ContractOf. -/
theorem impl_ContractOf : ConF 23 := fun d A n c zs w h hn hcap => by
  have e1 : (w.alloc (.cells #[.int .i64 d, .slice A n c] 26)).heap.size = w.heap.size + 1 := by simp
  have B0 : Hid (ABox ((w.alloc (.cells #[.int .i64 d, .slice A n c] 26)).alloc (.cells #[.int .i64 0, .int .i64 0, .int .i64 0, .int .i64 0] 36)) w.heap.size d A n c) := (ABox.new w d A n c).still (Chg.of_alloc (w.alloc (.cells #[.int .i64 d, .slice A n c] 26)) (.cells (conA 0 0 0 0) 36) 0 0)
  have C0 : Hid (Chg w ((w.alloc (.cells #[.int .i64 d, .slice A n c] 26)).alloc (.cells #[.int .i64 0, .int .i64 0, .int .i64 0, .int .i64 0] 36)) 0 0) := (Chg.of_alloc w (.cells #[.int .i64 d, .slice A n c] 26) 0 0).trans (Chg.of_alloc (w.alloc (.cells #[.int .i64 d, .slice A n c] 26)) (.cells (conA 0 0 0 0) 36) 0 0)
  have Z0 := heap_alloc_new (w.alloc (.cells #[.int .i64 d, .slice A n c] 26)) (.cells (conA 0 0 0 0) 36)
  rw [e1] at Z0
  have HZ : Hid (((w.alloc (.cells #[.int .i64 d, .slice A n c] 26)).alloc (.cells #[.int .i64 0, .int .i64 0, .int .i64 0, .int .i64 0] 36)).heap[w.heap.size + 1]? = some (.cells (conA 0 0 0 0) 36 (0, 0))) := Z0
  have H := Lib.hid (h.still C0.out)
  have sz := Lib.hid (show ((w.alloc (.cells #[.int .i64 d, .slice A n c] 26)).alloc (.cells #[.int .i64 0, .int .i64 0, .int .i64 0, .int .i64 0] 36)).heap.size = w.heap.size + 2 by simp)
  have hgs := Lib.hid (show conB d zs n = if !(inB d 0 3 && validTo zs n) then 1 else if !overTo zs n then 5 else 0 from rfl)
  have HF := Lib.hid (show ∀ k : Int, k ≠ 0 → conB d zs n = k → conZ d zs n = conA 0 0 0 0 from fun k hk e => by unfold conZ; rw [e, if_neg hk])
  have HF0 := Lib.hid (show conB d zs n = 0 → conZ d zs n = conA (conL zs n) (conS zs n) (conX zs n) (conD d zs n) from fun e => by unfold conZ; rw [if_pos e])
  clear h e1 Z0
  go_enter Try.func23, Try.ntmps23
  go_wp2_with (refine wpList_load_row rfl 26 _ rfl w.heap.size rfl 26 #[.int .i64 d, .slice A n c] (0, 0) _ B0.out Try.underlying26 rfl (auc_info d A n c) ?_)
  generalize (w.alloc (.cells #[.int .i64 d, .slice A n c] 26)).alloc (.cells #[.int .i64 0, .int .i64 0, .int .i64 0, .int .i64 0] 36) = W at B0 C0 HZ H sz ⊢
  refine (biddingOf7 d A n c zs _ H.out hn hcap).mono ?_
  rintro e w1 ⟨g, rfl, hg, hg1, hb, hst⟩
  have Z1 := Lib.hid ((hb.block (w.heap.size + 1) (by have := sz.out; omega)).trans HZ.out)
  have C1 := Lib.hid (C0.out.trans (Chg.of_below hb 0 0))
  have HST := Lib.hid hst
  clear hb B0 HZ H C0 sz hst hg
  cases hv : inB d 0 3 && validTo zs n
  · have hk : Hid (conB d zs n = 1) := by show conB d zs n = 1; rw [hgs.out, hv]; rfl
    have ZS := Lib.hid (setRow_heap w1 (w.heap.size + 1) _ (conA 0 0 0 0) _ _ Z1.out)
    have KS := Lib.hid (C1.out.rowC (show w.heap.size ≤ w.heap.size + 1 by omega) (conA 0 0 0 0))
    go_wp2_with (refine wpList_store_row rfl 36 _ _ rfl (w.heap.size + 1) (conA 0 0 0 0) rfl rfl 36 (conA 0 0 0 0) Z1.out (con_info 0 0 0 0) rfl (con_cells 0 0 0 0) ?_)
    refine bodyPost_ret (v := .tuple #[.agg (conA 0 0 0 0), .int .i64 1]) (results_row_tmp Try.results23 _ _ (w.heap.size + 1) 36 (conA 0 0 0 0) (0, 0) _ _ rfl rfl ZS.out Try.underlying36 rfl (con_info 0 0 0 0)) rfl ?_
    rw [HF.out 1 (by omega) hk.out, hk.out]
    exact ⟨rfl, KS.out⟩
  · obtain ⟨hd, hv2⟩ := valid_of hv
    have hs := HST.out hv
    clear HST
    go_wp2_with fail
    refine (endedSt g d zs n _ hs hv2).mono ?_
    rintro e w' ⟨rfl, rfl⟩
    cases ho : overTo zs n
    · have hk : Hid (conB d zs n = 5) := by show conB d zs n = 5; rw [hgs.out, hv, ho]; rfl
      have ZS := Lib.hid (setRow_heap w1 (w.heap.size + 1) _ (conA 0 0 0 0) _ _ Z1.out)
      have KS := Lib.hid (C1.out.rowC (show w.heap.size ≤ w.heap.size + 1 by omega) (conA 0 0 0 0))
      go_wp2_with (refine wpList_store_row rfl 36 _ _ rfl (w.heap.size + 1) (conA 0 0 0 0) rfl rfl 36 (conA 0 0 0 0) Z1.out (con_info 0 0 0 0) rfl (con_cells 0 0 0 0) ?_)
      refine bodyPost_ret (v := .tuple #[.agg (conA 0 0 0 0), .int .i64 5]) (results_row_tmp Try.results23 _ _ (w.heap.size + 1) 36 (conA 0 0 0 0) (0, 0) _ _ rfl rfl ZS.out Try.underlying36 rfl (con_info 0 0 0 0)) rfl ?_
      rw [HF.out 5 (by omega) hk.out, hk.out]
      exact ⟨rfl, KS.out⟩
    · have hk : Hid (conB d zs n = 0) := by show conB d zs n = 0; rw [hgs.out, hv, ho]; rfl
      obtain ⟨R, hR⟩ : ∃ R, R = conZ d zs n := ⟨_, rfl⟩
      have HR := Lib.hid (hR.trans (HF0.out hk.out))
      have HRi := Lib.hid (show (Try.prog.info? 36).map (·.size) = some R.size by rw [HR.out]; exact con_info _ _ _ _)
      have HRz := Lib.hid (show R.size = 4 by rw [HR.out]; rfl)
      have HRc := Lib.hid (show R.all (·.oneCell') = true by rw [HR.out]; exact con_cells _ _ _ _)
      have HRR := Lib.hid hR
      clear hR hv ho
      go_wp2_with fail
      refine (contract7 g d zs n _ hs hn hd).mono ?_
      rw [← HR.out]
      rintro e w2 ⟨rfl, c2⟩
      have Z2 := Lib.hid ((c2.block (w.heap.size + 1) (lt_of_block Z1.out) (.inr (Nat.zero_le _))).trans Z1.out)
      have ZS := Lib.hid (setRow_heap w2 (w.heap.size + 1) _ R _ _ Z2.out)
      have KS := Lib.hid ((C1.out.trans c2).rowC (show w.heap.size ≤ w.heap.size + 1 by omega) R)
      clear c2
      go_wp2_with (refine wpList_store_row rfl 36 _ _ rfl (w.heap.size + 1) R rfl rfl 36 (conA 0 0 0 0) Z2.out HRi.out (by rw [HRz.out]; rfl) HRc.out ?_)
      refine bodyPost_ret (v := .tuple #[.agg R, .int .i64 0]) (results_row_tmp Try.results23 _ _ (w.heap.size + 1) 36 R (0, 0) _ _ rfl rfl ZS.out Try.underlying36 rfl HRi.out) rfl ?_
      rw [← HRR.out, hk.out]
      exact ⟨rfl, KS.out⟩

theorem bid_in (l s : Int) : inB (bidV l s) 3 37 = (inB l 1 7 && inB s 0 4) := by
  by_cases h : (1 ≤ l ∧ l ≤ 7) ∧ 0 ≤ s ∧ s ≤ 4
  · rw [bidV_yes h, inB_true h.1, inB_true h.2, inB_true (by omega)]; rfl
  · rw [bidV_no h, inB_false (by omega)]
    by_cases h1 : 1 ≤ l ∧ l ≤ 7
    · rw [inB_true h1, inB_false (fun q => h ⟨h1, q⟩)]; rfl
    · rw [inB_false h1]; rfl
set_option maxHeartbeats 3200000 in
/-- The program's IsContract. -/
theorem impl_IsContract : IsConF 25 := fun l s x d w => by
  have hce : ∀ V : World, (binOp .eql 36 (.agg #[.int .i64 l, .int .i64 s, .int .i64 x, .int .i64 d]) (.agg #[.int .i64 0, .int .i64 0, .int .i64 0, .int .i64 0])).run Try.prog V = .ok (.bool (l == 0 && s == 0 && x == 0 && d == 0)) V := con_eq l s x d
  have C0 : Hid (Chg w (w.alloc (.cells #[.int .i64 l, .int .i64 s, .int .i64 x, .int .i64 d] 36)) 0 0) := Chg.of_alloc w (.cells (conA l s x d) 36) 0 0
  have hbx : Hid ((w.alloc (.cells #[.int .i64 l, .int .i64 s, .int .i64 x, .int .i64 d] 36)).heap[w.heap.size]? = some (.cells #[.int .i64 l, .int .i64 s, .int .i64 x, .int .i64 d] 36 (0, 0))) := heap_alloc_new w _
  have HV : Hid (isConV l s x d = ((l == 0 && s == 0 && x == 0 && d == 0) || (inB (bidV l s) 3 37 && inB x 0 2 && inB d 0 3))) := by show _ = _; unfold isConV; rw [bid_in]
  obtain ⟨V, hVV⟩ : ∃ V, V = isConV l s x d := ⟨_, rfl⟩
  rw [← hVV] at HV ⊢
  clear hVV
  generalize hz : (l == 0 && s == 0 && x == 0 && d == 0) = z at hce HV
  clear hz
  go_enter Try.func25, Try.ntmps25
  cases z
  rotate_left
  · have hr : Hid (V = true) := by show V = true; rw [HV.out]; rfl
    go_wp2_with (refine wpList_load_row rfl 36 _ rfl w.heap.size rfl 36 #[.int .i64 l, .int .i64 s, .int .i64 x, .int .i64 d] (0, 0) _ hbx.out Try.underlying36 rfl (con_info l s x d) ?_)
    go_ret
    exact ⟨ret_bool hr.out.symm, C0.out⟩
  · have hr : Hid (V = (inB (bidV l s) 3 37 && inB x 0 2 && inB d 0 3)) := by show V = _; rw [HV.out]; rfl
    clear HV
    go_wp2_with (refine wpList_load_row rfl 36 _ rfl w.heap.size rfl 36 #[.int .i64 l, .int .i64 s, .int .i64 x, .int .i64 d] (0, 0) _ hbx.out Try.underlying36 rfl (con_info l s x d) ?_)
    generalize w.alloc (.cells #[.int .i64 l, .int .i64 s, .int .i64 x, .int .i64 d] 36) = W at C0 hbx ⊢
    refine (impl_BidOf l s _).mono ?_
    rintro e w1 ⟨rfl, c1⟩
    have hb1 := (c1.block w.heap.size (lt_of_block hbx.out) (.inr (Nat.zero_le _))).trans hbx.out
    have C1 := Lib.hid (C0.out.trans c1)
    have q2 : w1.cell? ⟨w.heap.size, 2, none⟩ = some (.int .i64 x) := by rw [cell_of_row _ _ 2 _ _ _ hb1]; rfl
    have q3 : w1.cell? ⟨w.heap.size, 3, none⟩ = some (.int .i64 d) := by rw [cell_of_row _ _ 3 _ _ _ hb1]; rfl
    clear c1 hb1 hbx C0 hce
    generalize bidV l s = b at hr ⊢
    cases hb : inB b 3 37
    · have hr : Hid (V = false) := by show V = false; rw [hr.out, hb]; rfl
      go_wp2_with (go_at_call 54; refine (isBid _ _).mono ?_; rw [hb]; rintro e w' ⟨rfl, rfl⟩)
      go_ret
      exact ⟨ret_bool hr.out.symm, C1.out⟩
    · have hr : Hid (V = (inB x 0 2 && inB d 0 3)) := by show V = _; rw [hr.out, hb]; rfl
      by_cases x0 : 0 ≤ x
      · by_cases x2 : x ≤ 2
        · have hr : Hid (V = inB d 0 3) := by show V = _; rw [hr.out, inB_true ⟨x0, x2⟩]; rfl
          go_wp2_with (first | (go_at_call 54; refine (isBid _ _).mono ?_; rw [hb]; rintro e w' ⟨rfl, rfl⟩) | (go_at_call 55; refine (isSeat7 _ _).mono ?_; rintro e w' ⟨rfl, rfl⟩))
          go_ret
          exact ⟨ret_bool hr.out.symm, C1.out⟩
        · have hr : Hid (V = false) := by show V = _; rw [hr.out, inB_false (fun q => x2 q.2)]; rfl
          go_wp2_with (go_at_call 54; refine (isBid _ _).mono ?_; rw [hb]; rintro e w' ⟨rfl, rfl⟩)
          go_ret
          exact ⟨ret_bool hr.out.symm, C1.out⟩
      · have hr : Hid (V = false) := by show V = _; rw [hr.out, inB_false (fun q => x0 q.1)]; rfl
        go_wp2_with (go_at_call 54; refine (isBid _ _).mono ?_; rw [hb]; rintro e w' ⟨rfl, rfl⟩)
        go_ret
        exact ⟨ret_bool hr.out.symm, C1.out⟩
end Go.Proofs.Ytnkbcmkngghnoaa.Lib1
