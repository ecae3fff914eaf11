/- Chapter 5: the program's EquivalentCards. -/
import Derived.Test.YtacdhkhkifoeaaaGrpT5
namespace Go.Proofs.Ytacdhkhkifoeaaa.Lib1
open Go.RowKit
set_option maxRecDepth 100000

theorem first_has (x : Int) : ∀ rs : List (List Int), x ∈ rs.flatten → ∃ j, j < rs.length ∧ hasB (rs.getD j []) x = true ∧ ∀ i, i < j → hasB (rs.getD i []) x = false
  | [], h => by simp at h
  | r :: rs, h => by
    cases hr : hasB r x with
    | true => exact ⟨0, by simp, hr, fun i hi => absurd hi (by omega)⟩
    | false =>
      have hn := (hasB_niff r x).1 hr
      have : x ∈ rs.flatten := by
        rw [List.flatten_cons, List.mem_append] at h
        exact h.resolve_left hn
      obtain ⟨j, h1, h2, h3⟩ := first_has x rs this
      refine ⟨j + 1, by simp; omega, h2, fun i hi => ?_⟩
      cases i with
      | zero => exact hr
      | succ i => exact h3 i (by omega)
/-- The closure that EquivalentCards hands over. -/
theorem hasCard (A : Option Addr) (n c q : Nat) (x : Int) (zs : List Int) (lo hi : Nat) (w : World) (h : Rd w lo hi A n zs) (hn : n ≤ 1048576) (hq : w.cell? ⟨q, 0, none⟩ = some (.int .i64 x)) :
    Calls Try.prog 74 #[.slice A n c, .pointer (some ⟨q, 0, none⟩)] w fun e w' => e = .returned (.bool (hasB zs x)) ∧ w = w' := by
  go_enter Try.func74, Try.ntmps74
  go_wp2_with fail
  refine (Contains64 A n c x zs lo hi _ h hn).mono ?_
  rintro e w' ⟨rfl, rfl⟩
  go_wp2_with fail
  go_ret
  exact ⟨rfl, rfl⟩
set_option maxHeartbeats 1000000 in
theorem indexHas (A : Option Addr) (n c q : Nat) (x : Int) (zss : List (List Int)) (lo hi : Nat) (w : World) (h : RdR w lo hi A n zss) (hn : n ≤ 1048576) (hl : ∀ j, j < n → (zss.getD j []).length ≤ 1048576) (hq : w.cell? ⟨q, 0, none⟩ = some (.int .i64 x))
    (j : Nat) (hj : j < n) (hh : hasB (zss.getD j []) x = true) (hno : ∀ i, i < j → hasB (zss.getD i []) x = false) :
    Calls Try.prog 76 #[.slice A n c, .func (.func 74) #[] #[.pointer (some ⟨q, 0, none⟩)]] w fun e w' => e = .returned (.int .i64 (j : Int)) ∧ w = w' := by
  have HH := Lib.hid hh
  have HNO := Lib.hid hno
  have HQ := Lib.hid hq
  clear hh hno hq
  go_enter Try.func76, Try.ntmps76
  go_wp2
  go_loop [8] (fun i => ∃ k : Nat, k ≤ j ∧ i = .int .i64 k) (fun i => j - (intOf i).toNat)
  case atStart => exact ⟨0, Nat.zero_le _, rfl⟩
  case round =>
    obtain ⟨k, hk, rfl⟩ := hrel
    have hkl : (k : Int) < (n : Int) := by omega
    obtain ⟨b, off, B, C, rfl, _, _, hcell, hrd, _, _⟩ := h.at_ (show k < n by omega)
    have hle := hl k (by omega)
    by_cases hlt : k < j
    · have H1 := Lib.hid (HNO.out k hlt)
      generalize zss.getD k [] = row at hcell hrd hle H1
      go_wp2_with fail
      refine (hasCard B row.length C q x row _ _ _ hrd hle HQ.out).mono ?_
      rintro e w' ⟨rfl, rfl⟩
      rw [H1.out]
      go_wp2_with fail
      go_round
      case rel => exact ⟨k + 1, by omega, by go_num⟩
      case measure => simp [intOf]; omega
    · obtain rfl : k = j := by omega
      generalize zss.getD k [] = row at hcell hrd hle HH
      go_wp2_with fail
      refine (hasCard B row.length C q x row _ _ _ hrd hle HQ.out).mono ?_
      rintro e w' ⟨rfl, rfl⟩
      rw [HH.out]
      go_wp2_with fail
      go_ret
      exact ⟨rfl, rfl⟩

set_option maxHeartbeats 2000000 in
theorem impl_EquivalentCards (A : Option Addr) (n c : Nat) (x : Int) (zss : List (List Int)) (lo hi : Nat) (w : World) (h : RdR w lo hi A n zss) :
    Calls Try.prog 27 #[.agg #[.slice A n c], .int .i64 x] w (RetSI w (eqcV zss x) (eqcE zss x)) := by
  have hz0 : (w.alloc (.cells #[.slice A n c] 26)).heap.size = w.heap.size + 1 := by simp
  have ca := Lib.hid ((Chg.of_alloc w (.cells #[.slice A n c] 26) 0 0).trans (Chg.of_alloc (w.alloc (.cells #[.slice A n c] 26)) (.cells #[.int .i64 x] 2) 0 0))
  have hbx := Lib.hid (box_still (box_at w (.slice A n c) 26) (Chg.of_alloc (w.alloc (.cells #[.slice A n c] 26)) (.cells #[.int .i64 x] 2) 0 0))
  have hby := Lib.hid (box_at (w.alloc (.cells #[.slice A n c] 26)) (.int .i64 x) 2)
  rw [hz0] at hby
  clear hz0
  have hb0 := hbx.out
  cases hd : dealB zss with
  | false =>
    have hv : Hid (eqcV zss x = []) := by show _ = _; simp [eqcV, hd]
    have he : Hid (eqcE zss x = 1) := by show _ = _; simp [eqcE, hd]
    have HD := Lib.hid hd
    go_enter Try.func27, Try.ntmps27
    go_wp2_with fail
    refine (isDeal A n c zss lo hi _ (h.still ca.out)).mono ?_
    rintro e w1 ⟨rfl, c1⟩
    rw [HD.out]
    go_wp2_with fail
    go_ret2
    exact RetSI.of_eq hv.out he.out ⟨none, 0, rfl, Nat.le_refl _, .inl ⟨rfl, rfl⟩, Own.none_, ca.out.trans c1⟩
  | true =>
    have HD := Lib.hid hd
    by_cases hp : 0 ≤ holderF zss x
    · obtain ⟨s, hs, hse, hmem⟩ := holder_mem hp
      obtain ⟨hz4, hrows, hnd⟩ := (deal_iff zss).1 hd
      have hfl := runs_hand hd (s := s) (by omega)
      obtain ⟨j, hj, hh, hno⟩ := first_has x (runsTo (holderF zss) (s : Int) 4) (by rw [hfl]; exact hmem)
      have hjr : (runsTo (holderF zss) (s : Int) 4).getD j [] ∈ runsTo (holderF zss) (s : Int) 4 := by rw [getD_row hj]; exact List.getElem_mem _
      obtain ⟨q, _, hq⟩ := mem_runsTo hjr
      have hgrp := run_grp (holderF zss) (s := (s : Int)) (by omega) q hq ((hasB_iff _ _).1 hh)
      have hv : Hid (eqcV zss x = (runsTo (holderF zss) (s : Int) 4).getD j []) := by show _ = _; rw [← hgrp]; simp [eqcV, hd, hp]
      have he : Hid (eqcE zss x = 0) := by show _ = _; simp [eqcE, hd, hp]
      have hw : Hid (holderV zss x = (s : Int)) := by show _ = _; simp [holderV, hd, hse]
      have hcnt := runsTo_count (holderF zss) (s : Int) 4
      have HRL : Hid (∀ i, ((runsTo (holderF zss) (s : Int) 4).getD i []).length ≤ 13) := getD_len fun r hr => runsTo_row hr
      have HH := Lib.hid hh
      have HNO := Lib.hid hno
      have hjl : (j : Int) < ((runsTo (holderF zss) (s : Int) 4).length : Int) := by omega
      have hsn : ((s : Int) == -1) = false := by simp
      clear hd hp hse hmem hs hz4 hrows hnd hfl hjr hq hgrp hh hno
      go_enter Try.func27, Try.ntmps27
      go_wp2_with fail
      refine (isDeal A n c zss lo hi _ (h.still ca.out)).mono ?_
      rintro e w1 ⟨rfl, c1⟩
      rw [HD.out]
      have hb1 := box_still hbx.out c1
      have hy1 := box_still hby.out c1
      go_wp2_with fail
      refine (holderOf A n c x zss lo hi _ (h.still (ca.out.trans c1))).mono ?_
      rintro e w2 ⟨rfl, c2⟩
      rw [hw.out]
      have hb2 := box_still hb1 c2
      have hy2 := Lib.hid (box_still hy1 c2)
      have k2 := Lib.hid ((ca.out.trans c1).trans c2)
      clear hb1 hy1 c1 c2
      go_wp2_with fail
      refine (holdersOf A n c zss lo hi _ (h.still k2.out) HD.out).mono ?_
      rintro e w3 ⟨rfl, c3⟩
      go_wp2_with fail
      refine (groupsOf (holderF zss) (s : Int) _ (by omega) (holder_cases zss)).mono ?_
      rintro e w4 ⟨v, rfl, o4, b4⟩
      have c34 := Lib.hid (c3.trans (Chg.of_below b4 0 0))
      have hy4 := Lib.hid (box_still hy2.out c34.out)
      have k4 := Lib.hid (k2.out.trans c34.out)
      have hz3 := Lib.hid (Nat.le_trans k2.out.size c3.size)
      generalize runsTo (holderF zss) (s : Int) 4 = gs at o4 hv hcnt HRL HH HNO hj hjl
      obtain ⟨A4, c4, rfl, hc4, own4⟩ := o4.own
      have KR := Lib.hid own4.rd
      obtain ⟨b, off, B, C, rfl, _, _, hcell, _, _, _⟩ := own4.rd.at_ hj
      obtain ⟨_, BB, CC, h1, h2, _⟩ := own4
      obtain ⟨b', cs, e', _, _, hbl, hcs, _⟩ := h1 (by omega)
      have hBC : BB j = B ∧ CC j = C := by
        injection e' with e'
        injection e' with e1 e2 _
        subst e1; subst e2
        rw [cell_of_row _ _ _ _ _ _ hbl, Nat.zero_add, hcs j hj] at hcell
        injection hcell with hcell
        injection hcell with h1 h2 h3
        exact ⟨h1, h3⟩
      obtain ⟨hown, hlc, hpl⟩ := h2 j hj
      rw [hBC.1, hBC.2] at hpl
      rw [hBC.1] at hown
      rw [hBC.2] at hlc
      have HO := Lib.hid hown
      obtain ⟨row, hrow⟩ : ∃ row, gs.getD j [] = row := ⟨_, rfl⟩
      rw [hrow] at hcell HO hlc hv
      clear hrow
      clear hBC hown hbl hcs h1 h2 o4 b4 c3 hb2 hb0 e'
      go_wp2_with fail
      refine (indexHas _ gs.length c4 (w.heap.size + 1) x gs _ _ _ KR.out (by omega) (fun i _ => by have := HRL.out i; omega) hy4.out j hj HH.out HNO.out).mono ?_
      rintro e w' ⟨rfl, rfl⟩
      go_wp2_with fail
      go_ret2
      exact RetSI.of_eq hv.out he.out ⟨B, C, rfl, hlc, hpl, HO.out.more hz3.out (Nat.le_refl _), k4.out⟩
    · have hv : Hid (eqcV zss x = []) := by show _ = _; simp [eqcV, hp]
      have he : Hid (eqcE zss x = 4) := by show _ = _; simp [eqcE, hd, hp]
      have hw : Hid (holderV zss x = -1) := by show _ = _; simp [holderV, hd, holder_not hp]
      clear hd hp
      go_enter Try.func27, Try.ntmps27
      go_wp2_with fail
      refine (isDeal A n c zss lo hi _ (h.still ca.out)).mono ?_
      rintro e w1 ⟨rfl, c1⟩
      rw [HD.out]
      have hb1 := box_still hbx.out c1
      have hy1 := box_still hby.out c1
      go_wp2_with fail
      refine (holderOf A n c x zss lo hi _ (h.still (ca.out.trans c1))).mono ?_
      rintro e w2 ⟨rfl, c2⟩
      rw [hw.out]
      go_wp2_with fail
      go_ret2
      exact RetSI.of_eq hv.out he.out ⟨none, 0, rfl, Nat.le_refl _, .inl ⟨rfl, rfl⟩, Own.none_, (ca.out.trans c1).trans c2⟩

end Go.Proofs.Ytacdhkhkifoeaaa.Lib1
