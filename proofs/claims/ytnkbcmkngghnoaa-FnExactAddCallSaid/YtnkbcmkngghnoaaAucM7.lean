/- Chapter 7: the model's standing bid, end and legal calls. -/
import Derived.Test.YtnkbcmkngghnoaaAuc7
import Derived.Deep.RegionHeld3
namespace Go.Proofs.Ytnkbcmkngghnoaa.Lib1
open Go.RowKit
set_option maxRecDepth 100000

/-- The slice with address A and length n reads as the first n of zs. -/
def Rp (w : World) (A : Option Addr) (n : Nat) (zs : List Int) : Prop :=
  0 < n → ∃ b off, A = some ⟨b, off, none⟩ ∧ ∀ j, j < n → w.cell? ⟨b, off + j, none⟩ = some (.int .i64 (zs.getD j 0))
theorem Rp.still {w w' : World} {A : Option Addr} {n : Nat} {zs : List Int} (h : Rp w A n zs) (c : Chg w w' 0 0) : Rp w' A n zs := fun hn => by
  obtain ⟨b, off, e, hc⟩ := h hn
  exact ⟨b, off, e, fun j hj => by rw [World.cell?_of_block (c.block b (lt_of_cell (hc j hj)) (.inr (Nat.zero_le _)))]; exact hc j hj⟩
theorem Rp.of_rd {w : World} {lo hi n : Nat} {A : Option Addr} {zs : List Int} (h : Rd w lo hi A n zs) : Rp w A n zs := fun hn => by
  obtain ⟨b, off, e, _, _, hc⟩ := h.2 hn
  exact ⟨b, off, e, hc⟩
theorem Rp.less {w : World} {A : Option Addr} {n k : Nat} {zs : List Int} (h : Rp w A n zs) (hk : k ≤ n) : Rp w A k zs := fun h0 => by
  obtain ⟨b, off, e, hc⟩ := h (by omega)
  exact ⟨b, off, e, fun j hj => hc j (by omega)⟩

theorem ret_triple {a b c a' b' c' : Int} (h1 : a = a') (h2 : b = b') (h3 : c = c') : Ending.returned (.tuple #[.int .i64 a, .int .i64 b, .int .i64 c]) = .returned (.tuple #[.int .i64 a', .int .i64 b', .int .i64 c']) := by rw [h1, h2, h3]
theorem bidTo_yes {cs : List Int} {k : Nat} (h : 3 ≤ cs.getD k 0 ∧ cs.getD k 0 ≤ 37) : bidTo cs (k + 1) = cs.getD k 0 ∧ stTo cs (k + 1) = 0 ∧ atTo cs (k + 1) = (k : Int) := by simp only [bidTo, stTo, atTo, inB_true h, if_true]; simp
theorem bidTo_not {cs : List Int} {k : Nat} (h : ¬ (3 ≤ cs.getD k 0 ∧ cs.getD k 0 ≤ 37)) : bidTo cs (k + 1) = bidTo cs k ∧ atTo cs (k + 1) = atTo cs k ∧ stTo cs (k + 1) = if cs.getD k 0 = 1 then 1 else if cs.getD k 0 = 2 then 2 else stTo cs k := by
  simp only [bidTo, stTo, atTo, inB_false h, Bool.false_eq_true, if_false]; simp
set_option maxHeartbeats 1600000 in
theorem l07Standing (A : Option Addr) (n c : Nat) (zs : List Int) (w : World) (h : Rp w A n zs) (hn : n ≤ 1048576) :
    Calls Try.prog 72 #[.slice A n c] w fun e w' => e = .returned (.tuple #[.int .i64 (bidTo zs n), .int .i64 (stTo zs n), .int .i64 (atTo zs n)]) ∧ w = w' := by
  go_enter Try.func72, Try.ntmps72
  go_wp2
  go_loop [5, 6, 7, 8] (fun b s a i => ∃ k : Nat, k ≤ n ∧ i = .int .i64 k ∧ b = .int .i64 (bidTo zs k) ∧ s = .int .i64 (stTo zs k) ∧ a = .int .i64 (atTo zs k)) (fun _ _ _ i => n - (intOf i).toNat)
  case atStart => exact ⟨0, Nat.zero_le _, rfl, rfl, rfl, rfl⟩
  case round =>
    obtain ⟨k, hk, rfl, rfl, rfl, rfl⟩ := hrel
    by_cases hlt : k < n
    · obtain ⟨b, off, rfl, hc⟩ := h (by omega)
      have hck := hc k hlt
      have hkl : (k : Int) < (n : Int) := by omega
      by_cases hb : 3 ≤ zs.getD k 0 ∧ zs.getD k 0 ≤ 37
      · have bz := inB_true hb
        have hs := Lib.hid (bidTo_yes hb)
        generalize zs.getD k 0 = z at hck bz hs
        generalize bidTo zs k = B0
        generalize stTo zs k = S0
        generalize atTo zs k = A0
        clear hb hc
        go_wp2_with (go_at_call 56; refine (l06Bid _ _).mono ?_; rintro e w' ⟨rfl, rfl⟩)
        go_round
        case rel => exact ⟨k + 1, by omega, by go_num, by rw [hs.out.1], by rw [hs.out.2.1], by rw [hs.out.2.2]⟩
        case measure => simp [intOf]; omega
      · have bz := inB_false hb
        have hs := Lib.hid (bidTo_not hb)
        generalize zs.getD k 0 = z at hck bz hs
        generalize bidTo zs k = B0 at hs
        generalize stTo zs k = S0 at hs
        generalize atTo zs k = A0 at hs
        clear hb hc
        by_cases h1 : z = 1
        · subst h1
          go_wp2_with (go_at_call 56; refine (l06Bid _ _).mono ?_; rintro e w' ⟨rfl, rfl⟩)
          go_round
          case rel => exact ⟨k + 1, by omega, by go_num, by rw [hs.out.1], by rw [hs.out.2.2]; rfl, by rw [hs.out.2.1]⟩
          case measure => simp [intOf]; omega
        have q1 : (z == 1) = false := by simpa using h1
        by_cases h2 : z = 2
        · subst h2
          go_wp2_with (go_at_call 56; refine (l06Bid _ _).mono ?_; rintro e w' ⟨rfl, rfl⟩)
          go_round
          case rel => exact ⟨k + 1, by omega, by go_num, by rw [hs.out.1], by rw [hs.out.2.2]; rfl, by rw [hs.out.2.1]⟩
          case measure => simp [intOf]; omega
        have q2 : (z == 2) = false := by simpa using h2
        have hs3 := Lib.hid (show stTo zs (k + 1) = S0 by rw [hs.out.2.2, if_neg h1, if_neg h2])
        clear h1 h2
        go_wp2_with (go_at_call 56; refine (l06Bid _ _).mono ?_; rintro e w' ⟨rfl, rfl⟩)
        go_round
        case rel => exact ⟨k + 1, by omega, by go_num, by rw [hs.out.1], by rw [hs3.out], by rw [hs.out.2.1]⟩
        case measure => simp [intOf]; omega
    · obtain rfl : k = n := by omega
      obtain ⟨B0, hB⟩ : ∃ z, z = bidTo zs k := ⟨_, rfl⟩
      obtain ⟨S0, hS⟩ : ∃ z, z = stTo zs k := ⟨_, rfl⟩
      obtain ⟨A0, hA⟩ : ∃ z, z = atTo zs k := ⟨_, rfl⟩
      rw [← hB, ← hS, ← hA]
      have HB := Lib.hid hB
      have HS := Lib.hid hS
      have HA := Lib.hid hA
      clear hB hS hA
      go_wp2
      go_ret3
      exact ⟨ret_triple HB.out HS.out HA.out, rfl⟩

theorem pass_is {cs : List Int} : ∀ {n k : Nat}, k ≤ n → (∀ j, n ≤ j + k → j < n → cs.getD j 0 = 0) → (k = n ∨ cs.getD (n - 1 - k) 0 ≠ 0) → passTo cs n = k
  | 0, k, hk, _, _ => by
    obtain rfl : k = 0 := Nat.le_zero.1 hk
    rfl
  | n + 1, 0, _, _, h => by
    rcases h with h | h
    · omega
    · simp only [Nat.add_sub_cancel, Nat.sub_zero] at h
      rw [passTo, if_neg h]
  | n + 1, k + 1, hk, hz, h => by
    rw [passTo, if_pos (hz n (by omega) (by omega)), pass_is (n := n) (k := k) (by omega) (fun j h1 h2 => hz j (by omega) (by omega)) (by
      rcases h with h | h
      · exact .inl (by omega)
      · exact .inr (by rwa [show n + 1 - 1 - (k + 1) = n - 1 - k by omega] at h))]
set_option maxHeartbeats 1600000 in
theorem l07Over (A : Option Addr) (n c : Nat) (zs : List Int) (w : World) (h : Rp w A n zs) (hn : n ≤ 1048576) :
    Calls Try.prog 52 #[.slice A n c] w fun e w' => e = .returned (.bool (overTo zs n)) ∧ w = w' := by
  go_enter Try.func52, Try.ntmps52
  go_wp2
  go_loop [4] (fun i => ∃ k : Nat, k ≤ n ∧ i = .int .i64 k ∧ Hid (∀ j, n ≤ j + k → j < n → zs.getD j 0 = 0)) (fun i => n - (intOf i).toNat)
  case atStart => exact ⟨0, Nat.zero_le _, rfl, fun j h1 h2 => by omega⟩
  case round =>
    obtain ⟨k, hk, rfl, hz⟩ := hrel


    by_cases hgo : k < n ∧ zs.getD (n - 1 - k) 0 = 0
    · obtain ⟨hlt, h0⟩ := hgo
      obtain ⟨b, off, rfl, hc⟩ := h (by omega)
      have hck := hc (n - 1 - k) (by omega)
      rw [h0] at hck
      have hz' : Hid (∀ j, n ≤ j + (k + 1) → j < n → zs.getD j 0 = 0) := fun j h1 h2 => by
        by_cases e : j = n - 1 - k
        · subst e; exact h0
        · exact hz.out j (by omega) h2
      have hkl : (k : Int) < (n : Int) := by omega
      have e1 : ((n : Int) - 1 - (k : Int)).toNat = n - 1 - k := by omega
      have e2 : 0 ≤ (n : Int) - 1 - (k : Int) := by omega
      have e3 : (n : Int) - 1 - (k : Int) < (n : Int) := by omega
      clear hc h0
      go_wp2
      go_round
      case rel => exact ⟨k + 1, by omega, by go_num, hz'⟩
      case measure => simp [intOf]; omega
    · have hp : Hid (passTo zs n = k) := pass_is hk hz.out (by by_cases e : k = n; exact .inl e; exact .inr (fun q => hgo ⟨by omega, q⟩))
      have hov : Hid (overTo zs n = (decide (4 ≤ k) || (decide (k = 3) && decide (3 < n)))) := by show overTo zs n = _; unfold overTo; rw [hp.out]
      obtain ⟨R, hR⟩ : ∃ R, R = overTo zs n := ⟨_, rfl⟩
      rw [← hR] at hov
      have HR := Lib.hid hR
      clear hR hp
      by_cases hlt : k < n
      · obtain ⟨b, off, rfl, hc⟩ := h (by omega)
        have hck := hc (n - 1 - k) (by omega)
        have hne : zs.getD (n - 1 - k) 0 ≠ 0 := fun q => hgo ⟨hlt, q⟩
        generalize zs.getD (n - 1 - k) 0 = z at hck hne
        have hzb : (z == 0) = false := by simpa using hne
        have hkl : (k : Int) < (n : Int) := by omega
        have e1 : ((n : Int) - 1 - (k : Int)).toNat = n - 1 - k := by omega
        have e2 : 0 ≤ (n : Int) - 1 - (k : Int) := by omega
        have e3 : (n : Int) - 1 - (k : Int) < (n : Int) := by omega
        clear hc hne hgo
        by_cases h4 : 4 ≤ k
        · have h4i : 4 ≤ (k : Int) := by omega
          have hr : Hid (R = true) := by show R = true; rw [hov.out, decide_eq_true h4]; rfl
          go_wp2
          go_ret
          exact ⟨ret_bool (hr.out.symm.trans HR.out), rfl⟩
        have h4i : ¬ 4 ≤ (k : Int) := by omega
        by_cases h3 : k = 3
        · subst h3
          by_cases hn3 : 3 < n
          · have hn3i : 3 < (n : Int) := by omega
            have hr : Hid (R = true) := by show R = true; rw [hov.out, decide_eq_true hn3]; rfl
            go_wp2
            go_ret
            exact ⟨ret_bool (hr.out.symm.trans HR.out), rfl⟩
          · have hn3i : ¬ 3 < (n : Int) := by omega
            have hr : Hid (R = false) := by show R = false; rw [hov.out, decide_eq_false hn3]; rfl
            go_wp2
            go_ret
            exact ⟨ret_bool (hr.out.symm.trans HR.out), rfl⟩
        have h3i : ((k : Int) == 3) = false := by simp; omega
        have hr : Hid (R = false) := by show R = false; rw [hov.out, decide_eq_false h4, decide_eq_false h3]; rfl
        go_wp2
        go_ret
        exact ⟨ret_bool (hr.out.symm.trans HR.out), rfl⟩
      · obtain rfl : k = n := by omega
        clear hgo hlt h
        by_cases h4 : 4 ≤ k
        · have h4i : 4 ≤ (k : Int) := by omega
          have hr : Hid (R = true) := by show R = true; rw [hov.out, decide_eq_true h4]; rfl
          go_wp2
          go_ret
          exact ⟨ret_bool (hr.out.symm.trans HR.out), rfl⟩
        have h4i : ¬ 4 ≤ (k : Int) := by omega
        by_cases h3 : k = 3
        · subst h3
          have hr : Hid (R = false) := by show R = false; rw [hov.out]; rfl
          go_wp2
          go_ret
          exact ⟨ret_bool (hr.out.symm.trans HR.out), rfl⟩
        have h3i : ((k : Int) == 3) = false := by simp; omega
        have hr : Hid (R = false) := by show R = false; rw [hov.out, decide_eq_false h4, decide_eq_false h3]; rfl
        go_wp2
        go_ret
        exact ⟨ret_bool (hr.out.symm.trans HR.out), rfl⟩

set_option maxHeartbeats 1600000 in
theorem l07Legal (A : Option Addr) (n c : Nat) (zs : List Int) (x : Int) (w : World) (h : Rp w A n zs) (hn : n ≤ 1048576) :
    Calls Try.prog 60 #[.slice A n c, .int .i64 x] w fun e w' => e = .returned (.bool (legTo zs n x)) ∧ w = w' := by
  have hr := stand_rng zs n
  have hl : legTo zs n x = if x = 0 then true else if x = 1 then decide (0 ≤ bidTo zs n) && decide (stTo zs n = 0) && !decide (((n : Int) - atTo zs n) % 2 = 0) else if x = 2 then decide (0 ≤ bidTo zs n) && decide (stTo zs n = 1) && decide (((n : Int) - atTo zs n) % 2 = 0) else inB x 3 37 && decide (bidTo zs n < x) := rfl
  have HL := Lib.hid hl
  clear hl
  have hst := l07Standing A n c zs w h hn
  have HS := Lib.hid hst
  clear hst h
  obtain ⟨R, hR⟩ : ∃ R, R = legTo zs n x := ⟨_, rfl⟩
  rw [← hR] at HL
  have HR := Lib.hid hR
  clear hR
  have b0 : bidTo zs n = -1 ∨ 3 ≤ bidTo zs n := by omega
  have a0 : -1 ≤ atTo zs n ∧ atTo zs n < (n : Int) ∨ (n = 0 ∧ atTo zs n = -1) := by omega
  generalize bidTo zs n = B at HL HS b0 hr
  generalize stTo zs n = S at HL HS hr
  generalize atTo zs n = T at HL HS a0 hr
  obtain ⟨_, s0, s1⟩ := hr
  have m0 : 0 ≤ (n : Int) - T := by omega
  have m1 : (n : Int) - T ≤ 1048577 := by omega
  clear a0
  obtain ⟨O, hO⟩ : ∃ O : Bool, ((((n : Int) - T) % 2 == 0) : Bool) = O := ⟨_, rfl⟩
  have hOd : Hid (decide (((n : Int) - T) % 2 = 0) = O) := by show _ = _; rw [← hO]; cases hq : ((n : Int) - T) % 2 == 0 <;> simp_all
  rw [hOd.out] at HL
  clear hOd
  go_enter Try.func60, Try.ntmps60
  go_wp2_with fail
  refine HS.out.mono ?_
  rintro e w' ⟨rfl, rfl⟩
  by_cases x0 : x = 0
  · subst x0
    have hr : Hid (R = true) := by show R = true; rw [HL.out]; rfl
    go_wp2
    go_ret
    exact ⟨ret_bool (hr.out.symm.trans HR.out), rfl⟩
  have q0 : (x == 0) = false := by simpa using x0
  by_cases x1 : x = 1
  · subst x1
    by_cases hb : 0 ≤ B
    · by_cases hs : S = 0
      · subst hs
        have hr : Hid (R = !O) := by show R = !O; rw [HL.out, decide_eq_true hb]; simp
        cases O
        · go_wp2
          go_ret
          exact ⟨ret_bool (hr.out.symm.trans HR.out), rfl⟩
        · go_wp2
          go_ret
          exact ⟨ret_bool (hr.out.symm.trans HR.out), rfl⟩
      · have hsb : (S == 0) = false := by simpa using hs
        have hr : Hid (R = false) := by show R = false; rw [HL.out, decide_eq_false hs]; simp
        go_wp2
        go_ret
        exact ⟨ret_bool (hr.out.symm.trans HR.out), rfl⟩
    · have hr : Hid (R = false) := by show R = false; rw [HL.out, decide_eq_false hb]; simp
      go_wp2
      go_ret
      exact ⟨ret_bool (hr.out.symm.trans HR.out), rfl⟩
  have q1 : (x == 1) = false := by simpa using x1
  by_cases x2 : x = 2
  · subst x2
    by_cases hb : 0 ≤ B
    · by_cases hs : S = 1
      · subst hs
        have hr : Hid (R = O) := by show R = O; rw [HL.out, decide_eq_true hb]; simp
        cases O
        · go_wp2
          go_ret
          exact ⟨ret_bool (hr.out.symm.trans HR.out), rfl⟩
        · go_wp2
          go_ret
          exact ⟨ret_bool (hr.out.symm.trans HR.out), rfl⟩
      · have hsb : (S == 1) = false := by simpa using hs
        have hr : Hid (R = false) := by show R = false; rw [HL.out, decide_eq_false hs]; simp
        go_wp2
        go_ret
        exact ⟨ret_bool (hr.out.symm.trans HR.out), rfl⟩
    · have hr : Hid (R = false) := by show R = false; rw [HL.out, decide_eq_false hb]; simp
      go_wp2
      go_ret
      exact ⟨ret_bool (hr.out.symm.trans HR.out), rfl⟩
  have q2 : (x == 2) = false := by simpa using x2
  have hl : Hid (R = (inB x 3 37 && decide (B < x))) := by show R = _; rw [HL.out, if_neg x0, if_neg x1, if_neg x2]
  clear x0 x1 x2
  cases hi : inB x 3 37
  · have hr : Hid (R = false) := by show R = false; rw [hl.out, hi]; rfl
    go_wp2_with (go_at_call 56; refine (l06Bid _ _).mono ?_; rintro e w' ⟨rfl, rfl⟩)
    go_ret
    exact ⟨ret_bool (hr.out.symm.trans HR.out), rfl⟩
  · have hr : Hid (R = decide (B < x)) := by show R = _; rw [hl.out, hi]; rfl
    go_wp2_with (go_at_call 56; refine (l06Bid _ _).mono ?_; rintro e w' ⟨rfl, rfl⟩)
    go_ret
    exact ⟨ret_bool (hr.out.symm.trans HR.out), rfl⟩
end Go.Proofs.Ytnkbcmkngghnoaa.Lib1
