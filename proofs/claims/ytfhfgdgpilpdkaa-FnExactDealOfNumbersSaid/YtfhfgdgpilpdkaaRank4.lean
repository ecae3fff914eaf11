/- Chapter 4: the number of a subset: the program's subsetNumber, the model's l04Rank. -/
import Derived.Test.YtfhfgdgpilpdkaaBin4
namespace Go.Proofs.Ytfhfgdgpilpdkaa.Lib1
open Go.RowKit
set_option maxRecDepth 100000

theorem binV_ch {a b : Nat} (h : a ≤ 52) : binV (a : Int) (b : Int) = (ch a b : Int) := by
  by_cases hb : b ≤ a
  · exact binV_yes h hb
  · rw [binV_no2 (by omega) (by omega), ch_gt a b (by omega)]; rfl
theorem chV_ch {a b : Nat} : chV a (b : Int) = (ch a b : Int) := by
  by_cases hb : b ≤ a
  · exact chV_yes hb
  · rw [chV_no (by omega), ch_gt a b (by omega)]; rfl
theorem waysBehind_at (A : Option Addr) (n c p : Nat) (k v : Int) (w : World) (hn : n ≤ 1048576) (hp : p < n) (hv : binV ((n : Int) - (p : Int) - 1) k = v) :
    Calls Try.prog 97 #[.slice A n c, .int .i64 (p : Int), .int .i64 k] w fun e w' => e = .returned (.int .i64 v) ∧ w = w' := by
  subst hv; exact waysBehind A n c p k w hn hp
theorem l04Choose_at (a k v : Int) (w : World) (h0 : 0 ≤ a) (h1 : a ≤ 52) (hv : chV a.toNat k = v) :
    Calls Try.prog 99 #[.int .i64 a, .int .i64 k] w fun e w' => e = .returned (.int .i64 v) ∧ w = w' := by
  obtain ⟨N, rfl⟩ := Int.eq_ofNat_of_zero_le h0
  subst hv; exact l04Choose N k w (by omega)

set_option maxHeartbeats 2000000 in
theorem subsetNumber (A B : Option Addr) (n c m d : Nat) (L S : List Int) (lo hi lo' hi' : Nat) (w : World) (h : Rd w lo hi A n L) (h' : Rd w lo' hi' B m S) (hn : n ≤ 52) (hm : m ≤ 52) :
    Calls Try.prog 137 #[.slice A n c, .slice B m d] w fun e w' => e = .returned (.int .i64 (rankN L S : Int)) ∧ w = w' := by
  have hL := Lib.hid h.1
  have hS := Lib.hid h'.1
  have hsm := rankN_small (l := L) (s := S) (by rw [hL.out]; exact hn)
  go_enter Try.func137, Try.ntmps137
  go_wp2
  go_loop [5, 6, 11] (fun v t i => ∃ j k x : Nat, j ≤ n ∧ k ≤ m ∧ i = .int .i64 j ∧ t = .int .i64 k ∧ v = .int .i64 x ∧ Hid (rankN L S = x + rankN (L.drop j) (S.drop k))) (fun _ _ i => n - (intOf i).toNat)
  case atStart => exact ⟨0, 0, 0, Nat.zero_le _, Nat.zero_le _, rfl, rfl, rfl, by show _ = _; simp⟩
  case round =>
    obtain ⟨j, k, x, hj, hk, rfl, rfl, rfl, hr⟩ := hrel
    by_cases hlt : j < n
    · obtain ⟨b, off, rfl, _, _, hc⟩ := h.2 (by omega)
      have hck := hc j hlt
      have hjl : (j : Int) < (n : Int) := by omega
      have hLj : j < L.length := by rw [hL.out]; exact hlt
      by_cases hkm : k < m
      · obtain ⟨b', off', rfl, _, _, hc'⟩ := h'.2 (by omega)
        have hck' := hc' k hkm
        have hkl : (k : Int) < (m : Int) := by omega
        have hSk : k < S.length := by rw [hS.out]; exact hkm
        by_cases e : L.getD j 0 = S.getD k 0
        · have hr' : Hid (rankN L S = x + rankN (L.drop (j + 1)) (S.drop (k + 1))) := by show _ = _; rw [hr.out, rank_hit hLj hSk e]
          rw [e] at hck
          generalize S.getD k 0 = z at hck hck'
          clear hr hc hc' e hLj hSk hsm
          go_wp2
          go_round
          case rel => exact ⟨j + 1, k + 1, x, by omega, by omega, by go_num, by go_num, rfl, hr'⟩
          case measure => simp [intOf]; omega
        · have hp := rank_pass hLj hSk e
          have hr1 := hr.out
          rw [hp, hL.out, hS.out] at hr1
          have hr' : Hid (rankN L S = (x + ch (n - 1 - j) (m - 1 - k)) + rankN (L.drop (j + 1)) (S.drop k)) := by show _ = _; omega
          have hv : binV ((n : Int) - (j : Int) - 1) ((m : Int) - (k : Int) - 1) = (ch (n - 1 - j) (m - 1 - k) : Int) := by
            rw [show (n : Int) - (j : Int) - 1 = ((n - 1 - j : Nat) : Int) by omega, show (m : Int) - (k : Int) - 1 = ((m - 1 - k : Nat) : Int) by omega]; exact binV_ch (by omega)
          have hs1 : x + ch (n - 1 - j) (m - 1 - k) ≤ 4503599627370496 := by omega
          generalize ch (n - 1 - j) (m - 1 - k) = y at hv hs1 hr'
          have e' : (L.getD j 0 == S.getD k 0) = false := by simpa using e
          generalize L.getD j 0 = z at hck e e'
          generalize S.getD k 0 = z' at hck' e e'
          clear hr hr1 hp hc hc' hLj hSk hsm
          go_wp2_with (go_at_call 97; refine (waysBehind_at _ n _ j _ y _ (by omega) hlt hv).mono ?_; rintro e w' ⟨rfl, rfl⟩)
          go_round
          case rel => exact ⟨j + 1, k, x + y, by omega, by omega, by go_num, rfl, by go_num, hr'⟩
          case measure => simp [intOf]; omega
      · obtain rfl : k = m := by omega
        have hr' : Hid (rankN L S = x + rankN (L.drop (j + 1)) (S.drop k)) := by
          show _ = _; rw [hr.out, rank_over (by rw [hS.out]; omega), rank_over (by rw [hS.out]; omega)]
        have hv : binV ((n : Int) - (j : Int) - 1) (-1) = 0 := binV_no2 (by omega) (by omega)
        have hx : x ≤ 4503599627370496 := by have := hr.out; omega
        have e0 : (k : Int) - (k : Int) - 1 = -1 := by omega
        generalize L.getD j 0 = z at hck
        clear hr hc hLj hsm
        go_wp2_with (go_at_call 97; refine (waysBehind_at _ n _ j _ 0 _ (by omega) hlt (by first | exact hv | (rw [e0]; exact hv))).mono ?_; rintro e w' ⟨rfl, rfl⟩)
        go_round
        case rel => exact ⟨j + 1, k, x, by omega, by omega, by go_num, rfl, by go_num, hr'⟩
        case measure => simp [intOf]; omega
    · obtain rfl : j = n := by omega
      have hf : Hid ((x : Int) = (rankN L S : Int)) := by
        have := hr.out
        rw [rank_end (by rw [hL.out]; omega)] at this
        show _ = _; omega
      clear hr hsm
      go_wp2
      go_ret
      exact ⟨ret_int hf.out, rfl⟩

set_option maxHeartbeats 2000000 in
theorem l04Rank (A B : Option Addr) (n c m d : Nat) (L S : List Int) (lo hi lo' hi' : Nat) (w : World) (h : Rd w lo hi A n L) (h' : Rd w lo' hi' B m S) (hn : n ≤ 52) (hm : m ≤ 52) :
    Calls Try.prog 106 #[.slice A n c, .slice B m d] w fun e w' => e = .returned (.int .i64 (rankN L S : Int)) ∧ ∃ q, w' = w.drewN q := by
  have hL := Lib.hid h.1
  have hS := Lib.hid h'.1
  have hsm := rankN_small (l := L) (s := S) (by rw [hL.out]; exact hn)
  go_enter Try.func106, Try.ntmps106
  go_wp2
  go_loopw [5, 6, 7] (fun v t i wr => ∃ j k x q : Nat, j ≤ n ∧ k ≤ m ∧ i = .int .i64 j ∧ t = .int .i64 k ∧ v = .int .i64 x ∧ wr = w.drewN q ∧ Hid (rankN L S = x + rankN (L.drop j) (S.drop k))) (fun _ _ i _ => n - (intOf i).toNat)
  case atStart => exact ⟨0, 0, 0, 0, Nat.zero_le _, Nat.zero_le _, rfl, rfl, rfl, rfl, by show _ = _; simp⟩
  case round =>
    obtain ⟨j, k, x, q, hj, hk, rfl, rfl, rfl, rfl, hr⟩ := hrel
    by_cases hlt : j < n
    · have hjl : (j : Int) < (n : Int) := by omega
      have hLj : j < L.length := by rw [hL.out]; exact hlt
      by_cases hkm : k < m
      · obtain ⟨b, off, rfl, _, _, hc⟩ := h.2 (by omega)
        have hck := hc j hlt
        obtain ⟨b', off', rfl, _, _, hc'⟩ := h'.2 (by omega)
        have hck' := hc' k hkm
        have hkl : (k : Int) < (m : Int) := by omega
        have hSk : k < S.length := by rw [hS.out]; exact hkm
        by_cases e : L.getD j 0 = S.getD k 0
        · have hr' : Hid (rankN L S = x + rankN (L.drop (j + 1)) (S.drop (k + 1))) := by show _ = _; rw [hr.out, rank_hit hLj hSk e]
          rw [e] at hck
          generalize S.getD k 0 = z at hck hck'
          clear hr hc hc' e hLj hSk hsm
          go_wp2
          go_quiet (fail)
          go_wp2
          go_roundw
          case rel => exact ⟨j + 1, k + 1, x, _, by omega, by omega, by go_num, by go_num, rfl, rfl, hr'⟩
          case measure => simp [intOf]; omega
        · have hp := rank_pass hLj hSk e
          have hr1 := hr.out
          rw [hp, hL.out, hS.out] at hr1
          have hr' : Hid (rankN L S = (x + ch (n - 1 - j) (m - 1 - k)) + rankN (L.drop (j + 1)) (S.drop k)) := by show _ = _; omega
          have hv : chV ((n : Int) - 1 - (j : Int)).toNat ((m : Int) - 1 - (k : Int)) = (ch (n - 1 - j) (m - 1 - k) : Int) := by
            rw [show ((n : Int) - 1 - (j : Int)).toNat = n - 1 - j by omega, show (m : Int) - 1 - (k : Int) = ((m - 1 - k : Nat) : Int) by omega]; exact chV_ch
          have hs1 : x + ch (n - 1 - j) (m - 1 - k) ≤ 4503599627370496 := by omega
          generalize ch (n - 1 - j) (m - 1 - k) = y at hv hs1 hr'
          have e' : (L.getD j 0 == S.getD k 0) = false := by simpa using e
          generalize L.getD j 0 = z at hck e e'
          generalize S.getD k 0 = z' at hck' e e'
          clear hr hr1 hp hc hc' hLj hSk hsm
          go_wp2
          go_quiet (fail)
          go_wp2_with (go_at_call 99; refine (l04Choose_at _ _ y _ (by omega) (by omega) hv).mono ?_; rintro e w' ⟨rfl, rfl⟩)
          go_roundw
          case rel => exact ⟨j + 1, k, x + y, _, by omega, by omega, by go_num, rfl, by go_num, rfl, hr'⟩
          case measure => simp [intOf]; omega
      · obtain rfl : k = m := by omega
        have hf : Hid ((x : Int) = (rankN L S : Int)) := by
          have := hr.out
          rw [rank_over (by rw [hS.out]; omega)] at this
          show _ = _; omega
        clear hr hsm
        go_wp2
        go_ret
        exact ⟨ret_int hf.out, _, rfl⟩
    · obtain rfl : j = n := by omega
      have hf : Hid ((x : Int) = (rankN L S : Int)) := by
        have := hr.out
        rw [rank_end (by rw [hL.out]; omega)] at this
        show _ = _; omega
      clear hr hsm
      go_wp2
      go_ret
      exact ⟨ret_int hf.out, _, rfl⟩
end Go.Proofs.Ytfhfgdgpilpdkaa.Lib1
