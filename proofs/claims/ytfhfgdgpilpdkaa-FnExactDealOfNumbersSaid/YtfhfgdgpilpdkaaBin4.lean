/- Chapter 4: Binomial (program and model), the model's l04Choose, the program's waysBehind: what each returns at every argument; none touches memory. -/
import Derived.Test.YtfhfgdgpilpdkaaCh4
namespace Go.Proofs.Ytfhfgdgpilpdkaa.Lib1
open Go.RowKit
set_option maxRecDepth 100000

def binV (n k : Int) : Int := if 0 ≤ n ∧ n ≤ 52 then (if 0 ≤ k ∧ k ≤ n then (ch n.toNat k.toNat : Int) else 0) else -1
theorem binV_no1 {n k : Int} (h : ¬ (0 ≤ n ∧ n ≤ 52)) : binV n k = -1 := by unfold binV; rw [if_neg h]
theorem binV_no2 {n k : Int} (h : 0 ≤ n ∧ n ≤ 52) (hk : ¬ (0 ≤ k ∧ k ≤ n)) : binV n k = 0 := by unfold binV; rw [if_pos h, if_neg hk]
theorem binV_yes {n k : Nat} (h : n ≤ 52) (hk : k ≤ n) : binV (n : Int) (k : Int) = (ch n k : Int) := by
  unfold binV; rw [if_pos (by omega), if_pos (by omega)]; rfl

theorem mul_next {N j : Nat} (hN : N ≤ 52) (hj : j < N) : ∃ p : Int, (ch N j : Int) * ((N : Int) - (j : Int)) = p ∧ 0 ≤ p ∧ p ≤ 1000000000000000000 ∧ p / ((j : Int) + 1) = (ch N (j + 1) : Int) := by
  have h := ch_next N j (by omega)
  have h1 := ch_le j hN
  have h2 := ch_le (j + 1) hN
  refine ⟨((ch N (j + 1) * (j + 1) : Nat) : Int), ?_, by omega, ?_, ?_⟩
  · rw [← h, Int.natCast_mul]; congr 1; omega
  · have : ch N (j + 1) * (j + 1) ≤ 4503599627370496 * 52 := Nat.mul_le_mul h2 (by omega)
    omega
  · have : ((ch N (j + 1) * (j + 1) : Nat) : Int) = (ch N (j + 1) : Int) * ((j : Int) + 1) := by simp
    rw [this, Int.mul_ediv_cancel _ (by omega)]

set_option maxHeartbeats 1000000 in
theorem impl_Binomial (n k : Int) (w : World) :
    Calls Try.prog 33 #[.int .i64 n, .int .i64 k] w fun e w' => e = .returned (.int .i64 (binV n k)) ∧ w = w' := by
  by_cases h1 : n < 0
  · rw [binV_no1 (by omega)]
    go_enter Try.func33, Try.ntmps33
    go_wp2
    go_ret
    exact ⟨rfl, rfl⟩
  by_cases h2 : 52 < n
  · rw [binV_no1 (by omega)]
    go_enter Try.func33, Try.ntmps33
    go_wp2
    go_ret
    exact ⟨rfl, rfl⟩
  by_cases h3 : k < 0
  · rw [binV_no2 (by omega) (by omega)]
    go_enter Try.func33, Try.ntmps33
    go_wp2
    go_ret
    exact ⟨rfl, rfl⟩
  by_cases h4 : n < k
  · rw [binV_no2 (by omega) (by omega)]
    go_enter Try.func33, Try.ntmps33
    go_wp2
    go_ret
    exact ⟨rfl, rfl⟩
  obtain ⟨N, rfl⟩ := Int.eq_ofNat_of_zero_le (show 0 ≤ n by omega)
  obtain ⟨K, rfl⟩ := Int.eq_ofNat_of_zero_le (show 0 ≤ k by omega)
  have hN : N ≤ 52 := by omega
  have hK : K ≤ N := by omega
  rw [binV_yes hN hK]
  clear h1
  have h1 : ¬ (N : Int) < 0 := by omega
  go_enter Try.func33, Try.ntmps33
  go_wp2
  go_loop [5, 21] (fun v i => ∃ j : Nat, j ≤ K ∧ i = .int .i64 j ∧ v = .int .i64 (ch N j : Int)) (fun _ i => K - (intOf i).toNat)
  case atStart => exact ⟨0, Nat.zero_le _, rfl, by rw [ch_zero]; rfl⟩
  case round =>
    obtain ⟨j, hj, rfl, rfl⟩ := hrel
    by_cases hlt : j < K
    · have hkl : (j : Int) < (K : Int) := by omega
      obtain ⟨p, hp, hp0, hp1, hq⟩ := mul_next hN (show j < N by omega)
      go_wp2
      go_round
      case rel => exact ⟨j + 1, by omega, by go_num, by rw [hq]⟩
      case measure => simp [intOf]; omega
    · obtain rfl : j = K := by omega
      go_wp2
      go_ret
      exact ⟨rfl, rfl⟩

theorem waysBehind (A : Option Addr) (n c p : Nat) (k : Int) (w : World) (hn : n ≤ 1048576) (hp : p < n) :
    Calls Try.prog 97 #[.slice A n c, .int .i64 (p : Int), .int .i64 k] w fun e w' => e = .returned (.int .i64 (binV ((n : Int) - (p : Int) - 1) k)) ∧ w = w' := by
  go_enter Try.func97, Try.ntmps97
  go_wp2_with (go_at_call 33; refine (impl_Binomial _ _ _).mono ?_; rintro e w' ⟨rfl, rfl⟩)
  go_ret
  exact ⟨rfl, rfl⟩

def chV (n : Nat) (k : Int) : Int := if 0 ≤ k ∧ k ≤ n then (ch n k.toNat : Int) else 0
theorem chV_no {n : Nat} {k : Int} (hk : ¬ (0 ≤ k ∧ k ≤ n)) : chV n k = 0 := by unfold chV; rw [if_neg hk]
theorem chV_yes {n k : Nat} (hk : k ≤ n) : chV n (k : Int) = (ch n k : Int) := by unfold chV; rw [if_pos (by omega)]; rfl
theorem mul_up {M K N j : Nat} (hN : N ≤ 52) (hM : M + K = N) (hj : j < K) : ∃ p : Int, (ch (M + j) j : Int) * ((N : Int) - (K : Int) + ((j : Int) + 1)) = p ∧ 0 ≤ p ∧ p ≤ 1000000000000000000 ∧ p / ((j : Int) + 1) = (ch (M + j + 1) (j + 1) : Int) := by
  have h := ch_up (M + j) j
  have h2 := ch_le (j + 1) (show M + j + 1 ≤ 52 by omega)
  refine ⟨((ch (M + j + 1) (j + 1) * (j + 1) : Nat) : Int), ?_, by omega, ?_, ?_⟩
  · rw [← h, Int.natCast_mul, Int.mul_comm]; congr 1; omega
  · have : ch (M + j + 1) (j + 1) * (j + 1) ≤ 4503599627370496 * 52 := Nat.mul_le_mul h2 (by omega)
    omega
  · have : ((ch (M + j + 1) (j + 1) * (j + 1) : Nat) : Int) = (ch (M + j + 1) (j + 1) : Int) * ((j : Int) + 1) := by simp
    rw [this, Int.mul_ediv_cancel _ (by omega)]

set_option maxHeartbeats 1000000 in
theorem l04Choose (N : Nat) (k : Int) (w : World) (hN : N ≤ 52) :
    Calls Try.prog 99 #[.int .i64 (N : Int), .int .i64 k] w fun e w' => e = .returned (.int .i64 (chV N k)) ∧ w = w' := by
  by_cases h3 : k < 0
  · rw [chV_no (by omega)]
    go_enter Try.func99, Try.ntmps99
    go_wp2
    go_ret
    exact ⟨rfl, rfl⟩
  by_cases h4 : (N : Int) < k
  · rw [chV_no (by omega)]
    go_enter Try.func99, Try.ntmps99
    go_wp2
    go_ret
    exact ⟨rfl, rfl⟩
  obtain ⟨K, rfl⟩ := Int.eq_ofNat_of_zero_le (show 0 ≤ k by omega)
  have hK : K ≤ N := by omega
  obtain ⟨M, hM⟩ : ∃ M, M + K = N := ⟨N - K, by omega⟩
  rw [chV_yes hK]
  have HM := Lib.hid hM
  clear h3 hM
  have h3 : ¬ (K : Int) < 0 := by omega
  go_enter Try.func99, Try.ntmps99
  go_wp2
  go_loop [5, 6] (fun v i => ∃ j : Nat, j ≤ K ∧ i = .int .i64 ((j : Int) + 1) ∧ v = .int .i64 (ch (M + j) j : Int)) (fun _ i => K + 1 - (intOf i).toNat)
  case atStart => exact ⟨0, Nat.zero_le _, rfl, by rw [ch_zero]; rfl⟩
  case round =>
    obtain ⟨j, hj, rfl, rfl⟩ := hrel
    by_cases hlt : j < K
    · have hkl : (j : Int) + 1 ≤ (K : Int) := by omega
      obtain ⟨p, hp, hp0, hp1, hq⟩ := mul_up hN HM.out hlt
      go_wp2
      go_round
      case rel => exact ⟨j + 1, by omega, by go_num, by rw [hq]; rfl⟩
      case measure => simp [intOf]; omega
    · obtain rfl : j = K := by omega
      have hkl : ¬ (j : Int) + 1 ≤ (j : Int) := by omega
      go_wp2
      go_ret
      exact ⟨ret_int (congrArg (fun x => (ch x j : Int)) HM.out), rfl⟩

theorem spec_Binomial (n k : Int) (w : World) :
    Calls Try.prog 37 #[.int .i64 n, .int .i64 k] w fun e w' => e = .returned (.int .i64 (binV n k)) ∧ w = w' := by
  by_cases h1 : 0 ≤ n ∧ n ≤ 52
  · have b1 := inB_true h1
    by_cases h3 : k < 0
    · rw [binV_no2 h1 (by omega)]
      clear h1
      go_enter Try.func37, Try.ntmps37
      go_wp2_with (go_at_call 98; refine (l01In _ _ _ _).mono ?_; rintro e w' ⟨rfl, rfl⟩)
      go_ret
      exact ⟨rfl, rfl⟩
    by_cases h4 : n < k
    · rw [binV_no2 h1 (by omega)]
      clear h1
      go_enter Try.func37, Try.ntmps37
      go_wp2_with (go_at_call 98; refine (l01In _ _ _ _).mono ?_; rintro e w' ⟨rfl, rfl⟩)
      go_ret
      exact ⟨rfl, rfl⟩
    obtain ⟨N, rfl⟩ := Int.eq_ofNat_of_zero_le (show 0 ≤ n by omega)
    obtain ⟨K, rfl⟩ := Int.eq_ofNat_of_zero_le (show 0 ≤ k by omega)
    have hN : N ≤ 52 := by omega
    have hK : K ≤ N := by omega
    have m1 : Hid (chV N (K : Int) = binV (N : Int) (K : Int)) := by show _ = _; rw [chV_yes hK, binV_yes hN hK]
    have m2 : Hid (chV N ((N : Int) - (K : Int)) = binV (N : Int) (K : Int)) := by
      show _ = _
      rw [show (N : Int) - (K : Int) = ((N - K : Nat) : Int) by omega, chV_yes (by omega), ch_symm N K hK, binV_yes hN hK]
    clear h1 h3
    have h3 : ¬ (K : Int) < 0 := by omega
    go_enter Try.func37, Try.ntmps37
    go_wp2_with (first | (go_at_call 98; refine (l01In _ _ _ _).mono ?_; rintro e w' ⟨rfl, rfl⟩) | (go_at_call 99; refine (l04Choose N _ _ hN).mono ?_; rintro e w' ⟨rfl, rfl⟩))
    · go_ret
      exact ⟨ret_int m2.out, rfl⟩
    · go_ret
      exact ⟨ret_int m1.out, rfl⟩
  · have b1 := inB_false h1
    rw [binV_no1 h1]
    clear h1
    go_enter Try.func37, Try.ntmps37
    go_wp2_with (go_at_call 98; refine (l01In _ _ _ _).mono ?_; rintro e w' ⟨rfl, rfl⟩)
    go_ret
    exact ⟨rfl, rfl⟩

theorem law_Binomial (n k : Int) (w : World) :
    Calls Try.prog 8 #[.int .i64 n, .int .i64 k] w fun e w' => e = .returned (.bool true) ∧ w = w' := by
  go_enter Try.func8, Try.ntmps8
  go_wp2_with (first | (go_at_call 37; refine (spec_Binomial _ _ _).mono ?_; rintro e w' ⟨rfl, rfl⟩) | (go_at_call 33; refine (impl_Binomial _ _ _).mono ?_; rintro e w' ⟨rfl, rfl⟩))
  go_ret
  exact ⟨rfl, rfl⟩
end Go.Proofs.Ytfhfgdgpilpdkaa.Lib1
