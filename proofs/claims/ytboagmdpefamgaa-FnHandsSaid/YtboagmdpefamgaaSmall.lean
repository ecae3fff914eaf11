/- Contracts of the functions of chapter 1 that only compute with numbers (program and model): what each returns at every argument; none touches memory. -/
import Derived.Test.YtboagmdpefamgaaRows
import Derived.WalkKit
import Derived.ProofKit
import Derived.OpenShut
import Derived.Below
namespace Go.Proofs.Ytboagmdpefamgaa.Lib1
open Go.RowKit

theorem bounds {a : Int} (h : (Lit.int .i64 a).wf = true) : -9223372036854775808 ≤ a ∧ a ≤ 9223372036854775807 := by
  have := bounds_i64 h; omega

def inB (n low high : Int) : Bool := decide (low ≤ n) && decide (n ≤ high)
theorem inB_true {n low high : Int} (h : low ≤ n ∧ n ≤ high) : inB n low high = true := by simp [inB, h]
theorem inB_false {n low high : Int} (h : ¬ (low ≤ n ∧ n ≤ high)) : inB n low high = false := by
  simp only [inB, Bool.and_eq_false_iff, decide_eq_false_iff_not]; omega

/-- spec.l01In -/
theorem l01In (n low high : Int) (w : World) :
    Calls Try.prog 54 #[.int .i64 n, .int .i64 low, .int .i64 high] w fun e w' => e = .returned (.bool (inB n low high)) ∧ w = w' := by
  by_cases h1 : low ≤ n
  · by_cases h2 : n ≤ high
    · rw [inB_true ⟨h1, h2⟩]
      go_enter Try.func54, Try.ntmps54
      go_wp2
      go_ret
      exact ⟨rfl, rfl⟩
    · rw [inB_false (by omega)]
      go_enter Try.func54, Try.ntmps54
      go_wp2
      go_ret
      exact ⟨rfl, rfl⟩
  · rw [inB_false (by omega)]
    go_enter Try.func54, Try.ntmps54
    go_wp2
    go_ret
    exact ⟨rfl, rfl⟩

/-- spec.l01Card -/
theorem l01Card (n : Int) (w : World) :
    Calls Try.prog 55 #[.int .i64 n] w fun e w' => e = .returned (.bool (inB n 0 51)) ∧ w = w' := by
  go_enter Try.func55, Try.ntmps55
  go_wp2_with (go_at_call 54; refine (l01In _ _ _ _).mono ?_; rintro e w' ⟨rfl, rfl⟩)
  go_ret
  exact ⟨rfl, rfl⟩

/-- (impl.playingCard).isCard -/
theorem isCard (n : Int) (w : World) :
    Calls Try.prog 44 #[.int .i64 n] w fun e w' => e = .returned (.bool (inB n 0 51)) ∧ w = w' := by
  by_cases h1 : 0 ≤ n
  · by_cases h2 : n < 52
    · rw [inB_true (by omega)]
      go_enter Try.func44, Try.ntmps44
      go_wp2
      go_ret
      exact ⟨rfl, rfl⟩
    · rw [inB_false (by omega)]
      go_enter Try.func44, Try.ntmps44
      go_wp2
      go_ret
      exact ⟨rfl, rfl⟩
  · rw [inB_false (by omega)]
    go_enter Try.func44, Try.ntmps44
    go_wp2
    go_ret
    exact ⟨rfl, rfl⟩

theorem suit (n : Int) (w : World) (h0 : 0 ≤ n) (h1 : n ≤ 51) :
    Calls Try.prog 45 #[.int .i64 n] w fun e w' => e = .returned (.int .i64 (n / 13)) ∧ w = w' := by
  go_enter Try.func45, Try.ntmps45
  go_wp2
  go_ret
  exact ⟨rfl, rfl⟩

theorem rank (n : Int) (w : World) (h0 : 0 ≤ n) (h1 : n ≤ 51) :
    Calls Try.prog 46 #[.int .i64 n] w fun e w' => e = .returned (.int .i64 (n % 13)) ∧ w = w' := by
  go_enter Try.func46, Try.ntmps46
  go_wp2
  go_ret
  exact ⟨rfl, rfl⟩

/-! ### CardOf, SuitOf, RankOf: program and model -/
def cardV (s r : Int) : Int := if inB s 0 3 && inB r 0 12 then 13 * s + r else -1
theorem cardV_yes {s r : Int} (h : (0 ≤ s ∧ s ≤ 3) ∧ 0 ≤ r ∧ r ≤ 12) : cardV s r = 13 * s + r := by simp [cardV, inB_true h.1, inB_true h.2]
theorem cardV_no {s r : Int} (h : ¬ ((0 ≤ s ∧ s ≤ 3) ∧ 0 ≤ r ∧ r ≤ 12)) : cardV s r = -1 := by
  unfold cardV
  by_cases hs : 0 ≤ s ∧ s ≤ 3
  · rw [inB_true hs, inB_false (fun hr => h ⟨hs, hr⟩)]; rfl
  · rw [inB_false hs]; rfl
def suitV (c : Int) : Int := if inB c 0 51 then c / 13 else -1
def rankV (c : Int) : Int := if inB c 0 51 then c % 13 else -1
theorem suitV_yes {c : Int} (h : 0 ≤ c ∧ c ≤ 51) : suitV c = c / 13 := by simp [suitV, inB_true h]
theorem suitV_no {c : Int} (h : ¬ (0 ≤ c ∧ c ≤ 51)) : suitV c = -1 := by simp [suitV, inB_false h]
theorem rankV_yes {c : Int} (h : 0 ≤ c ∧ c ≤ 51) : rankV c = c % 13 := by simp [rankV, inB_true h]
theorem rankV_no {c : Int} (h : ¬ (0 ≤ c ∧ c ≤ 51)) : rankV c = -1 := by simp [rankV, inB_false h]

theorem spec_CardOf (s r : Int) (w : World) :
    Calls Try.prog 30 #[.int .i64 s, .int .i64 r] w fun e w' => e = .returned (.int .i64 (cardV s r)) ∧ w = w' := by
  by_cases hs : 0 ≤ s ∧ s ≤ 3
  · have b1 := inB_true hs
    by_cases hr : 0 ≤ r ∧ r ≤ 12
    · have b2 := inB_true hr
      rw [cardV_yes ⟨hs, hr⟩]
      obtain ⟨s0, s1⟩ := hs
      obtain ⟨r0, r1⟩ := hr
      go_enter Try.func30, Try.ntmps30
      go_wp2_with (go_at_call 54; refine (l01In _ _ _ _).mono ?_; rintro e w' ⟨rfl, rfl⟩)
      go_ret
      exact ⟨rfl, rfl⟩
    · have b2 := inB_false hr
      rw [cardV_no (fun h => hr h.2)]
      clear hs hr
      go_enter Try.func30, Try.ntmps30
      go_wp2_with (go_at_call 54; refine (l01In _ _ _ _).mono ?_; rintro e w' ⟨rfl, rfl⟩)
      go_ret
      exact ⟨rfl, rfl⟩
  · have b1 := inB_false hs
    rw [cardV_no (fun h => hs h.1)]
    clear hs
    go_enter Try.func30, Try.ntmps30
    go_wp2_with (go_at_call 54; refine (l01In _ _ _ _).mono ?_; rintro e w' ⟨rfl, rfl⟩)
    go_ret
    exact ⟨rfl, rfl⟩

theorem impl_CardOf (s r : Int) (w : World) :
    Calls Try.prog 20 #[.int .i64 s, .int .i64 r] w fun e w' => e = .returned (.int .i64 (cardV s r)) ∧ w = w' := by
  by_cases h1 : s < 0
  · rw [cardV_no (by omega)]
    go_enter Try.func20, Try.ntmps20
    go_wp2
    go_ret
    exact ⟨rfl, rfl⟩
  by_cases h2 : 4 ≤ s
  · rw [cardV_no (by omega)]
    go_enter Try.func20, Try.ntmps20
    go_wp2
    go_ret
    exact ⟨rfl, rfl⟩
  by_cases h3 : r < 0
  · rw [cardV_no (by omega)]
    go_enter Try.func20, Try.ntmps20
    go_wp2
    go_ret
    exact ⟨rfl, rfl⟩
  by_cases h4 : 13 ≤ r
  · rw [cardV_no (by omega)]
    go_enter Try.func20, Try.ntmps20
    go_wp2
    go_ret
    exact ⟨rfl, rfl⟩
  rw [cardV_yes (by omega)]
  go_enter Try.func20, Try.ntmps20
  go_wp2
  go_ret
  exact ⟨rfl, rfl⟩

theorem spec_SuitOf (c : Int) (w : World) :
    Calls Try.prog 31 #[.int .i64 c] w fun e w' => e = .returned (.int .i64 (suitV c)) ∧ w = w' := by
  by_cases h : 0 ≤ c ∧ c ≤ 51
  · have b := inB_true h
    rw [suitV_yes h]
    obtain ⟨c0, c1⟩ := h
    go_enter Try.func31, Try.ntmps31
    go_wp2_with (go_at_call 55; refine (l01Card _ _).mono ?_; rintro e w' ⟨rfl, rfl⟩)
    go_ret
    exact ⟨rfl, rfl⟩
  · have b := inB_false h
    rw [suitV_no h]
    clear h
    go_enter Try.func31, Try.ntmps31
    go_wp2_with (go_at_call 55; refine (l01Card _ _).mono ?_; rintro e w' ⟨rfl, rfl⟩)
    go_ret
    exact ⟨rfl, rfl⟩

theorem spec_RankOf (c : Int) (w : World) :
    Calls Try.prog 32 #[.int .i64 c] w fun e w' => e = .returned (.int .i64 (rankV c)) ∧ w = w' := by
  by_cases h : 0 ≤ c ∧ c ≤ 51
  · have b := inB_true h
    rw [rankV_yes h]
    obtain ⟨c0, c1⟩ := h
    go_enter Try.func32, Try.ntmps32
    go_wp2_with (go_at_call 55; refine (l01Card _ _).mono ?_; rintro e w' ⟨rfl, rfl⟩)
    go_ret
    exact ⟨rfl, rfl⟩
  · have b := inB_false h
    rw [rankV_no h]
    clear h
    go_enter Try.func32, Try.ntmps32
    go_wp2_with (go_at_call 55; refine (l01Card _ _).mono ?_; rintro e w' ⟨rfl, rfl⟩)
    go_ret
    exact ⟨rfl, rfl⟩

theorem impl_SuitOf (c : Int) (w : World) :
    Calls Try.prog 16 #[.int .i64 c] w fun e w' => e = .returned (.int .i64 (suitV c)) ∧ w = w' := by
  by_cases h : 0 ≤ c ∧ c ≤ 51
  · have b := inB_true h
    rw [suitV_yes h]
    obtain ⟨c0, c1⟩ := h
    go_enter Try.func16, Try.ntmps16
    go_wp2_with (first | (go_at_call 44; refine (isCard _ _).mono ?_; rintro e w' ⟨rfl, rfl⟩) | (go_at_call 45; refine (suit _ _ (by omega) (by omega)).mono ?_; rintro e w' ⟨rfl, rfl⟩))
    go_ret
    exact ⟨rfl, rfl⟩
  · have b := inB_false h
    rw [suitV_no h]
    clear h
    go_enter Try.func16, Try.ntmps16
    go_wp2_with (go_at_call 44; refine (isCard _ _).mono ?_; rintro e w' ⟨rfl, rfl⟩)
    go_ret
    exact ⟨rfl, rfl⟩

theorem impl_RankOf (c : Int) (w : World) :
    Calls Try.prog 17 #[.int .i64 c] w fun e w' => e = .returned (.int .i64 (rankV c)) ∧ w = w' := by
  by_cases h : 0 ≤ c ∧ c ≤ 51
  · have b := inB_true h
    rw [rankV_yes h]
    obtain ⟨c0, c1⟩ := h
    go_enter Try.func17, Try.ntmps17
    go_wp2_with (first | (go_at_call 44; refine (isCard _ _).mono ?_; rintro e w' ⟨rfl, rfl⟩) | (go_at_call 46; refine (rank _ _ (by omega) (by omega)).mono ?_; rintro e w' ⟨rfl, rfl⟩))
    go_ret
    exact ⟨rfl, rfl⟩
  · have b := inB_false h
    rw [rankV_no h]
    clear h
    go_enter Try.func17, Try.ntmps17
    go_wp2_with (go_at_call 44; refine (isCard _ _).mono ?_; rintro e w' ⟨rfl, rfl⟩)
    go_ret
    exact ⟨rfl, rfl⟩

/-! ### The laws over numbers alone -/
theorem law_CardOf (s r : Int) (w : World) :
    Calls Try.prog 5 #[.int .i64 s, .int .i64 r] w fun e w' => e = .returned (.bool true) ∧ w = w' := by
  go_enter Try.func5, Try.ntmps5
  go_wp2_with (first | (go_at_call 30; refine (spec_CardOf _ _ _).mono ?_; rintro e w' ⟨rfl, rfl⟩) | (go_at_call 20; refine (impl_CardOf _ _ _).mono ?_; rintro e w' ⟨rfl, rfl⟩))
  go_ret
  exact ⟨rfl, rfl⟩

theorem law_SuitOf (c : Int) (w : World) :
    Calls Try.prog 6 #[.int .i64 c] w fun e w' => e = .returned (.bool true) ∧ w = w' := by
  go_enter Try.func6, Try.ntmps6
  go_wp2_with (first | (go_at_call 31; refine (spec_SuitOf _ _).mono ?_; rintro e w' ⟨rfl, rfl⟩) | (go_at_call 16; refine (impl_SuitOf _ _).mono ?_; rintro e w' ⟨rfl, rfl⟩))
  go_ret
  exact ⟨rfl, rfl⟩

theorem law_RankOf (c : Int) (w : World) :
    Calls Try.prog 7 #[.int .i64 c] w fun e w' => e = .returned (.bool true) ∧ w = w' := by
  go_enter Try.func7, Try.ntmps7
  go_wp2_with (first | (go_at_call 32; refine (spec_RankOf _ _).mono ?_; rintro e w' ⟨rfl, rfl⟩) | (go_at_call 17; refine (impl_RankOf _ _).mono ?_; rintro e w' ⟨rfl, rfl⟩))
  go_ret
  exact ⟨rfl, rfl⟩

end Go.Proofs.Ytboagmdpefamgaa.Lib1
