/- Contracts of the functions of chapter 1 that only compute with numbers (program and model): what each returns at every argument; none touches memory. -/
import Derived.Test.YtgoaikamolcffaaDoorRows
import Derived.WalkKit
import Derived.ProofKit
import Derived.OpenShut
import Derived.Below
namespace Go.Proofs.YtgoaikamolcffaaDoor.Lib1
open Go.RowKit

theorem bounds {a : Int} (h : (Lit.int .i64 a).wf = true) : -9223372036854775808 ≤ a ∧ a ≤ 9223372036854775807 := by
  have := bounds_i64 h; omega

def inB (n low high : Int) : Bool := decide (low ≤ n) && decide (n ≤ high)
theorem inB_true {n low high : Int} (h : low ≤ n ∧ n ≤ high) : inB n low high = true := by simp [inB, h]
theorem inB_false {n low high : Int} (h : ¬ (low ≤ n ∧ n ≤ high)) : inB n low high = false := by
  simp only [inB, Bool.and_eq_false_iff, decide_eq_false_iff_not]; omega

/-- spec.l01In -/
theorem l01In (n low high : Int) (w : World) :
    Calls Tryd.prog 51 #[.int .i64 n, .int .i64 low, .int .i64 high] w fun e w' => e = .returned (.bool (inB n low high)) ∧ w = w' := by
  by_cases h1 : low ≤ n
  · by_cases h2 : n ≤ high
    · rw [inB_true ⟨h1, h2⟩]
      go_enter Tryd.func51, Tryd.ntmps51
      go_wp2
      go_ret
      exact ⟨rfl, rfl⟩
    · rw [inB_false (by omega)]
      go_enter Tryd.func51, Tryd.ntmps51
      go_wp2
      go_ret
      exact ⟨rfl, rfl⟩
  · rw [inB_false (by omega)]
    go_enter Tryd.func51, Tryd.ntmps51
    go_wp2
    go_ret
    exact ⟨rfl, rfl⟩

/-- spec.l01Card -/
theorem l01Card (n : Int) (w : World) :
    Calls Tryd.prog 45 #[.int .i64 n] w fun e w' => e = .returned (.bool (inB n 0 51)) ∧ w = w' := by
  go_enter Tryd.func45, Tryd.ntmps45
  go_wp2_with (go_at_call 51; refine (l01In _ _ _ _).mono ?_; rintro e w' ⟨rfl, rfl⟩)
  go_ret
  exact ⟨rfl, rfl⟩

/-- (impl.playingCard).isCard -/
theorem isCard (n : Int) (w : World) :
    Calls Tryd.prog 38 #[.int .i64 n] w fun e w' => e = .returned (.bool (inB n 0 51)) ∧ w = w' := by
  by_cases h1 : 0 ≤ n
  · by_cases h2 : n < 52
    · rw [inB_true (by omega)]
      go_enter Tryd.func38, Tryd.ntmps38
      go_wp2
      go_ret
      exact ⟨rfl, rfl⟩
    · rw [inB_false (by omega)]
      go_enter Tryd.func38, Tryd.ntmps38
      go_wp2
      go_ret
      exact ⟨rfl, rfl⟩
  · rw [inB_false (by omega)]
    go_enter Tryd.func38, Tryd.ntmps38
    go_wp2
    go_ret
    exact ⟨rfl, rfl⟩

theorem suit (n : Int) (w : World) (h0 : 0 ≤ n) (h1 : n ≤ 51) :
    Calls Tryd.prog 39 #[.int .i64 n] w fun e w' => e = .returned (.int .i64 (n / 13)) ∧ w = w' := by
  go_enter Tryd.func39, Tryd.ntmps39
  go_wp2
  go_ret
  exact ⟨rfl, rfl⟩

theorem rank (n : Int) (w : World) (h0 : 0 ≤ n) (h1 : n ≤ 51) :
    Calls Tryd.prog 40 #[.int .i64 n] w fun e w' => e = .returned (.int .i64 (n % 13)) ∧ w = w' := by
  go_enter Tryd.func40, Tryd.ntmps40
  go_wp2
  go_ret
  exact ⟨rfl, rfl⟩

/-! ### CardOf, SuitOf, RankOf: program and model -/
def cardV (s r : Int) : Int := if inB s 0 3 && inB r 0 12 then 13 * s + r else -1
theorem cardV_yes {s r : Int} (h : (0 ≤ s ∧ s ≤ 3) ∧ 0 ≤ r ∧ r ≤ 12) : cardV s r = 13 * s + r := by simp [cardV, inB_true h.1, inB_true h.2]
theorem cardV_no {s r : Int} (h : ¬ ((0 ≤ s ∧ s ≤ 3) ∧ 0 ≤ r ∧ r ≤ 12)) : cardV s r = -1 := by
  unfold cardV
  by_cases hs : 0 ≤ s ∧ s ≤ 3
  · rw [inB_true hs, inB_false (fun hr => h ⟨hs, hr⟩)]; rfl
  · rw [inB_false hs]; rfl
def suitV (c : Int) : Int := if inB c 0 51 then c / 13 else -1
def rankV (c : Int) : Int := if inB c 0 51 then c % 13 else -1
theorem suitV_yes {c : Int} (h : 0 ≤ c ∧ c ≤ 51) : suitV c = c / 13 := by simp [suitV, inB_true h]
theorem suitV_no {c : Int} (h : ¬ (0 ≤ c ∧ c ≤ 51)) : suitV c = -1 := by simp [suitV, inB_false h]
theorem rankV_yes {c : Int} (h : 0 ≤ c ∧ c ≤ 51) : rankV c = c % 13 := by simp [rankV, inB_true h]
theorem rankV_no {c : Int} (h : ¬ (0 ≤ c ∧ c ≤ 51)) : rankV c = -1 := by simp [rankV, inB_false h]


theorem impl_CardOf (s r : Int) (w : World) :
    Calls Tryd.prog 27 #[.int .i64 s, .int .i64 r] w fun e w' => e = .returned (.int .i64 (cardV s r)) ∧ w = w' := by
  by_cases h1 : s < 0
  · rw [cardV_no (by omega)]
    go_enter Tryd.func27, Tryd.ntmps27
    go_wp2
    go_ret
    exact ⟨rfl, rfl⟩
  by_cases h2 : 4 ≤ s
  · rw [cardV_no (by omega)]
    go_enter Tryd.func27, Tryd.ntmps27
    go_wp2
    go_ret
    exact ⟨rfl, rfl⟩
  by_cases h3 : r < 0
  · rw [cardV_no (by omega)]
    go_enter Tryd.func27, Tryd.ntmps27
    go_wp2
    go_ret
    exact ⟨rfl, rfl⟩
  by_cases h4 : 13 ≤ r
  · rw [cardV_no (by omega)]
    go_enter Tryd.func27, Tryd.ntmps27
    go_wp2
    go_ret
    exact ⟨rfl, rfl⟩
  rw [cardV_yes (by omega)]
  go_enter Tryd.func27, Tryd.ntmps27
  go_wp2
  go_ret
  exact ⟨rfl, rfl⟩





/-! ### The laws over numbers alone -/



end Go.Proofs.YtgoaikamolcffaaDoor.Lib1
