/- The exact laws of chapter 3 of the functions that hand back a deal, each out of a contract of the program's function and the model's. (Written by wip/gen3.py.) -/
import Derived.Test.YteojdlacdnfgiaaDoorLaw3
namespace Go.Proofs.YteojdlacdnfgiaaDoor.Lib1
open Go.RowKit
set_option maxRecDepth 100000

/-- A deal, or none: few rows, short ones. -/
def Few (R : List (List Int)) : Prop := R.length ≤ 4 ∧ ∀ j, (R.getD j []).length ≤ 13
theorem Few.cnt {R : List (List Int)} (h : Few R) : ∀ k, cnt R k ≤ 13 * k
  | 0 => Nat.le_refl _
  | k + 1 => by have := Few.cnt h k; have := h.2 k; simp only [Lib1.cnt]; omega
theorem few_nil : Few [] := ⟨by simp, fun j => by simp⟩
theorem deal_few {zss : List (List Int)} (h : dealB zss = true) : ∀ j, (zss.getD j []).length ≤ 13 := by
  obtain ⟨h4, hr, _⟩ := (deal_iff zss).1 h
  intro j
  by_cases hj : j < 4
  · exact hand_len (hr j hj).1
  · rw [List.getD_eq_getElem?_getD, List.getElem?_eq_none (by omega)]; simp
theorem mirror_few (zss : List (List Int)) : Few (mirrorV zss) := by
  unfold mirrorV
  cases h : dealB zss
  · exact few_nil
  · have h4 := ((deal_iff zss).1 h).1
    have hf := deal_few h
    refine ⟨by simp [swapR_length, h4], fun j => ?_⟩
    simp only [if_true]
    rw [swapR_getD zss 1 3 j (by omega) (by omega)]
    split
    · exact hf _
    · split <;> exact hf _
theorem rotTo_getD (zss : List (List Int)) (k : Int) : ∀ s j, (rotTo zss k s).getD j [] = if j < s then rotRow zss k j else []
  | 0, j => by simp [rotTo]
  | s + 1, j => by
    rw [rotTo, getD_snoc, rotTo_length, rotTo_getD zss k s j]
    by_cases h : j < s
    · rw [if_pos h, if_pos h, if_pos (by omega)]
    · rw [if_neg h]
      by_cases e : j = s
      · subst e; rw [if_pos rfl, if_pos (by omega)]
      · rw [if_neg e, if_neg (by omega)]
theorem rot_few (zss : List (List Int)) (k : Int) : Few (rotV zss k) := by
  unfold rotV
  cases h : dealB zss
  · exact few_nil
  · cases hk : inB k 0 3
    · exact few_nil
    · have hf := deal_few h
      refine ⟨by simp [rotTo_length], fun j => ?_⟩
      simp only [Bool.and_self, if_true]
      rw [rotTo_getD]
      split
      · exact hf _
      · simp
theorem permRows_getD (zss : List (List Int)) (to : List Int) : ∀ s j, (permRows zss to s).getD j [] = if j < s then permF (zss.getD j []) to else []
  | 0, j => by simp [permRows]
  | s + 1, j => by
    rw [permRows, getD_snoc, permRows_length, permRows_getD zss to s j]
    by_cases h : j < s
    · rw [if_pos h, if_pos h, if_pos (by omega)]
    · rw [if_neg h]
      by_cases e : j = s
      · subst e; rw [if_pos rfl, if_pos (by omega)]
      · rw [if_neg e, if_neg (by omega)]
theorem perm_few (zss : List (List Int)) (to : List Int) : Few (permV zss to) := by
  unfold permV
  cases h : dealB zss
  · exact few_nil
  · cases hk : orderB to
    · exact few_nil
    · have hf := deal_few h
      refine ⟨by simp [permRows_length], fun j => ?_⟩
      simp only [Bool.and_self, if_true]
      rw [permRows_getD]
      split
      · rw [permF, permTo_len]; exact hf _
      · simp



end Go.Proofs.YteojdlacdnfgiaaDoor.Lib1
