/- Chapter 5: the lists of holders, filled from the last card to the first: lists alone. -/
import Derived.Test.YteojdlacdnfgiaaLists5
import Derived.Test.YteojdlacdnfgiaaRange5
namespace Go.Proofs.Yteojdlacdnfgiaa.Lib1
open Go.RowKit
set_option maxRecDepth 100000

def stepH (L : List (List Int)) (c : Nat) (s : Int) : List (List Int) := if s = -1 then L else L.set (c / 13) (L.getD (c / 13) [] ++ [s])
def foldH {m : Nat} (pre : List (Fin m × Int)) : List (List Int) := pre.foldl (fun L x => stepH L x.1.val x.2) [[], [], [], []]
theorem foldH_snoc {m : Nat} (pre : List (Fin m × Int)) (x : Fin m × Int) : foldH (pre ++ [x]) = stepH (foldH pre) x.1.val x.2 := by simp [foldH]
theorem stepH_length (L : List (List Int)) (c : Nat) (s : Int) : (stepH L c s).length = L.length := by unfold stepH; split <;> simp
theorem foldl_length {m : Nat} : ∀ (pre : List (Fin m × Int)) (L : List (List Int)), (pre.foldl (fun L x => stepH L x.1.val x.2) L).length = L.length
  | [], _ => rfl
  | x :: pre, L => by rw [List.foldl_cons, foldl_length pre, stepH_length]
theorem foldH_length {m : Nat} (pre : List (Fin m × Int)) : (foldH pre).length = 4 := foldl_length pre _
theorem foldl_len {m : Nat} (hm : m ≤ 52) : ∀ (pre : List (Fin m × Int)) (L : List (List Int)) (b : Nat), L.length = 4 → (∀ j, (L.getD j []).length ≤ b) → ∀ j, ((pre.foldl (fun L x => stepH L x.1.val x.2) L).getD j []).length ≤ b + pre.length
  | [], _, _, _, h => h
  | x :: pre, L, b, h4, h => fun j => by
    have := foldl_len hm pre (stepH L x.1.val x.2) (b + 1) (by rw [stepH_length, h4]) (fun i => by
      unfold stepH
      split
      · have := h i; omega
      · rw [set_getD _ _ _ _ (by have := x.1.isLt; omega)]
        split
        · rw [List.length_append, List.length_singleton]; have := h (x.1.val / 13); omega
        · have := h i; omega) j
    rw [List.foldl_cons, List.length_cons]; omega
theorem foldH_len {m : Nat} (hm : m ≤ 52) (pre : List (Fin m × Int)) (j : Nat) : ((foldH pre).getD j []).length ≤ pre.length := by
  have := foldl_len hm pre [[], [], [], []] 0 rfl (fun j => by match j with | 0 | 1 | 2 | 3 => exact Nat.le_refl _ | j + 4 => simp) j
  unfold foldH; omega
def hold52 (f : Int → Int) : List Int := (List.range 52).map fun c : Nat => f (c : Int)
theorem hold52_length (f : Int → Int) : (hold52 f).length = 52 := by simp [hold52]
theorem hold52_at (f : Int → Int) {j : Nat} (hj : j < 52) : (hold52 f).getD j 0 = f (j : Int) := by simp [hold52, List.getD, hj]
def lt52 (f : Int → Int) (q k : Nat) : List Int := listTo f q (min (k - 13 * (3 - q)) 13)
theorem lt52_same (f : Int → Int) {q k : Nat} (hk : k < 52) (h : (51 - k) / 13 ≠ q) (hq : q < 4) : lt52 f q (k + 1) = lt52 f q k := by
  unfold lt52
  congr 1
  omega
theorem lt52_step (f : Int → Int) {q k : Nat} (hk : k < 52) (h : (51 - k) / 13 = q) (hf : f ((51 - k : Nat) : Int) = -1 ∨ 0 ≤ f ((51 - k : Nat) : Int)) : lt52 f q (k + 1) = if f ((51 - k : Nat) : Int) = -1 then lt52 f q k else lt52 f q k ++ [f ((51 - k : Nat) : Int)] := by
  unfold lt52
  rw [show min (k + 1 - 13 * (3 - q)) 13 = min (k - 13 * (3 - q)) 13 + 1 by omega, listTo_succ, show 13 * (q : Int) + (12 - ((min (k - 13 * (3 - q)) 13 : Nat) : Int)) = ((51 - k : Nat) : Int) by omega]
  split
  · rw [if_neg (by omega)]
  · rw [if_pos (by omega), List.append_nil]
theorem fold_state (f : Int → Int) (hf : ∀ x, f x = -1 ∨ 0 ≤ f x) : ∀ k h, foldH (bwTo (hold52 f) k h) = [lt52 f 0 k, lt52 f 1 k, lt52 f 2 k, lt52 f 3 k]
  | 0, _ => rfl
  | k + 1, h => by
    have hl := hold52_length f
    have hk : k < 52 := by omega
    rw [bwTo, foldH_snoc, fold_state f hf k (by omega)]
    simp only [hl, show 52 - 1 - k = 51 - k by omega]
    rw [hold52_at f (by omega)]
    unfold stepH
    have hq : (51 - k) / 13 = 0 ∨ (51 - k) / 13 = 1 ∨ (51 - k) / 13 = 2 ∨ (51 - k) / 13 = 3 := by omega
    have hs : ∀ q, (51 - k) / 13 = q → lt52 f q (k + 1) = if f ((51 - k : Nat) : Int) = -1 then lt52 f q k else lt52 f q k ++ [f ((51 - k : Nat) : Int)] := fun q hq => lt52_step f hk hq (hf _)
    have hn : ∀ q, q < 4 → (51 - k) / 13 ≠ q → lt52 f q (k + 1) = lt52 f q k := fun q h4 hq => lt52_same f hk hq h4
    generalize f ((51 - k : Nat) : Int) = z at hs
    rcases hq with e | e | e | e
    · rw [hs 0 e, hn 1 (by omega) (by omega), hn 2 (by omega) (by omega), hn 3 (by omega) (by omega), e]; split <;> rfl
    · rw [hs 1 e, hn 0 (by omega) (by omega), hn 2 (by omega) (by omega), hn 3 (by omega) (by omega), e]; split <;> rfl
    · rw [hs 2 e, hn 0 (by omega) (by omega), hn 1 (by omega) (by omega), hn 3 (by omega) (by omega), e]; split <;> rfl
    · rw [hs 3 e, hn 0 (by omega) (by omega), hn 1 (by omega) (by omega), hn 2 (by omega) (by omega), e]; split <;> rfl
theorem fold_lists (f : Int → Int) (hf : ∀ x, f x = -1 ∨ 0 ≤ f x) : foldH (bwTo (hold52 f) (hold52 f).length (Nat.le_refl _)) = listsTo f 4 := by
  rw [fold_state f hf, hold52_length, lists_four]
  have h : ∀ q, q < 4 → lt52 f q 52 = listQ f q := fun q hq => by
    unfold lt52; rw [show min (52 - 13 * (3 - q)) 13 = 13 by omega, listTo_all]
  rw [h 0 (by omega), h 1 (by omega), h 2 (by omega), h 3 (by omega)]

end Go.Proofs.Yteojdlacdnfgiaa.Lib1
