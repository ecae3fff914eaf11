/- Chapter 8: plays as lists: the winner of a trick, the leaders, the turn, what is left, legal cards, plays of a deal. -/
import Derived.Test.YteglffbeldlibaaLists3
namespace Go.Proofs.Yteglffbeldlibaa.Lib1
open Go.RowKit
set_option maxRecDepth 100000

/-- The best of the first m cards of a trick (0 of none). -/
def bestTo (st : Int) (t : Nat → Int) : Nat → Nat
  | 0 => 0
  | m + 1 => if m = 0 then 0 else if t (bestTo st t m) / 13 = t m / 13 then (if t (bestTo st t m) < t m then m else bestTo st t m) else if t m / 13 = st then m else bestTo st t m
theorem bestTo_lt (st : Int) (t : Nat → Int) : ∀ m, bestTo st t m ≤ m - 1
  | 0 => Nat.le_refl _
  | m + 1 => by
    have ih := bestTo_lt st t m
    rw [bestTo]
    split
    · omega
    · split
      · split <;> omega
      · split <;> omega
theorem bestTo_congr {st : Int} {t u : Nat → Int} : ∀ m, (∀ i, i < m → t i = u i) → bestTo st t m = bestTo st u m
  | 0, _ => rfl
  | m + 1, h => by
    have ih := bestTo_congr (st := st) m (fun i hi => h i (by omega))
    rw [bestTo, bestTo, ← ih]
    by_cases h0 : m = 0
    · rw [if_pos h0, if_pos h0]
    · rw [if_neg h0, if_neg h0]
      have hb := bestTo_lt st t m
      rw [h m (by omega), h (bestTo st t m) (by omega)]
/-- The seat that wins m cards of a trick. -/
def winV (st ld : Int) (t : Nat → Int) (m : Nat) : Int := (ld + (bestTo st t m : Int)) % 4
theorem winV_rng (st ld : Int) (t : Nat → Int) (m : Nat) : 0 ≤ winV st ld t m ∧ winV st ld t m ≤ 3 := by unfold winV; omega
/-- The leader of trick j. -/
def leadT (st ld : Int) (cs : List Int) : Nat → Int
  | 0 => ld
  | j + 1 => winV st (leadT st ld cs j) (fun i => cs.getD (4 * j + i) 0) 4
theorem leadT_rng {st ld : Int} (h : 0 ≤ ld ∧ ld ≤ 3) (cs : List Int) (j : Nat) : 0 ≤ leadT st ld cs j ∧ leadT st ld cs j ≤ 3 := by
  cases j with
  | zero => exact h
  | succ j => exact winV_rng _ _ _ _
theorem leadT_congr {st ld : Int} {cs ds : List Int} : ∀ j, (∀ i, i < 4 * j → cs.getD i 0 = ds.getD i 0) → leadT st ld cs j = leadT st ld ds j
  | 0, _ => rfl
  | j + 1, h => by
    rw [leadT, leadT, leadT_congr j (fun i hi => h i (by omega))]
    unfold winV
    rw [bestTo_congr 4 (fun i hi => h (4 * j + i) (by omega))]
/-- The leaders of all tricks that have a card, and of the next one behind a complete one. -/
def leadL (st ld : Int) (cs : List Int) (m : Nat) : List Int := (List.range m).map (leadT st ld cs)
theorem leadL_len (st ld : Int) (cs : List Int) (m : Nat) : (leadL st ld cs m).length = m := by simp [leadL]
theorem leadL_succ (st ld : Int) (cs : List Int) (m : Nat) : leadL st ld cs (m + 1) = leadL st ld cs m ++ [leadT st ld cs m] := by simp [leadL, List.range_succ]
theorem leadL_at {st ld : Int} {cs : List Int} {m j : Nat} (h : j < m) : (leadL st ld cs m).getD j 0 = leadT st ld cs j := by simp [leadL, List.getD, h]
/-- Whose turn it is. -/
def turnL (st ld : Int) (cs : List Int) : Int := (leadT st ld cs (cs.length / 4) + ((cs.length % 4 : Nat) : Int)) % 4
theorem turnL_rng (st ld : Int) (cs : List Int) : 0 ≤ turnL st ld cs ∧ turnL st ld cs ≤ 3 := by unfold turnL; omega
/-- The cards of a hand that have not been played. -/
def leftL (hs cs : List Int) : List Int := hs.filter fun x => !hasB cs x
theorem leftL_le (hs cs : List Int) : (leftL hs cs).length ≤ hs.length := List.length_filter_le _ _
/-- The legal cards behind a play. -/
def legL (zss : List (List Int)) (st ld : Int) (cs : List Int) : List Int :=
  let left := leftL (zss.getD (turnL st ld cs).toNat []) cs
  if cs.length % 4 = 0 then left else if 0 < (suitF (cs.getD (cs.length - cs.length % 4) 0 / 13) left).length then suitF (cs.getD (cs.length - cs.length % 4) 0 / 13) left else left
theorem legL_len (zss : List (List Int)) (st ld : Int) (cs : List Int) : (legL zss st ld cs).length ≤ (zss.getD (turnL st ld cs).toNat []).length := by
  unfold legL
  have h1 := leftL_le (zss.getD (turnL st ld cs).toNat []) cs
  have h2 := suitF_le (cs.getD (cs.length - cs.length % 4) 0 / 13) (leftL (zss.getD (turnL st ld cs).toNat []) cs)
  dsimp only
  split
  · exact h1
  · split <;> omega
/-- Cards, no two alike. -/
def diffTo (cs : List Int) : Nat → Bool
  | 0 => true
  | k + 1 => diffTo cs k && (inB (cs.getD k 0) 0 51 && !hasB (cs.take k) (cs.getD k 0))
def plainB (st ld : Int) (cs : List Int) : Bool := diffTo cs cs.length && (inB st 0 4 && (inB ld 0 3 && decide (cs.length ≤ 52)))
theorem plain_parts {st ld : Int} {cs : List Int} (h : plainB st ld cs = true) : diffTo cs cs.length = true ∧ (0 ≤ st ∧ st ≤ 4) ∧ (0 ≤ ld ∧ ld ≤ 3) ∧ cs.length ≤ 52 := by
  unfold plainB at h
  simp only [Bool.and_eq_true, decide_eq_true_eq] at h
  obtain ⟨h1, h2, h3, h4⟩ := h
  unfold inB at h2 h3
  exact ⟨h1, by simpa using h2, by simpa using h3, h4⟩
theorem diff_card {cs : List Int} : ∀ {n j : Nat}, diffTo cs n = true → j < n → 0 ≤ cs.getD j 0 ∧ cs.getD j 0 ≤ 51
  | 0, j, _, h => by omega
  | n + 1, j, h, hj => by
    simp only [diffTo, Bool.and_eq_true] at h
    by_cases e : j = n
    · subst e
      have := h.2.1
      unfold inB at this
      simpa using this
    · exact diff_card h.1 (by omega)
/-- Every one of the first k cards was legal. -/
def playTo (zss : List (List Int)) (st ld : Int) (cs : List Int) : Nat → Bool
  | 0 => true
  | k + 1 => playTo zss st ld cs k && hasB (legL zss st ld (cs.take k)) (cs.getD k 0)
def playB (zss : List (List Int)) (st ld : Int) (cs : List Int) : Bool := dealB zss && plainB st ld cs && playTo zss st ld cs cs.length
theorem play_le {zss : List (List Int)} {st ld : Int} {cs : List Int} : ∀ {n k : Nat}, k ≤ n → playTo zss st ld cs n = true → playTo zss st ld cs k = true
  | 0, k, hk, h => by
    obtain rfl : k = 0 := Nat.le_zero.1 hk
    exact h
  | n + 1, k, hk, h => by
    by_cases e : k = n + 1
    · subst e; exact h
    · simp only [playTo, Bool.and_eq_true] at h
      exact play_le (by omega) h.1
theorem diff_le {cs : List Int} : ∀ {n k : Nat}, k ≤ n → diffTo cs n = true → diffTo cs k = true
  | 0, k, hk, h => by
    obtain rfl : k = 0 := Nat.le_zero.1 hk
    exact h
  | n + 1, k, hk, h => by
    by_cases e : k = n + 1
    · subst e; exact h
    · simp only [diffTo, Bool.and_eq_true] at h
      exact diff_le (by omega) h.1
def doneB (zss : List (List Int)) (cs : List Int) : Bool := decide (cs.length = 4 * (zss.getD 0 []).length)
def turnV (zss : List (List Int)) (st ld : Int) (cs : List Int) : Int := if playB zss st ld cs && !doneB zss cs then turnL st ld cs else -1
def legV (zss : List (List Int)) (st ld : Int) (cs : List Int) : List Int := if playB zss st ld cs && !doneB zss cs then legL zss st ld cs else []
def addK (zss : List (List Int)) (st ld : Int) (cs : List Int) (x : Int) : Int := if !playB zss st ld cs then 1 else if doneB zss cs then 5 else if !hasB (legL zss st ld cs) x then 2 else 0
/-- How many of the tricks 1 .. m a side has won. -/
def cntS (st ld : Int) (cs : List Int) (s : Int) : Nat → Int
  | 0 => 0
  | j + 1 => cntS st ld cs s j + if leadT st ld cs (j + 1) % 2 = s then 1 else 0
theorem cntS_rng (st ld : Int) (cs : List Int) (s : Int) : ∀ m, 0 ≤ cntS st ld cs s m ∧ cntS st ld cs s m ≤ (m : Int)
  | 0 => by simp [cntS]
  | m + 1 => by have := cntS_rng st ld cs s m; rw [cntS]; split <;> omega
theorem cntS_sum {st ld : Int} {cs : List Int} (h : 0 ≤ ld ∧ ld ≤ 3) : ∀ m, cntS st ld cs 0 m + cntS st ld cs 1 m = (m : Int)
  | 0 => rfl
  | m + 1 => by
    have ih := cntS_sum (st := st) (cs := cs) h m
    have hr := leadT_rng (st := st) h cs (m + 1)
    rw [cntS, cntS]
    by_cases e : leadT st ld cs (m + 1) % 2 = 0
    · rw [if_pos e, if_neg (by omega)]; omega
    · rw [if_neg e, if_pos (by omega)]; omega
end Go.Proofs.Yteglffbeldlibaa.Lib1
