/- Chapter 7: auctions as lists of calls: the standing bid, its state and its place, passes at the end, legal calls, valid auctions, at most 319 calls. -/
import Derived.Test.YtnkbcmkngghnoaaCall6
namespace Go.Proofs.Ytnkbcmkngghnoaa.Lib1
open Go.RowKit
set_option maxRecDepth 100000

/-- The standing bid behind the first k calls (-1: none). -/
def bidTo (cs : List Int) : Nat → Int
  | 0 => -1
  | k + 1 => if inB (cs.getD k 0) 3 37 then cs.getD k 0 else bidTo cs k
/-- .. its state. -/
def stTo (cs : List Int) : Nat → Int
  | 0 => 0
  | k + 1 => if inB (cs.getD k 0) 3 37 then 0 else if cs.getD k 0 = 1 then 1 else if cs.getD k 0 = 2 then 2 else stTo cs k
/-- .. its place (-1: none). -/
def atTo (cs : List Int) : Nat → Int
  | 0 => -1
  | k + 1 => if inB (cs.getD k 0) 3 37 then (k : Int) else atTo cs k
/-- How many passes stand at the end of the first k calls. -/
def passTo (cs : List Int) : Nat → Nat
  | 0 => 0
  | k + 1 => if cs.getD k 0 = 0 then passTo cs k + 1 else 0
def overTo (cs : List Int) (k : Nat) : Bool := decide (4 ≤ passTo cs k) || (decide (passTo cs k = 3) && decide (3 < k))
/-- Is c legal behind the first k calls (which do not end an auction)? -/
def legTo (cs : List Int) (k : Nat) (c : Int) : Bool :=
  if c = 0 then true
  else if c = 1 then decide (0 ≤ bidTo cs k) && decide (stTo cs k = 0) && !decide (((k : Int) - atTo cs k) % 2 = 0)
  else if c = 2 then decide (0 ≤ bidTo cs k) && decide (stTo cs k = 1) && decide (((k : Int) - atTo cs k) % 2 = 0)
  else inB c 3 37 && decide (bidTo cs k < c)
def validTo (cs : List Int) : Nat → Bool
  | 0 => true
  | k + 1 => validTo cs k && !overTo cs k && legTo cs k (cs.getD k 0)
def aucB (d : Int) (cs : List Int) : Bool := inB d 0 3 && validTo cs cs.length

/-! ### Nothing depends on what stands behind -/
theorem bidTo_congr {cs ds : List Int} : ∀ k, (∀ j, j < k → cs.getD j 0 = ds.getD j 0) → bidTo cs k = bidTo ds k
  | 0, _ => rfl
  | k + 1, h => by simp only [bidTo]; rw [h k (by omega), bidTo_congr k (fun j hj => h j (by omega))]
theorem stTo_congr {cs ds : List Int} : ∀ k, (∀ j, j < k → cs.getD j 0 = ds.getD j 0) → stTo cs k = stTo ds k
  | 0, _ => rfl
  | k + 1, h => by simp only [stTo]; rw [h k (by omega), stTo_congr k (fun j hj => h j (by omega))]
theorem atTo_congr {cs ds : List Int} : ∀ k, (∀ j, j < k → cs.getD j 0 = ds.getD j 0) → atTo cs k = atTo ds k
  | 0, _ => rfl
  | k + 1, h => by simp only [atTo]; rw [h k (by omega), atTo_congr k (fun j hj => h j (by omega))]
theorem passTo_congr {cs ds : List Int} : ∀ k, (∀ j, j < k → cs.getD j 0 = ds.getD j 0) → passTo cs k = passTo ds k
  | 0, _ => rfl
  | k + 1, h => by simp only [passTo]; rw [h k (by omega), passTo_congr k (fun j hj => h j (by omega))]
theorem overTo_congr {cs ds : List Int} (k : Nat) (h : ∀ j, j < k → cs.getD j 0 = ds.getD j 0) : overTo cs k = overTo ds k := by unfold overTo; rw [passTo_congr k h]
theorem legTo_congr {cs ds : List Int} (k : Nat) (h : ∀ j, j < k → cs.getD j 0 = ds.getD j 0) (c : Int) : legTo cs k c = legTo ds k c := by unfold legTo; rw [bidTo_congr k h, stTo_congr k h, atTo_congr k h]
theorem validTo_congr {cs ds : List Int} : ∀ k, (∀ j, j < k → cs.getD j 0 = ds.getD j 0) → validTo cs k = validTo ds k
  | 0, _ => rfl
  | k + 1, h => by
    have hk : ∀ j, j < k → cs.getD j 0 = ds.getD j 0 := fun j hj => h j (by omega)
    simp only [validTo]; rw [h k (by omega), validTo_congr k hk, overTo_congr k hk, legTo_congr k hk]
theorem getD_snoc (cs : List Int) (c : Int) (j : Nat) (h : j < cs.length) : (cs ++ [c]).getD j 0 = cs.getD j 0 := by
  simp [List.getD, List.getElem?_append_left h]
theorem getD_last (cs : List Int) (c : Int) : (cs ++ [c]).getD cs.length 0 = c := by simp [List.getD]

/-! ### Ranges -/
theorem stand_rng (cs : List Int) : ∀ k, ((bidTo cs k = -1 ∧ atTo cs k = -1) ∨ (3 ≤ bidTo cs k ∧ bidTo cs k ≤ 37 ∧ 0 ≤ atTo cs k ∧ atTo cs k < (k : Int) ∧ cs.getD (atTo cs k).toNat 0 = bidTo cs k)) ∧ 0 ≤ stTo cs k ∧ stTo cs k ≤ 2
  | 0 => ⟨.inl ⟨rfl, rfl⟩, by simp [stTo], by simp [stTo]⟩
  | k + 1 => by
    have ih := stand_rng cs k
    by_cases h : 3 ≤ cs.getD k 0 ∧ cs.getD k 0 ≤ 37
    · simp only [bidTo, stTo, atTo, inB_true h, if_true]
      exact ⟨.inr ⟨h.1, h.2, by omega, by omega, by simp⟩, by omega, by omega⟩
    · simp only [bidTo, stTo, atTo, inB_false h, Bool.false_eq_true, if_false]
      refine ⟨?_, ?_, ?_⟩
      · rcases ih.1 with h1 | ⟨h1, h2, h3, h4, h5⟩
        · exact .inl h1
        · exact .inr ⟨h1, h2, h3, by omega, h5⟩
      · split
        · omega
        · split
          · omega
          · exact ih.2.1
      · split
        · omega
        · split
          · omega
          · exact ih.2.2
theorem pass_le (cs : List Int) : ∀ k, passTo cs k ≤ k
  | 0 => Nat.le_refl _
  | k + 1 => by simp only [passTo]; have := pass_le cs k; split <;> omega
/-- A legal call is a call. -/
theorem leg_call {cs : List Int} {k : Nat} {c : Int} (h : legTo cs k c = true) : 0 ≤ c ∧ c ≤ 37 := by
  unfold legTo at h
  by_cases h0 : c = 0
  · omega
  rw [if_neg h0] at h
  by_cases h1 : c = 1
  · omega
  rw [if_neg h1] at h
  by_cases h2 : c = 2
  · omega
  rw [if_neg h2] at h
  simp only [inB, Bool.and_eq_true, decide_eq_true_eq] at h
  omega
theorem leg_bid {cs : List Int} {k : Nat} {c : Int} (h0 : 3 ≤ c) (h : legTo cs k c = true) : c ≤ 37 ∧ bidTo cs k < c := by
  unfold legTo at h
  rw [if_neg (by omega), if_neg (by omega), if_neg (by omega)] at h
  simp only [inB, Bool.and_eq_true, decide_eq_true_eq] at h
  omega
theorem leg_double {cs : List Int} {k : Nat} (h : legTo cs k 1 = true) : 0 ≤ bidTo cs k ∧ stTo cs k = 0 ∧ ¬ ((k : Int) - atTo cs k) % 2 = 0 := by
  unfold legTo at h
  rw [if_neg (by omega), if_pos rfl] at h
  simp only [Bool.and_eq_true, decide_eq_true_eq, Bool.not_eq_true', decide_eq_false_iff_not] at h
  exact ⟨h.1.1, h.1.2, h.2⟩
theorem leg_redouble {cs : List Int} {k : Nat} (h : legTo cs k 2 = true) : 0 ≤ bidTo cs k ∧ stTo cs k = 1 ∧ ((k : Int) - atTo cs k) % 2 = 0 := by
  unfold legTo at h
  rw [if_neg (by omega), if_neg (by omega), if_pos rfl] at h
  simp only [Bool.and_eq_true, decide_eq_true_eq] at h
  exact ⟨h.1.1, h.1.2, h.2⟩
theorem valid_succ {cs : List Int} {k : Nat} (h : validTo cs (k + 1) = true) : validTo cs k = true ∧ overTo cs k = false ∧ legTo cs k (cs.getD k 0) = true := by
  simp only [validTo, Bool.and_eq_true, Bool.not_eq_true'] at h
  exact ⟨h.1.1, h.1.2, h.2⟩
theorem valid_le {cs : List Int} : ∀ {n k : Nat}, k ≤ n → validTo cs n = true → validTo cs k = true
  | 0, k, hk, h => by
    obtain rfl : k = 0 := Nat.le_zero.1 hk
    exact h
  | n + 1, k, hk, h => by
    by_cases e : k = n + 1
    · subst e; exact h
    · exact valid_le (by omega) (valid_succ h).1
theorem valid_call {cs : List Int} {n j : Nat} (h : validTo cs n = true) (hj : j < n) : 0 ≤ cs.getD j 0 ∧ cs.getD j 0 ≤ 37 := leg_call (valid_succ (valid_le (show j + 1 ≤ n by omega) h)).2.2
/-- What is not over: no bid: at most three passes; a bid: at most two. -/
theorem over_pass {cs : List Int} {k : Nat} (h : overTo cs k = false) : passTo cs k ≤ 3 ∧ (3 < k → passTo cs k ≤ 2) := by
  unfold overTo at h
  simp only [Bool.or_eq_false_iff, decide_eq_false_iff_not, Bool.and_eq_false_iff] at h
  omega
/-- How long an auction can be, by its state. -/
theorem valid_len {cs : List Int} : ∀ k, validTo cs k = true → (bidTo cs k = -1 → k = passTo cs k ∧ k ≤ 4) ∧ (3 ≤ bidTo cs k → (k : Int) ≤ 4 + 9 * (bidTo cs k - 3) + 3 * stTo cs k + (passTo cs k : Int) ∧ passTo cs k ≤ 3 ∧ (passTo cs k : Int) + 1 ≤ (k : Int))
  | 0, _ => ⟨fun _ => ⟨rfl, by omega⟩, fun h => by simp [bidTo] at h⟩
  | k + 1, h => by
    obtain ⟨h1, h2, h3⟩ := valid_succ h
    have ih := valid_len k h1
    have hp := over_pass h2
    have hr := stand_rng cs k
    have hc := leg_call h3
    have hp2 : 3 ≤ bidTo cs k → passTo cs k ≤ 2 := fun b1 => by
      have a := ih.2 b1
      by_cases q : 3 < k
      · exact hp.2 q
      · omega
    by_cases hb : 3 ≤ cs.getD k 0 ∧ cs.getD k 0 ≤ 37
    · have hl := leg_bid hb.1 h3
      have hne : ¬ cs.getD k 0 = 0 := by omega
      simp only [bidTo, stTo, passTo, inB_true hb, if_true, if_neg hne]
      refine ⟨fun h => by omega, fun _ => ?_⟩
      rcases hr.1 with ⟨e1, _⟩ | ⟨b1, b2, b3, b4, b5⟩
      · have := ih.1 e1
        omega
      · have := ih.2 b1
        have := hp2 b1
        omega
    · simp only [bidTo, stTo, passTo, inB_false hb, Bool.false_eq_true, if_false]
      by_cases h0 : cs.getD k 0 = 0
      · have e1 : ¬ cs.getD k 0 = 1 := by omega
        have e2 : ¬ cs.getD k 0 = 2 := by omega
        simp only [if_neg e1, if_neg e2, if_pos h0]
        refine ⟨fun e => ?_, fun e => ?_⟩
        · have := ih.1 e; omega
        · have := ih.2 e
          have := hp2 e
          omega
      · by_cases h11 : cs.getD k 0 = 1
        · simp only [if_neg h0, if_pos h11]
          rw [h11] at h3
          have hd := leg_double h3
          refine ⟨fun e => by omega, fun e => ?_⟩
          have := ih.2 e
          have := hp2 e
          omega
        · have h22 : cs.getD k 0 = 2 := by omega
          simp only [if_neg h0, if_neg h11, if_pos h22]
          rw [h22] at h3
          have hd := leg_redouble h3
          refine ⟨fun e => by omega, fun e => ?_⟩
          have := ih.2 e
          have := hp2 e
          omega
theorem valid_319 {cs : List Int} {k : Nat} (h : validTo cs k = true) : k ≤ 319 := by
  have := valid_len k h
  have hr := stand_rng cs k
  rcases hr.1 with ⟨e1, _⟩ | ⟨b1, b2, b3, b4, b5⟩
  · have := this.1 e1; omega
  · have := this.2 b1; omega
end Go.Proofs.Ytnkbcmkngghnoaa.Lib1
