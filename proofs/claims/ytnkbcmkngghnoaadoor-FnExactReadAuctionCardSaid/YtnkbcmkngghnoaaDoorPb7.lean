/- Chapter 7: the program's bidding as functions of the calls that were made: its bid, its side, when it has ended, what it allows. -/
import Derived.Test.YtnkbcmkngghnoaaDoorAucD7
namespace Go.Proofs.YtnkbcmkngghnoaaDoor.Lib1
open Go.RowKit
set_option maxRecDepth 100000

def bidP (cs : List Int) (k : Nat) : Int := if bidTo cs k < 0 then 0 else bidTo cs k
def sidP (d : Int) (cs : List Int) (k : Nat) : Int := if bidTo cs k < 0 then -1 else (d + atTo cs k) % 4 % 2
theorem bidP_range (cs : List Int) (k : Nat) : (bidP cs k = 0 ∧ bidTo cs k = -1) ∨ (3 ≤ bidP cs k ∧ bidP cs k ≤ 37 ∧ bidTo cs k = bidP cs k) := by
  have hr := (stand_rng cs k).1
  unfold bidP
  rcases hr with ⟨e, _⟩ | ⟨h1, h2, _⟩
  · rw [e]; exact .inl ⟨rfl, rfl⟩
  · rw [if_neg (by omega)]; exact .inr ⟨h1, h2, rfl⟩
theorem sidP_range (d : Int) (cs : List Int) (k : Nat) : -1 ≤ sidP d cs k ∧ sidP d cs k ≤ 1 := by
  unfold sidP
  split
  · omega
  · omega
/-- The bidding has ended: four passes without a bid, three behind one. -/
theorem endP {cs : List Int} {k : Nat} (h : validTo cs k = true) : overTo cs k = if bidP cs k = 0 then decide (passTo cs k = 4) else decide (passTo cs k = 3) := by
  have hv := valid_len k h
  have hb := bidP_range cs k
  unfold overTo
  rcases hb with ⟨e, eb⟩ | ⟨e, _, eb⟩
  · rw [if_pos e]
    have := hv.1 eb
    by_cases h4 : passTo cs k = 4
    · rw [decide_eq_true h4, decide_eq_true (by omega)]; rfl
    · rw [decide_eq_false h4, decide_eq_false (by omega)]
      by_cases h3 : passTo cs k = 3
      · rw [decide_eq_true h3, decide_eq_false (by omega)]; rfl
      · rw [decide_eq_false h3]; rfl
  · rw [if_neg (by omega)]
    have := hv.2 (by omega)
    rw [decide_eq_false (show ¬ 4 ≤ passTo cs k by omega)]
    by_cases h3 : passTo cs k = 3
    · rw [decide_eq_true h3, decide_eq_true (by omega)]; rfl
    · rw [decide_eq_false h3]; rfl
theorem pass_small {cs : List Int} {k : Nat} (h : validTo cs k = true) : passTo cs k ≤ 319 := by have := pass_le cs k; have := valid_319 h; omega
theorem dblP {d : Int} {cs : List Int} {k : Nat} : legTo cs k 1 = (sidP d cs k == 1 - (d + (k : Int)) % 4 % 2 && stTo cs k == 0) := by
  have hr := (stand_rng cs k).1
  have e : legTo cs k 1 = (decide (0 ≤ bidTo cs k) && decide (stTo cs k = 0) && !decide (((k : Int) - atTo cs k) % 2 = 0)) := rfl
  rw [e]
  unfold sidP
  by_cases hs : stTo cs k = 0
  · rw [hs, decide_eq_true rfl, Bool.and_true]
    rcases hr with ⟨e1, _⟩ | ⟨h1, h2, h3, h4, _⟩
    · rw [if_pos (by omega), decide_eq_false (by omega)]
      have : ((-1 : Int) == 1 - (d + (k : Int)) % 4 % 2) = false := by simp; omega
      rw [this]; rfl
    · rw [if_neg (by omega), decide_eq_true (by omega)]
      by_cases hp : ((k : Int) - atTo cs k) % 2 = 0
      · have : ((d + atTo cs k) % 4 % 2 == 1 - (d + (k : Int)) % 4 % 2) = false := by simp; omega
        rw [this, decide_eq_true hp]; rfl
      · have : ((d + atTo cs k) % 4 % 2 == 1 - (d + (k : Int)) % 4 % 2) = true := by simp; omega
        rw [this, decide_eq_false hp]; rfl
  · have : (stTo cs k == 0) = false := by simpa using hs
    rw [this, decide_eq_false hs]; simp
theorem rdbP {d : Int} {cs : List Int} {k : Nat} : legTo cs k 2 = (sidP d cs k == (d + (k : Int)) % 4 % 2 && stTo cs k == 1) := by
  have hr := (stand_rng cs k).1
  have e : legTo cs k 2 = (decide (0 ≤ bidTo cs k) && decide (stTo cs k = 1) && decide (((k : Int) - atTo cs k) % 2 = 0)) := rfl
  rw [e]
  unfold sidP
  by_cases hs : stTo cs k = 1
  · rw [hs, decide_eq_true rfl, Bool.and_true]
    rcases hr with ⟨e1, _⟩ | ⟨h1, h2, h3, h4, _⟩
    · rw [if_pos (by omega), decide_eq_false (by omega)]
      have : ((-1 : Int) == (d + (k : Int)) % 4 % 2) = false := by simp; omega
      rw [this]; rfl
    · rw [if_neg (by omega), decide_eq_true (by omega)]
      by_cases hp : ((k : Int) - atTo cs k) % 2 = 0
      · have : ((d + atTo cs k) % 4 % 2 == (d + (k : Int)) % 4 % 2) = true := by simp; omega
        rw [this, decide_eq_true hp]; rfl
      · have : ((d + atTo cs k) % 4 % 2 == (d + (k : Int)) % 4 % 2) = false := by simp; omega
        rw [this, decide_eq_false hp]; rfl
  · have : (stTo cs k == 1) = false := by simpa using hs
    rw [this, decide_eq_false hs]; simp
theorem bidleg {cs : List Int} {k : Nat} {c : Int} (h0 : c ≠ 0) (h1 : c ≠ 1) (h2 : c ≠ 2) : legTo cs k c = (inB c 3 37 && decide (bidP cs k < c)) := by
  unfold legTo
  rw [if_neg h0, if_neg h1, if_neg h2]
  by_cases hc : 3 ≤ c ∧ c ≤ 37
  · rw [inB_true hc, Bool.true_and, Bool.true_and]
    have hb := bidP_range cs k
    by_cases hl : bidP cs k < c
    · rw [decide_eq_true hl, decide_eq_true (by omega)]
    · rw [decide_eq_false hl, decide_eq_false (by omega)]
  · rw [inB_false hc]; rfl
theorem valid_step {cs : List Int} {k : Nat} (h : validTo cs k = true) : validTo cs (k + 1) = (!overTo cs k && legTo cs k (cs.getD k 0)) := by
  simp only [validTo]; rw [h]; simp
/-- What a call that is not one of the three others turns. -/
theorem turns_bid {d : Int} {cs : List Int} {k : Nat} (h : 3 ≤ cs.getD k 0 ∧ cs.getD k 0 ≤ 37) : bidP cs (k + 1) = cs.getD k 0 ∧ sidP d cs (k + 1) = (d + (k : Int)) % 4 % 2 ∧ stTo cs (k + 1) = 0 ∧ passTo cs (k + 1) = 0 := by
  obtain ⟨h1, h2, h3⟩ := bidTo_yes (k := k) h
  unfold bidP sidP
  rw [h1, h2, h3, if_neg (by omega), if_neg (by omega)]
  refine ⟨rfl, rfl, rfl, ?_⟩
  rw [passTo, if_neg (by omega)]
theorem turns_not {d : Int} {cs : List Int} {k : Nat} (h : ¬ (3 ≤ cs.getD k 0 ∧ cs.getD k 0 ≤ 37)) : bidP cs (k + 1) = bidP cs k ∧ sidP d cs (k + 1) = sidP d cs k ∧ (stTo cs (k + 1) = if cs.getD k 0 = 1 then 1 else if cs.getD k 0 = 2 then 2 else stTo cs k) ∧ passTo cs (k + 1) = if cs.getD k 0 = 0 then passTo cs k + 1 else 0 := by
  obtain ⟨h1, h2, h3⟩ := bidTo_not (k := k) h
  unfold bidP sidP
  rw [h1, h2]
  exact ⟨rfl, rfl, h3, rfl⟩
theorem inB_01 {d : Int} (h : 0 ≤ d ∧ d ≤ 3) : inB d 0 3 = true := inB_true h
/-- The program's first bidder of the strain: the least place of the side that has bid it. -/
theorem firstP {d : Int} {cs : List Int} {n f : Nat} (hb : ¬ bidTo cs n < 0) (h1 : (d + (f : Int)) % 4 % 2 = sidP d cs n) (h2 : strV (cs.getD f 0) = strV (bidTo cs n))
    (h3 : ∀ j, j < f → ¬ (strV (cs.getD j 0) = strV (bidTo cs n) ∧ (d + (j : Int)) % 4 % 2 = sidP d cs n)) : conD d cs n = (d + (f : Int)) % 4 := by
  have hr := (stand_rng cs n).1
  rcases hr with ⟨e1, _⟩ | ⟨q1, q2, q3, q4, q5⟩
  · omega
  unfold conD
  rw [if_neg hb]
  unfold sidP at h1 h3
  rw [if_neg hb] at h1 h3
  obtain ⟨a, ha⟩ : ∃ a : Nat, atTo cs n = (a : Int) := ⟨(atTo cs n).toNat, by omega⟩
  rw [ha] at h1 h3 q5 ⊢
  have ea : ((a : Int)).toNat = a := by omega
  rw [ea] at q5 ⊢
  have hfa : f ≤ a := by
    by_cases q : f ≤ a
    · exact q
    · exact absurd ⟨by rw [q5], rfl⟩ (h3 a (by omega))
  rw [firTo_is (cs := cs) (k := a) (f := f) (s := strV (bidTo cs n)) (by rw [q5]) (by omega) h2 (fun j hj hp hs => h3 j hj ⟨hs, by omega⟩)]
/-- .. and there is one. -/
theorem firstP_ex {d : Int} {cs : List Int} {n : Nat} (hb : ¬ bidTo cs n < 0) (h3 : ∀ j, j < n → ¬ (strV (cs.getD j 0) = strV (bidTo cs n) ∧ (d + (j : Int)) % 4 % 2 = sidP d cs n)) : False := by
  have hr := (stand_rng cs n).1
  rcases hr with ⟨e1, _⟩ | ⟨q1, q2, q3, q4, q5⟩
  · omega
  obtain ⟨a, ha⟩ : ∃ a : Nat, atTo cs n = (a : Int) := ⟨(atTo cs n).toNat, by omega⟩
  refine h3 a (by omega) ⟨?_, ?_⟩
  · rw [ha] at q5
    have ea : ((a : Int)).toNat = a := by omega
    rw [ea] at q5
    rw [q5]
  · unfold sidP; rw [if_neg hb, ha]
end Go.Proofs.YtnkbcmkngghnoaaDoor.Lib1
