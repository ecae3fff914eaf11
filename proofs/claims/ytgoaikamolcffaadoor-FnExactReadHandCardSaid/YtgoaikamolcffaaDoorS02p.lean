/- Contracts of the model's l02Down and PatternOf of chapter 2. -/
import Derived.Test.YtgoaikamolcffaaDoorS02
namespace Go.Proofs.YtgoaikamolcffaaDoor.Lib1
open Go.RowKit

def ltB (x : Int) (l : List Int) : Bool := l.any fun z => decide (z < x)
def insDTo (x : Int) (l : List Int) : List Int := if ltB x l then insD x l else l
theorem insD_not (x : Int) : ∀ l : List Int, ltB x l = false → insD x l = l ++ [x]
  | [], _ => rfl
  | z :: l, h => by
    simp only [ltB, List.any_cons, Bool.or_eq_false_iff, decide_eq_false_iff_not] at h
    unfold insD; rw [if_neg h.1, insD_not x l h.2]; rfl
theorem insD_snoc (x z : Int) : ∀ l : List Int, ltB x l = true → insD x (l ++ [z]) = insD x l ++ [z]
  | [], h => by simp [ltB] at h
  | y :: l, h => by
    by_cases e : y < x
    · simp [insD, e]
    · have h' : ltB x l = true := by simpa [ltB, e] using h
      simp [insD, e, insD_snoc x z l h']
theorem insD_snoc_now (x z : Int) (hz : z < x) : ∀ l : List Int, ltB x l = false → insD x (l ++ [z]) = l ++ [x] ++ [z]
  | [], _ => by simp [insD, hz]
  | y :: l, h => by
    simp only [ltB, List.any_cons, Bool.or_eq_false_iff, decide_eq_false_iff_not] at h
    simp [insD, h.1, insD_snoc_now x z hz l h.2]
theorem ltB_snoc (x z : Int) (l : List Int) : ltB x (l ++ [z]) = (ltB x l || decide (z < x)) := by simp [ltB]
theorem insDTo_done {x z : Int} {l : List Int} (h : ltB x l = true) : insDTo x (l ++ [z]) = insDTo x l ++ [z] := by
  simp [insDTo, ltB_snoc, h, insD_snoc x z l h]
theorem insDTo_now {x z : Int} {l : List Int} (h : ltB x l = false) (hz : z < x) : insDTo x (l ++ [z]) = insDTo x l ++ [x] ++ [z] := by
  simp only [insDTo, ltB_snoc, h, hz, decide_true, Bool.false_or, if_true, insD_snoc_now x z hz l h]; simp
theorem insDTo_not {x z : Int} {l : List Int} (h : ltB x l = false) (hz : ¬ z < x) : insDTo x (l ++ [z]) = insDTo x l ++ [z] := by
  simp [insDTo, ltB_snoc, h, hz]
theorem insDTo_le (x : Int) (l : List Int) : (insDTo x l).length ≤ l.length + 1 := by
  unfold insDTo; split
  · rw [insD_length]; omega
  · omega
theorem down_take {zs : List Int} {k : Nat} (h : k < zs.length) : downF (zs.take (k + 1)) = insD (zs.getD k 0) (downF (zs.take k)) := by
  rw [take_snoc zs k h]; simp [downF]

theorem below_drewN {B : Nat} {a w : World} (h : Below B a w) (q : Nat) : Below B a (w.drewN q) := ⟨h.os, h.tape, h.output, h.size, h.block⟩
theorem OwnV.still {w w' : World} {base : Nat} {v : Value} {zs : List Int} (h : OwnV w base v zs) (c : Chg w w' 0 0) : OwnV w' base v zs := h.chg c (Nat.zero_le _)



end Go.Proofs.YtgoaikamolcffaaDoor.Lib1
