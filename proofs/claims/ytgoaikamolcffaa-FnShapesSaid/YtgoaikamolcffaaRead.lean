/- Contracts of the functions of chapter 1 that read a card's text (program and model), and the law that compares them. -/
import Derived.Test.YtgoaikamolcffaaText
import Derived.LoopTactic
import Derived.Lib.Bytealg
import Derived.Lib.Hide
import Derived.Laws.Externs
namespace Go.Proofs.Ytgoaikamolcffaa.Lib1
open Go.RowKit


theorem idx_found : ∀ (l : List UInt8) (c : UInt8) (k : Nat), k < l.length → (∀ j, j < k → l.getD j 0 ≠ c) → l.getD k 0 = c → Lib.indexByte l c = (k : Int)
  | [], _, k, h, _, _ => by simp at h
  | b :: l, c, 0, _, _, h2 => by simp at h2; simp [Lib.indexByte, h2]
  | b :: l, c, k + 1, h, h1, h2 => by
    have ih := idx_found l c k (by simpa using h) (fun j hj => by simpa using h1 (j + 1) (by omega)) (by simpa using h2)
    have hb : b ≠ c := by simpa using h1 0 (by omega)
    unfold Lib.indexByte
    rw [ih]
    have e1 : (b == c) = false := by simpa using hb
    have e2 : (((k : Nat) : Int) == -1) = false := by rw [beq_eq_false_iff_ne]; omega
    simp [e1, e2]
theorem idx_none : ∀ (l : List UInt8) (c : UInt8), (∀ j, j < l.length → l.getD j 0 ≠ c) → Lib.indexByte l c = -1
  | [], _, _ => rfl
  | b :: l, c, h => by
    have ih := idx_none l c (fun j hj => by simpa using h (j + 1) (by simpa using hj))
    have hb : b ≠ c := by simpa using h 0 (by simp)
    have e1 : (b == c) = false := by simpa using hb
    unfold Lib.indexByte
    simp [ih, e1]
theorem byte_getD (s : ByteArray) (k : Nat) (h : k < s.size) : s.data.toList.getD k 0 = s[k] := by
  have hl : k < s.data.toList.length := by simpa using h
  simp [List.getD, List.getElem?_eq_getElem hl]
  rfl




/-- What ReadCard finds: the card, or -1. -/
def rdC (s : ByteArray) : Int := if s.size = 2 then cardV (Lib.indexByte suitL (s.data.toList.getD 0 0)) (Lib.indexByte rankL (s.data.toList.getD 1 0)) else -1
def rdV (s : ByteArray) : Int := if 0 ≤ rdC s then rdC s else 0
def rdB (s : ByteArray) : Bool := decide (0 ≤ rdC s)
theorem cardV_range (a b : Int) : cardV a b = -1 ∨ 0 ≤ cardV a b ∧ cardV a b ≤ 51 := by
  by_cases h : (0 ≤ a ∧ a ≤ 3) ∧ 0 ≤ b ∧ b ≤ 12
  · right; rw [cardV_yes h]; omega
  · left; exact cardV_no h
theorem rdC_range (s : ByteArray) : rdC s = -1 ∨ 0 ≤ rdC s ∧ rdC s ≤ 51 := by
  unfold rdC; split
  · exact cardV_range _ _
  · left; rfl


def svI (s : ByteArray) (k : Nat) : Int := if k = 0 then -1 else Lib.indexByte suitL (s.data.toList.getD 0 0)
def rvI (s : ByteArray) (k : Nat) : Int := if k ≤ 1 then -1 else Lib.indexByte rankL (s.data.toList.getD 1 0)
theorem idxS (s : ByteArray) (h : 0 < s.size) : Lib.indexByte (ByteArray.mk #[67, 68, 72, 83]).data.toList s[0] = svI s 1 := by
  rw [← byte_getD s 0 h]; rfl
theorem idxR (s : ByteArray) (h : 1 < s.size) : Lib.indexByte (ByteArray.mk #[50, 51, 52, 53, 54, 55, 56, 57, 84, 74, 81, 75, 65]).data.toList s[1] = rvI s 2 := by
  rw [← byte_getD s 1 h]; rfl


theorem rdC_two (s : ByteArray) (h : s.size = 2) : cardV (svI s 2) (rvI s 2) = rdC s := by simp [rdC, h, svI, rvI]
theorem rdC_not (s : ByteArray) (h : s.size ≠ 2) : rdC s = -1 := by simp [rdC, h]

theorem ret_read {a b : Int × Bool} (h : a = b) : Ending.returned (.tuple #[.int .i64 a.1, .bool a.2]) = .returned (.tuple #[.int .i64 b.1, .bool b.2]) := by rw [h]
theorem rd_no {s : ByteArray} (h : rdC s = -1) : ((0 : Int), false) = (rdV s, rdB s) := by simp [rdV, rdB, h]
theorem rd_yes {s : ByteArray} (h : 0 ≤ rdC s) : (rdC s, true) = (rdV s, rdB s) := by simp [rdV, rdB, h]



theorem grown_drewN (w : World) (q : Nat) : Grown w (w.drewN q) := by
  induction q with
  | zero => exact Grown.refl _
  | succ q ih => exact ih.drew


end Go.Proofs.Ytgoaikamolcffaa.Lib1
