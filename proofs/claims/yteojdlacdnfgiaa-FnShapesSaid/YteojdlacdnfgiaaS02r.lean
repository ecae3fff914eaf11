/- The contract of the model's ReadHand of chapter 2. -/
import Derived.Test.YteojdlacdnfgiaaTwo
import Derived.Lib.Strings
namespace Go.Proofs.Yteojdlacdnfgiaa.Lib1
open Go.RowKit
set_option maxRecDepth 100000

/-- A slice in new memory and a bool are handed back. -/
def RetSB (w : World) (zs : List Int) (b : Bool) (e : Ending) (w' : World) : Prop :=
  ∃ A c, e = .returned (.tuple #[.slice A zs.length c, .bool b]) ∧ zs.length ≤ c ∧ Plain A c ∧ Own w' w.heap.size w'.heap.size A zs.length zs ∧ Chg w w' 0 0

theorem idx_range : ∀ (l : List UInt8) (c : UInt8), -1 ≤ Lib.indexByte l c ∧ Lib.indexByte l c < l.length
  | [], _ => by simp [Lib.indexByte]
  | b :: l, c => by
    have ih := idx_range l c
    unfold Lib.indexByte
    split
    · simp only [List.length_cons]; omega
    · split
      · simp only [List.length_cons]; omega
      · simp only [List.length_cons]; omega
/-- What has been read of the first k letters. -/
def readTo (l : List UInt8) (k : Nat) : List Int × Int := (l.take k).foldl stepR ([], 3)
theorem readTo_succ {l : List UInt8} {k : Nat} (h : k < l.length) : readTo l (k + 1) = stepR (readTo l k) (l.getD k 0) := by
  unfold readTo
  rw [List.take_succ_eq_append_getElem h, List.foldl_append]
  simp [List.getD, List.getElem?_eq_getElem h]
theorem readTo_range (l : List UInt8) : ∀ k, k ≤ l.length → (readTo l k).1.length ≤ k ∧ (readTo l k).2 ≤ 3 ∧ 3 - (k : Int) ≤ (readTo l k).2
  | 0, _ => by simp [readTo]
  | k + 1, h => by
    have ih := readTo_range l k (by omega)
    rw [readTo_succ (by omega)]
    unfold stepR
    split
    · simp only; omega
    · split
      · simp only [ins_length]; omega
      · omega
theorem step_dot' {st : List Int × Int} {b : UInt8} (h : b = 46) : stepR st b = (st.1, st.2 - 1) := by unfold stepR; rw [if_pos h]
theorem step_put {st : List Int × Int} {b : UInt8} {r : Int} (h : b ≠ 46) (hr : Lib.indexByte rankL b = r) (h0 : 0 ≤ r) (h1 : 0 ≤ st.2) (h2 : hasB st.1 (13 * st.2 + r) = false) : stepR st b = (ins (13 * st.2 + r) st.1, st.2) := by
  unfold stepR; rw [if_neg h, hr, if_pos ⟨h0, h1, by simpa [hasB] using h2⟩]
theorem step_not {st : List Int × Int} {b : UInt8} {r : Int} (h : b ≠ 46) (hr : Lib.indexByte rankL b = r) (h0 : r < 0 ∨ st.2 < 0 ∨ hasB st.1 (13 * st.2 + r) = true) : stepR st b = st := by
  unfold stepR
  rw [if_neg h, hr, if_neg]
  rintro ⟨q0, q1, q2⟩
  rcases h0 with h0 | h0 | h0
  · omega
  · omega
  · exact q2 (by simpa [hasB] using h0)

theorem ba_inj {a b : ByteArray} (h : a.toList = b.toList) : a = b := by
  rw [Lib.toList_data, Lib.toList_data] at h
  exact (bytes_ext h).trans (bytes_ext rfl).symm


end Go.Proofs.Yteojdlacdnfgiaa.Lib1
