/- Contracts of the functions of chapter 1 that read a card's text (program and model), and the law that compares them. -/
import Derived.Test.YtgoaikamolcffaaDoorText
import Derived.LoopTactic
import Derived.Lib.Bytealg
import Derived.Lib.Hide
import Derived.Laws.Externs
namespace Go.Proofs.YtgoaikamolcffaaDoor.Lib1
open Go.RowKit


theorem idx_found : ∀ (l : List UInt8) (c : UInt8) (k : Nat), k < l.length → (∀ j, j < k → l.getD j 0 ≠ c) → l.getD k 0 = c → Lib.indexByte l c = (k : Int)
  | [], _, k, h, _, _ => by simp at h
  | b :: l, c, 0, _, _, h2 => by simp at h2; simp [Lib.indexByte, h2]
  | b :: l, c, k + 1, h, h1, h2 => by
    have ih := idx_found l c k (by simpa using h) (fun j hj => by simpa using h1 (j + 1) (by omega)) (by simpa using h2)
    have hb : b ≠ c := by simpa using h1 0 (by omega)
    unfold Lib.indexByte
    rw [ih]
    have e1 : (b == c) = false := by simpa using hb
    have e2 : (((k : Nat) : Int) == -1) = false := by rw [beq_eq_false_iff_ne]; omega
    simp [e1, e2]
theorem idx_none : ∀ (l : List UInt8) (c : UInt8), (∀ j, j < l.length → l.getD j 0 ≠ c) → Lib.indexByte l c = -1
  | [], _, _ => rfl
  | b :: l, c, h => by
    have ih := idx_none l c (fun j hj => by simpa using h (j + 1) (by simpa using hj))
    have hb : b ≠ c := by simpa using h 0 (by simp)
    have e1 : (b == c) = false := by simpa using hb
    unfold Lib.indexByte
    simp [ih, e1]
theorem byte_getD (s : ByteArray) (k : Nat) (h : k < s.size) : s.data.toList.getD k 0 = s[k] := by
  have hl : k < s.data.toList.length := by simpa using h
  simp [List.getD, List.getElem?_eq_getElem hl]
  rfl

/-- spec.l01Find -/
theorem l01Find (s : ByteArray) (c : UInt8) (w : World) (hs : s.size ≤ 9223372036854775806) :
    Calls Tryd.prog 30 #[.string s, .int .u8 (c.toNat : Int)] w fun e w' => e = .returned (.int .i64 (Lib.indexByte s.data.toList c)) ∧ w = w' := by
  go_enter Tryd.func30, Tryd.ntmps30
  go_wp2
  go_loop [5] (fun i => ∃ k : Nat, k ≤ s.size ∧ i = .int .i64 k ∧ Hid (∀ j, j < k → s.data.toList.getD j 0 ≠ c)) (fun i => s.size - (intOf i).toNat)
  case atStart => exact ⟨0, Nat.zero_le _, rfl, fun j hj => by omega⟩
  case round =>
    obtain ⟨k, hk, rfl, hn⟩ := hrel
    by_cases hlt : k < s.size
    · by_cases he : s[k] = c
      · have hf : Hid (Lib.indexByte s.data.toList c = (k : Int)) := idx_found _ _ k (by simpa using hlt) hn.out (by rw [byte_getD s k hlt, he])
        have ht : (((s[k].toNat : Nat) : Int) == (c.toNat : Int)) = true := by rw [he]; simp
        clear he
        go_wp2
        go_ret
        exact ⟨ret_int hf.out.symm, rfl⟩
      · have ht : (((s[k].toNat : Nat) : Int) == (c.toNat : Int)) = false := by
          rw [beq_eq_false_iff_ne]; intro e; apply he; exact UInt8.toNat_inj.1 (by omega)
        have hn' : Hid (∀ j, j < k + 1 → s.data.toList.getD j 0 ≠ c) := by
          intro j hj
          by_cases e : j < k
          · exact hn.out j e
          · obtain rfl : j = k := by omega
            rw [byte_getD s j hlt]; exact he
        clear he hn
        go_wp2
        go_round
        case rel => exact ⟨k + 1, by omega, by go_num, hn'⟩
        case measure => simp [intOf]; omega
    · have hf : Hid (Lib.indexByte s.data.toList c = -1) := idx_none _ _ (fun j hj => hn.out j (by simp at hj; omega))
      clear hn
      go_wp2
      go_ret
      exact ⟨ret_int hf.out.symm, rfl⟩

/-- strings.IndexByte -/
theorem IndexByteString (s : ByteArray) (c : UInt8) (w : World) :
    (callFunc 55 #[.string s, .int .u8 (c.toNat : Int)]).run Tryd.prog w = .ok (.value (.int .i64 (Lib.indexByte s.data.toList c))) w := by
  rw [run_callFunc_extern Tryd.func55 (by kernel_rfl) (by kernel_rfl) (by kernel_rfl) (e := Extern.BytealgIndexByte.indexByte) (by kernel_rfl), Lib.run_indexByteString]
  simp [Result.andThen]
theorem IndexByte (s : ByteArray) (c : UInt8) (w : World) :
    Calls Tryd.prog 26 #[.string s, .int .u8 (c.toNat : Int)] w fun e w' => e = .returned (.int .i64 (Lib.indexByte s.data.toList c)) ∧ w = w' := by
  have hx := IndexByteString s c w
  go_enter Tryd.func26, Tryd.ntmps26
  go_wp2
  go_ret
  exact ⟨rfl, rfl⟩

/-- What ReadCard finds: the card, or -1. -/
def rdC (s : ByteArray) : Int := if s.size = 2 then cardV (Lib.indexByte suitL (s.data.toList.getD 0 0)) (Lib.indexByte rankL (s.data.toList.getD 1 0)) else -1
def rdV (s : ByteArray) : Int := if 0 ≤ rdC s then rdC s else 0
def rdB (s : ByteArray) : Bool := decide (0 ≤ rdC s)
theorem cardV_range (a b : Int) : cardV a b = -1 ∨ 0 ≤ cardV a b ∧ cardV a b ≤ 51 := by
  by_cases h : (0 ≤ a ∧ a ≤ 3) ∧ 0 ≤ b ∧ b ≤ 12
  · right; rw [cardV_yes h]; omega
  · left; exact cardV_no h
theorem rdC_range (s : ByteArray) : rdC s = -1 ∨ 0 ≤ rdC s ∧ rdC s ≤ 51 := by
  unfold rdC; split
  · exact cardV_range _ _
  · left; rfl
theorem impl_CardOf_at (a b v : Int) (h : cardV a b = v) (w : World) :
    Calls Tryd.prog 27 #[.int .i64 a, .int .i64 b] w fun e w' => e = .returned (.int .i64 v) ∧ w = w' := by
  subst h; exact impl_CardOf a b w

def svI (s : ByteArray) (k : Nat) : Int := if k = 0 then -1 else Lib.indexByte suitL (s.data.toList.getD 0 0)
def rvI (s : ByteArray) (k : Nat) : Int := if k ≤ 1 then -1 else Lib.indexByte rankL (s.data.toList.getD 1 0)
theorem idxS (s : ByteArray) (h : 0 < s.size) : Lib.indexByte (ByteArray.mk #[67, 68, 72, 83]).data.toList s[0] = svI s 1 := by
  rw [← byte_getD s 0 h]; rfl
theorem idxR (s : ByteArray) (h : 1 < s.size) : Lib.indexByte (ByteArray.mk #[50, 51, 52, 53, 54, 55, 56, 57, 84, 74, 81, 75, 65]).data.toList s[1] = rvI s 2 := by
  rw [← byte_getD s 1 h]; rfl
theorem IndexByte_at (s : ByteArray) (c : UInt8) (v : Int) (h : Lib.indexByte s.data.toList c = v) (w : World) :
    Calls Tryd.prog 26 #[.string s, .int .u8 (c.toNat : Int)] w fun e w' => e = .returned (.int .i64 v) ∧ w = w' := by
  subst h; exact IndexByte s c w
theorem l01Find_at (s : ByteArray) (c : UInt8) (v : Int) (hs : s.size ≤ 9223372036854775806) (h : Lib.indexByte s.data.toList c = v) (w : World) :
    Calls Tryd.prog 30 #[.string s, .int .u8 (c.toNat : Int)] w fun e w' => e = .returned (.int .i64 v) ∧ w = w' := by
  subst h; exact l01Find s c w hs
theorem rdC_two (s : ByteArray) (h : s.size = 2) : cardV (svI s 2) (rvI s 2) = rdC s := by simp [rdC, h, svI, rvI]
theorem rdC_not (s : ByteArray) (h : s.size ≠ 2) : rdC s = -1 := by simp [rdC, h]

theorem ret_read {a b : Int × Bool} (h : a = b) : Ending.returned (.tuple #[.int .i64 a.1, .bool a.2]) = .returned (.tuple #[.int .i64 b.1, .bool b.2]) := by rw [h]
theorem rd_no {s : ByteArray} (h : rdC s = -1) : ((0 : Int), false) = (rdV s, rdB s) := by simp [rdV, rdB, h]
theorem rd_yes {s : ByteArray} (h : 0 ≤ rdC s) : (rdC s, true) = (rdV s, rdB s) := by simp [rdV, rdB, h]



theorem grown_drewN (w : World) (q : Nat) : Grown w (w.drewN q) := by
  induction q with
  | zero => exact Grown.refl _
  | succ q ih => exact ih.drew


end Go.Proofs.YtgoaikamolcffaaDoor.Lib1
