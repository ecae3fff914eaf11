/- Chapter 8: the text of a play, and the play of a text. Lists alone. -/
import Derived.Test.YteglffbeldlibaaPlay8
namespace Go.Proofs.Yteglffbeldlibaa.Lib1
open Go.RowKit
set_option maxRecDepth 100000

theorem app_data8 (a b : ByteArray) : (a ++ b).data.toList = a.data.toList ++ b.data.toList := by
  rw [ByteArray.data_append, Array.toList_append]
theorem app_size8 (a b : ByteArray) : (a ++ b).size = a.size + b.size := ByteArray.size_append
def seatB8 (d : Int) : UInt8 := ([78, 69, 83, 87] : List UInt8).getD d.toNat 0
def seatT8 (d : Int) : ByteArray := ⟨#[seatB8 d]⟩
def strB8 (s : Int) : UInt8 := ([67, 68, 72, 83, 78] : List UInt8).getD s.toNat 0
def strT8 (s : Int) : ByteArray := (ByteArray.mk #[67, 68, 72, 83, 78]).extract s.toNat (s + 1).toNat
theorem strT8_eq {s : Int} (h : 0 ≤ s ∧ s ≤ 4) : strT8 s = ⟨#[strB8 s]⟩ := by
  have hq : s = 0 ∨ s = 1 ∨ s = 2 ∨ s = 3 ∨ s = 4 := by omega
  rcases hq with rfl | rfl | rfl | rfl | rfl <;> decide +kernel
theorem strT8_size {s : Int} (h : 0 ≤ s ∧ s ≤ 4) : (strT8 s).size = 1 := by rw [strT8_eq h]; rfl
/-- The byte ahead of card k. -/
def gapB (k : Nat) : UInt8 := if k % 4 = 0 then 32 else 46
def gapT (k : Nat) : ByteArray := ⟨#[gapB k]⟩
/-- The two bytes of a card's text. -/
theorem textV_size (c : Int) : (textV c).size = 2 := rfl
theorem cardTextV_size (c : Int) : (cardTextV c).size ≤ 2 := by
  unfold cardTextV
  split
  · exact Nat.le_of_eq (textV_size c)
  · exact Nat.zero_le _
/-- The text behind the first k cards. -/
def ptTo (st ld : Int) (cs : List Int) : Nat → ByteArray
  | 0 => (strT8 st ++ seatT8 ld) ++ ⟨#[58]⟩
  | k + 1 => (ptTo st ld cs k ++ gapT k) ++ cardTextV (cs.getD k 0)
theorem ptTo_size {st ld : Int} (h : 0 ≤ st ∧ st ≤ 4) (cs : List Int) : ∀ k, (ptTo st ld cs k).size ≤ 3 + 3 * k
  | 0 => by
    rw [ptTo, app_size8, app_size8, strT8_size h]
    have h1 : (seatT8 ld).size = 1 := rfl
    have h2 : (ByteArray.mk #[58]).size = 1 := rfl
    omega
  | k + 1 => by
    have ih := ptTo_size (ld := ld) h cs k
    have hc := cardTextV_size (cs.getD k 0)
    rw [ptTo, app_size8, app_size8]
    have : (gapT k).size = 1 := rfl
    omega
theorem ptTo_size_eq {st ld : Int} (h : 0 ≤ st ∧ st ≤ 4) {cs : List Int} : ∀ k, (∀ j, j < k → 0 ≤ cs.getD j 0 ∧ cs.getD j 0 ≤ 51) → (ptTo st ld cs k).size = 3 + 3 * k
  | 0, _ => by
    rw [ptTo, app_size8, app_size8, strT8_size h]
    have h1 : (seatT8 ld).size = 1 := rfl
    have h2 : (ByteArray.mk #[58]).size = 1 := rfl
    omega
  | k + 1, hc => by
    have ih := ptTo_size_eq (ld := ld) h k (fun j hj => hc j (by omega))
    rw [ptTo, app_size8, app_size8, cardTextV_yes (hc k (by omega)), textV_size]
    have : (gapT k).size = 1 := rfl
    omega
/-- The text of a play, none of one that is not plain. -/
def plyT (st ld : Int) (cs : List Int) : ByteArray := if plainB st ld cs then ptTo st ld cs cs.length else ⟨#[]⟩
/-! ### What a text says -/
theorem ext_left {a b : ByteArray} {i j : Nat} (h : j ≤ a.size) : (a ++ b).extract i j = a.extract i j := by
  apply ByteArray.ext
  rw [ByteArray.data_extract, ByteArray.data_extract, ByteArray.data_append]
  apply Array.ext'
  rw [Array.toList_extract, Array.toList_extract, Array.toList_append, List.extract_eq_take_drop, List.extract_eq_take_drop]
  have hl : j ≤ a.data.toList.length := h
  by_cases hij : i ≤ j
  · rw [List.drop_append_of_le_length (by omega), List.take_append_of_le_length (by rw [List.length_drop]; omega)]
  · rw [show j - i = 0 by omega, List.take_zero, List.take_zero]
theorem ext_mid (a b : ByteArray) : (a ++ b).extract a.size (a.size + b.size) = b := by
  apply ByteArray.ext
  rw [ByteArray.data_extract, ByteArray.data_append]
  apply Array.ext'
  rw [Array.toList_extract, Array.toList_append, List.extract_eq_take_drop, Nat.add_sub_cancel_left]
  show List.take b.data.toList.length (List.drop a.data.toList.length (a.data.toList ++ b.data.toList)) = _
  rw [List.drop_left, List.take_length]
/-- The first two bytes. -/
theorem ptTo_head {st ld : Int} (h : 0 ≤ st ∧ st ≤ 4) {cs : List Int} : ∀ k, (∀ j, j < k → 0 ≤ cs.getD j 0 ∧ cs.getD j 0 ≤ 51) → (ptTo st ld cs k).extract 0 2 = strT8 st ++ seatT8 ld
  | 0, _ => by
    have hs : (strT8 st ++ seatT8 ld).size = 2 := by rw [app_size8, strT8_size h]; rfl
    rw [ptTo, ext_left (by omega)]
    rw [← hs]
    exact ByteArray.extract_zero_size
  | k + 1, hc => by
    have ih := ptTo_head (ld := ld) h k (fun j hj => hc j (by omega))
    have hs := ptTo_size_eq (ld := ld) h k (fun j hj => hc j (by omega))
    rw [ptTo, ByteArray.append_assoc, ext_left (by omega)]
    exact ih
/-- The bytes of card j. -/
theorem ptTo_card {st ld : Int} (h : 0 ≤ st ∧ st ≤ 4) {cs : List Int} : ∀ k, (∀ j, j < k → 0 ≤ cs.getD j 0 ∧ cs.getD j 0 ≤ 51) → ∀ j, j < k → (ptTo st ld cs k).extract (4 + 3 * j) (6 + 3 * j) = textV (cs.getD j 0)
  | 0, _, j, hj => by omega
  | k + 1, hc, j, hj => by
    have hs := ptTo_size_eq (ld := ld) h k (fun j hj => hc j (by omega))
    have hg : (ptTo st ld cs k ++ gapT k).size = 4 + 3 * k := by rw [app_size8, hs]; show 3 + 3 * k + 1 = _; omega
    rw [ptTo]
    by_cases e : j = k
    · subst e
      rw [cardTextV_yes (hc j (by omega)), ← hg]
      have h2 : 6 + 3 * j = (ptTo st ld cs j ++ gapT j).size + (textV (cs.getD j 0)).size := by rw [hg, textV_size]; omega
      rw [h2]
      exact ext_mid _ _
    · have ih := ptTo_card (ld := ld) h k (fun j hj => hc j (by omega)) j (by omega)
      rw [ByteArray.append_assoc, ext_left (by omega)]
      exact ih
theorem seat8_inj {d e : Int} (hd : 0 ≤ d ∧ d ≤ 3) (he : 0 ≤ e ∧ e ≤ 3) (h : seatB8 d = seatB8 e) : d = e := by
  have h1 : d = 0 ∨ d = 1 ∨ d = 2 ∨ d = 3 := by omega
  have h2 : e = 0 ∨ e = 1 ∨ e = 2 ∨ e = 3 := by omega
  rcases h1 with rfl | rfl | rfl | rfl <;> rcases h2 with rfl | rfl | rfl | rfl <;> first | rfl | exact absurd h (by decide)
theorem str8_inj {d e : Int} (hd : 0 ≤ d ∧ d ≤ 4) (he : 0 ≤ e ∧ e ≤ 4) (h : strB8 d = strB8 e) : d = e := by
  have h1 : d = 0 ∨ d = 1 ∨ d = 2 ∨ d = 3 ∨ d = 4 := by omega
  have h2 : e = 0 ∨ e = 1 ∨ e = 2 ∨ e = 3 ∨ e = 4 := by omega
  rcases h1 with rfl | rfl | rfl | rfl | rfl <;> rcases h2 with rfl | rfl | rfl | rfl | rfl <;> first | rfl | exact absurd h (by decide)
theorem head_inj {s1 s2 l1 l2 : Int} (a1 : 0 ≤ s1 ∧ s1 ≤ 4) (a2 : 0 ≤ s2 ∧ s2 ≤ 4) (b1 : 0 ≤ l1 ∧ l1 ≤ 3) (b2 : 0 ≤ l2 ∧ l2 ≤ 3) (h : strT8 s1 ++ seatT8 l1 = strT8 s2 ++ seatT8 l2) : s1 = s2 ∧ l1 = l2 := by
  rw [strT8_eq a1, strT8_eq a2] at h
  have hl := congrArg (fun x : ByteArray => x.data.toList) h
  simp only [app_data8] at hl
  have hl' : [strB8 s1, seatB8 l1] = [strB8 s2, seatB8 l2] := hl
  simp only [List.cons.injEq, and_true] at hl'
  exact ⟨str8_inj a1 a2 hl'.1, seat8_inj b1 b2 hl'.2⟩
end Go.Proofs.Yteglffbeldlibaa.Lib1
