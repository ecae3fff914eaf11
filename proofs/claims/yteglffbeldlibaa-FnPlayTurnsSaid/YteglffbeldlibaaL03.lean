/- Chapter 3, lists alone: what is a deal, who holds a card. No function of the program. -/
import Derived.Test.YteglffbeldlibaaTwo
namespace Go.Proofs.Yteglffbeldlibaa.Lib1
open Go.RowKit
set_option maxRecDepth 100000

/-! ### Deals -/
theorem getD_at (l : List Int) (i : Nat) (h : i < l.length) : l.getD i 0 = l[i] := by rw [List.getD_eq_getElem?_getD, List.getElem?_eq_getElem h]; rfl
def rowsTo (zss : List (List Int)) (s : Nat) : Prop := ∀ t, t < s → handB (zss.getD t []) = true ∧ (zss.getD t []).length = (zss.getD 0 []).length
instance (zss : List (List Int)) (s : Nat) : Decidable (rowsTo zss s) := by unfold rowsTo; infer_instance
def dealB (zss : List (List Int)) : Bool := decide (zss.length = 4) && (decide (rowsTo zss 4) && decide (zss.flatten.Nodup))
/-- The cards of the first s hands, and the first i of the next. -/
def cardsTo (zss : List (List Int)) (s i : Nat) : List Int := (zss.take s).flatten ++ (zss.getD s []).take i
theorem cardsTo_zero (zss : List (List Int)) : cardsTo zss 0 0 = [] := by simp [cardsTo]
theorem cardsTo_succ {zss : List (List Int)} {s i : Nat} (h : i < (zss.getD s []).length) : cardsTo zss s (i + 1) = cardsTo zss s i ++ [(zss.getD s []).getD i 0] := by
  unfold cardsTo
  rw [List.take_succ_eq_append_getElem h, List.append_assoc]
  congr 2
  rw [getD_at _ _ h]
theorem getD_row {zss : List (List Int)} {s : Nat} (h : s < zss.length) : zss.getD s [] = zss[s] := by rw [List.getD_eq_getElem?_getD, List.getElem?_eq_getElem h]; rfl
theorem cardsTo_next {zss : List (List Int)} {s : Nat} (h : s < zss.length) : cardsTo zss s (zss.getD s []).length = cardsTo zss (s + 1) 0 := by
  unfold cardsTo
  rw [List.take_length, List.take_succ_eq_append_getElem h, List.flatten_append, getD_row h]
  simp
theorem cardsTo_all {zss : List (List Int)} {n : Nat} (h : zss.length = n) : cardsTo zss n 0 = zss.flatten := by
  unfold cardsTo; rw [List.take_of_length_le (by omega)]; simp
theorem cardsTo_prefix {zss : List (List Int)} {s i : Nat} (h : s < zss.length) (hi : i < (zss.getD s []).length) : ∃ r, zss.flatten = cardsTo zss s i ++ ((zss.getD s []).getD i 0 :: r) := by
  refine ⟨(zss.getD s []).drop (i + 1) ++ (zss.drop (s + 1)).flatten, ?_⟩
  have e : zss = zss.take s ++ (zss.getD s [] :: zss.drop (s + 1)) := by rw [getD_row h, List.getElem_cons_drop, List.take_append_drop]
  have f : zss.getD s [] = (zss.getD s []).take i ++ ((zss.getD s []).getD i 0 :: (zss.getD s []).drop (i + 1)) := by
    rw [getD_at _ _ hi, List.getElem_cons_drop, List.take_append_drop]
  unfold cardsTo
  conv => lhs; rw [e, List.flatten_append, List.flatten_cons]; arg 2; arg 1; rw [f]
  simp
theorem deal_len {zss : List (List Int)} (h : zss.length ≠ 4) : dealB zss = false := by simp [dealB, h]
theorem deal_row {zss : List (List Int)} {s : Nat} (hs : s < 4) (h : ¬ (handB (zss.getD s []) = true ∧ (zss.getD s []).length = (zss.getD 0 []).length)) : dealB zss = false := by
  have : ¬ rowsTo zss 4 := fun hr => h (hr s hs)
  simp [dealB, this]
theorem deal_twice {zss : List (List Int)} {s i : Nat} (h : s < zss.length) (hi : i < (zss.getD s []).length) (hm : (zss.getD s []).getD i 0 ∈ cardsTo zss s i) : dealB zss = false := by
  obtain ⟨r, e⟩ := cardsTo_prefix h hi
  have : ¬ zss.flatten.Nodup := by
    rw [e]
    intro hn
    exact (List.nodup_append.1 hn).2.2 _ hm _ (by simp) rfl
  simp [dealB, this]
theorem deal_yes {zss : List (List Int)} (h : zss.length = 4) (hr : rowsTo zss 4) (hn : zss.flatten.Nodup) : dealB zss = true := by simp [dealB, h, hr, hn]
theorem deal_iff (zss : List (List Int)) : dealB zss = true ↔ zss.length = 4 ∧ rowsTo zss 4 ∧ zss.flatten.Nodup := by simp [dealB]
theorem nodup_snoc {l : List Int} {z : Int} (h : l.Nodup) (hz : z ∉ l) : (l ++ [z]).Nodup := by
  rw [List.nodup_append]
  exact ⟨h, by simp, fun a ha b hb e => by simp at hb; subst hb; subst e; exact hz ha⟩
theorem rowsTo_succ {zss : List (List Int)} {s : Nat} (h : rowsTo zss s) (h1 : handB (zss.getD s []) = true) (h2 : (zss.getD s []).length = (zss.getD 0 []).length) : rowsTo zss (s + 1) := by
  intro t ht
  by_cases e : t = s
  · subst e; exact ⟨h1, h2⟩
  · exact h t (by omega)

/-! ### Who holds a card -/
/-- The first of the seats k, k + 1, .. whose hand has the card. -/
def holdTo (zss : List (List Int)) (c : Int) : Nat → Int
  | 0 => -1
  | k + 1 => if holdTo zss c k = -1 then (if hasB (zss.getD k []) c then (k : Int) else -1) else holdTo zss c k
def holderF (zss : List (List Int)) (c : Int) : Int := holdTo zss c zss.length
def holderV (zss : List (List Int)) (c : Int) : Int := if dealB zss then holderF zss c else -1
def cardsF (zss : List (List Int)) : Nat → List Int
  | 0 => []
  | k + 1 => cardsF zss k ++ if 0 ≤ holderF zss (k : Int) then [(k : Int)] else []
def dealCards (zss : List (List Int)) : List Int := if dealB zss then cardsF zss 52 else []
theorem holdTo_range (zss : List (List Int)) (c : Int) : ∀ k, holdTo zss c k = -1 ∨ (0 ≤ holdTo zss c k ∧ holdTo zss c k < k)
  | 0 => .inl rfl
  | k + 1 => by
    have ih := holdTo_range zss c k
    rw [holdTo]
    by_cases h : holdTo zss c k = -1
    · rw [if_pos h]; split
      · right; omega
      · left; rfl
    · rw [if_neg h]
      rcases ih with e | e
      · exact absurd e h
      · right; omega
theorem holdTo_hit {zss : List (List Int)} {c : Int} {k : Nat} (h : holdTo zss c k = -1) (hh : hasB (zss.getD k []) c = true) : ∀ j, k < j → holdTo zss c j = k
  | 0, hj => by omega
  | j + 1, hj => by
    rw [holdTo]
    by_cases e : j = k
    · subst e; rw [if_pos h, hh]; rfl
    · have ih := holdTo_hit h hh j (by omega)
      rw [ih, if_neg (by omega)]
theorem cardsF_len (zss : List (List Int)) : ∀ k, (cardsF zss k).length ≤ k
  | 0 => Nat.le_refl _
  | k + 1 => by have := cardsF_len zss k; simp only [cardsF, List.length_append]; split <;> simp <;> omega

end Go.Proofs.Yteglffbeldlibaa.Lib1
