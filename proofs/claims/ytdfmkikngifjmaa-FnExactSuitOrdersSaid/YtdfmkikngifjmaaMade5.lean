/- Chapter 5: lists of a deal's holders, and the deal made of them: lists alone. -/
import Derived.Test.YtdfmkikngifjmaaL05
namespace Go.Proofs.Ytdfmkikngifjmaa.Lib1
open Go.RowKit
set_option maxRecDepth 100000

def rowSt (lists : List (List Int)) (q k : Nat) (s : Int) : List Int := madeTo lists s q ++ madeL (q : Int) s ((lists.getD q []).drop k) (k : Int)
def rowsSt (lists : List (List Int)) (q k : Nat) : List (List Int) := [rowSt lists q k 0, rowSt lists q k 1, rowSt lists q k 2, rowSt lists q k 3]
theorem rowSt_all (lists : List (List Int)) (q : Nat) (s : Int) : rowSt lists q (lists.getD q []).length s = madeTo lists s q := by
  unfold rowSt; rw [List.drop_length]; simp [madeL]
theorem rowsSt_start (lists : List (List Int)) : rowsSt lists 0 (lists.getD 0 []).length = [[], [], [], []] := by
  unfold rowsSt; simp only [rowSt_all]; rfl
theorem rowsSt_next (lists : List (List Int)) (q : Nat) : rowsSt lists (q + 1) (lists.getD (q + 1) []).length = rowsSt lists q 0 := by
  unfold rowsSt; simp only [rowSt_all]; rfl
theorem rowsSt_done (lists : List (List Int)) : rowsSt lists 4 (lists.getD 4 []).length = madeRows lists := by
  unfold rowsSt; simp only [rowSt_all]; rfl
theorem rowSt_step (lists : List (List Int)) {q k : Nat} (hk : k < (lists.getD q []).length) (s : Int) : rowSt lists q k s = rowSt lists q (k + 1) s ++ if (lists.getD q []).getD k 0 = s then [13 * (q : Int) + 12 - (k : Int)] else [] := by
  unfold rowSt
  generalize lists.getD q [] = l at hk
  rw [List.drop_eq_getElem_cons hk, madeL, getD_at _ _ hk, ← List.append_assoc]
  rfl
theorem rowsSt_step (lists : List (List Int)) {q k t : Nat} (hk : k < (lists.getD q []).length) (ht : t < 4) (hx : (lists.getD q []).getD k 0 = (t : Int)) :
    rowsSt lists q k = (rowsSt lists q (k + 1)).set t ((rowsSt lists q (k + 1)).getD t [] ++ [13 * (q : Int) + 12 - (k : Int)]) := by
  have h0 := rowSt_step lists hk 0
  have h1 := rowSt_step lists hk 1
  have h2 := rowSt_step lists hk 2
  have h3 := rowSt_step lists hk 3
  rw [hx] at h0 h1 h2 h3
  unfold rowsSt
  rw [h0, h1, h2, h3]
  rcases (by omega : t = 0 ∨ t = 1 ∨ t = 2 ∨ t = 3) with rfl | rfl | rfl | rfl <;> simp
theorem rowsSt_length (lists : List (List Int)) (q k : Nat) : (rowsSt lists q k).length = 4 := rfl
theorem madeL_len (q s : Int) : ∀ (l : List Int) (i : Int), (madeL q s l i).length ≤ l.length
  | [], i => Nat.le_refl _
  | x :: l, i => by have := madeL_len q s l (i + 1); rw [madeL, List.length_append]; split <;> simp <;> omega
theorem madeTo_len (lists : List (List Int)) (s : Int) (h : ∀ q, (lists.getD q []).length ≤ 13) : ∀ q, (madeTo lists s q).length ≤ 13 * q
  | 0 => Nat.le_refl _
  | q + 1 => by have := madeTo_len lists s h q; have := madeL_len (q : Int) s (lists.getD q []) 0; have := h q; rw [madeTo, List.length_append]; omega
theorem rowSt_len (lists : List (List Int)) (s : Int) (h : ∀ q, (lists.getD q []).length ≤ 13) (q k : Nat) : (rowSt lists q k s).length ≤ 13 * q + 13 := by
  have h1 := madeTo_len lists s h q
  have h2 := madeL_len (q : Int) s ((lists.getD q []).drop k) k
  have h3 := h q
  rw [List.length_drop] at h2
  unfold rowSt; rw [List.length_append]; omega
theorem rowsSt_len (lists : List (List Int)) (h : ∀ q, (lists.getD q []).length ≤ 13) (q k j : Nat) : ((rowsSt lists q k).getD j []).length ≤ 13 * q + 13 := by
  by_cases hj : j < 4
  · rcases (by omega : j = 0 ∨ j = 1 ∨ j = 2 ∨ j = 3) with rfl | rfl | rfl | rfl <;> exact rowSt_len lists _ h q k
  · rw [List.getD_eq_getElem?_getD, List.getElem?_eq_none (by rw [rowsSt_length]; omega)]; simp
theorem listQ_mem (h : Int → Int) (q : Nat) {x : Int} (hx : x ∈ listQ h q) : 0 ≤ x ∧ ∃ c, h c = x := by
  unfold listQ at hx
  obtain ⟨c, hc, rfl⟩ := List.mem_map.1 hx
  rw [List.mem_reverse] at hc
  exact ⟨((mem_ascF h c 13 _).1 hc).2.2, c, rfl⟩
theorem listsTo_getD (h : Int → Int) : ∀ q j, (listsTo h q).getD j [] = if j < q then listQ h j else []
  | 0, j => by simp [listsTo]
  | q + 1, j => by
    rw [listsTo, getD_snoc, listsTo_length, listsTo_getD h q j]
    by_cases h1 : j < q
    · rw [if_pos h1, if_pos h1, if_pos (by omega)]
    · rw [if_neg h1]
      by_cases e : j = q
      · subst e; rw [if_pos rfl, if_pos (by omega)]
      · rw [if_neg e, if_neg (by omega)]
/-- Lists of holders: four, short, of seats. -/
def HL (lists : List (List Int)) : Prop := lists.length = 4 ∧ (∀ q, (lists.getD q []).length ≤ 13) ∧ ∀ q, ∀ x ∈ lists.getD q [], 0 ≤ x ∧ x ≤ 3
theorem HL.of_deal {zss : List (List Int)} (hd : dealB zss = true) : HL (listsTo (holderF zss) 4) := by
  obtain ⟨h4, _, _⟩ := (deal_iff zss).1 hd
  refine ⟨rfl, fun q => ?_, fun q x hx => ?_⟩
  · rw [listsTo_getD]; split
    · exact listQ_len _ _
    · simp
  · rw [listsTo_getD] at hx
    split at hx
    · obtain ⟨h0, c, rfl⟩ := listQ_mem _ _ hx
      have := holdTo_range zss c zss.length
      unfold holderF at h0 ⊢
      omega
    · simp at hx

end Go.Proofs.Ytdfmkikngifjmaa.Lib1
