/- Chapter 3, lists alone: holders of cards; two cards exchanged in all hands is the two hands anew; the cards of a deal. -/
import Derived.Test.YtdfmkikngifjmaaL03m
namespace Go.Proofs.Ytdfmkikngifjmaa.Lib1
open Go.RowKit
set_option maxRecDepth 100000

/-! ### Holders -/
theorem hasB_iff (l : List Int) (c : Int) : hasB l c = true ↔ c ∈ l := by simp [hasB]
theorem hasB_niff (l : List Int) (c : Int) : hasB l c = false ↔ c ∉ l := by simp [hasB]
theorem holdTo_mem {zss : List (List Int)} {c : Int} : ∀ k, 0 ≤ holdTo zss c k → ∃ j : Nat, j < k ∧ holdTo zss c k = j ∧ c ∈ zss.getD j []
  | 0, h => by simp [holdTo] at h
  | k + 1, h => by
    rw [holdTo] at h ⊢
    by_cases e : holdTo zss c k = -1
    · rw [if_pos e] at h ⊢
      cases hh : hasB (zss.getD k []) c
      · rw [hh] at h; simp at h
      · exact ⟨k, by omega, by simp, (hasB_iff _ _).1 hh⟩
    · rw [if_neg e] at h ⊢
      obtain ⟨j, hj, e1, e2⟩ := holdTo_mem k h
      exact ⟨j, by omega, e1, e2⟩
theorem holdTo_none {zss : List (List Int)} {c : Int} : ∀ k, holdTo zss c k = -1 → ∀ j, j < k → c ∉ zss.getD j []
  | 0, _, j, hj => by omega
  | k + 1, h, j, hj => by
    rw [holdTo] at h
    by_cases e : holdTo zss c k = -1
    · rw [if_pos e] at h
      cases hh : hasB (zss.getD k []) c
      · by_cases ej : j = k
        · subst ej; exact (hasB_niff _ _).1 hh
        · exact holdTo_none k e j (by omega)
      · rw [hh] at h; simp at h
    · rw [if_neg e] at h; exact absurd h e
theorem one_row {zss : List (List Int)} (h : zss.flatten.Nodup) {i j : Nat} (hi : i < zss.length) (hj : j < zss.length) {c : Int} (ci : c ∈ zss.getD i []) (cj : c ∈ zss.getD j []) : i = j := by
  rw [getD_row hi] at ci
  rw [getD_row hj] at cj
  have hp := (List.pairwise_flatten.1 h).2
  rw [List.pairwise_iff_getElem] at hp
  rcases Nat.lt_trichotomy i j with e | e | e
  · exact absurd rfl (hp i j hi hj e c ci c cj)
  · exact e
  · exact absurd rfl (hp j i hj hi e c cj c ci)
theorem holder_at {zss : List (List Int)} (h : zss.flatten.Nodup) {j : Nat} (hj : j < zss.length) {c : Int} (cj : c ∈ zss.getD j []) : holderF zss c = j := by
  unfold holderF
  rcases holdTo_range zss c zss.length with e | e
  · exact absurd cj (holdTo_none _ e j hj)
  · obtain ⟨i, hi, e1, e2⟩ := holdTo_mem _ e.1
    rw [e1, one_row h hi hj e2 cj]
theorem holder_mem {zss : List (List Int)} {c : Int} (h : 0 ≤ holderF zss c) : ∃ j : Nat, j < zss.length ∧ holderF zss c = j ∧ c ∈ zss.getD j [] := holdTo_mem _ h
theorem holder_not {zss : List (List Int)} {c : Int} (h : ¬ 0 ≤ holderF zss c) : holderF zss c = -1 := by
  rcases holdTo_range zss c zss.length with e | e
  · exact e
  · exact absurd e.1 h
theorem holder_iff {zss : List (List Int)} {c : Int} : 0 ≤ holderF zss c ↔ c ∈ zss.flatten := by
  constructor
  · intro h
    obtain ⟨j, hj, _, hm⟩ := holder_mem h
    rw [getD_row hj] at hm
    exact List.mem_flatten.2 ⟨_, List.getElem_mem hj, hm⟩
  · intro h
    obtain ⟨r, hr, hc⟩ := List.mem_flatten.1 h
    obtain ⟨j, hj, e⟩ := List.getElem_of_mem hr
    rcases holdTo_range zss c zss.length with q | q
    · exact absurd (by rw [getD_row hj, e]; exact hc) (holdTo_none _ q j hj)
    · exact q.1
theorem mem_exch (a b z : Int) (row : List Int) : z ∈ mapH (exch a b) row ↔ exch a b z ∈ row := by
  rw [mem_mapH]
  constructor
  · rintro ⟨y, hy, rfl⟩; rw [exch_twice]; exact hy
  · intro h; exact ⟨_, h, exch_twice a b z⟩
theorem mem_drop (x z : Int) (l : List Int) : z ∈ dropF x l ↔ z ∈ l ∧ z ≠ x := by simp [dropF, List.mem_filter]
theorem dropF_strict {x : Int} {l : List Int} (h : l.Pairwise (· < ·)) : (dropF x l).Pairwise (· < ·) := h.sublist (List.filter_sublist)
theorem ex_row {a b : Int} {row : List Int} (ha : a ∈ row) (hb : b ∉ row) (z : Int) : z ∈ ins b (dropF a row) ↔ exch a b z ∈ row := by
  rw [mem_ins, mem_drop]
  have hab : a ≠ b := fun e => hb (e ▸ ha)
  unfold exch
  by_cases e1 : z = a
  · subst e1
    rw [if_pos rfl]
    constructor
    · rintro (e | e)
      · exact absurd e hab
      · exact absurd rfl e.2
    · intro e; exact absurd e hb
  · rw [if_neg e1]
    by_cases e2 : z = b
    · rw [if_pos e2]
      exact ⟨fun _ => ha, fun _ => .inl e2⟩
    · rw [if_neg e2]
      exact ⟨fun q => by rcases q with q | q
                         · exact absurd q e2
                         · exact q.1, fun q => .inr ⟨q, e1⟩⟩
theorem exch_comm (a b z : Int) : exch a b z = exch b a z := by unfold exch; (repeat' split) <;> omega
theorem exch_none {a b : Int} {row : List Int} (ha : a ∉ row) (hb : b ∉ row) (z : Int) : z ∈ row ↔ exch a b z ∈ row := by
  unfold exch
  by_cases e1 : z = a
  · subst e1; rw [if_pos rfl]; exact ⟨fun e => absurd e ha, fun e => absurd e hb⟩
  · rw [if_neg e1]
    by_cases e2 : z = b
    · subst e2; rw [if_pos rfl]; exact ⟨fun e => absurd e hb, fun e => absurd e ha⟩
    · rw [if_neg e2]
theorem exch_both {a b : Int} {row : List Int} (ha : a ∈ row) (hb : b ∈ row) (z : Int) : z ∈ row ↔ exch a b z ∈ row := by
  unfold exch
  by_cases e1 : z = a
  · subst e1; rw [if_pos rfl]; exact ⟨fun _ => hb, fun _ => ha⟩
  · rw [if_neg e1]
    by_cases e2 : z = b
    · subst e2; rw [if_pos rfl]; exact ⟨fun _ => ha, fun _ => hb⟩
    · rw [if_neg e2]
theorem ex_mapD {zss : List (List Int)} {a b : Int} (h : dealB zss = true) (hf : exFound zss a b = true) : exRows zss a b = mapD (exch a b) zss := by
  obtain ⟨h4, hr, hn⟩ := (deal_iff zss).1 h
  simp only [exFound, Bool.and_eq_true, decide_eq_true_eq] at hf
  obtain ⟨x, hx, ex, ax⟩ := holder_mem hf.1
  obtain ⟨y, hy, ey, byy⟩ := holder_mem hf.2
  have hst : ∀ j, j < 4 → (zss.getD j []).Pairwise (· < ·) := fun j hj => ((hand_iff _).1 (hr j hj).1).2.1
  have key : ∀ (r t : List Int), handB r = true → t.Pairwise (· < ·) → (∀ z, z ∈ t ↔ exch a b z ∈ r) → t = mapH (exch a b) r := fun r t hr ht hz =>
    strict_eq _ _ ht (mapH_strict (exch_inj a b) hr) (fun z => by rw [mem_exch]; exact hz z)
  have ina : ∀ j, j < 4 → a ∈ zss.getD j [] → j = x := fun j hj q => one_row hn (by omega) hx q ax
  have inb : ∀ j, j < 4 → b ∈ zss.getD j [] → j = y := fun j hj q => one_row hn (by omega) hy q byy
  unfold exRows
  rw [ex, ey]
  by_cases e : (x : Int) = (y : Int)
  · rw [if_pos e]
    obtain rfl : x = y := by omega
    refine rows_eq (by rw [mapD_length]) (fun j hj => ?_)
    rw [mapD_length] at hj
    rw [mapD_getD _ _ _ hj]
    refine key _ _ (hr j (by omega)).1 (hst j (by omega)) (fun z => ?_)
    by_cases ej : j = x
    · subst ej; exact exch_both ax byy z
    · exact exch_none (fun q => ej (ina j (by omega) q)) (fun q => ej (inb j (by omega) q)) z
  · rw [if_neg e]
    have hxy : x ≠ y := fun q => e (by rw [q])
    simp only [Int.toNat_natCast]
    refine rows_eq (by rw [mapD_length]; simp) (fun j hj => ?_)
    rw [mapD_length] at hj
    rw [mapD_getD _ _ _ hj, rset_getD _ _ _ _ (by simp; omega)]
    have bx : b ∉ zss.getD x [] := fun q => hxy (inb x (by omega) q)
    have ay : a ∉ zss.getD y [] := fun q => hxy (ina y (by omega) q).symm
    by_cases ejy : j = y
    · rw [if_pos ejy, ejy]
      refine key _ _ (hr y (by omega)).1 (ins_pairwise _ _ (dropF_strict (hst y (by omega))) (fun q => ay ((mem_drop _ _ _).1 q).1)) (fun z => ?_)
      rw [exch_comm]
      exact ex_row byy ay z
    · rw [if_neg ejy, rset_getD _ _ _ _ (by omega)]
      by_cases ejx : j = x
      · rw [if_pos ejx, ejx]
        refine key _ _ (hr x (by omega)).1 (ins_pairwise _ _ (dropF_strict (hst x (by omega))) (fun q => bx ((mem_drop _ _ _).1 q).1)) (fun z => ?_)
        exact ex_row ax bx z
      · rw [if_neg ejx]
        exact key _ _ (hr j (by omega)).1 (hst j (by omega)) (exch_none (fun q => ejx (ina j (by omega) q)) (fun q => ejy (inb j (by omega) q)))

/-! ### The cards of a deal -/
theorem cardsF_mem (zss : List (List Int)) (z : Int) : ∀ k : Nat, z ∈ cardsF zss k ↔ 0 ≤ z ∧ z < k ∧ 0 ≤ holderF zss z
  | 0 => by simp [cardsF]; omega
  | k + 1 => by
    rw [cardsF, List.mem_append, cardsF_mem zss z k]
    by_cases h : 0 ≤ holderF zss (k : Int)
    · rw [if_pos h]
      simp only [List.mem_singleton]
      constructor
      · rintro (q | q)
        · exact ⟨q.1, by omega, q.2.2⟩
        · subst q; exact ⟨by omega, by omega, h⟩
      · rintro ⟨q1, q2, q3⟩
        by_cases e : z = k
        · exact .inr e
        · exact .inl ⟨q1, by omega, q3⟩
    · rw [if_neg h]
      simp only [List.not_mem_nil, or_false]
      constructor
      · rintro q; exact ⟨q.1, by omega, q.2.2⟩
      · rintro ⟨q1, q2, q3⟩
        refine ⟨q1, ?_, q3⟩
        have : z ≠ k := fun e => h (e ▸ q3)
        omega
theorem cardsF_strict (zss : List (List Int)) : ∀ k : Nat, (cardsF zss k).Pairwise (· < ·)
  | 0 => List.Pairwise.nil
  | k + 1 => by
    rw [cardsF, List.pairwise_append]
    refine ⟨cardsF_strict zss k, by split <;> simp, fun x hx y hy => ?_⟩
    have := (cardsF_mem zss x k).1 hx
    split at hy
    · simp at hy; omega
    · simp at hy
theorem cards_sort {zss : List (List Int)} (h : dealB zss = true) : sortI zss.flatten = cardsF zss 52 := by
  obtain ⟨h4, hr, hn⟩ := (deal_iff zss).1 h
  refine strict_eq _ _ (sortI_strict hn) (cardsF_strict zss 52) (fun z => ?_)
  rw [mem_sortI, cardsF_mem, holder_iff]
  constructor
  · intro hz; have := deal_range h z hz; exact ⟨this.1, by omega, hz⟩
  · intro q; exact q.2.2

end Go.Proofs.Ytdfmkikngifjmaa.Lib1
