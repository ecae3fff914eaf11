/- Contracts of the program's HandWith and HandWithout, and the laws that compare them with the model. -/
import Derived.Test.YtgoaikamolcffaaDoorHandS
import Derived.Test.YtgoaikamolcffaaDoorSearch
import Derived.RegionTactic
import Derived.ChangeAlike
import Derived.Deep.RegionWith
import Derived.Deep.DeepFit
namespace Go.Proofs.YtgoaikamolcffaaDoor.Lib1
open Go.RowKit

/-! ### Lists -/
theorem hand_lt {zs : List Int} (h : handB zs = true) : ∀ a b, a < b → b < zs.length → zs.getD a 0 < zs.getD b 0 := by
  simp only [handB, risingB, Bool.and_eq_true, decide_eq_true_eq] at h
  intro a b hab hb
  induction b with
  | zero => omega
  | succ b ih =>
    have h1 := (h.2 (b + 1) hb).2 (by omega)
    rw [Nat.add_sub_cancel] at h1
    by_cases e : a = b
    · subst e; exact h1
    · exact Int.lt_trans (ih (by omega) (by omega)) h1
theorem hand_mono {zs : List Int} (h : handB zs = true) : ∀ a b, a ≤ b → b < zs.length → zs.getD a 0 ≤ zs.getD b 0 := by
  intro a b hab hb
  by_cases e : a = b
  · subst e; exact Int.le_refl _
  · exact Int.le_of_lt (hand_lt h a b (by omega) hb)
theorem getD_eq {zs : List Int} {j : Nat} (h : j < zs.length) : zs.getD j 0 = zs[j] := by simp [List.getD, List.getElem?_eq_getElem h]
/-- The found place tells membership. -/
theorem place_has {zs : List Int} {x : Int} {k : Nat} (p : Place zs x k) (hl : ∀ a b, a < b → b < zs.length → zs.getD a 0 < zs.getD b 0) : decide (k < zs.length ∧ zs.getD k 0 = x) = hasB zs x := by
  by_cases h : k < zs.length ∧ zs.getD k 0 = x
  · rw [decide_eq_true h, hasB_yes h.1 h.2]
  · rw [decide_eq_false h]
    refine (hasB_no fun j hj e => ?_).symm
    by_cases hjk : j < k
    · have := p.below j hjk; omega
    · by_cases hjk2 : j = k
      · subst hjk2; exact h ⟨hj, e⟩
      · have h1 := p.above k (Nat.le_refl _) (by omega)
        have h2 := hl k j (by omega) hj
        omega
theorem ins_split (c : Int) : ∀ (l r : List Int), (∀ z ∈ l, ¬ c < z) → (∀ z, r.head? = some z → c < z) → ins c (l ++ r) = l ++ c :: r
  | [], [], _, _ => rfl
  | [], z :: r, _, h => by simp [ins, h z rfl]
  | y :: l, r, h1, h2 => by
    have hy := h1 y (by simp)
    simp only [List.cons_append, ins, if_neg hy, ins_split c l r (fun z hz => h1 z (by simp [hz])) h2]
theorem mem_take_lt {zs : List Int} {k : Nat} {x : Int} (p : Place zs x k) : ∀ z ∈ zs.take k, z < x := by
  intro z hz
  obtain ⟨j, hj, e⟩ := List.getElem_of_mem hz
  have hj2 : j < k ∧ j < zs.length := by simp at hj; omega
  have := p.below j hj2.1
  rw [getD_eq hj2.2] at this
  rw [← e, List.getElem_take]; exact this
theorem place_ins {zs : List Int} {x : Int} {k : Nat} (p : Place zs x k) (hn : ¬ (k < zs.length ∧ zs.getD k 0 = x)) : zs.take k ++ x :: zs.drop k = ins x zs := by
  have h := ins_split x (zs.take k) (zs.drop k) (fun z hz => by have := mem_take_lt p z hz; omega) (fun z hz => by
    rw [List.head?_drop] at hz
    have hk : k < zs.length := by
      rcases Nat.lt_or_ge k zs.length with e | e
      · exact e
      · rw [List.getElem?_eq_none e] at hz; cases hz
    have h1 := p.above k (Nat.le_refl _) hk
    have h2 : zs.getD k 0 = z := by simp [List.getD, hz]
    have h3 : zs.getD k 0 ≠ x := fun e => hn ⟨hk, e⟩
    omega)
  rw [List.take_append_drop] at h
  exact h.symm
theorem place_drop {zs : List Int} {x : Int} {k : Nat} (p : Place zs x k) (hl : ∀ a b, a < b → b < zs.length → zs.getD a 0 < zs.getD b 0) (hk : k < zs.length) (he : zs.getD k 0 = x) : zs.take k ++ zs.drop (k + 1) = dropF x zs := by
  have e : zs = zs.take k ++ (zs.getD k 0 :: zs.drop (k + 1)) := by
    rw [getD_eq hk, List.getElem_cons_drop hk, List.take_append_drop]
  have h1 : dropF x (zs.take k) = zs.take k := by
    unfold dropF
    rw [List.filter_eq_self]
    intro z hz
    have := mem_take_lt p z hz
    have : z ≠ x := by omega
    simp [this]
  have h2 : dropF x (zs.drop (k + 1)) = zs.drop (k + 1) := by
    unfold dropF
    rw [List.filter_eq_self]
    intro z hz
    obtain ⟨j, hj, e⟩ := List.getElem_of_mem hz
    rw [List.getElem_drop] at e
    have hj2 : k + 1 + j < zs.length := by simp at hj; omega
    have h3 := hl k (k + 1 + j) (by omega) hj2
    rw [he, getD_eq hj2, e] at h3
    have : z ≠ x := by omega
    simp [this]
  have h3 : dropF x zs = dropF x (zs.take k) ++ dropF x (zs.getD k 0 :: zs.drop (k + 1)) := by
    conv => lhs; rw [e]
    simp only [dropF, List.filter_append]
  have h4 : dropF x (zs.getD k 0 :: zs.drop (k + 1)) = dropF x (zs.drop (k + 1)) := by rw [he]; simp [dropF]
  rw [h3, h4, h1, h2]

/-! ### Cuts of a slice; Concat of what HandWith and HandWithout lay before it -/
theorem Rd.take {w : World} {lo hi : Nat} {A : Option Addr} {n k : Nat} {zs : List Int} (h : Rd w lo hi A n zs) (hk : k ≤ n) : Rd w lo hi A k (zs.take k) := by
  refine ⟨by simp [h.1]; omega, fun hp => ?_⟩
  obtain ⟨b, off, e, h1, h2, hc⟩ := h.2 (by omega)
  refine ⟨b, off, e, h1, h2, fun j hj => ?_⟩
  rw [hc j (by omega)]
  simp [List.getD, hj]
theorem Rd.drop {w : World} {lo hi b off n k : Nat} {zs : List Int} (A : Option Addr) (h : Rd w lo hi (some ⟨b, off, none⟩) n zs) (hk : k ≤ n) (hA : k < n → A = some ⟨b, off + k, none⟩) : Rd w lo hi A (n - k) (zs.drop k) := by
  refine ⟨by simp [h.1], fun hp => ?_⟩
  obtain ⟨b', off', e, h1, h2, hc⟩ := h.2 (by omega)
  injection e with e
  injection e with e1 e2
  subst e1 e2
  refine ⟨b, off + k, hA (by omega), h1, h2, fun j hj => ?_⟩
  rw [Nat.add_assoc, hc (k + j) (by omega)]
  simp [List.getD, List.getElem?_drop]

def three {α : Type} (a b c : α) : Nat → α
  | 0 => a | 1 => b | _ => c
theorem catTo_three (a b c : List Int) : catTo (three a b c) 3 = a ++ (b ++ c) := by simp [catTo, three, List.range_succ]
theorem catTo_two (a b c : List Int) : catTo (three a b c) 2 = a ++ b := by simp [catTo, three, List.range_succ]








end Go.Proofs.YtgoaikamolcffaaDoor.Lib1
