/- Lists: what a hand is, a card put in and taken out, the cards of the four suits. No function of the program. -/
import Derived.Test.YtgoaikamolcffaaDoorHand
namespace Go.Proofs.YtgoaikamolcffaaDoor.Lib1
open Go.RowKit

theorem hand_iff (zs : List Int) : handB zs = true ↔ zs.length ≤ 13 ∧ zs.Pairwise (· < ·) ∧ ∀ z ∈ zs, 0 ≤ z ∧ z ≤ 51 := by
  constructor
  · intro h
    refine ⟨hand_len h, ?_, ?_⟩
    · rw [List.pairwise_iff_getElem]
      intro i j hi hj hij
      have := hand_lt h i j hij hj
      rwa [getD_eq hi, getD_eq hj] at this
    · intro z hz
      obtain ⟨j, hj, e⟩ := List.getElem_of_mem hz
      have := (hand_bounds h).2 j hj
      rwa [getD_eq hj, e] at this
  · rintro ⟨h1, h2, h3⟩
    simp only [handB, risingB, Bool.and_eq_true, decide_eq_true_eq]
    refine ⟨h1, fun j hj => ⟨?_, fun h0 => ?_⟩⟩
    · rw [getD_eq hj]; exact h3 _ (List.getElem_mem hj)
    · have hj' : j - 1 < zs.length := by omega
      rw [getD_eq hj, getD_eq hj']
      exact List.pairwise_iff_getElem.1 h2 (j - 1) j hj' hj (by omega)
theorem mem_ins (c y : Int) : ∀ l : List Int, y ∈ ins c l ↔ y = c ∨ y ∈ l
  | [] => by simp [ins]
  | z :: l => by
    unfold ins
    split
    · simp
    · simp only [List.mem_cons, mem_ins c y l]
      constructor
      · rintro (h | h | h) <;> simp [h]
      · rintro (h | h | h) <;> simp [h]
theorem ins_pairwise (c : Int) : ∀ l : List Int, l.Pairwise (· < ·) → c ∉ l → (ins c l).Pairwise (· < ·)
  | [], _, _ => by simp [ins]
  | z :: l, h, hc => by
    rw [List.pairwise_cons] at h
    have hne : c ≠ z := fun e => hc (by simp [e])
    have hcl : c ∉ l := fun e => hc (by simp [e])
    unfold ins
    split
    · rename_i hlt
      rw [List.pairwise_cons, List.pairwise_cons]
      refine ⟨fun y hy => ?_, h⟩
      rcases List.mem_cons.1 hy with rfl | hy
      · exact hlt
      · exact Int.lt_trans hlt (h.1 y hy)
    · rename_i hge
      rw [List.pairwise_cons]
      refine ⟨fun y hy => ?_, ins_pairwise c l h.2 hcl⟩
      rcases (mem_ins c y l).1 hy with rfl | hy
      · omega
      · exact h.1 y hy
theorem drop_not (x : Int) (l : List Int) (h : x ∉ l) : dropF x l = l := by
  unfold dropF
  rw [List.filter_eq_self]
  intro z hz
  have : z ≠ x := fun e => h (e ▸ hz)
  simp [this]
theorem drop_ins (x : Int) : ∀ l : List Int, x ∉ l → dropF x (ins x l) = l
  | [], _ => by simp [ins, dropF]
  | z :: l, h => by
    have hne : z ≠ x := fun e => h (by simp [e])
    have hcl : x ∉ l := fun e => h (by simp [e])
    have h2 := drop_not x (z :: l) h
    unfold ins
    split
    · have : dropF x (x :: z :: l) = dropF x (z :: l) := by simp [dropF]
      rw [this, h2]
    · have : dropF x (z :: ins x l) = z :: dropF x (ins x l) := by simp [dropF, hne]
      rw [this, drop_ins x l hcl]
/-- What an accepted HandWith means. -/
theorem with_ok {zs : List Int} {x : Int} (h : withC zs x = 0) : withV zs x = ins x zs ∧ handB (ins x zs) = true ∧ withoutC (ins x zs) x = 0 ∧ withoutV (ins x zs) x = zs := by
  have hh : handB zs = true := by
    cases e : handB zs with
    | true => rfl
    | false => simp [withC, e] at h
  have hi : inB x 0 51 = true := by
    cases e : inB x 0 51 with
    | true => rfl
    | false => simp [withC, hh, e] at h
  have hs : hasB zs x = false := by
    cases e : hasB zs x with
    | false => rfl
    | true => simp [withC, hh, hi, e] at h
  have h13 : zs.length ≠ 13 := fun e => by simp [withC, hh, hi, hs, e] at h
  obtain ⟨h1, h2, h3⟩ := (hand_iff zs).1 hh
  have hm : x ∉ zs := by simpa [hasB] using hs
  have hx : 0 ≤ x ∧ x ≤ 51 := by simpa [inB] using hi
  have hI : handB (ins x zs) = true := (hand_iff _).2 ⟨by rw [ins_length]; omega, ins_pairwise x zs h2 hm, fun z hz => by
    rcases (mem_ins x z zs).1 hz with rfl | hz
    · exact hx
    · exact h3 z hz⟩
  have hhas : hasB (ins x zs) x = true := by simp [hasB, mem_ins]
  have hc : withoutC (ins x zs) x = 0 := by simp [withoutC, hI, hhas]
  exact ⟨by simp [withV, h], hI, hc, by simp [withoutV, hc, drop_ins x zs hm]⟩
theorem suitF_nil {s : Int} {l : List Int} (h : ∀ y ∈ l, ¬ y / 13 = s) : suitF s l = [] := by
  unfold suitF
  rw [List.filter_eq_nil_iff]
  intro y hy
  simp [suitP, h y hy]
theorem suitF_hit {s z : Int} {l : List Int} (h : z / 13 = s) : suitF s (z :: l) = z :: suitF s l := by simp [suitF, suitP, h]
theorem suitF_miss {s z : Int} {l : List Int} (h : ¬ z / 13 = s) : suitF s (z :: l) = suitF s l := by simp [suitF, suitP, h]
theorem suits_all : ∀ l : List Int, l.Pairwise (· < ·) → (∀ z ∈ l, 0 ≤ z ∧ z ≤ 51) → suitF 0 l ++ (suitF 1 l ++ (suitF 2 l ++ suitF 3 l)) = l
  | [], _, _ => rfl
  | z :: l, h, hb => by
    rw [List.pairwise_cons] at h
    have ih := suits_all l h.2 (fun y hy => hb y (by simp [hy]))
    have hz := hb z (by simp)
    have hq : z / 13 = 0 ∨ z / 13 = 1 ∨ z / 13 = 2 ∨ z / 13 = 3 := by omega
    have hlow : ∀ s : Int, s < z / 13 → suitF s l = [] := fun s hs => suitF_nil fun y hy e => by
      have := h.1 y hy
      omega
    rcases hq with q | q | q | q
    · rw [suitF_hit q, suitF_miss (by omega), suitF_miss (by omega), suitF_miss (by omega)]
      simp only [List.cons_append, ih]
    · rw [suitF_miss (by omega), suitF_hit q, suitF_miss (by omega), suitF_miss (by omega)]
      have e0 := hlow 0 (by omega)
      rw [e0] at ih ⊢
      simp only [List.nil_append, List.cons_append] at ih ⊢
      rw [ih]
    · rw [suitF_miss (by omega), suitF_miss (by omega), suitF_hit q, suitF_miss (by omega)]
      have e0 := hlow 0 (by omega)
      have e1 := hlow 1 (by omega)
      rw [e0, e1] at ih ⊢
      simp only [List.nil_append, List.cons_append] at ih ⊢
      rw [ih]
    · rw [suitF_miss (by omega), suitF_miss (by omega), suitF_miss (by omega), suitF_hit q]
      have e0 := hlow 0 (by omega)
      have e1 := hlow 1 (by omega)
      have e2 := hlow 2 (by omega)
      rw [e0, e1, e2] at ih ⊢
      simp only [List.nil_append] at ih ⊢
      rw [ih]

end Go.Proofs.YtgoaikamolcffaaDoor.Lib1
