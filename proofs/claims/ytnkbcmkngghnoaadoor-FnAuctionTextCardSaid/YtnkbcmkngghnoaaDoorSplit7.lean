/- A text cut at its blanks. Lists alone, and the library's cut. -/
import Derived.Test.YtnkbcmkngghnoaaDoorRows
import Derived.Lib.Split
import Derived.Lib.SplitLaws
import Derived.Lib.IndexLaws
import Derived.Lib.CountLaws
namespace Go.Proofs.YtnkbcmkngghnoaaDoor.Lib1

set_option maxRecDepth 100000

/-- A text cut at its blanks. -/
def splitW : List UInt8 → List (List UInt8)
  | [] => [[]]
  | b :: l => if b = 32 then [] :: splitW l else match splitW l with
    | [] => [[b]]
    | p :: ps => (b :: p) :: ps
/-- The pieces with blanks between them. -/
def glueW : List (List UInt8) → List UInt8
  | [] => []
  | [p] => p
  | p :: q :: r => p ++ 32 :: glueW (q :: r)
theorem splitW_free_one : ∀ p : List UInt8, 32 ∉ p → splitW p = [p]
  | [], _ => rfl
  | b :: p, h => by
    have hb : b ≠ 32 := fun e => h (by simp [e])
    rw [splitW, if_neg hb, splitW_free_one p (fun e => h (by simp [e]))]
theorem splitW_cut : ∀ (p r : List UInt8), 32 ∉ p → splitW (p ++ 32 :: r) = p :: splitW r
  | [], r, _ => by simp [splitW]
  | b :: p, r, h => by
    have hb : b ≠ 32 := fun e => h (by simp [e])
    rw [List.cons_append, splitW, if_neg hb, splitW_cut p r (fun e => h (by simp [e]))]
theorem splitW_glueW : ∀ ps : List (List UInt8), ps ≠ [] → (∀ p ∈ ps, 32 ∉ p) → splitW (glueW ps) = ps
  | [], h, _ => absurd rfl h
  | [p], _, h => splitW_free_one p (h p (by simp))
  | p :: q :: r, _, h => by
    rw [glueW, splitW_cut p _ (h p (by simp)), splitW_glueW (q :: r) (by simp) (fun x hx => h x (by simp [hx]))]
theorem splitW_ne (l : List UInt8) : splitW l ≠ [] := by
  cases l with
  | nil => simp [splitW]
  | cons b l =>
    rw [splitW]
    split
    · simp
    · split <;> simp
theorem glueW_splitW : ∀ l : List UInt8, glueW (splitW l) = l
  | [] => rfl
  | b :: l => by
    have ih := glueW_splitW l
    rw [splitW]
    by_cases hb : b = 32
    · rw [if_pos hb, hb]
      match h : splitW l with
      | [] => exact absurd h (splitW_ne l)
      | p :: ps => rw [h] at ih; rw [glueW, ih]; rfl
    · rw [if_neg hb]
      match h : splitW l with
      | [] => exact absurd h (splitW_ne l)
      | [p] => rw [h] at ih; simp only [glueW] at ih ⊢; rw [ih]
      | p :: q :: ps => rw [h] at ih; simp only [glueW, List.cons_append] at ih ⊢; rw [ih]
theorem splitW_free : ∀ l : List UInt8, ∀ p ∈ splitW l, 32 ∉ p
  | [], p, h => by simp [splitW] at h; simp [h]
  | b :: l, p, h => by
    have ih := splitW_free l
    rw [splitW] at h
    by_cases hb : b = 32
    · rw [if_pos hb] at h
      rcases List.mem_cons.1 h with rfl | h
      · simp
      · exact ih p h
    · rw [if_neg hb] at h
      match e : splitW l with
      | [] => exact absurd e (splitW_ne l)
      | q :: qs =>
        rw [e] at h ih
        rcases List.mem_cons.1 h with rfl | h
        · intro hm
          rcases List.mem_cons.1 hm with h2 | h2
          · exact hb h2.symm
          · exact ih q (by simp) h2
        · exact ih p (by simp [h])

/-! ### The library's cut -/
theorem index_freeW : ∀ l : List UInt8, 32 ∉ l → Lib.index l [32] = -1
  | [], _ => rfl
  | b :: l, h => by
    have hb : (32 == b) = false := by simp; exact fun e => h (by simp [e])
    have ih := index_freeW l (fun e => h (by simp [e]))
    simp [Lib.index, List.isPrefixOf, hb, ih]
theorem index_cutW : ∀ (p r : List UInt8), 32 ∉ p → Lib.index (p ++ 32 :: r) [32] = p.length
  | [], r, _ => by simp [Lib.index, List.isPrefixOf]
  | b :: p, r, h => by
    have hb : (32 == b) = false := by simp; exact fun e => h (by simp [e])
    have ih := index_cutW p r (fun e => h (by simp [e]))
    have hne : ((p.length : Int) == -1) = false := by simp
    simp [Lib.index, List.isPrefixOf, hb, ih, hne]
theorem cut_atW : ∀ l : List UInt8, 32 ∈ l → ∃ p r, l = p ++ 32 :: r ∧ 32 ∉ p
  | b :: l, h => by
    by_cases hb : b = 32
    · exact ⟨[], l, by simp [hb], by simp⟩
    · have h' : 32 ∈ l := by
        rcases List.mem_cons.1 h with e | e
        · exact absurd e.symm hb
        · exact e
      obtain ⟨p, r, e, hp⟩ := cut_atW l h'
      refine ⟨b :: p, r, by simp [e], ?_⟩
      intro hm
      rcases List.mem_cons.1 hm with h2 | h2
      · exact hb h2.symm
      · exact hp h2
theorem splitK_cuts : ∀ (k : Nat) (l : List UInt8), l.count 32 = k → Lib.splitK [32] 0 k l = splitW l
  | 0, l, h => by
    have hf : 32 ∉ l := List.count_eq_zero.1 h
    rw [splitW_free_one l hf]; rfl
  | k + 1, l, h => by
    have hm : 32 ∈ l := List.count_pos_iff.1 (by omega)
    obtain ⟨p, r, rfl, hp⟩ := cut_atW l hm
    have hc : r.count 32 = k := by
      rw [List.count_append, List.count_eq_zero.2 hp, List.count_cons_self] at h; omega
    have hi := index_cutW p r hp
    have hne : ((p.length : Int) == -1) = false := by simp
    rw [Lib.splitK, hi, hne, splitW_cut p r hp, ← splitK_cuts k r hc]
    simp
theorem split_piecesW (s : ByteArray) : (Lib.splitB ⟨#[32]⟩ 0 (Lib.countB s ⟨#[32]⟩) s).map (·.data.toList) = splitW s.data.toList := by
  rw [Lib.splitB_data]
  have e : Lib.countB s ⟨#[32]⟩ = s.data.toList.count 32 := Lib.count_one 32 s.data.toList
  rw [e]
  exact splitK_cuts _ _ rfl


/-! ### Cutting from left to right -/
structure CutAt (l : List UInt8) (from_ i : Nat) (done : List (List UInt8)) : Prop where
  fi : from_ ≤ i
  il : i ≤ l.length
  eq : splitW l = done ++ splitW (l.drop from_)
  free : 32 ∉ (l.drop from_).take (i - from_)
theorem CutAt.start (l : List UInt8) : CutAt l 0 0 [] := ⟨Nat.le_refl _, Nat.zero_le _, rfl, by simp⟩
theorem take_stepW {l : List UInt8} {f i : Nat} (hf : f ≤ i) (hi : i < l.length) : (l.drop f).take (i + 1 - f) = (l.drop f).take (i - f) ++ [l.getD i 0] := by
  rw [show i + 1 - f = (i - f) + 1 by omega, List.take_succ_eq_append_getElem (by rw [List.length_drop]; omega)]
  congr 1
  rw [List.getElem_drop, List.getD_eq_getElem?_getD, List.getElem?_eq_getElem hi]
  simp only [show f + (i - f) = i by omega, Option.getD_some]
theorem CutAt.pass {l : List UInt8} {f i : Nat} {done : List (List UInt8)} (h : CutAt l f i done) (hi : i < l.length) (hb : l.getD i 0 ≠ 32) : CutAt l f (i + 1) done := by
  refine ⟨by have := h.fi; omega, hi, h.eq, ?_⟩
  rw [take_stepW h.fi hi]
  intro hm
  rcases List.mem_append.1 hm with q | q
  · exact h.free q
  · simp at q; exact hb q.symm
/-- The next piece. -/
def pieceW (l : List UInt8) (f i : Nat) : List UInt8 := (l.drop f).take (i - f)
theorem CutAt.cut {l : List UInt8} {f i : Nat} {done : List (List UInt8)} (h : CutAt l f i done) (hi : i < l.length) (hb : l.getD i 0 = 32) : CutAt l (i + 1) (i + 1) (done ++ [pieceW l f i]) := by
  refine ⟨Nat.le_refl _, hi, ?_, by simp⟩
  have e : l.drop f = pieceW l f i ++ 32 :: l.drop (i + 1) := by
    unfold pieceW
    conv => lhs; rw [← List.take_append_drop (i - f) (l.drop f)]
    congr 1
    rw [List.drop_drop, show f + (i - f) = i by have := h.fi; omega, List.drop_eq_getElem_cons hi]
    congr 1
    rw [List.getD_eq_getElem?_getD, List.getElem?_eq_getElem hi] at hb
    exact hb
  rw [h.eq, e, splitW_cut _ _ (by have := h.free; exact this)]
  simp
theorem CutAt.last {l : List UInt8} {f i : Nat} {done : List (List UInt8)} (h : CutAt l f i done) (hi : i = l.length) : splitW l = done ++ [pieceW l f i] := by
  have e : pieceW l f i = l.drop f := by unfold pieceW; rw [List.take_of_length_le (by rw [List.length_drop]; omega)]
  rw [h.eq, e, splitW_free_one]
  have := h.free
  rwa [List.take_of_length_le (by rw [List.length_drop]; omega)] at this
end Go.Proofs.YtnkbcmkngghnoaaDoor.Lib1
