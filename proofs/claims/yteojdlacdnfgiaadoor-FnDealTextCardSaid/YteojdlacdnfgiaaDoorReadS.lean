/- Chapter 3: a text cut at its blanks, and the deal that is read off it. Lists alone. -/
import Derived.Test.YteojdlacdnfgiaaDoorReadD
import Derived.Test.YteojdlacdnfgiaaDoorL03
namespace Go.Proofs.YteojdlacdnfgiaaDoor.Lib1
open Go.RowKit
set_option maxRecDepth 100000

/-- A text cut at its blanks. -/
def splitS : List UInt8 → List (List UInt8)
  | [] => [[]]
  | b :: l => if b = 32 then [] :: splitS l else match splitS l with
    | [] => [[b]]
    | p :: ps => (b :: p) :: ps
/-- The pieces with blanks between them. -/
def glueS : List (List UInt8) → List UInt8
  | [] => []
  | [p] => p
  | p :: q :: r => p ++ 32 :: glueS (q :: r)
theorem splitS_free_one : ∀ p : List UInt8, 32 ∉ p → splitS p = [p]
  | [], _ => rfl
  | b :: p, h => by
    have hb : b ≠ 32 := fun e => h (by simp [e])
    rw [splitS, if_neg hb, splitS_free_one p (fun e => h (by simp [e]))]
theorem splitS_cut : ∀ (p r : List UInt8), 32 ∉ p → splitS (p ++ 32 :: r) = p :: splitS r
  | [], r, _ => by simp [splitS]
  | b :: p, r, h => by
    have hb : b ≠ 32 := fun e => h (by simp [e])
    rw [List.cons_append, splitS, if_neg hb, splitS_cut p r (fun e => h (by simp [e]))]
theorem splitS_glueS : ∀ ps : List (List UInt8), ps ≠ [] → (∀ p ∈ ps, 32 ∉ p) → splitS (glueS ps) = ps
  | [], h, _ => absurd rfl h
  | [p], _, h => splitS_free_one p (h p (by simp))
  | p :: q :: r, _, h => by
    rw [glueS, splitS_cut p _ (h p (by simp)), splitS_glueS (q :: r) (by simp) (fun x hx => h x (by simp [hx]))]
theorem splitS_ne (l : List UInt8) : splitS l ≠ [] := by
  cases l with
  | nil => simp [splitS]
  | cons b l =>
    rw [splitS]
    split
    · simp
    · split <;> simp
theorem glueS_splitS : ∀ l : List UInt8, glueS (splitS l) = l
  | [] => rfl
  | b :: l => by
    have ih := glueS_splitS l
    rw [splitS]
    by_cases hb : b = 32
    · rw [if_pos hb, hb]
      match h : splitS l with
      | [] => exact absurd h (splitS_ne l)
      | p :: ps => rw [h] at ih; rw [glueS, ih]; rfl
    · rw [if_neg hb]
      match h : splitS l with
      | [] => exact absurd h (splitS_ne l)
      | [p] => rw [h] at ih; simp only [glueS] at ih ⊢; rw [ih]
      | p :: q :: ps => rw [h] at ih; simp only [glueS, List.cons_append] at ih ⊢; rw [ih]
theorem splitS_free : ∀ l : List UInt8, ∀ p ∈ splitS l, 32 ∉ p
  | [], p, h => by simp [splitS] at h; simp [h]
  | b :: l, p, h => by
    have ih := splitS_free l
    rw [splitS] at h
    by_cases hb : b = 32
    · rw [if_pos hb] at h
      rcases List.mem_cons.1 h with rfl | h
      · simp
      · exact ih p h
    · rw [if_neg hb] at h
      match e : splitS l with
      | [] => exact absurd e (splitS_ne l)
      | q :: qs =>
        rw [e] at h ih
        rcases List.mem_cons.1 h with rfl | h
        · intro hm
          rcases List.mem_cons.1 hm with h2 | h2
          · exact hb h2.symm
          · exact ih q (by simp) h2
        · exact ih p (by simp [h])

/-! ### The library's cut -/
theorem index_freeS : ∀ l : List UInt8, 32 ∉ l → Lib.index l [32] = -1
  | [], _ => rfl
  | b :: l, h => by
    have hb : (32 == b) = false := by simp; exact fun e => h (by simp [e])
    have ih := index_freeS l (fun e => h (by simp [e]))
    simp [Lib.index, List.isPrefixOf, hb, ih]
theorem index_cutS : ∀ (p r : List UInt8), 32 ∉ p → Lib.index (p ++ 32 :: r) [32] = p.length
  | [], r, _ => by simp [Lib.index, List.isPrefixOf]
  | b :: p, r, h => by
    have hb : (32 == b) = false := by simp; exact fun e => h (by simp [e])
    have ih := index_cutS p r (fun e => h (by simp [e]))
    have hne : ((p.length : Int) == -1) = false := by simp
    simp [Lib.index, List.isPrefixOf, hb, ih, hne]
theorem cut_atS : ∀ l : List UInt8, 32 ∈ l → ∃ p r, l = p ++ 32 :: r ∧ 32 ∉ p
  | b :: l, h => by
    by_cases hb : b = 32
    · exact ⟨[], l, by simp [hb], by simp⟩
    · have h' : 32 ∈ l := by
        rcases List.mem_cons.1 h with e | e
        · exact absurd e.symm hb
        · exact e
      obtain ⟨p, r, e, hp⟩ := cut_atS l h'
      refine ⟨b :: p, r, by simp [e], ?_⟩
      intro hm
      rcases List.mem_cons.1 hm with h2 | h2
      · exact hb h2.symm
      · exact hp h2
theorem splitK_blanks : ∀ (k : Nat) (l : List UInt8), l.count 32 = k → Lib.splitK [32] 0 k l = splitS l
  | 0, l, h => by
    have hf : 32 ∉ l := List.count_eq_zero.1 h
    rw [splitS_free_one l hf]; rfl
  | k + 1, l, h => by
    have hm : 32 ∈ l := List.count_pos_iff.1 (by omega)
    obtain ⟨p, r, rfl, hp⟩ := cut_atS l hm
    have hc : r.count 32 = k := by
      rw [List.count_append, List.count_eq_zero.2 hp, List.count_cons_self] at h; omega
    have hi := index_cutS p r hp
    have hne : ((p.length : Int) == -1) = false := by simp
    rw [Lib.splitK, hi, hne, splitS_cut p r hp, ← splitK_blanks k r hc]
    simp
theorem split_piecesS (s : ByteArray) : (Lib.splitB ⟨#[32]⟩ 0 (Lib.countB s ⟨#[32]⟩) s).map (·.data.toList) = splitS s.data.toList := by
  rw [Lib.splitB_data]
  have e : Lib.countB s ⟨#[32]⟩ = s.data.toList.count 32 := Lib.count_one 32 s.data.toList
  rw [e]
  exact splitK_blanks _ _ rfl

/-! ### The deal of a text -/
def rdP (l : List UInt8) : List (List UInt8) := splitS (l.drop 2)
def rdDB (l : List UInt8) : Bool := decide (l.take 2 = [78, 58]) && ((rdP l).all readB && dealB ((rdP l).map readV))
def rdDV (l : List UInt8) : List (List Int) := if rdDB l then (rdP l).map readV else []
theorem rdd_no {l : List UInt8} (h : rdDB l = false) : rdDV l = [] := by simp [rdDV, h]
theorem rd_start {l : List UInt8} (h : l.take 2 ≠ [78, 58]) : rdDB l = false := by simp [rdDB, h]
theorem rd_hand {l : List UInt8} {p : List UInt8} (hp : p ∈ rdP l) (h : readB p = false) : rdDB l = false := by
  have : (rdP l).all readB = false := by rw [List.all_eq_false]; exact ⟨p, hp, by simp [h]⟩
  simp [rdDB, this]
theorem rd_deal {l : List UInt8} (h1 : l.take 2 = [78, 58]) (h2 : (rdP l).all readB = true) : rdDB l = dealB ((rdP l).map readV) := by simp [rdDB, h1, h2]
theorem read_short {p : List UInt8} (h : readB p = true) : p.length ≤ 16 := by
  obtain ⟨h1, h2⟩ := read_yes h
  have h3 := textH_length h1
  have h4 := hand_len h1
  rw [h2]; omega
theorem rd_short {l : List UInt8} (h : rdDB l = true) : l.length ≤ 80 := by
  simp only [rdDB, Bool.and_eq_true, decide_eq_true_eq] at h
  obtain ⟨_, h2, h3⟩ := h
  have h4 := ((deal_iff _).1 h3).1
  rw [List.length_map] at h4
  have hg := congrArg List.length (glueS_splitS (l.drop 2))
  have hall : ∀ p ∈ rdP l, p.length ≤ 16 := fun p hp => read_short (List.all_eq_true.1 h2 p hp)
  unfold rdP at h4 hall
  generalize splitS (l.drop 2) = ps at h4 hall hg
  match ps, h4 with
  | [a, b, c, d], _ =>
    have ha := hall a (by simp)
    have hb := hall b (by simp)
    have hc := hall c (by simp)
    have hd := hall d (by simp)
    simp only [glueS, List.length_append, List.length_cons, List.length_drop] at hg
    omega
theorem rd_long {l : List UInt8} (h : 80 < l.length) : rdDB l = false := by
  cases hb : rdDB l
  · rfl
  · have := rd_short hb; omega
theorem rd_few {l : List UInt8} (h : l.length < 2) : rdDB l = false := rd_start (fun e => by have := congrArg List.length e; simp at this; omega)
/-- How far the text is read: the pieces behind 'from' are to come, and from there to i no blank stands. -/
structure RdAt (l : List UInt8) (from_ i : Nat) (done : List (List UInt8)) : Prop where
  f2 : 2 ≤ from_
  fi : from_ ≤ i
  il : i ≤ l.length
  eq : rdP l = done ++ splitS (l.drop from_)
  free : 32 ∉ (l.drop from_).take (i - from_)
theorem RdAt.start {l : List UInt8} (h : 2 ≤ l.length) : RdAt l 2 2 [] := ⟨Nat.le_refl _, Nat.le_refl _, h, rfl, by simp⟩
theorem take_step {l : List UInt8} {f i : Nat} (hf : f ≤ i) (hi : i < l.length) : (l.drop f).take (i + 1 - f) = (l.drop f).take (i - f) ++ [l.getD i 0] := by
  rw [show i + 1 - f = (i - f) + 1 by omega, List.take_succ_eq_append_getElem (by rw [List.length_drop]; omega)]
  congr 1
  rw [List.getElem_drop, List.getD_eq_getElem?_getD, List.getElem?_eq_getElem hi]
  simp only [show f + (i - f) = i by omega, Option.getD_some]
theorem RdAt.pass {l : List UInt8} {f i : Nat} {done : List (List UInt8)} (h : RdAt l f i done) (hi : i < l.length) (hb : l.getD i 0 ≠ 32) : RdAt l f (i + 1) done := by
  refine ⟨h.f2, by have := h.fi; omega, hi, h.eq, ?_⟩
  rw [take_step h.fi hi]
  intro hm
  rcases List.mem_append.1 hm with q | q
  · exact h.free q
  · simp at q; exact hb q.symm
/-- The next piece. -/
def piece (l : List UInt8) (f i : Nat) : List UInt8 := (l.drop f).take (i - f)
theorem RdAt.cut {l : List UInt8} {f i : Nat} {done : List (List UInt8)} (h : RdAt l f i done) (hi : i < l.length) (hb : l.getD i 0 = 32) : RdAt l (i + 1) (i + 1) (done ++ [piece l f i]) := by
  refine ⟨by have := h.f2; have := h.fi; omega, Nat.le_refl _, hi, ?_, by simp⟩
  have e : l.drop f = piece l f i ++ 32 :: l.drop (i + 1) := by
    unfold piece
    conv => lhs; rw [← List.take_append_drop (i - f) (l.drop f)]
    congr 1
    rw [List.drop_drop, show f + (i - f) = i by have := h.fi; omega, List.drop_eq_getElem_cons hi]
    congr 1
    rw [List.getD_eq_getElem?_getD, List.getElem?_eq_getElem hi] at hb
    exact hb
  rw [h.eq, e, splitS_cut _ _ (by have := h.free; exact this)]
  simp
theorem RdAt.last {l : List UInt8} {f i : Nat} {done : List (List UInt8)} (h : RdAt l f i done) (hi : i = l.length) : rdP l = done ++ [piece l f i] := by
  have e : piece l f i = l.drop f := by unfold piece; rw [List.take_of_length_le (by rw [List.length_drop]; omega)]
  rw [h.eq, e, splitS_free_one]
  have := h.free
  rwa [List.take_of_length_le (by rw [List.length_drop]; omega)] at this
end Go.Proofs.YteojdlacdnfgiaaDoor.Lib1
