/- Chapter 2: a text cut at its dots, and what is read off it. Lists alone. -/
import Derived.Test.YteojdlacdnfgiaaDoorS02r
import Derived.Lib.SplitLaws
namespace Go.Proofs.YteojdlacdnfgiaaDoor.Lib1
open Go.RowKit
set_option maxRecDepth 100000

/-- A text cut at its dots. -/
def splitD : List UInt8 → List (List UInt8)
  | [] => [[]]
  | b :: l => if b = 46 then [] :: splitD l else match splitD l with
    | [] => [[b]]
    | p :: ps => (b :: p) :: ps
/-- The pieces with dots between them. -/
def glue : List (List UInt8) → List UInt8
  | [] => []
  | [p] => p
  | p :: q :: r => p ++ 46 :: glue (q :: r)
theorem splitD_free_one : ∀ p : List UInt8, 46 ∉ p → splitD p = [p]
  | [], _ => rfl
  | b :: p, h => by
    have hb : b ≠ 46 := fun e => h (by simp [e])
    rw [splitD, if_neg hb, splitD_free_one p (fun e => h (by simp [e]))]
theorem splitD_cut : ∀ (p r : List UInt8), 46 ∉ p → splitD (p ++ 46 :: r) = p :: splitD r
  | [], r, _ => by simp [splitD]
  | b :: p, r, h => by
    have hb : b ≠ 46 := fun e => h (by simp [e])
    rw [List.cons_append, splitD, if_neg hb, splitD_cut p r (fun e => h (by simp [e]))]
theorem splitD_glue : ∀ ps : List (List UInt8), ps ≠ [] → (∀ p ∈ ps, 46 ∉ p) → splitD (glue ps) = ps
  | [], h, _ => absurd rfl h
  | [p], _, h => splitD_free_one p (h p (by simp))
  | p :: q :: r, _, h => by
    rw [glue, splitD_cut p _ (h p (by simp)), splitD_glue (q :: r) (by simp) (fun x hx => h x (by simp [hx]))]
theorem splitD_ne (l : List UInt8) : splitD l ≠ [] := by
  cases l with
  | nil => simp [splitD]
  | cons b l =>
    rw [splitD]
    split
    · simp
    · split <;> simp
theorem glue_splitD : ∀ l : List UInt8, glue (splitD l) = l
  | [] => rfl
  | b :: l => by
    have ih := glue_splitD l
    rw [splitD]
    by_cases hb : b = 46
    · rw [if_pos hb, hb]
      match h : splitD l with
      | [] => exact absurd h (splitD_ne l)
      | p :: ps => rw [h] at ih; rw [glue, ih]; rfl
    · rw [if_neg hb]
      match h : splitD l with
      | [] => exact absurd h (splitD_ne l)
      | [p] => rw [h] at ih; simp only [glue] at ih ⊢; rw [ih]
      | p :: q :: ps => rw [h] at ih; simp only [glue, List.cons_append] at ih ⊢; rw [ih]
theorem splitD_free : ∀ l : List UInt8, ∀ p ∈ splitD l, 46 ∉ p
  | [], p, h => by simp [splitD] at h; simp [h]
  | b :: l, p, h => by
    have ih := splitD_free l
    rw [splitD] at h
    by_cases hb : b = 46
    · rw [if_pos hb] at h
      rcases List.mem_cons.1 h with rfl | h
      · simp
      · exact ih p h
    · rw [if_neg hb] at h
      match e : splitD l with
      | [] => exact absurd e (splitD_ne l)
      | q :: qs =>
        rw [e] at h ih
        rcases List.mem_cons.1 h with rfl | h
        · intro hm
          rcases List.mem_cons.1 hm with h2 | h2
          · exact hb h2.symm
          · exact ih q (by simp) h2
        · exact ih p (by simp [h])

/-! ### The library's cut -/
theorem index_free : ∀ l : List UInt8, 46 ∉ l → Lib.index l [46] = -1
  | [], _ => rfl
  | b :: l, h => by
    have hb : (46 == b) = false := by simp; exact fun e => h (by simp [e])
    have ih := index_free l (fun e => h (by simp [e]))
    simp [Lib.index, List.isPrefixOf, hb, ih]
theorem index_cut : ∀ (p r : List UInt8), 46 ∉ p → Lib.index (p ++ 46 :: r) [46] = p.length
  | [], r, _ => by simp [Lib.index, List.isPrefixOf]
  | b :: p, r, h => by
    have hb : (46 == b) = false := by simp; exact fun e => h (by simp [e])
    have ih := index_cut p r (fun e => h (by simp [e]))
    have hne : ((p.length : Int) == -1) = false := by simp
    simp [Lib.index, List.isPrefixOf, hb, ih, hne]
theorem cut_at : ∀ l : List UInt8, 46 ∈ l → ∃ p r, l = p ++ 46 :: r ∧ 46 ∉ p
  | b :: l, h => by
    by_cases hb : b = 46
    · exact ⟨[], l, by simp [hb], by simp⟩
    · have h' : 46 ∈ l := by
        rcases List.mem_cons.1 h with e | e
        · exact absurd e.symm hb
        · exact e
      obtain ⟨p, r, e, hp⟩ := cut_at l h'
      refine ⟨b :: p, r, by simp [e], ?_⟩
      intro hm
      rcases List.mem_cons.1 hm with h2 | h2
      · exact hb h2.symm
      · exact hp h2
theorem splitK_dots : ∀ (k : Nat) (l : List UInt8), l.count 46 = k → Lib.splitK [46] 0 k l = splitD l
  | 0, l, h => by
    have hf : 46 ∉ l := List.count_eq_zero.1 h
    rw [splitD_free_one l hf]; rfl
  | k + 1, l, h => by
    have hm : 46 ∈ l := List.count_pos_iff.1 (by omega)
    obtain ⟨p, r, rfl, hp⟩ := cut_at l hm
    have hc : r.count 46 = k := by
      rw [List.count_append, List.count_eq_zero.2 hp, List.count_cons_self] at h; omega
    have hi := index_cut p r hp
    have hne : ((p.length : Int) == -1) = false := by simp
    rw [Lib.splitK, hi, hne, splitD_cut p r hp, ← splitK_dots k r hc]
    simp
theorem split_pieces (s : ByteArray) : (Lib.splitB ⟨#[46]⟩ 0 (Lib.countB s ⟨#[46]⟩) s).map (·.data.toList) = splitD s.data.toList := by
  rw [Lib.splitB_data]
  have e : Lib.countB s ⟨#[46]⟩ = s.data.toList.count 46 := Lib.count_one 46 s.data.toList
  rw [e]
  exact splitK_dots _ _ rfl

/-! ### What is read -/
def cardsP (p : List UInt8) (s : Int) : List Int := p.reverse.map (fun b => cardV s (Lib.indexByte rankL b))
theorem idx_rk : ∀ b : UInt8, 0 ≤ Lib.indexByte rankL b → Lib.indexByte rankL b ≤ 12 ∧ rankL.getD (Lib.indexByte rankL b).toNat 0 = b := by
  have h : ∀ b : Fin 256, 0 ≤ Lib.indexByte rankL (UInt8.ofNat b.val) → Lib.indexByte rankL (UInt8.ofNat b.val) ≤ 12 ∧ rankL.getD (Lib.indexByte rankL (UInt8.ofNat b.val)).toNat 0 = UInt8.ofNat b.val := by decide +kernel
  intro b
  have := h ⟨b.toNat, b.toNat_lt⟩
  simpa using this
theorem cardsP_good {p : List UInt8} {s : Int} (h0 : 0 ≤ s) (h3 : s ≤ 3) (h : ∀ z ∈ cardsP p s, 0 ≤ z ∧ z ≤ 51) : (∀ z ∈ cardsP p s, z / 13 = s) ∧ (cardsP p s).reverse.map rk = p := by
  have hb : ∀ b ∈ p, 0 ≤ Lib.indexByte rankL b := by
    intro b hb
    by_cases hn : 0 ≤ Lib.indexByte rankL b
    · exact hn
    · have := h (cardV s (Lib.indexByte rankL b)) (by unfold cardsP; exact List.mem_map.2 ⟨b, by simpa using hb, rfl⟩)
      rw [cardV_no (by omega)] at this
      omega
  constructor
  · intro z hz
    obtain ⟨b, hm, rfl⟩ := List.mem_map.1 hz
    have hi := hb b (by simpa using hm)
    have := idx_rk b hi
    rw [cardV_yes (by omega)]; omega
  · unfold cardsP
    rw [← List.map_reverse, List.reverse_reverse, List.map_map]
    conv => rhs; rw [← List.map_id p]
    apply List.map_congr_left
    intro b hm
    have hi := hb b hm
    have hk := idx_rk b hi
    simp only [Function.comp, id]
    rw [cardV_yes (by omega), rk, show (13 * s + Lib.indexByte rankL b) % 13 = Lib.indexByte rankL b by omega]
    exact hk.2
theorem cardsP_seg (H : List Int) {s : Int} (h0 : 0 ≤ s) (h3 : s ≤ 3) : cardsP (segT s H) s = suitF s H := by
  unfold cardsP segT
  rw [← List.map_reverse, List.reverse_reverse, List.map_map]
  conv => rhs; rw [← List.map_id (suitF s H)]
  apply List.map_congr_left
  intro z hz
  have hq := (mem_suitF.1 hz).2
  have hf := rk_facts z
  simp only [Function.comp, id]
  rw [hf.1, cardV_yes (by omega)]; omega
theorem suitF_append (s : Int) (a b : List Int) : suitF s (a ++ b) = suitF s a ++ suitF s b := by unfold suitF; rw [List.filter_append]
theorem suitF_full {s : Int} {l : List Int} (h : ∀ z ∈ l, z / 13 = s) : suitF s l = l := by
  unfold suitF; rw [List.filter_eq_self]; intro z hz; simp [suitP, h z hz]
theorem suitF_none {s t : Int} {l : List Int} (h : ∀ z ∈ l, z / 13 = t) (hne : s ≠ t) : suitF s l = [] := suitF_nil fun y hy e => hne (e.symm.trans (h y hy))
/-- The cards of four pieces. -/
def cards4 (p3 p2 p1 p0 : List UInt8) : List Int := cardsP p0 0 ++ (cardsP p1 1 ++ (cardsP p2 2 ++ cardsP p3 3))
theorem cards4_text {p3 p2 p1 p0 : List UInt8} (h : handB (cards4 p3 p2 p1 p0) = true) : textH (cards4 p3 p2 p1 p0) = glue [p3, p2, p1, p0] := by
  have hc := ((hand_iff _).1 h).2.2
  have g0 := cardsP_good (p := p0) (s := 0) (by omega) (by omega) (fun z hz => hc z (by simp [cards4, hz]))
  have g1 := cardsP_good (p := p1) (s := 1) (by omega) (by omega) (fun z hz => hc z (by simp [cards4, hz]))
  have g2 := cardsP_good (p := p2) (s := 2) (by omega) (by omega) (fun z hz => hc z (by simp [cards4, hz]))
  have g3 := cardsP_good (p := p3) (s := 3) (by omega) (by omega) (fun z hz => hc z (by simp [cards4, hz]))
  have s0 : suitF 0 (cards4 p3 p2 p1 p0) = cardsP p0 0 := by
    simp only [cards4, suitF_append, suitF_full g0.1, suitF_none g1.1 (show (0 : Int) ≠ 1 by decide), suitF_none g2.1 (show (0 : Int) ≠ 2 by decide), suitF_none g3.1 (show (0 : Int) ≠ 3 by decide), List.append_nil]
  have s1 : suitF 1 (cards4 p3 p2 p1 p0) = cardsP p1 1 := by
    simp only [cards4, suitF_append, suitF_full g1.1, suitF_none g0.1 (show (1 : Int) ≠ 0 by decide), suitF_none g2.1 (show (1 : Int) ≠ 2 by decide), suitF_none g3.1 (show (1 : Int) ≠ 3 by decide), List.append_nil, List.nil_append]
  have s2 : suitF 2 (cards4 p3 p2 p1 p0) = cardsP p2 2 := by
    simp only [cards4, suitF_append, suitF_full g2.1, suitF_none g0.1 (show (2 : Int) ≠ 0 by decide), suitF_none g1.1 (show (2 : Int) ≠ 1 by decide), suitF_none g3.1 (show (2 : Int) ≠ 3 by decide), List.append_nil, List.nil_append]
  have s3 : suitF 3 (cards4 p3 p2 p1 p0) = cardsP p3 3 := by
    simp only [cards4, suitF_append, suitF_full g3.1, suitF_none g0.1 (show (3 : Int) ≠ 0 by decide), suitF_none g1.1 (show (3 : Int) ≠ 1 by decide), suitF_none g2.1 (show (3 : Int) ≠ 2 by decide), List.nil_append]
  simp only [textH, segT, s0, s1, s2, s3, g0.2, g1.2, g2.2, g3.2, glue]
theorem segT_free (s : Int) (H : List Int) : 46 ∉ segT s H := by
  intro h
  obtain ⟨z, _, e⟩ := List.mem_map.1 h
  exact (rk_facts z).2 e
theorem read_yes {l : List UInt8} (h : readB l = true) : handB (readL l) = true ∧ l = textH (readL l) := by
  unfold readB at h
  have e := of_decide_eq_true h
  cases hh : handB (readL l)
  · have : handText (readL l) = [] := by simp [handText, hh]
    rw [this] at e
    subst e
    exact absurd hh (by decide)
  · exact ⟨rfl, by rw [handText, hh, if_pos rfl] at e; exact e.symm⟩
theorem read_dots {l : List UInt8} (h : readB l = true) : splitD l = [segT 3 (readL l), segT 2 (readL l), segT 1 (readL l), segT 0 (readL l)] := by
  have e := (read_yes h).2
  generalize readL l = H at e
  subst e
  have : textH H = glue [segT 3 H, segT 2 H, segT 1 H, segT 0 H] := by simp [textH, glue]
  rw [this]
  exact splitD_glue _ (by simp) (by simp [segT_free])
theorem read_few {l : List UInt8} (h : (splitD l).length ≠ 4) : readB l = false := by
  cases hb : readB l
  · rfl
  · rw [read_dots hb] at h; exact absurd rfl h
/-- What the program reads off four pieces is what the model reads off the text. -/
theorem read_four {l p3 p2 p1 p0 : List UInt8} (h : splitD l = [p3, p2, p1, p0]) : readB l = handB (cards4 p3 p2 p1 p0) ∧ readV l = if handB (cards4 p3 p2 p1 p0) then cards4 p3 p2 p1 p0 else [] := by
  have hg := glue_splitD l
  rw [h] at hg
  cases hh : handB (cards4 p3 p2 p1 p0)
  · have hb : readB l = false := by
      cases hb : readB l
      · rfl
      · have e := read_dots hb
        have hy := (read_yes hb).1
        rw [h] at e
        injection e with e3 e; injection e with e2 e; injection e with e1 e; injection e with e0 _
        have hc : cards4 p3 p2 p1 p0 = readL l := by
          unfold cards4
          rw [e3, e2, e1, e0, cardsP_seg _ (by omega) (by omega), cardsP_seg _ (by omega) (by omega), cardsP_seg _ (by omega) (by omega), cardsP_seg _ (by omega) (by omega)]
          obtain ⟨_, h2, h3⟩ := (hand_iff _).1 hy
          exact suits_all _ h2 h3
        rw [hc, hy] at hh
        exact absurd hh (by simp)
    exact ⟨hb, read_no hb⟩
  · have ht := cards4_text hh
    have e : handText (cards4 p3 p2 p1 p0) = l := by rw [handText, hh, if_pos rfl, ht, hg]
    have r := read_text hh
    rw [e] at r
    exact ⟨r.2.1, r.2.2⟩

end Go.Proofs.YteojdlacdnfgiaaDoor.Lib1
