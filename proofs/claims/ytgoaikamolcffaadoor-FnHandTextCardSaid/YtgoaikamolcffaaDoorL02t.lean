/- Chapter 2, lists alone, third part: the text of a hand, its reading, and that they fit. No function of the program. -/
import Derived.Test.YtgoaikamolcffaaDoorL02b
import Derived.Test.YtgoaikamolcffaaDoorRead
namespace Go.Proofs.YtgoaikamolcffaaDoor.Lib1
open Go.RowKit

/-- The letter of a card's rank. -/
def rk (z : Int) : UInt8 := rankL.getD (z % 13).toNat 0
theorem rk_fin : ∀ k : Fin 13, Lib.indexByte rankL (rankL.getD k.val 0) = (k.val : Int) ∧ rankL.getD k.val 0 ≠ 46 := by decide +kernel
theorem rk_facts (z : Int) : Lib.indexByte rankL (rk z) = z % 13 ∧ rk z ≠ 46 := by
  have h := rk_fin ⟨(z % 13).toNat, by omega⟩
  have e : (((z % 13).toNat : Nat) : Int) = z % 13 := by omega
  refine ⟨?_, h.2⟩
  unfold rk
  rw [h.1, e]
/-- The letters of one suit. -/
def segT (s : Int) (zs : List Int) : List UInt8 := ((suitF s zs).reverse).map rk
def textH (zs : List Int) : List UInt8 := segT 3 zs ++ 46 :: (segT 2 zs ++ 46 :: (segT 1 zs ++ 46 :: segT 0 zs))
def handText (zs : List Int) : List UInt8 := if handB zs then textH zs else []
theorem textH_length {zs : List Int} (h : handB zs = true) : (textH zs).length = zs.length + 3 := by
  have := shape_sum h
  simp only [textH, segT, List.length_append, List.length_cons, List.length_map, List.length_reverse]; omega
/-- One letter is read: the cards so far, the suit. -/
def stepR (st : List Int × Int) (b : UInt8) : List Int × Int :=
  if b = 46 then (st.1, st.2 - 1) else if 0 ≤ Lib.indexByte rankL b ∧ 0 ≤ st.2 ∧ 13 * st.2 + Lib.indexByte rankL b ∉ st.1 then (ins (13 * st.2 + Lib.indexByte rankL b) st.1, st.2) else st
def parseR (l : List UInt8) : List Int × Int := l.foldl stepR ([], 3)
def readL (l : List UInt8) : List Int := if l.length ≤ 16 then (parseR l).1 else []
def readB (l : List UInt8) : Bool := decide (handText (readL l) = l)
def readV (l : List UInt8) : List Int := if readB l then readL l else []

theorem ins_front (z : Int) : ∀ H : List Int, (∀ y ∈ H, z < y) → ins z H = z :: H
  | [], _ => rfl
  | y :: H, h => by simp [ins, h y (by simp)]
/-- The letters of a suit, highest first, put its cards ahead of what is there. -/
theorem read_rev (s : Int) (hs : 0 ≤ s) : ∀ (r : List Int) (H : List Int), r.reverse.Pairwise (· < ·) → (∀ z ∈ r, z / 13 = s) → (∀ z ∈ r, ∀ y ∈ H, z < y) → (r.map rk).foldl stepR (H, s) = (r.reverse ++ H, s)
  | [], H, _, _, _ => rfl
  | z :: r, H, hp, hq, hH => by
    have hz := hq z (by simp)
    have hf := rk_facts z
    have hcard : 13 * s + z % 13 = z := by omega
    have hnot : z ∉ H := fun e => by have := hH z (by simp) z e; omega
    have hfront : ins z H = z :: H := ins_front z H (fun y hy => hH z (by simp) y hy)
    have hstep : stepR (H, s) (rk z) = (z :: H, s) := by
      unfold stepR
      rw [if_neg hf.2, hf.1, hcard, if_pos ⟨by omega, hs, hnot⟩, hfront]
    rw [List.reverse_cons, List.pairwise_append] at hp
    rw [List.map_cons, List.foldl_cons, hstep, read_rev s hs r (z :: H) hp.1 (fun y hy => hq y (by simp [hy])) (fun y hy x hx => by
      rcases List.mem_cons.1 hx with rfl | hx
      · exact hp.2.2 y (by simpa using hy) x (by simp)
      · exact hH y (by simp [hy]) x hx)]
    simp
theorem read_seg (s : Int) (hs : 0 ≤ s) (l H : List Int) (hp : l.Pairwise (· < ·)) (hq : ∀ z ∈ l, z / 13 = s) (hH : ∀ z ∈ l, ∀ y ∈ H, z < y) : (l.reverse.map rk).foldl stepR (H, s) = (l ++ H, s) := by
  have h := read_rev s hs l.reverse H (by rw [List.reverse_reverse]; exact hp) (fun z hz => hq z (by simpa using hz)) (fun z hz => hH z (by simpa using hz))
  rwa [List.reverse_reverse] at h
theorem step_dot (H : List Int) (s : Int) : stepR (H, s) 46 = (H, s - 1) := by simp [stepR]
theorem suit_pair {zs : List Int} (h : handB zs = true) (s : Int) : (suitF s zs).Pairwise (· < ·) ∧ (∀ z ∈ suitF s zs, z / 13 = s) := by
  obtain ⟨_, h2, _⟩ := (hand_iff zs).1 h
  exact ⟨h2.filter _, fun z hz => (mem_suitF.1 hz).2⟩
theorem suit_less {zs : List Int} {s t : Int} (h : s < t) : ∀ z ∈ suitF s zs, ∀ y ∈ suitF t zs, z < y := by
  intro z hz y hy
  have := (mem_suitF.1 hz).2
  have := (mem_suitF.1 hy).2
  omega
theorem parse_text {zs : List Int} (h : handB zs = true) : (parseR (textH zs)).1 = zs := by
  have p0 := suit_pair h 0
  have p1 := suit_pair h 1
  have p2 := suit_pair h 2
  have p3 := suit_pair h 3
  unfold parseR textH segT
  rw [List.foldl_append, read_seg 3 (by omega) (suitF 3 zs) [] p3.1 p3.2 (fun _ _ y hy => by cases hy), List.append_nil, List.foldl_cons, step_dot]
  rw [List.foldl_append, show (3 : Int) - 1 = 2 from rfl, read_seg 2 (by omega) (suitF 2 zs) (suitF 3 zs) p2.1 p2.2 (suit_less (by omega)), List.foldl_cons, step_dot]
  rw [List.foldl_append, show (2 : Int) - 1 = 1 from rfl, read_seg 1 (by omega) (suitF 1 zs) (suitF 2 zs ++ suitF 3 zs) p1.1 p1.2 (fun z hz y hy => by
    rcases List.mem_append.1 hy with hy | hy
    · exact suit_less (by omega) z hz y hy
    · exact suit_less (by omega) z hz y hy), List.foldl_cons, step_dot]
  rw [show (1 : Int) - 1 = 0 from rfl, read_seg 0 (by omega) (suitF 0 zs) (suitF 1 zs ++ (suitF 2 zs ++ suitF 3 zs)) p0.1 p0.2 (fun z hz y hy => by
    rcases List.mem_append.1 hy with hy | hy
    · exact suit_less (by omega) z hz y hy
    · rcases List.mem_append.1 hy with hy | hy
      · exact suit_less (by omega) z hz y hy
      · exact suit_less (by omega) z hz y hy)]
  obtain ⟨_, h2, h3⟩ := (hand_iff zs).1 h
  exact suits_all zs h2 h3
/-- A hand is recovered from its text. -/
theorem read_text {zs : List Int} (h : handB zs = true) : readL (handText zs) = zs ∧ readB (handText zs) = true ∧ readV (handText zs) = zs := by
  have e : handText zs = textH zs := by simp [handText, h]
  have hl : readL (handText zs) = zs := by
    unfold readL
    rw [e, textH_length h, if_pos (by have := hand_len h; omega), parse_text h]
  have hb : readB (handText zs) = true := by unfold readB; rw [hl]; simp
  exact ⟨hl, hb, by unfold readV; rw [hb, if_pos rfl, hl]⟩
/-- An accepted text is the text of its hand. -/
theorem text_read {l : List UInt8} (h : readB l = true) : handText (readV l) = l ∧ readV l = readL l := by
  have e : readV l = readL l := by unfold readV; rw [h]; rfl
  refine ⟨?_, e⟩
  rw [e]
  unfold readB at h
  exact of_decide_eq_true h
theorem read_no {l : List UInt8} (h : readB l = false) : readV l = [] := by unfold readV; rw [h]; rfl

end Go.Proofs.YtgoaikamolcffaaDoor.Lib1
