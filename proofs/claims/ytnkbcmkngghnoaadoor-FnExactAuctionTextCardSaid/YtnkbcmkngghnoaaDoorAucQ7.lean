/- Chapter 7: the model's ReadAuction. -/
import Derived.Test.YtnkbcmkngghnoaaDoorAucR7
namespace Go.Proofs.YtnkbcmkngghnoaaDoor.Lib1
open Go.RowKit
set_option maxRecDepth 100000

/-! ### The words of a text -/
/-- The seat whose letter and colon a word is, among the first k (-1: none). -/
def seatOf (p : List UInt8) : Nat → Int
  | 0 => -1
  | k + 1 => if p = [seatB (k : Int), 58] then (k : Int) else seatOf p k
theorem seatOf_seat (d : Int) (h : 0 ≤ d ∧ d ≤ 3) : seatOf [seatB d, 58] 4 = d := by
  have hq : d = 0 ∨ d = 1 ∨ d = 2 ∨ d = 3 := by omega
  rcases hq with rfl | rfl | rfl | rfl <;> decide
theorem toL_inj {a b : ByteArray} (h : toL a = toL b) : a = b := by
  obtain ⟨⟨a⟩⟩ := a
  obtain ⟨⟨b⟩⟩ := b
  have : a = b := h
  rw [this]
/-- The pieces of a text that is an auction's. -/
theorem words_of {s : ByteArray} {ts : List ByteArray} (hts : ts.map toL = splitW s.data.toList) {d : Int} {cs : List Int} (h1 : aucB d cs = true) (h2 : textTo d cs cs.length = s) :
    ts.length = cs.length + 1 ∧ toL (ts.getD 0 ByteArray.empty) = [seatB d, 58] ∧ ∀ j, j < cs.length → ts.getD (j + 1) ByteArray.empty = callT (cs.getD j 0) := by
  obtain ⟨hd, hv⟩ := aucB_iff.1 h1
  have hw := split_text (cs := cs) hd
  rw [h2, ← hts] at hw
  unfold wordsA at hw
  cases ts with
  | nil => simp at hw
  | cons t r =>
    simp only [List.map_cons, List.cons.injEq] at hw
    have hl : r.length = cs.length := by have := congrArg List.length hw.2; simpa using this
    refine ⟨by simp [hl], by simpa using hw.1, fun j hj => ?_⟩
    apply toL_inj
    have hj2 : j < r.length := by omega
    have e := congrArg (fun l => l[j]?) hw.2
    simp only [List.getElem?_map, List.getElem?_eq_getElem hj2, List.getElem?_eq_getElem hj, Option.map_some, Option.some.injEq] at e
    simp only [List.getD_cons_succ]
    rw [List.getD_eq_getElem?_getD, List.getElem?_eq_getElem hj2, List.getD_eq_getElem?_getD, List.getElem?_eq_getElem hj]
    exact e
/-- What has been read: a call for each word behind the first. -/
def ReadTo (ts : List ByteArray) (cs : List Int) : Prop := ∀ j, j < cs.length → rcV (ts.getD (j + 1) ByteArray.empty) = (cs.getD j 0, true)
theorem ReadTo.snoc {ts : List ByteArray} {cs : List Int} {c : Int} (h : ReadTo ts cs) (hc : rcV (ts.getD (cs.length + 1) ByteArray.empty) = (c, true)) : ReadTo ts (cs ++ [c]) := fun j hj => by
  by_cases e : j < cs.length
  · rw [getD_snoc cs c j e]; exact h j e
  · have e2 : j = cs.length := by simp at hj; omega
    subst e2
    rw [getD_last]
    exact hc
theorem word_call {s : ByteArray} {ts : List ByteArray} (hts : ts.map toL = splitW s.data.toList) {d : Int} {cs : List Int} (h1 : aucB d cs = true) (h2 : textTo d cs cs.length = s) {j : Nat} (hj : j < cs.length) :
    rcV (ts.getD (j + 1) ByteArray.empty) = (cs.getD j 0, true) := by
  rw [(words_of hts h1 h2).2.2 j hj]
  exact rcV_text (valid_call (aucB_iff.1 h1).2 hj)
/-- A word that is no call: no auction has the text. -/
theorem rdA_bad {s : ByteArray} {ts : List ByteArray} (hts : ts.map toL = splitW s.data.toList) {i : Nat} (hi : i + 1 < ts.length) (hb : (rcV (ts.getD (i + 1) ByteArray.empty)).2 = false) : rdA s = (0, [], false) := by
  refine rdA_none (fun d cs h1 h2 => ?_)
  have hl := (words_of hts h1 h2).1
  have := word_call hts h1 h2 (show i < cs.length by omega)
  rw [this] at hb
  cases hb
theorem read_same {s : ByteArray} {ts : List ByteArray} (hts : ts.map toL = splitW s.data.toList) {cs : List Int} (hr : ReadTo ts cs) (hm : cs.length = min (ts.length - 1) 319) {d : Int} {ds : List Int} (h1 : aucB d ds = true) (h2 : textTo d ds ds.length = s) : cs = ds ∧ seatOf (toL (ts.getD 0 ByteArray.empty)) 4 = d := by
  have hw := words_of hts h1 h2
  have h319 := valid_319 (aucB_iff.1 h1).2
  have hl : cs.length = ds.length := by omega
  refine ⟨List.ext_getElem hl (fun j hj hj2 => ?_), by rw [hw.2.1]; exact seatOf_seat d (aucB_iff.1 h1).1⟩
  have e1 := hr j hj
  have e2 := word_call hts h1 h2 hj2
  rw [e1] at e2
  have e3 := congrArg Prod.fst e2
  simp only [List.getD_eq_getElem?_getD, List.getElem?_eq_getElem hj, List.getElem?_eq_getElem hj2, Option.getD_some] at e3
  exact e3
theorem rdA_end {s : ByteArray} {ts : List ByteArray} (hts : ts.map toL = splitW s.data.toList) {cs : List Int} (hr : ReadTo ts cs) (hm : cs.length = min (ts.length - 1) 319) :
    rdA s = if aucN (seatOf (toL (ts.getD 0 ByteArray.empty)) 4) cs cs.length = s ∧ s ≠ ⟨#[]⟩ then (seatOf (toL (ts.getD 0 ByteArray.empty)) 4, cs, true) else (0, [], false) := by
  by_cases h : aucN (seatOf (toL (ts.getD 0 ByteArray.empty)) 4) cs cs.length = s ∧ s ≠ ⟨#[]⟩
  · rw [if_pos h]
    have hv : aucB (seatOf (toL (ts.getD 0 ByteArray.empty)) 4) cs = true := by
      cases hq : aucB (seatOf (toL (ts.getD 0 ByteArray.empty)) 4) cs
      · have e : aucN (seatOf (toL (ts.getD 0 ByteArray.empty)) 4) cs cs.length = ⟨#[]⟩ := by
          unfold aucN; unfold aucB at hq; rw [hq]; rfl
        exact absurd (h.1.symm.trans e) h.2
      · rfl
    refine rdA_hit hv ?_
    have e : aucN (seatOf (toL (ts.getD 0 ByteArray.empty)) 4) cs cs.length = textTo (seatOf (toL (ts.getD 0 ByteArray.empty)) 4) cs cs.length := by
      unfold aucN; unfold aucB at hv; rw [hv]; rfl
    exact e.symm.trans h.1
  · rw [if_neg h]
    refine rdA_none (fun d ds h1 h2 => h ?_)
    obtain ⟨e1, e2⟩ := read_same hts hr hm h1 h2
    subst e1
    rw [e2]
    have e : aucN d cs cs.length = textTo d cs cs.length := by unfold aucN; unfold aucB at h1; rw [h1]; rfl
    refine ⟨e.trans h2, fun q => ?_⟩
    have := textTo_ge d cs cs.length
    rw [h2, q] at this
    have h0 : (ByteArray.mk #[]).size = 0 := rfl
    omega
end Go.Proofs.YtnkbcmkngghnoaaDoor.Lib1
