/- Chapter 7: a text of an auction read by its fields. Lists alone. -/
import Derived.Test.YtnkbcmkngghnoaaDoorAucQ7
import Derived.Lib.SpaceU
import Derived.Lib.TrimU
import Derived.Lib.IndexMore
import Derived.Shelf.Strings.FieldsAny
namespace Go.Proofs.YtnkbcmkngghnoaaDoor.Lib1
open Go.RowKit
set_option maxRecDepth 100000

/-- The calls behind the colon. -/
def tailL : List Int → List UInt8
  | [] => []
  | c :: cs => 32 :: (callL c ++ tailL cs)
theorem glue_tail : ∀ (p : List UInt8) (cs : List Int), glueW (p :: cs.map callL) = p ++ tailL cs
  | p, [] => by simp [glueW, tailL]
  | p, c :: cs => by rw [List.map_cons, glueW, glue_tail (callL c) cs, tailL]
theorem text_tail {d : Int} {cs : List Int} : (textTo d cs cs.length).data.toList = seatB d :: 58 :: tailL cs := by
  rw [textTo_data d cs cs.length (Nat.le_refl _), List.take_length]
  unfold wordsA
  rw [glue_tail]
  rfl
theorem cut_text {d : Int} (h : 0 ≤ d ∧ d ≤ 3) (t : List UInt8) : Lib.cut (seatB d :: 58 :: t) [58] = ([seatB d], t, true) := by
  have hs : (58 : UInt8) ≠ seatB d := by
    have : d = 0 ∨ d = 1 ∨ d = 2 ∨ d = 3 := by omega
    rcases this with rfl | rfl | rfl | rfl <;> decide
  have hi : Lib.index (seatB d :: 58 :: t) [58] = 1 := by
    have h1 : Lib.index (58 :: t) [58] = 0 := by simp [Lib.index, List.isPrefixOf]
    rw [Lib.index, h1]
    have : (List.isPrefixOf [58] (seatB d :: 58 :: t)) = false := by simp [List.isPrefixOf, hs]
    rw [this]; rfl
  unfold Lib.cut
  rw [hi]
  rfl
theorem index_seat {d : Int} (h : 0 ≤ d ∧ d ≤ 3) : Lib.index [78, 69, 83, 87] [seatB d] = d := by
  have : d = 0 ∨ d = 1 ∨ d = 2 ∨ d = 3 := by omega
  rcases this with rfl | rfl | rfl | rfl <;> decide
theorem callL_plain_fin : ∀ k : Fin 38, (callL ((k.val : Nat) : Int)).all (fun b => decide (b.toNat < 128) && !Lib.isSp b) = true ∧ callL ((k.val : Nat) : Int) ≠ [] := by decide +kernel
theorem callL_plain {c : Int} (h : 0 ≤ c ∧ c ≤ 37) : (∀ b ∈ callL c, b.toNat < 128 ∧ Lib.isSp b = false) ∧ callL c ≠ [] := by
  have := callL_plain_fin ⟨c.toNat, by omega⟩
  have e : ((c.toNat : Nat) : Int) = c := by omega
  simp only [e] at this
  refine ⟨fun b hb => ?_, this.2⟩
  have := List.all_eq_true.1 this.1 b hb
  simpa using this
theorem fieldsGo_word : ∀ (p cur rest : List UInt8), (∀ b ∈ p, Lib.isSp b = false) → Lib.fieldsGo cur (p ++ rest) = Lib.fieldsGo (cur ++ p) rest
  | [], cur, rest, _ => by simp
  | b :: p, cur, rest, h => by
    rw [List.cons_append, Lib.fieldsGo, h b (by simp)]
    simp only [Bool.false_eq_true, if_false]
    rw [fieldsGo_word p (cur ++ [b]) rest (fun x hx => h x (by simp [hx]))]
    simp
theorem fieldsGo_tail : ∀ (cs : List Int) (cur : List UInt8), (∀ c ∈ cs, 0 ≤ c ∧ c ≤ 37) → Lib.fieldsGo cur (tailL cs) = (if cur.isEmpty then [] else [cur]) ++ cs.map callL
  | [], cur, _ => by simp [tailL, Lib.fieldsGo]
  | c :: cs, cur, h => by
    have hp := callL_plain (h c (by simp))
    have h32 : Lib.isSp 32 = true := by decide
    have hne : (callL c).isEmpty = false := by simpa using hp.2
    have step : Lib.fieldsGo [] (callL c ++ tailL cs) = callL c :: cs.map callL := by
      rw [fieldsGo_word _ _ _ (fun b hb => (hp.1 b hb).2), List.nil_append, fieldsGo_tail cs _ (fun x hx => h x (by simp [hx])), hne]
      rfl
    rw [tailL, Lib.fieldsGo, h32, step]
    cases cur <;> simp
theorem tailL_ascii : ∀ (cs : List Int), (∀ c ∈ cs, 0 ≤ c ∧ c ≤ 37) → ∀ b ∈ tailL cs, b.toNat < 128
  | [], _, b, hb => by simp [tailL] at hb
  | c :: cs, h, b, hb => by
    rw [tailL] at hb
    rcases List.mem_cons.1 hb with rfl | hb
    · decide
    rcases List.mem_append.1 hb with hb | hb
    · exact ((callL_plain (h c (by simp))).1 b hb).1
    · exact tailL_ascii cs (fun x hx => h x (by simp [hx])) b hb
theorem fields_tail {cs : List Int} (h : ∀ c ∈ cs, 0 ≤ c ∧ c ≤ 37) : Lib.fieldsD (tailL cs) = cs.map callL := by
  rw [Lib.fieldsD_ascii _ (tailL_ascii cs h)]
  unfold Lib.fields
  rw [fieldsGo_tail cs [] h]
  rfl
theorem fieldsGoD_len : ∀ (f : Nat) (cur l : List UInt8), (Lib.fieldsGoD f cur l).length ≤ (if cur = [] then 0 else 1) + l.length
  | 0, cur, l => by rw [Lib.fieldsGoD]; split <;> simp
  | f + 1, cur, l => by
    rw [Lib.fieldsGoD]
    by_cases h0 : l = []
    · rw [if_pos h0]; split <;> simp
    rw [if_neg h0]
    have hw := Lib.decodeL_width l
    have hl : 0 < l.length := List.length_pos_iff.2 h0
    by_cases hs : Lib.isSpaceR (Lib.decodeL l).1 = true
    · rw [if_pos hs]
      have ih := fieldsGoD_len f [] (l.drop (Lib.decodeL l).2)
      rw [if_pos rfl, List.length_drop] at ih
      rw [List.length_append]
      split <;> simp <;> omega
    · rw [if_neg hs]
      have ih := fieldsGoD_len f (cur ++ l.take (Lib.decodeL l).2) (l.drop (Lib.decodeL l).2)
      rw [List.length_drop] at ih
      have : (if cur ++ l.take (Lib.decodeL l).2 = [] then 0 else 1) ≤ 1 := by split <;> omega
      omega
theorem fieldsD_len (l : List UInt8) : (Lib.fieldsD l).length ≤ l.length := by
  have := fieldsGoD_len (l.length + 1) [] l
  rw [if_pos rfl] at this
  unfold Lib.fieldsD
  omega
theorem fieldsGoD_piece : ∀ (f : Nat) (cur l p : List UInt8), p ∈ Lib.fieldsGoD f cur l → p.length ≤ cur.length + l.length
  | 0, cur, l, p, h => by
    rw [Lib.fieldsGoD] at h
    split at h
    · simp at h
    · simp at h; subst h; omega
  | f + 1, cur, l, p, h => by
    rw [Lib.fieldsGoD] at h
    have hc : ∀ p : List UInt8, p ∈ (if cur = [] then [] else [cur]) → p.length ≤ cur.length := fun p hp => by
      split at hp
      · simp at hp
      · simp at hp; subst hp; omega
    by_cases h0 : l = []
    · rw [if_pos h0] at h
      have := hc p h
      omega
    rw [if_neg h0] at h
    by_cases hs : Lib.isSpaceR (Lib.decodeL l).1 = true
    · rw [if_pos hs] at h
      rcases List.mem_append.1 h with h | h
      · have := hc p h; omega
      · have := fieldsGoD_piece f [] _ p h
        simp at this
        omega
    · rw [if_neg hs] at h
      have := fieldsGoD_piece f _ _ p h
      simp only [List.length_append, List.length_take, List.length_drop] at this
      omega
theorem cut_len (s p : List UInt8) : (Lib.cut s p).1.length ≤ s.length ∧ (Lib.cut s p).2.1.length ≤ s.length := by
  unfold Lib.cut
  split
  · simp; omega
  · simp
/-- What the program finds in a text: the seat by its letters, and the fields. -/
def seatI (s : ByteArray) : Int := Lib.index [78, 69, 83, 87] (Lib.cut s.data.toList [58]).1
def flds (s : ByteArray) : List ByteArray := (Lib.fieldsD (Lib.cut s.data.toList [58]).2.1).map fun x => ⟨x.toArray⟩
theorem flds_len (s : ByteArray) : (flds s).length ≤ s.size := by
  have h1 := fieldsD_len (Lib.cut s.data.toList [58]).2.1
  have h2 := (cut_len s.data.toList [58]).2
  have h3 : s.data.toList.length = s.size := by rw [Array.length_toList]; rfl
  unfold flds
  rw [List.length_map]
  omega
theorem flds_word (s : ByteArray) (j : Nat) : ((flds s).getD j ByteArray.empty).size ≤ s.size := by
  by_cases hj : j < (flds s).length
  · have hm : (flds s).getD j ByteArray.empty ∈ flds s := by
      simp only [List.getD, List.getElem?_eq_getElem hj, Option.getD_some]
      exact List.getElem_mem hj
    unfold flds at hm ⊢
    obtain ⟨x, hx, e⟩ := List.mem_map.1 hm
    have h1 := fieldsGoD_piece _ _ _ x hx
    have h2 := (cut_len s.data.toList [58]).2
    have h3 : s.data.toList.length = s.size := by rw [Array.length_toList]; rfl
    rw [← e]
    show x.toArray.size ≤ s.size
    simp only [List.length_nil] at h1
    rw [List.size_toArray]
    omega
  · have : (flds s).getD j ByteArray.empty = ByteArray.empty := by
      simp only [List.getD]
      rw [List.getElem?_eq_none (by omega)]
      rfl
    rw [this]
    exact Nat.zero_le _
theorem found {s : ByteArray} {d : Int} {cs : List Int} (h1 : aucB d cs = true) (h2 : textTo d cs cs.length = s) : seatI s = d ∧ flds s = cs.map callT := by
  obtain ⟨hd, hv⟩ := aucB_iff.1 h1
  have e : s.data.toList = seatB d :: 58 :: tailL cs := by rw [← h2]; exact text_tail
  unfold seatI flds
  rw [e, cut_text hd]
  refine ⟨index_seat hd, ?_⟩
  rw [fields_tail (valid_mem hv), List.map_map]
  refine List.map_congr_left fun c _ => ?_
  show (⟨(callT c).data.toList.toArray⟩ : ByteArray) = callT c
  simp
/-- Every word up to now is a call's text. -/
def RdTo (ts : List ByteArray) (cs : List Int) : Prop := ∀ j, j < cs.length → rcV (ts.getD j ByteArray.empty) = (cs.getD j 0, true)
theorem RdTo.snoc {ts : List ByteArray} {cs : List Int} {c : Int} (h : RdTo ts cs) (hc : rcV (ts.getD cs.length ByteArray.empty) = (c, true)) : RdTo ts (cs ++ [c]) := fun j hj => by
  by_cases e : j < cs.length
  · rw [h j e]; simp [List.getD, List.getElem?_append_left e]
  · have : j = cs.length := by simp at hj; omega
    subst this
    rw [hc]; simp [List.getD]
theorem found_word {s : ByteArray} {d : Int} {cs : List Int} (h1 : aucB d cs = true) (h2 : textTo d cs cs.length = s) {j : Nat} (hj : j < cs.length) : rcV ((flds s).getD j ByteArray.empty) = (cs.getD j 0, true) := by
  rw [(found h1 h2).2]
  have hc := valid_mem (aucB_iff.1 h1).2 (cs.getD j 0) (by simp [List.getD, hj])
  have : (cs.map callT).getD j ByteArray.empty = callT (cs.getD j 0) := by simp [List.getD, hj]
  rw [this]
  exact rcV_text hc
/-- A word that is no call: there is no auction. -/
theorem rdA_word {s : ByteArray} {i : Nat} (hi : i < (flds s).length) (hb : (rcV ((flds s).getD i ByteArray.empty)).2 = false) : rdA s = (0, [], false) := by
  rcases rdA_cases s with ⟨d, cs, h1, h2, _⟩ | ⟨_, h⟩
  · have hl : (flds s).length = cs.length := by rw [(found h1 h2).2]; simp
    rw [found_word h1 h2 (by omega)] at hb
    exact absurd hb (by simp)
  · exact h
theorem list_of_getD {a b : List Int} (hl : a.length = b.length) (h : ∀ j, j < a.length → a.getD j 0 = b.getD j 0) : a = b := by
  apply List.ext_getElem hl
  intro j h1 h2
  have := h j h1
  simpa [List.getD, h1, h2] using this
/-- All words are calls: the auction is read if its text is the text. -/
theorem rdA_all {s : ByteArray} {cs : List Int} (hr : RdTo (flds s) cs) (hl : cs.length = (flds s).length) :
    (aucN (seatI s) cs cs.length = s ∧ rdA s = (seatI s, cs, true)) ∨ (aucN (seatI s) cs cs.length ≠ s ∧ rdA s = (0, [], false)) := by
  rcases rdA_cases s with ⟨d, ds, h1, h2, h3⟩ | ⟨hn, h⟩
  · have hf := found h1 h2
    have hlen : (flds s).length = ds.length := by rw [hf.2]; simp
    have e : cs = ds := list_of_getD (by omega) (fun j hj => by
      have a := hr j hj
      have b := found_word h1 h2 (j := j) (by omega)
      rw [a] at b
      exact (Prod.mk.inj b).1)
    subst e
    refine .inl ⟨?_, by rw [h3, hf.1]⟩
    have h1' := h1
    unfold aucB at h1'
    unfold aucN
    rw [hf.1, if_pos h1', h2]
  · refine .inr ⟨fun e => ?_, h⟩
    by_cases hv : inB (seatI s) 0 3 && validTo cs cs.length
    · exact hn (seatI s) cs hv (by unfold aucN at e; rw [if_pos hv] at e; exact e)
    · unfold aucN at e
      rw [if_neg hv] at e
      have hc : cs = [] := by
        have : (flds s).length ≤ 0 := by
          have h1 := flds_len s
          have h2 : s.size = 0 := by rw [← e]; rfl
          omega
        exact List.eq_nil_of_length_eq_zero (by omega)
      subst hc
      refine hv ?_
      have : seatI s = 0 := by
        unfold seatI
        rw [← e]
        rfl
      rw [this]
      rfl
end Go.Proofs.YtnkbcmkngghnoaaDoor.Lib1
