/- Chapter 7: the text of an auction, and the auction of a text. Lists alone. -/
import Derived.Test.YtnkbcmkngghnoaaDoorAuc7
import Derived.Test.YtnkbcmkngghnoaaDoorText6
import Derived.Test.YtnkbcmkngghnoaaDoorSplit7
namespace Go.Proofs.YtnkbcmkngghnoaaDoor.Lib1
open Go.RowKit
set_option maxRecDepth 100000

theorem aucB_iff {d : Int} {cs : List Int} : aucB d cs = true ↔ (0 ≤ d ∧ d ≤ 3) ∧ validTo cs cs.length = true := by simp [aucB, inB]
def seatB (d : Int) : UInt8 := ([78, 69, 83, 87] : List UInt8).getD d.toNat 0
def seatT (d : Int) : ByteArray := ⟨#[seatB d]⟩
def callL (c : Int) : List UInt8 := (callT c).data.toList
/-- The text behind the first k calls. -/
def textTo (d : Int) (cs : List Int) : Nat → ByteArray
  | 0 => seatT d ++ ⟨#[58]⟩
  | k + 1 => (textTo d cs k ++ ⟨#[32]⟩) ++ callT (cs.getD k 0)
def aucT (d : Int) (cs : List Int) : ByteArray := if aucB d cs then textTo d cs cs.length else ⟨#[]⟩
theorem app_data (a b : ByteArray) : (a ++ b).data.toList = a.data.toList ++ b.data.toList := by
  rw [ByteArray.data_append, Array.toList_append]
theorem app_size (a b : ByteArray) : (a ++ b).size = a.size + b.size := ByteArray.size_append
theorem textTo_size (d : Int) (cs : List Int) : ∀ k, (textTo d cs k).size ≤ 2 + 3 * k
  | 0 => by
    rw [textTo, app_size]
    have h1 : (seatT d).size = 1 := rfl
    have h2 : (ByteArray.mk #[58]).size = 1 := rfl
    omega
  | k + 1 => by
    have ih := textTo_size d cs k
    have hc := callT_size (cs.getD k 0)
    rw [textTo, app_size, app_size]
    have : (ByteArray.mk #[32]).size = 1 := rfl
    omega
theorem textTo_ge (d : Int) (cs : List Int) : ∀ k, 2 ≤ (textTo d cs k).size
  | 0 => by
    rw [textTo, app_size]
    have h1 : (seatT d).size = 1 := rfl
    have h2 : (ByteArray.mk #[58]).size = 1 := rfl
    omega
  | k + 1 => by have ih := textTo_ge d cs k; rw [textTo, app_size, app_size]; omega
theorem glueW_snoc : ∀ (ps : List (List UInt8)) (q : List UInt8), ps ≠ [] → glueW (ps ++ [q]) = glueW ps ++ 32 :: q
  | [], _, h => absurd rfl h
  | [p], q, _ => by simp [glueW]
  | p :: p2 :: r, q, _ => by
    have ih := glueW_snoc (p2 :: r) q (by simp)
    simp only [List.cons_append] at ih ⊢
    rw [glueW, ih, glueW]
    simp
def wordsA (d : Int) (cs : List Int) : List (List UInt8) := [seatB d, 58] :: cs.map callL
theorem textTo_data (d : Int) (cs : List Int) : ∀ k, k ≤ cs.length → (textTo d cs k).data.toList = glueW (wordsA d (cs.take k))
  | 0, _ => by rw [textTo, app_data]; simp [wordsA, glueW, seatT]
  | k + 1, h => by
    have ih := textTo_data d cs k (by omega)
    have e : wordsA d (cs.take (k + 1)) = wordsA d (cs.take k) ++ [callL (cs.getD k 0)] := by
      have hg : cs.getD k 0 = cs[k] := by simp [List.getD, List.getElem?_eq_getElem (show k < cs.length by omega)]
      unfold wordsA
      rw [List.take_succ_eq_append_getElem (by omega), List.map_append, hg]
      simp
    rw [textTo, app_data, app_data, ih, e, glueW_snoc _ _ (by simp [wordsA])]
    simp [callL]
theorem callL_free_fin : ∀ k : Fin 38, 32 ∉ callL ((k.val : Nat) : Int) := by decide +kernel
theorem callL_free (c : Int) : 32 ∉ callL c := by
  by_cases h : 0 ≤ c ∧ c ≤ 37
  · have := callL_free_fin ⟨c.toNat, by omega⟩
    rwa [show (((⟨c.toNat, by omega⟩ : Fin 38).val : Nat) : Int) = c by simp; omega] at this
  · unfold callL; rw [callT_no h]; simp
theorem seatB_free (d : Int) (h : 0 ≤ d ∧ d ≤ 3) : 32 ∉ [seatB d, 58] := by
  have hq : d = 0 ∨ d = 1 ∨ d = 2 ∨ d = 3 := by omega
  rcases hq with rfl | rfl | rfl | rfl <;> decide
/-- An auction's text, cut at its blanks. -/
theorem split_text {d : Int} {cs : List Int} (h : 0 ≤ d ∧ d ≤ 3) : splitW (textTo d cs cs.length).data.toList = wordsA d cs := by
  rw [textTo_data d cs _ (Nat.le_refl _), List.take_length]
  refine splitW_glueW _ (by simp [wordsA]) (fun p hp => ?_)
  unfold wordsA at hp
  rcases List.mem_cons.1 hp with rfl | hp
  · exact seatB_free d h
  · obtain ⟨c, _, rfl⟩ := List.mem_map.1 hp
    exact callL_free c
theorem seatB_inj {d e : Int} (hd : 0 ≤ d ∧ d ≤ 3) (he : 0 ≤ e ∧ e ≤ 3) (h : seatB d = seatB e) : d = e := by
  have h1 : d = 0 ∨ d = 1 ∨ d = 2 ∨ d = 3 := by omega
  have h2 : e = 0 ∨ e = 1 ∨ e = 2 ∨ e = 3 := by omega
  rcases h1 with rfl | rfl | rfl | rfl <;> rcases h2 with rfl | rfl | rfl | rfl <;> first | rfl | exact absurd h (by decide)
theorem callL_inj {a b : Int} (ha : 0 ≤ a ∧ a ≤ 37) (hb : 0 ≤ b ∧ b ≤ 37) (h : callL a = callL b) : a = b := by
  have e1 : ((a.toNat : Nat) : Int) = a := by omega
  have e2 : ((b.toNat : Nat) : Int) = b := by omega
  have ht : callT a = callT b := by
    have hl : (callT a).data.toList = (callT b).data.toList := h
    generalize callT a = x at hl
    generalize callT b = y at hl
    obtain ⟨⟨x⟩⟩ := x
    obtain ⟨⟨y⟩⟩ := y
    have : x = y := hl
    rw [this]
  have := callT_apart (i := a.toNat) (j := b.toNat) (by omega) (by omega) (by rw [e1, e2]; exact ht)
  omega
theorem mapL_inj : ∀ {a b : List Int}, (∀ x ∈ a, 0 ≤ x ∧ x ≤ 37) → (∀ x ∈ b, 0 ≤ x ∧ x ≤ 37) → a.map callL = b.map callL → a = b
  | [], [], _, _, _ => rfl
  | [], _ :: _, _, _, h => by simp at h
  | _ :: _, [], _, _, h => by simp at h
  | x :: a, y :: b, ha, hb, h => by
    simp only [List.map_cons, List.cons.injEq] at h
    rw [callL_inj (ha x (by simp)) (hb y (by simp)) h.1, mapL_inj (fun z hz => ha z (by simp [hz])) (fun z hz => hb z (by simp [hz])) h.2]
theorem valid_mem {cs : List Int} (h : validTo cs cs.length = true) : ∀ x ∈ cs, 0 ≤ x ∧ x ≤ 37 := fun x hx => by
  obtain ⟨j, hj, rfl⟩ := List.getElem_of_mem hx
  have := valid_call h hj
  rwa [List.getD_eq_getElem?_getD, List.getElem?_eq_getElem hj] at this
/-- Two valid auctions with one text are one. -/
theorem textTo_inj {d e : Int} {cs ds : List Int} (hd : aucB d cs = true) (he : aucB e ds = true) (h : textTo d cs cs.length = textTo e ds ds.length) : d = e ∧ cs = ds := by
  obtain ⟨d0, v0⟩ := aucB_iff.1 hd
  obtain ⟨e0, v1⟩ := aucB_iff.1 he
  have h1 := split_text (cs := cs) d0
  have h2 := split_text (cs := ds) e0
  rw [h, h2] at h1
  unfold wordsA at h1
  simp only [List.cons.injEq] at h1
  exact ⟨(seatB_inj e0 d0 h1.1.1).symm, (mapL_inj (valid_mem v1) (valid_mem v0) h1.2).symm⟩
/-- The auction whose text t is. -/
noncomputable def rdA (t : ByteArray) : Int × List Int × Bool := by
  classical
  exact if h : ∃ x : Int × List Int, aucB x.1 x.2 = true ∧ textTo x.1 x.2 x.2.length = t then ((Classical.choose h).1, (Classical.choose h).2, true) else (0, [], false)
theorem rdA_hit {t : ByteArray} {d : Int} {cs : List Int} (h1 : aucB d cs = true) (h2 : textTo d cs cs.length = t) : rdA t = (d, cs, true) := by
  have h : ∃ x : Int × List Int, aucB x.1 x.2 = true ∧ textTo x.1 x.2 x.2.length = t := ⟨(d, cs), h1, h2⟩
  have hs := Classical.choose_spec h
  have e := textTo_inj hs.1 h1 (hs.2.trans h2.symm)
  unfold rdA
  rw [dif_pos h, e.1, e.2]
theorem rdA_none {t : ByteArray} (h : ∀ d cs, aucB d cs = true → textTo d cs cs.length ≠ t) : rdA t = (0, [], false) := by
  unfold rdA
  rw [dif_neg]
  rintro ⟨x, h1, h2⟩
  exact h _ _ h1 h2
theorem rdA_cases (t : ByteArray) : (∃ d cs, aucB d cs = true ∧ textTo d cs cs.length = t ∧ rdA t = (d, cs, true)) ∨ ((∀ d cs, aucB d cs = true → textTo d cs cs.length ≠ t) ∧ rdA t = (0, [], false)) := by
  by_cases h : ∃ x : Int × List Int, aucB x.1 x.2 = true ∧ textTo x.1 x.2 x.2.length = t
  · obtain ⟨x, h1, h2⟩ := h
    exact .inl ⟨_, _, h1, h2, rdA_hit h1 h2⟩
  · have hn : ∀ d cs, aucB d cs = true → textTo d cs cs.length ≠ t := fun d cs h1 h2 => h ⟨(d, cs), h1, h2⟩
    exact .inr ⟨hn, rdA_none hn⟩

end Go.Proofs.YtnkbcmkngghnoaaDoor.Lib1
