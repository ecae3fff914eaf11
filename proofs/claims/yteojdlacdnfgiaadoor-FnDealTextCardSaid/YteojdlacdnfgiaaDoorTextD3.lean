/- Chapter 3: the text of a deal is read back to the deal, and an accepted text is the text of its deal. Lists alone. -/
import Derived.Test.YteojdlacdnfgiaaDoorReadS
import Derived.Test.YteojdlacdnfgiaaDoorS03t
namespace Go.Proofs.YteojdlacdnfgiaaDoor.Lib1
open Go.RowKit
set_option maxRecDepth 100000

theorem rk_blank_fin : ∀ k : Fin 13, rankL.getD k.val 0 ≠ 32 := by decide +kernel
theorem rk_blank (z : Int) : rk z ≠ 32 := rk_blank_fin ⟨(z % 13).toNat, by omega⟩
theorem segT_blank (s : Int) (zs : List Int) : 32 ∉ segT s zs := fun h => by
  unfold segT at h
  obtain ⟨z, _, e⟩ := List.mem_map.1 h
  exact rk_blank z e
theorem textH_blank (zs : List Int) : 32 ∉ textH zs := fun h => by
  unfold textH at h
  simp only [List.mem_append, List.mem_cons] at h
  have d : ¬ ((32 : UInt8) = 46) := by decide
  rcases h with h | h | h | h | h | h | h
  · exact segT_blank _ _ h
  · exact d h
  · exact segT_blank _ _ h
  · exact d h
  · exact segT_blank _ _ h
  · exact d h
  · exact segT_blank _ _ h
theorem dtTo_glue (a b c d : List Int) : dtTo [a, b, c, d] 4 = 78 :: 58 :: glueS [textH a, textH b, textH c, textH d] := by
  simp [dtTo, glueS]
theorem dealText_no {zss : List (List Int)} (h : dealB zss = false) : dealText zss = [] := by simp [dealText, h]
theorem dealText_le (zss : List (List Int)) : (dealText zss).length ≤ 100 := by
  cases h : dealB zss
  · rw [dealText_no h]; simp
  · have e : dealText zss = dtTo zss 4 := by simp [dealText, h]
    rw [e]
    have := dtTo_len ((deal_iff zss).1 h).2.1 4 (by omega)
    omega
theorem four_hands {zss : List (List Int)} (h : dealB zss = true) : ∃ a b c d, zss = [a, b, c, d] ∧ handB a = true ∧ handB b = true ∧ handB c = true ∧ handB d = true := by
  obtain ⟨h4, hr, _⟩ := (deal_iff zss).1 h
  match zss, h4 with
  | [a, b, c, d], _ =>
    have e0 := (hr 0 (by omega)).1
    have e1 := (hr 1 (by omega)).1
    have e2 := (hr 2 (by omega)).1
    have e3 := (hr 3 (by omega)).1
    simp at e0 e1 e2 e3
    exact ⟨a, b, c, d, rfl, e0, e1, e2, e3⟩
theorem text_hand {a : List Int} (h : handB a = true) : readB (textH a) = true ∧ readV (textH a) = a := by
  have := read_text h
  rw [show handText a = textH a by simp [handText, h]] at this
  exact this.2
theorem readd_text {zss : List (List Int)} (h : dealB zss = true) : rdDB (dealText zss) = true ∧ rdDV (dealText zss) = zss := by
  have e : dealText zss = dtTo zss 4 := by simp [dealText, h]
  obtain ⟨a, b, c, d, rfl, ha, hb, hc, hd⟩ := four_hands h
  rw [e, dtTo_glue]
  have hs := splitS_glueS [textH a, textH b, textH c, textH d] (by simp) (fun p hp => by
    simp at hp
    rcases hp with rfl | rfl | rfl | rfl <;> exact textH_blank _)
  have hp : rdP (78 :: 58 :: glueS [textH a, textH b, textH c, textH d]) = [textH a, textH b, textH c, textH d] := hs
  have hm : ([textH a, textH b, textH c, textH d]).map readV = [a, b, c, d] := by
    simp [(text_hand ha).2, (text_hand hb).2, (text_hand hc).2, (text_hand hd).2]
  have hB : rdDB (78 :: 58 :: glueS [textH a, textH b, textH c, textH d]) = true := by
    rw [rd_deal rfl (by rw [hp]; simp [(text_hand ha).1, (text_hand hb).1, (text_hand hc).1, (text_hand hd).1]), hp, hm]
    exact h
  refine ⟨hB, ?_⟩
  unfold rdDV
  rw [hB, if_pos rfl, hp, hm]
theorem textd_read {l : List UInt8} (h : rdDB l = true) : dealText (rdDV l) = l := by
  have h0 := h
  simp only [rdDB, Bool.and_eq_true, decide_eq_true_eq] at h
  obtain ⟨h1, h2, h3⟩ := h
  have e : rdDV l = (rdP l).map readV := by unfold rdDV; rw [h0, if_pos rfl]
  rw [e, show dealText ((rdP l).map readV) = dtTo ((rdP l).map readV) 4 by simp [dealText, h3]]
  have h4 : (rdP l).length = 4 := by have := ((deal_iff _).1 h3).1; rwa [List.length_map] at this
  have hall : ∀ p ∈ rdP l, textH (readV p) = p := fun p hp => by
    have q := List.all_eq_true.1 h2 p hp
    obtain ⟨q1, q2⟩ := read_yes q
    rw [(text_read q).2]
    exact q2.symm
  have hg : glueS (rdP l) = l.drop 2 := glueS_splitS _
  have hl : l = 78 :: 58 :: l.drop 2 := by
    conv => lhs; rw [← List.take_append_drop 2 l, h1]
    rfl
  generalize rdP l = ps at h4 hall hg
  match ps, h4 with
  | [a, b, c, d], _ =>
    show dtTo [readV a, readV b, readV c, readV d] 4 = l
    rw [dtTo_glue, hall a (by simp), hall b (by simp), hall c (by simp), hall d (by simp), hg]
    exact hl.symm
theorem rdd_rows (l : List UInt8) : (rdDV l).length ≤ 4 := by
  unfold rdDV
  split
  · rename_i h
    simp only [rdDB, Bool.and_eq_true] at h
    rw [((deal_iff _).1 h.2.2).1]
    exact Nat.le_refl _
  · simp
end Go.Proofs.YteojdlacdnfgiaaDoor.Lib1
