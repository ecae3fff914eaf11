/- Chapter 7: an auction that is rarely not valid, drawn; the draws of the laws. (Written by wip/gen7k.py.) -/
import Derived.Test.YtnkbcmkngghnoaaDoorAucH7
namespace Go.Proofs.YtnkbcmkngghnoaaDoor.Lib1
open Go.RowKit
set_option maxRecDepth 100000

theorem OwnV.parts4 {w : World} {base : Nat} {A : Option Addr} {m c : Nat} {zs : List Int} (h : OwnV w base (.slice A m c) zs) : Own w base w.heap.size A m zs := by
  obtain ⟨A', c', e, _, _, h3⟩ := h.form
  injection e with e1 e2 e3
  subst e1; subst e2; subst e3
  exact h3
/-- An auction is drawn. -/
def DrewU7 (g : Nat) (w : World) (e : Ending) (w' : World) : Prop :=
  ∃ (d : Int) (A : Option Addr) (m c : Nat) (cs : List Int), e = .returned (.agg #[.int .i64 d, .slice A m c]) ∧ m ≤ 30 ∧ m ≤ c ∧ (A = none → c = 0) ∧ Rd w' w.heap.size w'.heap.size A m cs ∧ Src w' g ∧ Chg w w' g (g + 1)
set_option maxHeartbeats 8000000 in
theorem l07DrawAny (g : Nat) (w : World) (hsrc : Src w g) : Calls Tryd.prog 24 #[.pointer (some ⟨g, 0, none⟩)] w (DrewU7 g w) := by
  have hg := hsrc.lt
  have S0 : Hid (Src (w.alloc (.cells #[.int .i64 0, .slice none 0 0] 26)) g) := hsrc.still (Chg.of_alloc w (.cells #[.int .i64 0, .slice none 0 0] 26) 0 0)
  have C0 : Hid (Chg w (w.alloc (.cells #[.int .i64 0, .slice none 0 0] 26)) g (g + 1)) := (Chg.of_alloc w (.cells #[.int .i64 0, .slice none 0 0] 26) 0 0).any _ _
  have Z0 : Hid ((w.alloc (.cells #[.int .i64 0, .slice none 0 0] 26)).heap[w.heap.size]? = some (.cells aucZero 26 (0, 0))) := heap_alloc_new w _
  have z0 : Hid ((w.alloc (.cells #[.int .i64 0, .slice none 0 0] 26)).heap.size = w.heap.size + 1) := by show _ = _; simp
  clear hsrc
  go_enter Tryd.func24, Tryd.ntmps24
  go_wp2_with fail
  generalize w.alloc (.cells #[.int .i64 0, .slice none 0 0] 26) = W0 at S0 C0 Z0 z0 ⊢
  refine (l01Next g 2 _ S0.out (by omega)).mono ?_
  rintro e w1 ⟨r, rfl, _, s1, c1⟩
  have S1 := Lib.hid s1
  have C1 := Lib.hid (C0.out.trans c1)
  have Z1 := Lib.hid ((c1.block w.heap.size (by have := z0.out; omega) (.inr (by omega))).trans Z0.out)
  have z1 := Lib.hid (show w.heap.size + 1 ≤ w1.heap.size by have := c1.size; have := z0.out; omega)
  clear s1 c1 S0 C0 Z0 z0
  go_wp2_with fail
  refine (l07DrawAuction g (r == 0) _ S1.out).mono ?_
  rintro e w2 ⟨d, A, m, c, cs, rfl, hm, ho, s2, c2⟩
  have HM := Lib.hid (show m ≤ 29 by omega)
  have O2 := Lib.hid ho.parts4
  have HCAP := Lib.hid ho.parts.2.1
  have HNIL := Lib.hid ho.parts.2.2.1
  have S2 := Lib.hid s2
  have C2 := Lib.hid (C1.out.trans c2)
  have Z2 := Lib.hid ((c2.block w.heap.size (by have := z1.out; omega) (.inr (by omega))).trans Z1.out)
  have z2 := Lib.hid (show w1.heap.size ≤ w2.heap.size from c2.size)
  clear s2 c2 ho hm S1 C1 Z1
  obtain ⟨hb, hhb⟩ : ∃ hb, hb = w2.heap.size := ⟨_, rfl⟩
  have HB0 : Hid ((w2.alloc (.cells #[.int .i64 0, .slice none 0 0] 26)).heap[hb]? = some (.cells aucZero 26 (0, 0))) := by show _ = _; rw [hhb]; exact heap_alloc_new w2 _
  have hgb : g < hb := by have := z1.out; have := z2.out; omega
  have hwb : w.heap.size < hb := by have := z1.out; have := z2.out; omega
  have z3 : Hid ((w2.alloc (.cells #[.int .i64 0, .slice none 0 0] 26)).heap.size = hb + 1) := by show _ = _; rw [hhb]; simp
  have ca := Chg.of_alloc w2 (.cells #[.int .i64 0, .slice none 0 0] 26) 0 0
  have cr := chg_row (w2.alloc (.cells #[.int .i64 0, .slice none 0 0] 26)) hb #[.int .i64 d, .slice A m c]
  have HBx := Lib.hid (setRow_heap (w2.alloc (.cells #[.int .i64 0, .slice none 0 0] 26)) hb _ #[.int .i64 d, .slice A m c] _ _ HB0.out)
  have S3 := Lib.hid ((S2.out.still ca).chg cr (.inl hgb))
  have C3 := Lib.hid (chg_two (C2.out.trans (ca.any g (g + 1))) (Chg.refl _ _ _) cr (by omega))
  have Z3 := Lib.hid ((cr.block w.heap.size (by have := z3.out; omega) (.inl hwb)).trans ((ca.block w.heap.size (by omega) (.inr (Nat.zero_le _))).trans Z2.out))
  have O3 := Lib.hid (((O2.out.still ca).chg cr (.inl (by omega))).more (show w.heap.size + 1 ≤ w1.heap.size from z1.out) (show w2.heap.size ≤ hb by omega))
  have z4 := Lib.hid (show ((w2.alloc (.cells #[.int .i64 0, .slice none 0 0] 26)).setRow hb #[.int .i64 d, .slice A m c]).heap.size = hb + 1 by rw [setRow_size]; exact z3.out)
  clear ca cr S2 C2 Z2 O2 z1 z2
  have HHB := Lib.hid hhb
  clear hhb
  have q3 := (show ABox ((w2.alloc (.cells #[.int .i64 0, .slice none 0 0] 26)).setRow hb #[.int .i64 d, .slice A m c]) hb d A m c from HBx.out).c1
  go_wp2_with (rw [← HHB.out]; refine wpList_store_row rfl 26 _ _ rfl hb #[.int .i64 d, .slice A m c] rfl rfl 26 aucZero HB0.out (auc_info d A m c) rfl (auc_cells d A m c) ?_)
  generalize (w2.alloc (.cells #[.int .i64 0, .slice none 0 0] 26)).setRow hb #[.int .i64 d, .slice A m c] = W3 at HBx S3 C3 Z3 O3 z4 q3 ⊢
  clear HHB HB0 z3
  go_wp2_with fail
  refine (l01Next g 16 _ S3.out (by omega)).mono ?_
  rintro e w5 ⟨t, rfl, _, s5, c5⟩
  have S5 := Lib.hid s5
  have C5 := Lib.hid (C3.out.trans c5)
  have B5 : Hid (ABox w5 hb d A m c) := ABox.far (w := W3) HBx.out c5 (by omega)
  have q5 := B5.out.c1
  have Z5 := Lib.hid ((c5.block w.heap.size (by have := z4.out; omega) (.inr (by omega))).trans Z3.out)
  have O5 := Lib.hid (O3.out.chg c5 (.inr (by omega)))
  have hz5 := Lib.hid (show hb + 1 ≤ w5.heap.size by have := c5.size; have := z4.out; omega)
  have R5 := Lib.hid (O5.out.rd.more (Nat.le_refl _) (show hb ≤ w5.heap.size by have := hz5.out; omega))
  have HM30 := Lib.hid (show m ≤ 30 by have := HM.out; omega)
  clear s5 c5 S3 C3 HBx Z3 O3 z4 q3
  by_cases t0 : t = 0
  · subst t0
    go_wp2_with fail
    have hal := Chg.of_alloc w5 (.cells #[.int .i64 (-1), .int .i64 4] 2) 0 0
    refine (l01Next g 2 _ (S5.out.still hal) (by omega)).mono ?_
    rintro e w6 ⟨x, rfl, ⟨x0, x1⟩, s6, c6⟩
    have x2 := x1 (by omega)
    have k6 := (hal.any g (g + 1)).trans c6
    have hcell : ∃ z : Int, w6.cell? ⟨w5.heap.size, x.toNat, none⟩ = some (.int .i64 z) := by
      have hb6 := c6.block w5.heap.size (by simp) (by have := hz5.out; omega)
      have hx : x = 0 ∨ x = 1 := by omega
      rw [World.cell?_of_block (w := w5.alloc (.cells #[.int .i64 (-1), .int .i64 4] 2)) hb6, World.cell?_alloc_mark]
      rcases hx with rfl | rfl
      · exact ⟨-1, rfl⟩
      · exact ⟨4, rfl⟩
    obtain ⟨y, hy⟩ := hcell
    have B6 := Lib.hid (ABox.far B5.out k6 (by omega))
    have q60 := B6.out.c0
    have f60 : w6.frozen? ⟨hb, 0, none⟩ = false := by have h6 := B6.out; unfold ABox at h6; simp [World.frozen?, h6]
    have Cs := Lib.hid (chg_set w6 hb 0 (.int .i64 y))
    have B9 : Hid (ABox (w6.setCell ⟨hb, 0, none⟩ (.int .i64 y)) hb y A m c) := block_set (w := w6) (g := hb) (i := 0) (t := 26) B6.out (.int .i64 y)
    have S9 := Lib.hid (Src.chg s6 Cs.out (.inl (by omega)))
    have C9 := Lib.hid (chg_two C5.out k6 Cs.out (by omega))
    have Z9 := Lib.hid ((Cs.out.block w.heap.size (by have := k6.size; have := hz5.out; omega) (.inl (by omega))).trans ((k6.block w.heap.size (by have := hz5.out; omega) (.inr (by omega))).trans Z5.out))
    have R9 := Lib.hid (show Rd (w6.setCell ⟨hb, 0, none⟩ (.int .i64 y)) (w.heap.size + 1) (w6.setCell ⟨hb, 0, none⟩ (.int .i64 y)).heap.size A m cs from (((O5.out.chg k6 (.inr (by omega))).chg Cs.out (.inl (Nat.le_refl _))).rd.more (Nat.le_refl _) (Nat.le_trans (by have := k6.size; have := hz5.out; omega) Cs.out.size)))
    clear s6 c6 k6 hal x1
    have HSE := Lib.hid (setRow_heap (w6.setCell ⟨hb, 0, none⟩ (.int .i64 y)) w.heap.size _ #[.int .i64 y, .slice A m c] _ _ Z9.out)
    have CrE := Lib.hid (chg_row (w6.setCell ⟨hb, 0, none⟩ (.int .i64 y)) w.heap.size #[.int .i64 y, .slice A m c])
    have RE := Lib.hid (show Rd ((w6.setCell ⟨hb, 0, none⟩ (.int .i64 y)).setRow w.heap.size #[.int .i64 y, .slice A m c]) w.heap.size ((w6.setCell ⟨hb, 0, none⟩ (.int .i64 y)).setRow w.heap.size #[.int .i64 y, .slice A m c]).heap.size A m cs from (R9.out.chg CrE.out (.inr (Nat.le_refl _))).more (Nat.le_succ _) (by rw [setRow_size]; exact Nat.le_refl _))
    have SE := Lib.hid (S9.out.chg CrE.out (.inl hg))
    have CE := Lib.hid (chg_two C9.out (Chg.refl _ _ _) CrE.out (Nat.le_refl _))
    go_wp2_with (first | (refine wpList_load_row rfl 26 _ rfl hb rfl 26 #[.int .i64 y, .slice A m c] (0, 0) _ B9.out Tryd.underlying26 rfl (auc_info y A m c) ?_) | (refine wpList_store_row rfl 26 _ _ rfl w.heap.size #[.int .i64 y, .slice A m c] rfl rfl 26 aucZero Z9.out (auc_info y A m c) rfl (auc_cells y A m c) ?_))
    refine bodyPost_ret (v := .agg #[.int .i64 y, .slice A m c]) (results_cell_row Tryd.results24 _ _ w.heap.size 26 #[.int .i64 y, .slice A m c] (0, 0) _ rfl HSE.out Tryd.underlying26 rfl (auc_info y A m c)) rfl ?_
    exact ⟨y, A, m, c, cs, rfl, HM30.out, HCAP.out, HNIL.out, RE.out, SE.out, CE.out⟩
  have u0 : (t == 0) = false := by simpa using t0
  by_cases t1 : t = 1
  · subst t1
    have B5d : Hid (ABox w5.drew hb d A m c) := B5
    go_wp2_with fail
    refine wp_region_held_drew (S := fun _ => True) (by kernel_rfl) trivial (fun hHeld => ?_)
    refine take_slotC (i := 1) (d := some 26) (v := .pointer (some ⟨g, 0, none⟩)) rfl (by kernel_rfl) (by kernel_rfl) (by kernel_rfl) (by kernel_rfl) (fun _ _ _ h => h) (.inl ⟨by kernel_rfl, fun V hV => by go_simp⟩) hHeld ?_
    try simp only [Act.put, List.setIfInBounds_toArray, List.set_cons_zero, List.set_cons_succ]
    refine wpAnyH_ready (rs := [0, 2]) (by kernel_rfl) (by simp) (AllReadyH.cons (i := 0) rfl (fun K' hK' => ?n_0) (AllReadyH.cons (i := 2) rfl (fun K' hK' => ?n_2) AllReadyH.nil))
    case' n_0 =>
      refine step_of_wp7 rfl (wp_load_row 26 _ rfl hb rfl 26 #[.int .i64 d, .slice A m c] (0, 0) _ B5d.out Tryd.underlying26 rfl (auc_info d A m c) ?_)
      refine hK'.out _ _ trivial (fun hHeld => ?_)
      clear hK'
      refine wpAnyH_ready (rs := [2]) (by kernel_rfl) (by simp) (AllReadyH.cons (i := 2) rfl (fun K' hK' => ?n0_2) AllReadyH.nil)
      case' n0_2 =>
        go_simp
        refine (l06Draw g w5.drew (S5.out.still (Chg.drewN w5 1 0 0))).mono ?_
        rintro e w6 ⟨x, rfl, _, s6, c6'⟩
        have k6 := Lib.hid (((Chg.drewN w5 1 0 0).any g (g + 1)).trans c6')
        have B6 := Lib.hid (ABox.far B5.out k6.out (by omega))
        have S6 := Lib.hid s6
        have C6 := Lib.hid (C5.out.trans k6.out)
        have Z6 := Lib.hid ((k6.out.block w.heap.size (by have := hz5.out; omega) (.inr (by omega))).trans Z5.out)
        have R6 := Lib.hid ((R5.out.chg k6.out (.inr (by omega))).more (Nat.zero_le _) k6.out.size)
        have hz6 := Lib.hid (show hb + 1 ≤ w6.heap.size by have := k6.out.size; have := hz5.out; omega)
        clear s6 c6'
        refine hK'.out _ _ trivial (fun hHeld => ?_)
        clear hK'
        refine wpAnyH_ready (rs := [3]) (by kernel_rfl) (by simp) (AllReadyH.cons (i := 3) rfl (fun K' hK' => ?n02_3) AllReadyH.nil)
        case' n02_3 =>
          go_simp
          refine (l07Add d A m c cs x w6 R6.out (by have := HM.out; omega) HNIL.out).mono ?_
          rintro e w7 ⟨u7, rfl, o7, b7⟩
          obtain ⟨A6, c6, hu6, hc6, hpl6, _⟩ := o7.form
          have hm6 : (cs ++ [x]).length = m + 1 := by rw [List.length_append, R6.out.1]; rfl
          rw [hm6] at hu6 hc6
          subst hu6
          have k7 := Lib.hid (Chg.of_below b7 g (g + 1))
          have B7 := Lib.hid (B6.out.still (Chg.of_below b7 0 0))
          have S7 := Lib.hid (S6.out.still (Chg.of_below b7 0 0))
          have Z7 := Lib.hid ((k7.out.block w.heap.size (by have := hz6.out; omega) (.inr (by omega))).trans Z6.out)
          have O7 := Lib.hid (o7.more hz6.out)
          clear o7 b7
          refine hK'.out _ _ trivial (fun hHeld => ?_)
          clear hK'
          refine wpAnyH_ready (rs := [4]) (by kernel_rfl) (by simp) (AllReadyH.cons (i := 4) rfl (fun K' hK' => ?n023_4) AllReadyH.nil)
          case' n023_4 =>
            have HSb := Lib.hid (setRow_heap w7 hb _ #[.int .i64 d, .slice A6 (m + 1) c6] _ _ B7.out)
            have Cr := Lib.hid (chg_row w7 hb #[.int .i64 d, .slice A6 (m + 1) c6])
            have O9 := Lib.hid (O7.out.far w7 #[.int .i64 d, .slice A6 (m + 1) c6] (Nat.lt_succ_self hb))
            have S9 := Lib.hid (S7.out.chg Cr.out (.inl (by omega)))
            have C9 := Lib.hid (chg_two C6.out k7.out Cr.out (by omega))
            have Z9 := Lib.hid ((Cr.out.block w.heap.size (by have := k7.out.size; have := hz6.out; omega) (.inl (by omega))).trans Z7.out)
            refine step_of_wp7 rfl (wp_store_row 26 _ _ rfl hb #[.int .i64 d, .slice A6 (m + 1) c6] rfl rfl 26 _ B7.out (auc_info d A6 (m + 1) c6) rfl (auc_cells d A6 (m + 1) c6) ?_)
            generalize w7.setRow hb #[.int .i64 d, .slice A6 (m + 1) c6] = V9 at HSb O9 S9 C9 Z9 ⊢
            have B9 : Hid (ABox V9 hb d A6 (m + 1) c6) := HSb
            have R9 := Lib.hid (show Rd V9 (w.heap.size + 1) V9.heap.size A6 (m + 1) (cs ++ [x]) from (O9.out.parts4).rd.more (by omega) (Nat.le_refl _))
            have HCAP9 := Lib.hid (O9.out.parts.2.1)
            have HNIL9 := Lib.hid (O9.out.parts.2.2.1)
            have HM9 := Lib.hid (show m + 1 ≤ 30 by have := HM.out; omega)
            refine hK'.out _ _ trivial (fun hHeld => ?_)
            clear hK'
            refine wpAnyH_done (by kernel_rfl) ?_ _
            have HSE := Lib.hid (setRow_heap V9 w.heap.size _ #[.int .i64 d, .slice A6 (m + 1) c6] _ _ Z9.out)
            have CrE := Lib.hid (chg_row V9 w.heap.size #[.int .i64 d, .slice A6 (m + 1) c6])
            have RE := Lib.hid (show Rd (V9.setRow w.heap.size #[.int .i64 d, .slice A6 (m + 1) c6]) w.heap.size (V9.setRow w.heap.size #[.int .i64 d, .slice A6 (m + 1) c6]).heap.size A6 (m + 1) (cs ++ [x]) from (R9.out.chg CrE.out (.inr (Nat.le_refl _))).more (Nat.le_succ _) (by rw [setRow_size]; exact Nat.le_refl _))
            have SE := Lib.hid (S9.out.chg CrE.out (.inl hg))
            have CE := Lib.hid (chg_two C9.out (Chg.refl _ _ _) CrE.out (Nat.le_refl _))
            go_wp2_with (first | (refine wpList_load_row rfl 26 _ rfl hb rfl 26 #[.int .i64 d, .slice A6 (m + 1) c6] (0, 0) _ B9.out Tryd.underlying26 rfl (auc_info d A6 (m + 1) c6) ?_) | (refine wpList_store_row rfl 26 _ _ rfl w.heap.size #[.int .i64 d, .slice A6 (m + 1) c6] rfl rfl 26 aucZero Z9.out (auc_info d A6 (m + 1) c6) rfl (auc_cells d A6 (m + 1) c6) ?_))
            refine bodyPost_ret (v := .agg #[.int .i64 d, .slice A6 (m + 1) c6]) (results_cell_row Tryd.results24 _ _ w.heap.size 26 #[.int .i64 d, .slice A6 (m + 1) c6] (0, 0) _ rfl HSE.out Tryd.underlying26 rfl (auc_info d A6 (m + 1) c6)) rfl ?_
            exact ⟨d, A6, (m + 1), c6, (cs ++ [x]), rfl, HM9.out, HCAP9.out, HNIL9.out, RE.out, SE.out, CE.out⟩
    case' n_2 =>
      go_simp
      refine (l06Draw g w5.drew (S5.out.still (Chg.drewN w5 1 0 0))).mono ?_
      rintro e w6 ⟨x, rfl, _, s6, c6'⟩
      have k6 := Lib.hid (((Chg.drewN w5 1 0 0).any g (g + 1)).trans c6')
      have B6 := Lib.hid (ABox.far B5.out k6.out (by omega))
      have S6 := Lib.hid s6
      have C6 := Lib.hid (C5.out.trans k6.out)
      have Z6 := Lib.hid ((k6.out.block w.heap.size (by have := hz5.out; omega) (.inr (by omega))).trans Z5.out)
      have R6 := Lib.hid ((R5.out.chg k6.out (.inr (by omega))).more (Nat.zero_le _) k6.out.size)
      have hz6 := Lib.hid (show hb + 1 ≤ w6.heap.size by have := k6.out.size; have := hz5.out; omega)
      clear s6 c6'
      refine hK'.out _ _ trivial (fun hHeld => ?_)
      clear hK'
      refine wpAnyH_ready (rs := [0]) (by kernel_rfl) (by simp) (AllReadyH.cons (i := 0) rfl (fun K' hK' => ?n2_0) AllReadyH.nil)
      case' n2_0 =>
        refine step_of_wp7 rfl (wp_load_row 26 _ rfl hb rfl 26 #[.int .i64 d, .slice A m c] (0, 0) _ B6.out Tryd.underlying26 rfl (auc_info d A m c) ?_)
        refine hK'.out _ _ trivial (fun hHeld => ?_)
        clear hK'
        refine wpAnyH_ready (rs := [3]) (by kernel_rfl) (by simp) (AllReadyH.cons (i := 3) rfl (fun K' hK' => ?n20_3) AllReadyH.nil)
        case' n20_3 =>
          go_simp
          refine (l07Add d A m c cs x w6 R6.out (by have := HM.out; omega) HNIL.out).mono ?_
          rintro e w7 ⟨u7, rfl, o7, b7⟩
          obtain ⟨A6, c6, hu6, hc6, hpl6, _⟩ := o7.form
          have hm6 : (cs ++ [x]).length = m + 1 := by rw [List.length_append, R6.out.1]; rfl
          rw [hm6] at hu6 hc6
          subst hu6
          have k7 := Lib.hid (Chg.of_below b7 g (g + 1))
          have B7 := Lib.hid (B6.out.still (Chg.of_below b7 0 0))
          have S7 := Lib.hid (S6.out.still (Chg.of_below b7 0 0))
          have Z7 := Lib.hid ((k7.out.block w.heap.size (by have := hz6.out; omega) (.inr (by omega))).trans Z6.out)
          have O7 := Lib.hid (o7.more hz6.out)
          clear o7 b7
          refine hK'.out _ _ trivial (fun hHeld => ?_)
          clear hK'
          refine wpAnyH_ready (rs := [4]) (by kernel_rfl) (by simp) (AllReadyH.cons (i := 4) rfl (fun K' hK' => ?n203_4) AllReadyH.nil)
          case' n203_4 =>
            have HSb := Lib.hid (setRow_heap w7 hb _ #[.int .i64 d, .slice A6 (m + 1) c6] _ _ B7.out)
            have Cr := Lib.hid (chg_row w7 hb #[.int .i64 d, .slice A6 (m + 1) c6])
            have O9 := Lib.hid (O7.out.far w7 #[.int .i64 d, .slice A6 (m + 1) c6] (Nat.lt_succ_self hb))
            have S9 := Lib.hid (S7.out.chg Cr.out (.inl (by omega)))
            have C9 := Lib.hid (chg_two C6.out k7.out Cr.out (by omega))
            have Z9 := Lib.hid ((Cr.out.block w.heap.size (by have := k7.out.size; have := hz6.out; omega) (.inl (by omega))).trans Z7.out)
            refine step_of_wp7 rfl (wp_store_row 26 _ _ rfl hb #[.int .i64 d, .slice A6 (m + 1) c6] rfl rfl 26 _ B7.out (auc_info d A6 (m + 1) c6) rfl (auc_cells d A6 (m + 1) c6) ?_)
            generalize w7.setRow hb #[.int .i64 d, .slice A6 (m + 1) c6] = V9 at HSb O9 S9 C9 Z9 ⊢
            have B9 : Hid (ABox V9 hb d A6 (m + 1) c6) := HSb
            have R9 := Lib.hid (show Rd V9 (w.heap.size + 1) V9.heap.size A6 (m + 1) (cs ++ [x]) from (O9.out.parts4).rd.more (by omega) (Nat.le_refl _))
            have HCAP9 := Lib.hid (O9.out.parts.2.1)
            have HNIL9 := Lib.hid (O9.out.parts.2.2.1)
            have HM9 := Lib.hid (show m + 1 ≤ 30 by have := HM.out; omega)
            refine hK'.out _ _ trivial (fun hHeld => ?_)
            clear hK'
            refine wpAnyH_done (by kernel_rfl) ?_ _
            have HSE := Lib.hid (setRow_heap V9 w.heap.size _ #[.int .i64 d, .slice A6 (m + 1) c6] _ _ Z9.out)
            have CrE := Lib.hid (chg_row V9 w.heap.size #[.int .i64 d, .slice A6 (m + 1) c6])
            have RE := Lib.hid (show Rd (V9.setRow w.heap.size #[.int .i64 d, .slice A6 (m + 1) c6]) w.heap.size (V9.setRow w.heap.size #[.int .i64 d, .slice A6 (m + 1) c6]).heap.size A6 (m + 1) (cs ++ [x]) from (R9.out.chg CrE.out (.inr (Nat.le_refl _))).more (Nat.le_succ _) (by rw [setRow_size]; exact Nat.le_refl _))
            have SE := Lib.hid (S9.out.chg CrE.out (.inl hg))
            have CE := Lib.hid (chg_two C9.out (Chg.refl _ _ _) CrE.out (Nat.le_refl _))
            go_wp2_with (first | (refine wpList_load_row rfl 26 _ rfl hb rfl 26 #[.int .i64 d, .slice A6 (m + 1) c6] (0, 0) _ B9.out Tryd.underlying26 rfl (auc_info d A6 (m + 1) c6) ?_) | (refine wpList_store_row rfl 26 _ _ rfl w.heap.size #[.int .i64 d, .slice A6 (m + 1) c6] rfl rfl 26 aucZero Z9.out (auc_info d A6 (m + 1) c6) rfl (auc_cells d A6 (m + 1) c6) ?_))
            refine bodyPost_ret (v := .agg #[.int .i64 d, .slice A6 (m + 1) c6]) (results_cell_row Tryd.results24 _ _ w.heap.size 26 #[.int .i64 d, .slice A6 (m + 1) c6] (0, 0) _ rfl HSE.out Tryd.underlying26 rfl (auc_info d A6 (m + 1) c6)) rfl ?_
            exact ⟨d, A6, (m + 1), c6, (cs ++ [x]), rfl, HM9.out, HCAP9.out, HNIL9.out, RE.out, SE.out, CE.out⟩
  have u1 : (t == 1) = false := by simpa using t1
  by_cases t2 : t = 2
  · subst t2
    by_cases hm0 : 0 < m
    · obtain ⟨b, csb, rfl, hb0, hb1, _, _⟩ := O5.out.2 hm0
      have hmI : (0 : Int) < (m : Int) := by omega
      have hbc : m ≤ c := HCAP.out
      go_wp2_with fail
      refine wp_region_held_drew (S := fun V => V.cell? ⟨hb, 1, none⟩ = some (.slice (some ⟨b, 0, none⟩) m c)) (by kernel_rfl) q5 (fun hHeld => ?_)
      refine take_slotC (i := 0) (d := some 33) (v := .pointer (some ⟨hb, 1, none⟩)) rfl (by kernel_rfl) (by kernel_rfl) (by kernel_rfl) (by kernel_rfl) (fun _ _ _ h => h) (.inl ⟨by kernel_rfl, fun V hV => by go_simp⟩) hHeld ?_
      try simp only [Act.put, List.setIfInBounds_toArray, List.set_cons_zero, List.set_cons_succ]
      refine take_slotC (i := 1) (d := some 34) (v := .slice (some ⟨b, 0, none⟩) m c) rfl (by kernel_rfl) (by kernel_rfl) (by kernel_rfl) (by kernel_rfl) (fun _ _ _ h => h) (.inl ⟨by kernel_rfl, fun V hV => by go_simp⟩) hHeld ?_
      try simp only [Act.put, List.setIfInBounds_toArray, List.set_cons_zero, List.set_cons_succ]
      refine take_slotC (i := 2) (d := some 35) (v := .pointer (some ⟨g, 0, none⟩)) rfl (by kernel_rfl) (by kernel_rfl) (by kernel_rfl) (by kernel_rfl) (fun _ _ _ h => h) (.inl ⟨by kernel_rfl, fun V hV => by go_simp⟩) hHeld ?_
      try simp only [Act.put, List.setIfInBounds_toArray, List.set_cons_zero, List.set_cons_succ]
      refine take_slotC (i := 3) (d := some 36) (v := .int .i64 (m : Int)) rfl (by kernel_rfl) (by kernel_rfl) (by kernel_rfl) (by kernel_rfl) (fun _ _ _ h => h) (.inl ⟨by kernel_rfl, fun V hV => by go_simp⟩) hHeld ?_
      try simp only [Act.put, List.setIfInBounds_toArray, List.set_cons_zero, List.set_cons_succ]
      refine take_slotC (i := 5) (d := some 38) (v := .pointer (some ⟨g, 0, none⟩)) rfl (by kernel_rfl) (by kernel_rfl) (by kernel_rfl) (by kernel_rfl) (fun _ _ _ h => h) (.inl ⟨by kernel_rfl, fun V hV => by go_simp⟩) hHeld ?_
      try simp only [Act.put, List.setIfInBounds_toArray, List.set_cons_zero, List.set_cons_succ]
      refine wpAnyH_ready (rs := [4]) (by kernel_rfl) (by simp) (AllReadyH.cons (i := 4) rfl (fun K' hK' => ?_) AllReadyH.nil)
      go_simp
      refine (l01Next g (m : Int) w5.drew (S5.out.still (Chg.drewN w5 1 0 0)) (by have := HM.out; omega)).mono ?_
      rintro e w6 ⟨r, rfl, ⟨r0, r1⟩, s6, c6'⟩
      have r2 := r1 (by omega)
      have k6 := Lib.hid (((Chg.drewN w5 1 0 0).any g (g + 1)).trans c6')
      have B6 := Lib.hid (ABox.far B5.out k6.out (by omega))
      have q6 := B6.out.c1
      have S6 := Lib.hid s6
      have C6 := Lib.hid (C5.out.trans k6.out)
      have Z6 := Lib.hid ((k6.out.block w.heap.size (by have := hz5.out; omega) (.inr (by omega))).trans Z5.out)
      have O6 := Lib.hid (O5.out.chg k6.out (.inr (by omega)))
      have hz6 := Lib.hid (show hb + 1 ≤ w6.heap.size by have := k6.out.size; have := hz5.out; omega)
      clear s6 c6' r1
      refine hK'.out _ _ q6 (fun hHeld => ?_)
      clear hK'
      refine wpAnyH_ready (rs := [6]) (by kernel_rfl) (by simp) (AllReadyH.cons (i := 6) rfl (fun K' hK' => ?_) AllReadyH.nil)
      go_simp
      refine (l06Draw g w6 S6.out).mono ?_
      rintro e w7 ⟨x, rfl, _, s7, c7'⟩
      have B7 := Lib.hid (ABox.far B6.out c7' (by omega))
      have q7 := B7.out.c1
      have S7 := Lib.hid s7
      have C7 := Lib.hid (C6.out.trans c7')
      have Z7 := Lib.hid ((c7'.block w.heap.size (by have := hz6.out; omega) (.inr (by omega))).trans Z6.out)
      have O7 := Lib.hid (O6.out.chg c7' (.inr (by omega)))
      have hz7 := Lib.hid (show hb + 1 ≤ w7.heap.size by have := c7'.size; have := hz6.out; omega)
      clear s7 c7'
      refine hK'.out _ _ q7 (fun hHeld => ?_)
      clear hK'
      refine take_slotC (i := 7) (d := some 40) (v := .pointer (some ⟨b, r.toNat, none⟩)) rfl (by kernel_rfl) (by kernel_rfl) (by kernel_rfl) (by kernel_rfl) (fun _ _ _ h => h) (.inl ⟨by kernel_rfl, fun V hV => by go_simp⟩) hHeld ?_
      try simp only [Act.put, List.setIfInBounds_toArray, List.set_cons_zero, List.set_cons_succ]
      obtain ⟨b', cs7, eb, hlo7, hhi7, hh7, hcc7⟩ := O7.out.2 (by omega)
      injection eb with eb
      injection eb with eb1 _ _
      subst eb1
      have hrn : r.toNat < m := by omega
      have q8 : w7.cell? ⟨b, r.toNat, none⟩ = some (.int .i64 (cs.getD r.toNat 0)) := by rw [cell_of_row w7 b _ _ _ _ hh7]; exact hcc7 _ hrn
      have f8 : w7.frozen? ⟨b, r.toNat, none⟩ = false := by simp [World.frozen?, hh7]
      have O9 := Lib.hid (O7.out.set hrn x)
      have Cs := Lib.hid (chg_set w7 b r.toNat (.int .i64 x))
      have B9 := Lib.hid (ABox.far B7.out Cs.out (by omega))
      have q9 := B9.out.c1
      have S9 := Lib.hid (S7.out.chg Cs.out (.inl (by omega)))
      have C9 := Lib.hid (chg_two C7.out (Chg.refl _ _ _) Cs.out (by omega))
      have Z9 := Lib.hid ((Cs.out.block w.heap.size (by have := hz7.out; omega) (.inl (by omega))).trans Z7.out)
      have R9 := Lib.hid (show Rd (w7.setCell ⟨b, r.toNat, none⟩ (.int .i64 x)) (w.heap.size + 1) (w7.setCell ⟨b, r.toNat, none⟩ (.int .i64 x)).heap.size (some ⟨b, 0, none⟩) m (cs.set r.toNat x) from O9.out.rd.more (Nat.le_refl _) (Nat.le_trans (by have := hz7.out; omega) Cs.out.size))
      clear hcc7 hh7 hlo7 hhi7
      refine wpAnyH_ready (rs := [8]) (by kernel_rfl) (by simp) (AllReadyH.cons (i := 8) rfl (fun K' hK' => ?_) AllReadyH.nil)
      go_simp
      refine hK'.out _ _ q9 (fun hHeld => ?_)
      clear hK'
      refine wpAnyH_done (by kernel_rfl) ?_ _
      generalize w7.setCell ⟨b, r.toNat, none⟩ (.int .i64 x) = V9 at B9 S9 C9 Z9 R9 ⊢
      have HSE := Lib.hid (setRow_heap V9 w.heap.size _ #[.int .i64 d, .slice (some ⟨b, 0, none⟩) m c] _ _ Z9.out)
      have CrE := Lib.hid (chg_row V9 w.heap.size #[.int .i64 d, .slice (some ⟨b, 0, none⟩) m c])
      have RE := Lib.hid (show Rd (V9.setRow w.heap.size #[.int .i64 d, .slice (some ⟨b, 0, none⟩) m c]) w.heap.size (V9.setRow w.heap.size #[.int .i64 d, .slice (some ⟨b, 0, none⟩) m c]).heap.size (some ⟨b, 0, none⟩) m (cs.set r.toNat x) from (R9.out.chg CrE.out (.inr (Nat.le_refl _))).more (Nat.le_succ _) (by rw [setRow_size]; exact Nat.le_refl _))
      have SE := Lib.hid (S9.out.chg CrE.out (.inl hg))
      have CE := Lib.hid (chg_two C9.out (Chg.refl _ _ _) CrE.out (Nat.le_refl _))
      go_wp2_with (first | (refine wpList_load_row rfl 26 _ rfl hb rfl 26 #[.int .i64 d, .slice (some ⟨b, 0, none⟩) m c] (0, 0) _ B9.out Tryd.underlying26 rfl (auc_info d (some ⟨b, 0, none⟩) m c) ?_) | (refine wpList_store_row rfl 26 _ _ rfl w.heap.size #[.int .i64 d, .slice (some ⟨b, 0, none⟩) m c] rfl rfl 26 aucZero Z9.out (auc_info d (some ⟨b, 0, none⟩) m c) rfl (auc_cells d (some ⟨b, 0, none⟩) m c) ?_))
      refine bodyPost_ret (v := .agg #[.int .i64 d, .slice (some ⟨b, 0, none⟩) m c]) (results_cell_row Tryd.results24 _ _ w.heap.size 26 #[.int .i64 d, .slice (some ⟨b, 0, none⟩) m c] (0, 0) _ rfl HSE.out Tryd.underlying26 rfl (auc_info d (some ⟨b, 0, none⟩) m c)) rfl ?_
      exact ⟨d, (some ⟨b, 0, none⟩), m, c, (cs.set r.toNat x), rfl, HM30.out, HCAP.out, HNIL.out, RE.out, SE.out, CE.out⟩
    · have hmI : ¬ (0 : Int) < (m : Int) := by omega
      have HSE := Lib.hid (setRow_heap w5 w.heap.size _ #[.int .i64 d, .slice A m c] _ _ Z5.out)
      have CrE := Lib.hid (chg_row w5 w.heap.size #[.int .i64 d, .slice A m c])
      have RE := Lib.hid (show Rd (w5.setRow w.heap.size #[.int .i64 d, .slice A m c]) w.heap.size (w5.setRow w.heap.size #[.int .i64 d, .slice A m c]).heap.size A m cs from (R5.out.chg CrE.out (.inr (Nat.le_refl _))).more (Nat.le_succ _) (by rw [setRow_size]; exact Nat.le_refl _))
      have SE := Lib.hid (S5.out.chg CrE.out (.inl hg))
      have CE := Lib.hid (chg_two C5.out (Chg.refl _ _ _) CrE.out (Nat.le_refl _))
      go_wp2_with (first | (refine wpList_load_row rfl 26 _ rfl hb rfl 26 #[.int .i64 d, .slice A m c] (0, 0) _ B5.out Tryd.underlying26 rfl (auc_info d A m c) ?_) | (refine wpList_store_row rfl 26 _ _ rfl w.heap.size #[.int .i64 d, .slice A m c] rfl rfl 26 aucZero Z5.out (auc_info d A m c) rfl (auc_cells d A m c) ?_))
      refine bodyPost_ret (v := .agg #[.int .i64 d, .slice A m c]) (results_cell_row Tryd.results24 _ _ w.heap.size 26 #[.int .i64 d, .slice A m c] (0, 0) _ rfl HSE.out Tryd.underlying26 rfl (auc_info d A m c)) rfl ?_
      exact ⟨d, A, m, c, cs, rfl, HM30.out, HCAP.out, HNIL.out, RE.out, SE.out, CE.out⟩
  · have u2 : (t == 2) = false := by simpa using t2
    have HSE := Lib.hid (setRow_heap w5 w.heap.size _ #[.int .i64 d, .slice A m c] _ _ Z5.out)
    have CrE := Lib.hid (chg_row w5 w.heap.size #[.int .i64 d, .slice A m c])
    have RE := Lib.hid (show Rd (w5.setRow w.heap.size #[.int .i64 d, .slice A m c]) w.heap.size (w5.setRow w.heap.size #[.int .i64 d, .slice A m c]).heap.size A m cs from (R5.out.chg CrE.out (.inr (Nat.le_refl _))).more (Nat.le_succ _) (by rw [setRow_size]; exact Nat.le_refl _))
    have SE := Lib.hid (S5.out.chg CrE.out (.inl hg))
    have CE := Lib.hid (chg_two C5.out (Chg.refl _ _ _) CrE.out (Nat.le_refl _))
    go_wp2_with (first | (refine wpList_load_row rfl 26 _ rfl hb rfl 26 #[.int .i64 d, .slice A m c] (0, 0) _ B5.out Tryd.underlying26 rfl (auc_info d A m c) ?_) | (refine wpList_store_row rfl 26 _ _ rfl w.heap.size #[.int .i64 d, .slice A m c] rfl rfl 26 aucZero Z5.out (auc_info d A m c) rfl (auc_cells d A m c) ?_))
    refine bodyPost_ret (v := .agg #[.int .i64 d, .slice A m c]) (results_cell_row Tryd.results24 _ _ w.heap.size 26 #[.int .i64 d, .slice A m c] (0, 0) _ rfl HSE.out Tryd.underlying26 rfl (auc_info d A m c)) rfl ?_
    exact ⟨d, A, m, c, cs, rfl, HM30.out, HCAP.out, HNIL.out, RE.out, SE.out, CE.out⟩


end Go.Proofs.YtnkbcmkngghnoaaDoor.Lib1
