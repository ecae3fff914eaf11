/- Chapter 7: auctions drawn. (Written by wip/gen7h.py.) -/
import Derived.Test.YtnkbcmkngghnoaaDoorAucG7
import Derived.Test.YtnkbcmkngghnoaaDoorAucC7
namespace Go.Proofs.YtnkbcmkngghnoaaDoor.Lib1
open Go.RowKit
set_option maxRecDepth 100000

theorem auc_exec (d : Int) (A : Option Addr) (n c : Nat) (g : Nat) (w : World) {ev : Operand → Value} {o : Oper} {x : Operand} (ho : o.op = .load 26 x) (hx : ev x = .pointer (some ⟨g, 0, none⟩)) (h : ABox w g d A n c) : (execOp ev o).run Tryd.prog w = .ok (.value (.agg #[.int .i64 d, .slice A n c])) w := by
  unfold execOp
  simp only [ho, hx, Instr.loadAt, Instr.sureAddr, Sem.run_bind, Sem.run_pure, Result.andThen_ok, run_loadVar_row w g 26 26 #[.int .i64 d, .slice A n c] (0, 0) _ h Tryd.underlying26 rfl (auc_info d A n c)]
theorem ABox.far {w w' : World} {g lo hi : Nat} {d : Int} {A : Option Addr} {n c : Nat} (h : ABox w g d A n c) (k : Chg w w' lo hi) (hd : g < lo ∨ hi ≤ g) : ABox w' g d A n c := (k.block g (lt_of_block h) hd).trans h
theorem OwnV.parts {w : World} {base : Nat} {A : Option Addr} {m c : Nat} {zs : List Int} (h : OwnV w base (.slice A m c) zs) : zs.length = m ∧ m ≤ c ∧ (A = none → c = 0) ∧ Rd w 0 w.heap.size A m zs := by
  obtain ⟨A', c', e, h1, h2, h3⟩ := h.form
  injection e with e1 e2 e3
  subst e1; subst e2; subst e3
  refine ⟨rfl, h1, fun q => ?_, h3.rd.more (Nat.zero_le _) (Nat.le_refl _)⟩
  rcases h2 with ⟨_, q2⟩ | ⟨b, off, q2⟩
  · exact q2
  · rw [q] at q2; cases q2
theorem chg_row (w : World) (g : Nat) (cs : Array Value) : Chg w (w.setRow g cs) g (g + 1) := ⟨rfl, rfl, rfl, by rw [setRow_size]; exact Nat.le_refl _, fun k _ hq => setRow_other w g k cs (by omega)⟩
/-- A write to a block of the call's own is none to what stood before. -/
theorem chg_two {w a b c : World} {g h : Nat} (h1 : Chg w a g (g + 1)) (h2 : Chg a b g (g + 1)) (h3 : Chg b c h (h + 1)) (hh : w.heap.size ≤ h) : Chg w c g (g + 1) := by
  have h12 := h1.trans h2
  exact ⟨h3.os.trans h12.os, h3.tape.trans h12.tape, h3.output.trans h12.output, Nat.le_trans h12.size h3.size, fun k hk hq => (h3.block k (Nat.lt_of_lt_of_le hk h12.size) (.inl (by omega))).trans (h12.block k hk hq)⟩
theorem passTo_snoc (cs : List Int) : passTo (cs ++ [0]) (cs ++ [0]).length = passTo cs cs.length + 1 := by
  rw [List.length_append]
  show passTo (cs ++ [0]) (cs.length + 1) = _
  rw [passTo, getD_last, if_pos rfl, passTo_congr cs.length (fun j hj => getD_snoc cs 0 j hj)]
/-- How many calls the auction in block g has. -/
def lenBox (w : World) (g : Nat) : Nat := match w.heap[g]? with
  | some (Obj.cells cs _ _) => match cs[1]? with
    | some (Value.slice _ m _) => m
    | _ => 0
  | _ => 0
theorem lenBox_of {w : World} {g : Nat} {d : Int} {A : Option Addr} {m c : Nat} (h : ABox w g d A m c) : lenBox w g = m := by
  unfold lenBox
  rw [show w.heap[g]? = _ from h]
  rfl
/-- An auction is drawn from the source in block g. -/
def DrewA (g : Nat) (w : World) (e : Ending) (w' : World) : Prop :=
  ∃ (d : Int) (A : Option Addr) (m c : Nat) (cs : List Int), e = .returned (.agg #[.int .i64 d, .slice A m c]) ∧ m ≤ 20 ∧ OwnV w' w.heap.size (.slice A m c) cs ∧ Src w' g ∧ Chg w w' g (g + 1)

set_option maxHeartbeats 8000000 in
theorem l07DrawAuction (g : Nat) (ended : Bool) (w : World) (hsrc : Src w g) : Calls Tryd.prog 51 #[.pointer (some ⟨g, 0, none⟩), .bool ended] w (DrewA g w) := by
  have hg := hsrc.lt
  have S0 : Hid (Src (w.alloc (.cells #[.int .i64 0, .slice none 0 0] 26)) g) := hsrc.still (Chg.of_alloc w (.cells #[.int .i64 0, .slice none 0 0] 26) 0 0)
  have C0 : Hid (Chg w (w.alloc (.cells #[.int .i64 0, .slice none 0 0] 26)) g (g + 1)) := (Chg.of_alloc w (.cells #[.int .i64 0, .slice none 0 0] 26) 0 0).any _ _
  have Z0 : Hid ((w.alloc (.cells #[.int .i64 0, .slice none 0 0] 26)).heap[w.heap.size]? = some (.cells aucZero 26 (0, 0))) := heap_alloc_new w _
  have z0 : Hid ((w.alloc (.cells #[.int .i64 0, .slice none 0 0] 26)).heap.size = w.heap.size + 1) := by show _ = _; simp
  clear hsrc
  go_enter Tryd.func51, Tryd.ntmps51
  go_wp2_with fail
  generalize w.alloc (.cells #[.int .i64 0, .slice none 0 0] 26) = W0 at S0 C0 Z0 z0 ⊢
  refine (l01Next g 4 _ S0.out (by omega)).mono ?_
  rintro e w1 ⟨d, rfl, _, s1, c1⟩
  have S1 := Lib.hid s1
  have C1 := Lib.hid (C0.out.trans c1)
  have Z1 := Lib.hid ((c1.block w.heap.size (by have := z0.out; omega) (.inr (by omega))).trans Z0.out)
  have z1 := Lib.hid (show w.heap.size + 1 ≤ w1.heap.size by have := c1.size; have := z0.out; omega)
  clear s1 c1 S0 C0 Z0 z0
  obtain ⟨hb, hhb⟩ : ∃ hb, hb = w1.heap.size := ⟨_, rfl⟩
  have HB0 : Hid ((w1.alloc (.cells #[.int .i64 0, .slice none 0 0] 26)).heap[hb]? = some (.cells aucZero 26 (0, 0))) := by show _ = _; rw [hhb]; exact heap_alloc_new w1 _
  have hgb : g < hb := by have := z1.out; omega
  have hwb : w.heap.size < hb := by have := z1.out; omega
  have z2 : Hid ((w1.alloc (.cells #[.int .i64 0, .slice none 0 0] 26)).heap.size = hb + 1) := by show _ = _; rw [hhb]; simp
  have ca := Chg.of_alloc w1 (.cells #[.int .i64 0, .slice none 0 0] 26) 0 0
  have cr := chg_row (w1.alloc (.cells #[.int .i64 0, .slice none 0 0] 26)) hb #[.int .i64 d, .slice none 0 0]
  have HBx := Lib.hid (setRow_heap (w1.alloc (.cells #[.int .i64 0, .slice none 0 0] 26)) hb _ #[.int .i64 d, .slice none 0 0] _ _ HB0.out)
  have S2 := Lib.hid ((S1.out.still ca).chg cr (.inl hgb))
  have C2 := Lib.hid (chg_two (C1.out.trans (ca.any g (g + 1))) (Chg.refl _ _ _) cr (by omega))
  have Z2 := Lib.hid ((cr.block w.heap.size (by have := z2.out; omega) (.inl hwb)).trans ((ca.block w.heap.size (by have := z1.out; omega) (.inr (Nat.zero_le _))).trans Z1.out))
  have z3 := Lib.hid (show ((w1.alloc (.cells #[.int .i64 0, .slice none 0 0] 26)).setRow hb #[.int .i64 d, .slice none 0 0]).heap.size = hb + 1 by rw [setRow_size]; exact z2.out)
  clear ca cr S1 C1 Z1 z1
  have HHB := Lib.hid hhb
  clear hhb
  go_wp2_with (rw [← HHB.out]; refine wpList_store_row rfl 26 _ _ rfl hb #[.int .i64 d, .slice none 0 0] rfl rfl 26 aucZero HB0.out (auc_info d none 0 0) rfl (auc_cells d none 0 0) ?_)
  generalize (w1.alloc (.cells #[.int .i64 0, .slice none 0 0] 26)).setRow hb #[.int .i64 d, .slice none 0 0] = W2 at HBx S2 C2 Z2 z3 ⊢
  clear HHB HB0 z2
  refine (l01Next g 16 _ S2.out (by omega)).mono ?_
  rintro e w3 ⟨k0, rfl, ⟨k00, k01⟩, s3, c3⟩
  have k02 := k01 (by omega)
  have S3 := Lib.hid s3
  have C3 := Lib.hid (C2.out.trans c3)
  have B3 : Hid (ABox w3 hb d none 0 0) := ABox.far (w := W2) HBx.out c3 (by omega)
  have Z3 := Lib.hid ((c3.block w.heap.size (by have := z3.out; omega) (.inr (by omega))).trans Z2.out)
  have hw3 := Lib.hid (show hb + 1 ≤ w3.heap.size by have := c3.size; have := z3.out; omega)
  obtain ⟨kk, rfl⟩ : ∃ kk : Nat, k0 = (kk : Int) := ⟨k0.toNat, by omega⟩
  have hkk : kk ≤ 15 := by omega
  clear s3 c3 k00 k01 k02 S2 C2 HBx Z2 z3
  go_wp2_with fail
  go_loopw [6] (fun i wr => ∃ (k : Nat) (A : Option Addr) (m c : Nat) (cs : List Int), m + k ≤ 15 ∧ i = .int .i64 k ∧ Hid (ABox wr hb d A m c) ∧ Hid (OwnV wr (hb + 1) (.slice A m c) cs) ∧ Hid (Src wr g) ∧ Hid (Chg w wr g (g + 1)) ∧ Hid (wr.heap[w.heap.size]? = some (.cells aucZero 26 (0, 0))) ∧ Hid (hb + 1 ≤ wr.heap.size)) (fun i _ => (intOf i).toNat)
  case atStart => exact ⟨kk, none, 0, 0, [], by omega, rfl, B3, OwnV.nil_ _ _, S3, C3, Z3, hw3⟩
  case round =>
    obtain ⟨k, A, m, c, cs, hmk, rfl, hbx, ho, hsrc, hC, hz, hwz⟩ := hrel
    obtain ⟨hp1, hcap, hnil, hr0⟩ := ho.out.parts
    have hrd := Lib.hid hr0
    clear hr0
    have q1 := hbx.out.c1
    have hp1' := Lib.hid hp1
    clear hp1
    have hp1 : cs.length ≤ 15 := by have := hp1'.out; omega
    by_cases hgo : 0 < k ∧ overTo cs m = false
    · obtain ⟨k1, hov⟩ := hgo
      have hk1 : (0 : Int) < (k : Int) := by omega
      have HOV := Lib.hid hov
      clear hov
      go_wp2_with fail
      refine (l07Over A m c cs _ (Rp.of_rd hrd.out) (by omega)).mono ?_
      rw [HOV.out]
      rintro e w' ⟨rfl, rfl⟩
      go_wp2_with fail
      have q1d : wr.drew.cell? ⟨hb, 1, none⟩ = some (.slice A m c) := q1
      have bxd := Lib.hid (hbx.out.still (Chg.drewN wr 1 0 0))
      refine wp_region_held_drew (S := fun _ => True) (by kernel_rfl) trivial (fun hHeld => ?_)
      refine take_slotC (i := 1) (d := some 23) (v := .pointer (some ⟨g, 0, none⟩)) rfl (by kernel_rfl) (by kernel_rfl) (by kernel_rfl) (by kernel_rfl) (fun _ _ _ h => h) (.inl ⟨by kernel_rfl, fun V hV => by go_simp⟩) hHeld ?_
      try simp only [Act.put, List.setIfInBounds_toArray, List.set_cons_zero, List.set_cons_succ]
      refine take_slotC (i := 2) (d := some 24) (v := .pointer (some ⟨hb, 1, none⟩)) rfl (by kernel_rfl) (by kernel_rfl) (by kernel_rfl) (by kernel_rfl) (fun _ _ _ h => h) (.inl ⟨by kernel_rfl, fun V hV => by go_simp⟩) hHeld ?_
      try simp only [Act.put, List.setIfInBounds_toArray, List.set_cons_zero, List.set_cons_succ]
      refine wpAnyH_ready (rs := [0, 3]) (by kernel_rfl) (by simp) (AllReadyH.cons (i := 0) rfl (fun K' hK' => ?n_0) (AllReadyH.cons (i := 3) rfl (fun K' hK' => ?n_3) AllReadyH.nil))
      case' n_0 =>
        refine step_of_wp7 rfl (wp_load_row 26 _ rfl hb rfl 26 #[.int .i64 d, .slice A m c] (0, 0) _ bxd.out Tryd.underlying26 rfl (auc_info d A m c) ?_)
        refine hK'.out _ _ trivial (fun hHeld => ?_)
        clear hK'
        refine wpAnyH_ready (rs := [3]) (by kernel_rfl) (by simp) (AllReadyH.cons (i := 3) rfl (fun K' hK' => ?n0_3) AllReadyH.nil)
        case' n0_3 =>
          go_simp
          refine hK'.out _ _ trivial (fun hHeld => ?_)
          clear hK'
          refine wpAnyH_ready (rs := [4]) (by kernel_rfl) (by simp) (AllReadyH.cons (i := 4) rfl (fun K' hK' => ?n03_4) AllReadyH.nil)
          case' n03_4 =>
            go_simp
            refine (l07DrawCall g A m c cs wr.drew (hsrc.out.still (Chg.drewN wr 1 0 0)) (Rp.of_rd hrd.out) (by omega)).mono ?_
            rintro e w5 ⟨x, rfl, _, s5, c5⟩
            have C5 := Lib.hid (((Chg.drewN wr 1 0 0).any g (g + 1)).trans c5)
            have hb5 := Lib.hid (ABox.far (hbx.out.still (Chg.drewN wr 1 0 0)) c5 (by omega))
            have hrd5 := Lib.hid ((ho.out.chg C5.out (by omega)).parts.2.2.2)
            have S5 := Lib.hid s5
            clear s5 c5
            refine hK'.out _ _ trivial (fun hHeld => ?_)
            clear hK'
            refine wpAnyH_ready (rs := [5]) (by kernel_rfl) (by simp) (AllReadyH.cons (i := 5) rfl (fun K' hK' => ?n034_5) AllReadyH.nil)
            case' n034_5 =>
              go_simp
              refine (l07Add d A m c cs x w5 hrd5.out (by omega) hnil).mono ?_
              rintro e w6 ⟨u6, rfl, o6, b6⟩
              obtain ⟨A6, c6, hu6, _⟩ := o6.form
              have hm6 : (cs ++ [x]).length = m + 1 := by rw [List.length_append, hp1'.out]; rfl
              rw [hm6] at hu6
              subst hu6
              have C6 := Lib.hid (C5.out.trans (Chg.of_below b6 g (g + 1)))
              have hb6 := Lib.hid (hb5.out.still (Chg.of_below b6 0 0))
              have S6 := Lib.hid (S5.out.still (Chg.of_below b6 0 0))
              have O6 := Lib.hid (o6.more (show hb + 1 ≤ w5.heap.size by have := C5.out.size; have := hwz.out; omega))
              clear o6 b6 hb5 S5 hrd5
              refine hK'.out _ _ trivial (fun hHeld => ?_)
              clear hK'
              refine wpAnyH_ready (rs := [6]) (by kernel_rfl) (by simp) (AllReadyH.cons (i := 6) rfl (fun K' hK' => ?n0345_6) AllReadyH.nil)
              case' n0345_6 =>
                have HS2 := Lib.hid (setRow_heap w6 hb _ #[.int .i64 d, .slice A6 (m + 1) c6] _ _ hb6.out)
                have Cr := Lib.hid (chg_row w6 hb #[.int .i64 d, .slice A6 (m + 1) c6])
                have O7 := Lib.hid (O6.out.far w6 #[.int .i64 d, .slice A6 (m + 1) c6] (Nat.lt_succ_self hb))
                have S7 := Lib.hid (S6.out.chg Cr.out (.inl (by omega)))
                have C7 := Lib.hid (chg_two hC.out C6.out Cr.out (by omega))
                have Z7 := Lib.hid ((Cr.out.block w.heap.size (by have := C6.out.size; have := hwz.out; omega) (.inl (by omega))).trans ((C6.out.block w.heap.size (by have := hwz.out; omega) (.inr (by omega))).trans hz.out))
                have hz7 : Hid (hb + 1 ≤ (w6.setRow hb #[.int .i64 d, .slice A6 (m + 1) c6]).heap.size) := by show _ ≤ _; rw [setRow_size]; have := C6.out.size; have := hwz.out; omega
                refine step_of_wp7 rfl (wp_store_row 26 _ _ rfl hb #[.int .i64 d, .slice A6 (m + 1) c6] rfl rfl 26 _ hb6.out (auc_info d A6 (m + 1) c6) rfl (auc_cells d A6 (m + 1) c6) ?_)
                refine hK'.out _ _ trivial (fun hHeld => ?_)
                clear hK'
                refine wpAnyH_done (by kernel_rfl) ?_ _
                go_wp2_with fail
                go_roundw
                case rel => exact ⟨k - 1, A6, m + 1, c6, cs ++ [x], by omega, by congr 1; omega, HS2, O7, S7, C7, Z7, hz7⟩
                case measure => simp [intOf]; omega
      case' n_3 =>
        go_simp
        refine hK'.out _ _ trivial (fun hHeld => ?_)
        clear hK'
        refine wpAnyH_ready (rs := [0, 4]) (by kernel_rfl) (by simp) (AllReadyH.cons (i := 0) rfl (fun K' hK' => ?n3_0) (AllReadyH.cons (i := 4) rfl (fun K' hK' => ?n3_4) AllReadyH.nil))
        case' n3_0 =>
          refine step_of_wp7 rfl (wp_load_row 26 _ rfl hb rfl 26 #[.int .i64 d, .slice A m c] (0, 0) _ bxd.out Tryd.underlying26 rfl (auc_info d A m c) ?_)
          refine hK'.out _ _ trivial (fun hHeld => ?_)
          clear hK'
          refine wpAnyH_ready (rs := [4]) (by kernel_rfl) (by simp) (AllReadyH.cons (i := 4) rfl (fun K' hK' => ?n30_4) AllReadyH.nil)
          case' n30_4 =>
            go_simp
            refine (l07DrawCall g A m c cs wr.drew (hsrc.out.still (Chg.drewN wr 1 0 0)) (Rp.of_rd hrd.out) (by omega)).mono ?_
            rintro e w5 ⟨x, rfl, _, s5, c5⟩
            have C5 := Lib.hid (((Chg.drewN wr 1 0 0).any g (g + 1)).trans c5)
            have hb5 := Lib.hid (ABox.far (hbx.out.still (Chg.drewN wr 1 0 0)) c5 (by omega))
            have hrd5 := Lib.hid ((ho.out.chg C5.out (by omega)).parts.2.2.2)
            have S5 := Lib.hid s5
            clear s5 c5
            refine hK'.out _ _ trivial (fun hHeld => ?_)
            clear hK'
            refine wpAnyH_ready (rs := [5]) (by kernel_rfl) (by simp) (AllReadyH.cons (i := 5) rfl (fun K' hK' => ?n304_5) AllReadyH.nil)
            case' n304_5 =>
              go_simp
              refine (l07Add d A m c cs x w5 hrd5.out (by omega) hnil).mono ?_
              rintro e w6 ⟨u6, rfl, o6, b6⟩
              obtain ⟨A6, c6, hu6, _⟩ := o6.form
              have hm6 : (cs ++ [x]).length = m + 1 := by rw [List.length_append, hp1'.out]; rfl
              rw [hm6] at hu6
              subst hu6
              have C6 := Lib.hid (C5.out.trans (Chg.of_below b6 g (g + 1)))
              have hb6 := Lib.hid (hb5.out.still (Chg.of_below b6 0 0))
              have S6 := Lib.hid (S5.out.still (Chg.of_below b6 0 0))
              have O6 := Lib.hid (o6.more (show hb + 1 ≤ w5.heap.size by have := C5.out.size; have := hwz.out; omega))
              clear o6 b6 hb5 S5 hrd5
              refine hK'.out _ _ trivial (fun hHeld => ?_)
              clear hK'
              refine wpAnyH_ready (rs := [6]) (by kernel_rfl) (by simp) (AllReadyH.cons (i := 6) rfl (fun K' hK' => ?n3045_6) AllReadyH.nil)
              case' n3045_6 =>
                have HS2 := Lib.hid (setRow_heap w6 hb _ #[.int .i64 d, .slice A6 (m + 1) c6] _ _ hb6.out)
                have Cr := Lib.hid (chg_row w6 hb #[.int .i64 d, .slice A6 (m + 1) c6])
                have O7 := Lib.hid (O6.out.far w6 #[.int .i64 d, .slice A6 (m + 1) c6] (Nat.lt_succ_self hb))
                have S7 := Lib.hid (S6.out.chg Cr.out (.inl (by omega)))
                have C7 := Lib.hid (chg_two hC.out C6.out Cr.out (by omega))
                have Z7 := Lib.hid ((Cr.out.block w.heap.size (by have := C6.out.size; have := hwz.out; omega) (.inl (by omega))).trans ((C6.out.block w.heap.size (by have := hwz.out; omega) (.inr (by omega))).trans hz.out))
                have hz7 : Hid (hb + 1 ≤ (w6.setRow hb #[.int .i64 d, .slice A6 (m + 1) c6]).heap.size) := by show _ ≤ _; rw [setRow_size]; have := C6.out.size; have := hwz.out; omega
                refine step_of_wp7 rfl (wp_store_row 26 _ _ rfl hb #[.int .i64 d, .slice A6 (m + 1) c6] rfl rfl 26 _ hb6.out (auc_info d A6 (m + 1) c6) rfl (auc_cells d A6 (m + 1) c6) ?_)
                refine hK'.out _ _ trivial (fun hHeld => ?_)
                clear hK'
                refine wpAnyH_done (by kernel_rfl) ?_ _
                go_wp2_with fail
                go_roundw
                case rel => exact ⟨k - 1, A6, m + 1, c6, cs ++ [x], by omega, by congr 1; omega, HS2, O7, S7, C7, Z7, hz7⟩
                case measure => simp [intOf]; omega
        case' n3_4 =>
          go_simp
          refine (l07DrawCall g A m c cs wr.drew (hsrc.out.still (Chg.drewN wr 1 0 0)) (Rp.of_rd hrd.out) (by omega)).mono ?_
          rintro e w5 ⟨x, rfl, _, s5, c5⟩
          have C5 := Lib.hid (((Chg.drewN wr 1 0 0).any g (g + 1)).trans c5)
          have hb5 := Lib.hid (ABox.far (hbx.out.still (Chg.drewN wr 1 0 0)) c5 (by omega))
          have hrd5 := Lib.hid ((ho.out.chg C5.out (by omega)).parts.2.2.2)
          have S5 := Lib.hid s5
          clear s5 c5
          refine hK'.out _ _ trivial (fun hHeld => ?_)
          clear hK'
          refine wpAnyH_ready (rs := [0]) (by kernel_rfl) (by simp) (AllReadyH.cons (i := 0) rfl (fun K' hK' => ?n34_0) AllReadyH.nil)
          case' n34_0 =>
            refine step_of_wp7 rfl (wp_load_row 26 _ rfl hb rfl 26 #[.int .i64 d, .slice A m c] (0, 0) _ hb5.out Tryd.underlying26 rfl (auc_info d A m c) ?_)
            refine hK'.out _ _ trivial (fun hHeld => ?_)
            clear hK'
            refine wpAnyH_ready (rs := [5]) (by kernel_rfl) (by simp) (AllReadyH.cons (i := 5) rfl (fun K' hK' => ?n340_5) AllReadyH.nil)
            case' n340_5 =>
              go_simp
              refine (l07Add d A m c cs x w5 hrd5.out (by omega) hnil).mono ?_
              rintro e w6 ⟨u6, rfl, o6, b6⟩
              obtain ⟨A6, c6, hu6, _⟩ := o6.form
              have hm6 : (cs ++ [x]).length = m + 1 := by rw [List.length_append, hp1'.out]; rfl
              rw [hm6] at hu6
              subst hu6
              have C6 := Lib.hid (C5.out.trans (Chg.of_below b6 g (g + 1)))
              have hb6 := Lib.hid (hb5.out.still (Chg.of_below b6 0 0))
              have S6 := Lib.hid (S5.out.still (Chg.of_below b6 0 0))
              have O6 := Lib.hid (o6.more (show hb + 1 ≤ w5.heap.size by have := C5.out.size; have := hwz.out; omega))
              clear o6 b6 hb5 S5 hrd5
              refine hK'.out _ _ trivial (fun hHeld => ?_)
              clear hK'
              refine wpAnyH_ready (rs := [6]) (by kernel_rfl) (by simp) (AllReadyH.cons (i := 6) rfl (fun K' hK' => ?n3405_6) AllReadyH.nil)
              case' n3405_6 =>
                have HS2 := Lib.hid (setRow_heap w6 hb _ #[.int .i64 d, .slice A6 (m + 1) c6] _ _ hb6.out)
                have Cr := Lib.hid (chg_row w6 hb #[.int .i64 d, .slice A6 (m + 1) c6])
                have O7 := Lib.hid (O6.out.far w6 #[.int .i64 d, .slice A6 (m + 1) c6] (Nat.lt_succ_self hb))
                have S7 := Lib.hid (S6.out.chg Cr.out (.inl (by omega)))
                have C7 := Lib.hid (chg_two hC.out C6.out Cr.out (by omega))
                have Z7 := Lib.hid ((Cr.out.block w.heap.size (by have := C6.out.size; have := hwz.out; omega) (.inl (by omega))).trans ((C6.out.block w.heap.size (by have := hwz.out; omega) (.inr (by omega))).trans hz.out))
                have hz7 : Hid (hb + 1 ≤ (w6.setRow hb #[.int .i64 d, .slice A6 (m + 1) c6]).heap.size) := by show _ ≤ _; rw [setRow_size]; have := C6.out.size; have := hwz.out; omega
                refine step_of_wp7 rfl (wp_store_row 26 _ _ rfl hb #[.int .i64 d, .slice A6 (m + 1) c6] rfl rfl 26 _ hb6.out (auc_info d A6 (m + 1) c6) rfl (auc_cells d A6 (m + 1) c6) ?_)
                refine hK'.out _ _ trivial (fun hHeld => ?_)
                clear hK'
                refine wpAnyH_done (by kernel_rfl) ?_ _
                go_wp2_with fail
                go_roundw
                case rel => exact ⟨k - 1, A6, m + 1, c6, cs ++ [x], by omega, by congr 1; omega, HS2, O7, S7, C7, Z7, hz7⟩
                case measure => simp [intOf]; omega
    · have hm15 : m ≤ 15 + passTo cs m := by omega
      have hm0 : m ≤ 15 := by omega
      have pre : k = 0 ∨ (0 < k ∧ overTo cs m = true) := by
        rcases Nat.eq_zero_or_pos k with q | q
        · exact .inl q
        · cases hov : overTo cs m
          · exact absurd ⟨q, hov⟩ hgo
          · exact .inr ⟨q, rfl⟩
      clear hgo S3 C3 B3 Z3 hw3
      rcases pre with rfl | ⟨k1, hov⟩
      · go_wp2_with fail
        have hm15' := Lib.hid hm15
        clear hm15 hp1 hcap hnil hrd q1 hp1' hmk
        obtain ⟨W5, hW5⟩ : ∃ W5, W5 = wr := ⟨_, rfl⟩
        subst hW5
        go_loopw [36] (fun _ wr => ∃ (A : Option Addr) (m c : Nat) (cs : List Int), Hid (m ≤ 15 + passTo cs m) ∧ m ≤ 19 ∧ Hid (ABox wr hb d A m c) ∧ Hid (OwnV wr (hb + 1) (.slice A m c) cs) ∧ Hid (Src wr g) ∧ Hid (Chg w wr g (g + 1)) ∧ Hid (wr.heap[w.heap.size]? = some (.cells aucZero 26 (0, 0))) ∧ Hid (hb + 1 ≤ wr.heap.size)) (fun _ wr => 100 - lenBox wr hb)
        case atStart => exact ⟨A, m, c, cs, hm15', by omega, hbx, ho, hsrc, hC, hz, hwz⟩
        case round =>
          clear hm15' hbx ho hsrc hC hz hwz
          obtain ⟨A, m, c, cs, hm15, hm19, hbx, ho, hsrc, hC, hz, hwz⟩ := hrel
          obtain ⟨hp1, hcap, hnil, hr0⟩ := ho.out.parts
          have hrd := Lib.hid hr0
          have q1 := hbx.out.c1
          have hlb := Lib.hid (lenBox_of hbx.out)
          have hm20 := Lib.hid (show m ≤ 20 by omega)
          have hp1' := Lib.hid hp1
          clear hr0 hp1
          cases ended
          · have HS2 := Lib.hid (setRow_heap wr w.heap.size _ #[.int .i64 d, .slice A m c] _ _ hz.out)
            have Cr := Lib.hid (chg_row wr w.heap.size #[.int .i64 d, .slice A m c])
            have O7 := Lib.hid ((ho.out.far wr #[.int .i64 d, .slice A m c] (show w.heap.size < hb + 1 by omega)).more (show w.heap.size ≤ hb + 1 by omega))
            have S7 := Lib.hid (hsrc.out.chg Cr.out (.inl hg))
            have C7 := Lib.hid (chg_two hC.out (Chg.refl _ _ _) Cr.out (Nat.le_refl _))
            go_wp2_with (first | (refine wpList_load_row rfl 26 _ rfl hb rfl 26 #[.int .i64 d, .slice A m c] (0, 0) _ hbx.out Tryd.underlying26 rfl (auc_info d A m c) ?_) | (refine wpList_store_row rfl 26 _ _ rfl w.heap.size #[.int .i64 d, .slice A m c] rfl rfl 26 aucZero hz.out (auc_info d A m c) rfl (auc_cells d A m c) ?_))
            refine bodyPost_ret (v := .agg #[.int .i64 d, .slice A m c]) (results_cell_row Tryd.results51 _ _ w.heap.size 26 #[.int .i64 d, .slice A m c] (0, 0) _ rfl HS2.out Tryd.underlying26 rfl (auc_info d A m c)) rfl ?_
            exact ⟨d, A, m, c, cs, rfl, hm20.out, O7.out, S7.out, C7.out⟩
          · cases hov : overTo cs m
            · have hps := over_pass hov
              have HOV := Lib.hid hov
              have hm18 : m ≤ 18 := by have := hm15.out; omega
              have hmp := Lib.hid (show m + 1 ≤ 15 + passTo (cs ++ [0]) (m + 1) by have h0 := passTo_snoc cs; rw [List.length_append, hp1'.out] at h0; have h1 := hm15.out; have h2 : passTo (cs ++ [0]) (m + 1) = passTo cs m + 1 := h0; omega)
              clear hov hps
              go_wp2_with fail
              refine (l07Over A m c cs _ (Rp.of_rd hrd.out) (by omega)).mono ?_
              rw [HOV.out]
              rintro e w' ⟨rfl, rfl⟩
              go_wp2_with (refine wpList_load_row rfl 26 _ rfl hb rfl 26 #[.int .i64 d, .slice A m c] (0, 0) _ hbx.out Tryd.underlying26 rfl (auc_info d A m c) ?_)
              refine (l07Add d A m c cs 0 _ hrd.out (by omega) hnil).mono ?_
              rintro e w6 ⟨u6, rfl, o6, b6⟩
              obtain ⟨A6, c6, hu6, _⟩ := o6.form
              have hm6 : (cs ++ [0]).length = m + 1 := by rw [List.length_append, hp1'.out]; rfl
              rw [hm6] at hu6
              subst hu6
              have C6 := Lib.hid (Chg.of_below b6 g (g + 1))
              have hb6 := Lib.hid (hbx.out.still (Chg.of_below b6 0 0))
              have S6 := Lib.hid (hsrc.out.still (Chg.of_below b6 0 0))
              have O6 := Lib.hid (o6.more hwz.out)
              have HS2 := Lib.hid (setRow_heap w6 hb _ #[.int .i64 d, .slice A6 (m + 1) c6] _ _ hb6.out)
              have Cr := Lib.hid (chg_row w6 hb #[.int .i64 d, .slice A6 (m + 1) c6])
              have O7 := Lib.hid (O6.out.far w6 #[.int .i64 d, .slice A6 (m + 1) c6] (Nat.lt_succ_self hb))
              have S7 := Lib.hid (S6.out.chg Cr.out (.inl (by omega)))
              have C7 := Lib.hid (chg_two hC.out C6.out Cr.out (by omega))
              have Z7 := Lib.hid ((Cr.out.block w.heap.size (by have := C6.out.size; have := hwz.out; omega) (.inl (by omega))).trans ((C6.out.block w.heap.size (by have := hwz.out; omega) (.inr (by omega))).trans hz.out))
              have hz7 : Hid (hb + 1 ≤ (w6.setRow hb #[.int .i64 d, .slice A6 (m + 1) c6]).heap.size) := by show _ ≤ _; rw [setRow_size]; have := C6.out.size; have := hwz.out; omega
              have hlb7 := Lib.hid (lenBox_of (show ABox (w6.setRow hb #[.int .i64 d, .slice A6 (m + 1) c6]) hb d A6 (m + 1) c6 from HS2.out))
              clear o6 b6
              go_wp2_with (refine wpList_store_row rfl 26 _ _ rfl hb #[.int .i64 d, .slice A6 (m + 1) c6] rfl rfl 26 _ hb6.out (auc_info d A6 (m + 1) c6) rfl (auc_cells d A6 (m + 1) c6) ?_)
              go_roundw
              case rel =>
                (repeat apply Exists.intro)
                exact ⟨⟨A6, m + 1, c6, cs ++ [0], hmp, by omega, HS2, O7, S7, C7, Z7, hz7⟩, rfl⟩
              case measure => rw [hlb7.out, hlb.out]; omega
            · have HOV := Lib.hid hov
              clear hov
              go_wp2_with fail
              refine (l07Over A m c cs _ (Rp.of_rd hrd.out) (by omega)).mono ?_
              rw [HOV.out]
              rintro e w' ⟨rfl, rfl⟩
              have HS2 := Lib.hid (setRow_heap wr w.heap.size _ #[.int .i64 d, .slice A m c] _ _ hz.out)
              have Cr := Lib.hid (chg_row wr w.heap.size #[.int .i64 d, .slice A m c])
              have O7 := Lib.hid ((ho.out.far wr #[.int .i64 d, .slice A m c] (show w.heap.size < hb + 1 by omega)).more (show w.heap.size ≤ hb + 1 by omega))
              have S7 := Lib.hid (hsrc.out.chg Cr.out (.inl hg))
              have C7 := Lib.hid (chg_two hC.out (Chg.refl _ _ _) Cr.out (Nat.le_refl _))
              go_wp2_with (first | (refine wpList_load_row rfl 26 _ rfl hb rfl 26 #[.int .i64 d, .slice A m c] (0, 0) _ hbx.out Tryd.underlying26 rfl (auc_info d A m c) ?_) | (refine wpList_store_row rfl 26 _ _ rfl w.heap.size #[.int .i64 d, .slice A m c] rfl rfl 26 aucZero hz.out (auc_info d A m c) rfl (auc_cells d A m c) ?_))
              refine bodyPost_ret (v := .agg #[.int .i64 d, .slice A m c]) (results_cell_row Tryd.results51 _ _ w.heap.size 26 #[.int .i64 d, .slice A m c] (0, 0) _ rfl HS2.out Tryd.underlying26 rfl (auc_info d A m c)) rfl ?_
              exact ⟨d, A, m, c, cs, rfl, hm20.out, O7.out, S7.out, C7.out⟩
      · have hk1 : (0 : Int) < (k : Int) := by omega
        have HOV := Lib.hid hov
        clear hov
        go_wp2_with fail
        refine (l07Over A m c cs _ (Rp.of_rd hrd.out) (by omega)).mono ?_
        rw [HOV.out]
        rintro e w' ⟨rfl, rfl⟩
        go_wp2_with fail
        have hm15' := Lib.hid hm15
        clear hm15 hp1 hcap hnil hrd q1 hp1' hmk
        obtain ⟨W5, hW5⟩ : ∃ W5, W5 = wr := ⟨_, rfl⟩
        subst hW5
        go_loopw [36] (fun _ wr => ∃ (A : Option Addr) (m c : Nat) (cs : List Int), Hid (m ≤ 15 + passTo cs m) ∧ m ≤ 19 ∧ Hid (ABox wr hb d A m c) ∧ Hid (OwnV wr (hb + 1) (.slice A m c) cs) ∧ Hid (Src wr g) ∧ Hid (Chg w wr g (g + 1)) ∧ Hid (wr.heap[w.heap.size]? = some (.cells aucZero 26 (0, 0))) ∧ Hid (hb + 1 ≤ wr.heap.size)) (fun _ wr => 100 - lenBox wr hb)
        case atStart => exact ⟨A, m, c, cs, hm15', by omega, hbx, ho, hsrc, hC, hz, hwz⟩
        case round =>
          clear hm15' hbx ho hsrc hC hz hwz
          obtain ⟨A, m, c, cs, hm15, hm19, hbx, ho, hsrc, hC, hz, hwz⟩ := hrel
          obtain ⟨hp1, hcap, hnil, hr0⟩ := ho.out.parts
          have hrd := Lib.hid hr0
          have q1 := hbx.out.c1
          have hlb := Lib.hid (lenBox_of hbx.out)
          have hm20 := Lib.hid (show m ≤ 20 by omega)
          have hp1' := Lib.hid hp1
          clear hr0 hp1
          cases ended
          · have HS2 := Lib.hid (setRow_heap wr w.heap.size _ #[.int .i64 d, .slice A m c] _ _ hz.out)
            have Cr := Lib.hid (chg_row wr w.heap.size #[.int .i64 d, .slice A m c])
            have O7 := Lib.hid ((ho.out.far wr #[.int .i64 d, .slice A m c] (show w.heap.size < hb + 1 by omega)).more (show w.heap.size ≤ hb + 1 by omega))
            have S7 := Lib.hid (hsrc.out.chg Cr.out (.inl hg))
            have C7 := Lib.hid (chg_two hC.out (Chg.refl _ _ _) Cr.out (Nat.le_refl _))
            go_wp2_with (first | (refine wpList_load_row rfl 26 _ rfl hb rfl 26 #[.int .i64 d, .slice A m c] (0, 0) _ hbx.out Tryd.underlying26 rfl (auc_info d A m c) ?_) | (refine wpList_store_row rfl 26 _ _ rfl w.heap.size #[.int .i64 d, .slice A m c] rfl rfl 26 aucZero hz.out (auc_info d A m c) rfl (auc_cells d A m c) ?_))
            refine bodyPost_ret (v := .agg #[.int .i64 d, .slice A m c]) (results_cell_row Tryd.results51 _ _ w.heap.size 26 #[.int .i64 d, .slice A m c] (0, 0) _ rfl HS2.out Tryd.underlying26 rfl (auc_info d A m c)) rfl ?_
            exact ⟨d, A, m, c, cs, rfl, hm20.out, O7.out, S7.out, C7.out⟩
          · cases hov : overTo cs m
            · have hps := over_pass hov
              have HOV := Lib.hid hov
              have hm18 : m ≤ 18 := by have := hm15.out; omega
              have hmp := Lib.hid (show m + 1 ≤ 15 + passTo (cs ++ [0]) (m + 1) by have h0 := passTo_snoc cs; rw [List.length_append, hp1'.out] at h0; have h1 := hm15.out; have h2 : passTo (cs ++ [0]) (m + 1) = passTo cs m + 1 := h0; omega)
              clear hov hps
              go_wp2_with fail
              refine (l07Over A m c cs _ (Rp.of_rd hrd.out) (by omega)).mono ?_
              rw [HOV.out]
              rintro e w' ⟨rfl, rfl⟩
              go_wp2_with (refine wpList_load_row rfl 26 _ rfl hb rfl 26 #[.int .i64 d, .slice A m c] (0, 0) _ hbx.out Tryd.underlying26 rfl (auc_info d A m c) ?_)
              refine (l07Add d A m c cs 0 _ hrd.out (by omega) hnil).mono ?_
              rintro e w6 ⟨u6, rfl, o6, b6⟩
              obtain ⟨A6, c6, hu6, _⟩ := o6.form
              have hm6 : (cs ++ [0]).length = m + 1 := by rw [List.length_append, hp1'.out]; rfl
              rw [hm6] at hu6
              subst hu6
              have C6 := Lib.hid (Chg.of_below b6 g (g + 1))
              have hb6 := Lib.hid (hbx.out.still (Chg.of_below b6 0 0))
              have S6 := Lib.hid (hsrc.out.still (Chg.of_below b6 0 0))
              have O6 := Lib.hid (o6.more hwz.out)
              have HS2 := Lib.hid (setRow_heap w6 hb _ #[.int .i64 d, .slice A6 (m + 1) c6] _ _ hb6.out)
              have Cr := Lib.hid (chg_row w6 hb #[.int .i64 d, .slice A6 (m + 1) c6])
              have O7 := Lib.hid (O6.out.far w6 #[.int .i64 d, .slice A6 (m + 1) c6] (Nat.lt_succ_self hb))
              have S7 := Lib.hid (S6.out.chg Cr.out (.inl (by omega)))
              have C7 := Lib.hid (chg_two hC.out C6.out Cr.out (by omega))
              have Z7 := Lib.hid ((Cr.out.block w.heap.size (by have := C6.out.size; have := hwz.out; omega) (.inl (by omega))).trans ((C6.out.block w.heap.size (by have := hwz.out; omega) (.inr (by omega))).trans hz.out))
              have hz7 : Hid (hb + 1 ≤ (w6.setRow hb #[.int .i64 d, .slice A6 (m + 1) c6]).heap.size) := by show _ ≤ _; rw [setRow_size]; have := C6.out.size; have := hwz.out; omega
              have hlb7 := Lib.hid (lenBox_of (show ABox (w6.setRow hb #[.int .i64 d, .slice A6 (m + 1) c6]) hb d A6 (m + 1) c6 from HS2.out))
              clear o6 b6
              go_wp2_with (refine wpList_store_row rfl 26 _ _ rfl hb #[.int .i64 d, .slice A6 (m + 1) c6] rfl rfl 26 _ hb6.out (auc_info d A6 (m + 1) c6) rfl (auc_cells d A6 (m + 1) c6) ?_)
              go_roundw
              case rel =>
                (repeat apply Exists.intro)
                exact ⟨⟨A6, m + 1, c6, cs ++ [0], hmp, by omega, HS2, O7, S7, C7, Z7, hz7⟩, rfl⟩
              case measure => rw [hlb7.out, hlb.out]; omega
            · have HOV := Lib.hid hov
              clear hov
              go_wp2_with fail
              refine (l07Over A m c cs _ (Rp.of_rd hrd.out) (by omega)).mono ?_
              rw [HOV.out]
              rintro e w' ⟨rfl, rfl⟩
              have HS2 := Lib.hid (setRow_heap wr w.heap.size _ #[.int .i64 d, .slice A m c] _ _ hz.out)
              have Cr := Lib.hid (chg_row wr w.heap.size #[.int .i64 d, .slice A m c])
              have O7 := Lib.hid ((ho.out.far wr #[.int .i64 d, .slice A m c] (show w.heap.size < hb + 1 by omega)).more (show w.heap.size ≤ hb + 1 by omega))
              have S7 := Lib.hid (hsrc.out.chg Cr.out (.inl hg))
              have C7 := Lib.hid (chg_two hC.out (Chg.refl _ _ _) Cr.out (Nat.le_refl _))
              go_wp2_with (first | (refine wpList_load_row rfl 26 _ rfl hb rfl 26 #[.int .i64 d, .slice A m c] (0, 0) _ hbx.out Tryd.underlying26 rfl (auc_info d A m c) ?_) | (refine wpList_store_row rfl 26 _ _ rfl w.heap.size #[.int .i64 d, .slice A m c] rfl rfl 26 aucZero hz.out (auc_info d A m c) rfl (auc_cells d A m c) ?_))
              refine bodyPost_ret (v := .agg #[.int .i64 d, .slice A m c]) (results_cell_row Tryd.results51 _ _ w.heap.size 26 #[.int .i64 d, .slice A m c] (0, 0) _ rfl HS2.out Tryd.underlying26 rfl (auc_info d A m c)) rfl ?_
              exact ⟨d, A, m, c, cs, rfl, hm20.out, O7.out, S7.out, C7.out⟩
end Go.Proofs.YtnkbcmkngghnoaaDoor.Lib1
