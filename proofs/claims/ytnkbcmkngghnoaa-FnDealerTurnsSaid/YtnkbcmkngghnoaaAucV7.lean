/- Chapter 7: DrawAddCall. (Written by wip/gen7v.py.) -/
import Derived.Test.YtnkbcmkngghnoaaAucL7
import Derived.Test.YtnkbcmkngghnoaaAucA7
namespace Go.Proofs.Ytnkbcmkngghnoaa.Lib1
open Go.RowKit
set_option maxRecDepth 100000

set_option maxHeartbeats 8000000 in
theorem DrawAddCall (A : Option Addr) (n c : Nat) (w : World) (h : Bytes w A n) (hn : n ≤ 1048576) :
    Calls Try.prog 14 #[.slice A n c] w (DrewCI w) := by
  have hB := Lib.hid (h.chg (Chg.of_alloc w (.cells #[.int .i64 0, .slice none 0 0] 26) w.heap.size 0))
  have K0 : Hid (Below w.heap.size w (w.alloc (.cells #[.int .i64 0, .slice none 0 0] 26))) := (Below.refl w.heap.size w).alloc (Nat.le_refl _) _
  have Z0 : Hid ((w.alloc (.cells #[.int .i64 0, .slice none 0 0] 26)).heap[w.heap.size]? = some (.cells aucZero 26 (0, 0))) := heap_alloc_new w _
  have z0 : Hid ((w.alloc (.cells #[.int .i64 0, .slice none 0 0] 26)).heap.size = w.heap.size + 1) := by show _ = _; simp
  clear h
  go_enter Try.func14, Try.ntmps14
  go_wp2_with fail
  generalize w.alloc (.cells #[.int .i64 0, .slice none 0 0] 26) = W0 at hB K0 Z0 z0 ⊢
  refine (l01From A n c _ hB.out hn).mono ?_
  rintro e w1 ⟨rfl, s1, b1⟩
  obtain ⟨g, hg⟩ : ∃ g, g = W0.heap.size := ⟨_, rfl⟩
  rw [← hg] at s1 ⊢
  have hgw := Lib.hid (show w.heap.size < g by have := z0.out; omega)
  have S1 := Lib.hid s1
  have K1 := Lib.hid (K0.out.trans (b1.mono (by have := z0.out; omega)))
  have Z1 := Lib.hid ((b1.block w.heap.size (by have := z0.out; omega)).trans Z0.out)
  have z1 := Lib.hid (show w.heap.size + 1 ≤ w1.heap.size by have := b1.size; have := z0.out; omega)
  clear s1 b1 hB K0 Z0 hg z0
  go_wp2_with fail
  refine (l07DrawAny g _ S1.out).mono ?_
  rintro e w2 ⟨d, D, m, k, cs, rfl, hm', hcap', hnil', hrd, s2, c2⟩
  have hm := Lib.hid hm'
  have hcap := Lib.hid hcap'
  have hnil := Lib.hid hnil'
  have S2 := Lib.hid s2
  have K2 := Lib.hid (below_draw K1.out c2 (by have := hgw.out; omega) S1.out.lt)
  have Z2 := Lib.hid ((c2.block w.heap.size (by have := z1.out; omega) (.inl hgw.out)).trans Z1.out)
  have z2 := Lib.hid (show w.heap.size + 1 ≤ w2.heap.size by have := c2.size; have := z1.out; omega)
  have hg2 := Lib.hid s2.lt
  obtain ⟨hb, hhb⟩ : ∃ hb, hb = w2.heap.size := ⟨_, rfl⟩
  have HB0 : Hid ((w2.alloc (.cells #[.int .i64 0, .slice none 0 0] 26)).heap[hb]? = some (.cells aucZero 26 (0, 0))) := by show _ = _; rw [hhb]; exact heap_alloc_new w2 _
  have ca := Chg.of_alloc w2 (.cells #[.int .i64 0, .slice none 0 0] 26) 0 0
  have cr := chg_row (w2.alloc (.cells #[.int .i64 0, .slice none 0 0] 26)) hb #[.int .i64 d, .slice D m k]
  have q := Lib.hid (show (w2.alloc (.cells #[.int .i64 0, .slice none 0 0] 26)).heap.size = hb + 1 by rw [hhb]; simp)
  have B3 : Hid (ABox ((w2.alloc (.cells #[.int .i64 0, .slice none 0 0] 26)).setRow hb #[.int .i64 d, .slice D m k]) hb d D m k) := setRow_heap (w2.alloc (.cells #[.int .i64 0, .slice none 0 0] 26)) hb _ #[.int .i64 d, .slice D m k] _ _ HB0.out
  have S3 := Lib.hid ((S2.out.still ca).chg cr (.inl (by have := hg2.out; omega)))
  have K3 : Hid (Below w.heap.size w ((w2.alloc (.cells #[.int .i64 0, .slice none 0 0] 26)).setRow hb #[.int .i64 d, .slice D m k])) := (K2.out.trans ((Chg.to_below ca).mono (by have := z2.out; omega))).trans (rowB _ (by have := z2.out; omega) #[.int .i64 d, .slice D m k])
  have Z3 := Lib.hid ((cr.block w.heap.size (by have := q.out; have := z2.out; omega) (.inl (by have := z2.out; omega))).trans ((ca.block w.heap.size (by have := z2.out; omega) (.inr (Nat.zero_le _))).trans Z2.out))
  have R3 := Lib.hid (((hrd.chg ca (.inr (Nat.zero_le _))).chg cr (.inl (by omega))).more (Nat.le_refl _) (show w2.heap.size ≤ ((w2.alloc (.cells #[.int .i64 0, .slice none 0 0] 26)).setRow hb #[.int .i64 d, .slice D m k]).heap.size by rw [setRow_size]; have := q.out; omega))
  have hg1 := Lib.hid (show g + 1 ≤ w1.heap.size from S1.out.lt)
  have hz := Lib.hid (show g < hb by have := hg2.out; omega)
  have hz3 := Lib.hid (show hb < ((w2.alloc (.cells #[.int .i64 0, .slice none 0 0] 26)).setRow hb #[.int .i64 d, .slice D m k]).heap.size by rw [setRow_size]; have := q.out; omega)
  have HHB := Lib.hid hhb
  have hzw := Lib.hid (show w.heap.size + 1 ≤ w1.heap.size from z1.out)
  clear hrd c2 s2 hm' hcap' hnil' S1 K1 Z1 S2 K2 Z2 ca cr hhb
  go_wp2_with (rw [← HHB.out]; refine wpList_store_row rfl 26 _ _ rfl hb #[.int .i64 d, .slice D m k] rfl rfl 26 aucZero HB0.out (auc_info d D m k) rfl (auc_cells d D m k) ?_)
  generalize (w2.alloc (.cells #[.int .i64 0, .slice none 0 0] 26)).setRow hb #[.int .i64 d, .slice D m k] = W3 at B3 S3 K3 Z3 R3 hz3 ⊢
  clear HHB HB0 q
  have B3d : Hid (ABox W3.drew hb d D m k) := B3
  have S3d := Lib.hid (S3.out.still (Chg.drewN W3 1 0 0))
  go_wp2_with fail
  refine wp_region_held_drew (S := fun _ => True) (by kernel_rfl) trivial (fun hHeld => ?_)
  refine take_slotC (i := 1) (d := some 11) (v := .pointer (some ⟨g, 0, none⟩)) rfl (by kernel_rfl) (by kernel_rfl) (by kernel_rfl) (by kernel_rfl) (fun _ _ _ h => h) (.inl ⟨by kernel_rfl, fun V hV => by go_simp⟩) hHeld ?_
  try simp only [Act.put, List.setIfInBounds_toArray, List.set_cons_zero, List.set_cons_succ]
  refine wpAnyH_ready (rs := [0, 2]) (by kernel_rfl) (by simp) (AllReadyH.cons (i := 0) rfl (fun K' hK' => ?n_0) (AllReadyH.cons (i := 2) rfl (fun K' hK' => ?n_2) AllReadyH.nil))
  case' n_0 =>
    refine step_of_wp7 rfl (wp_load_row 26 _ rfl hb rfl 26 #[.int .i64 d, .slice D m k] (0, 0) _ B3d.out Try.underlying26 rfl (auc_info d D m k) ?_)
    refine hK'.out _ _ trivial (fun hHeld => ?_)
    clear hK'
    refine wpAnyH_ready (rs := [2]) (by kernel_rfl) (by simp) (AllReadyH.cons (i := 2) rfl (fun K' hK' => ?n0_2) AllReadyH.nil)
    case' n0_2 =>
      go_simp
      refine (l06Draw g _ S3d.out).mono ?_
      rintro e w5 ⟨x, rfl, hx, s5, c5⟩
      have k5 := Lib.hid (((Chg.drewN W3 1 0 0).any g (g + 1)).trans c5)
      have B5 : Hid (ABox w5 hb d D m k) := Lib.hid (ABox.far B3.out k5.out (by have := hz.out; omega))
      have K5 := Lib.hid (below_draw K3.out k5.out (by have := hgw.out; omega) S3.out.lt)
      have Z5 := Lib.hid ((k5.out.block w.heap.size (by have := hgw.out; have := hz.out; have := hz3.out; omega) (.inl (by have := hgw.out; omega))).trans Z3.out)
      have R5 := Lib.hid ((R3.out.chg k5.out (.inr (by have := hg1.out; omega))).more (Nat.le_refl _) k5.out.size)
      have hx2 := Lib.hid hx
      clear s5 c5
      refine hK'.out _ _ trivial (fun hHeld => ?_)
      clear hK'
      refine wpAnyH_ready (rs := [3]) (by kernel_rfl) (by simp) (AllReadyH.cons (i := 3) rfl (fun K' hK' => ?n02_3) AllReadyH.nil)
      case' n02_3 =>
        have HSE := Lib.hid (setRow_heap w5 w.heap.size _ #[.int .i64 d, .slice D m k] _ _ Z5.out)
        have KE := Lib.hid (K5.out.trans (rowB w5 (Nat.le_refl w.heap.size) #[.int .i64 d, .slice D m k]))
        have RE := Lib.hid (show Rd (w5.setRow w.heap.size #[.int .i64 d, .slice D m k]) w.heap.size (w5.setRow w.heap.size #[.int .i64 d, .slice D m k]).heap.size D m cs from (R5.out.chg (chg_row w5 w.heap.size #[.int .i64 d, .slice D m k]) (.inr (by have := hzw.out; omega))).more (by have := hzw.out; omega) (by rw [setRow_size]; exact Nat.le_refl _))
        refine step_of_wp7 rfl (wp_store_row 26 _ _ rfl w.heap.size #[.int .i64 d, .slice D m k] rfl rfl 26 _ Z5.out (auc_info d D m k) rfl (auc_cells d D m k) ?_)
        generalize w5.setRow w.heap.size #[.int .i64 d, .slice D m k] = V9 at HSE KE RE ⊢
        refine hK'.out _ _ trivial (fun hHeld => ?_)
        clear hK'
        refine take_slotC (i := 4) (d := some 3) (v := .int .i64 x) rfl (by kernel_rfl) (by kernel_rfl) (by kernel_rfl) (by kernel_rfl) (fun _ _ _ h => h) (.inl ⟨by kernel_rfl, fun V hV => by go_simp⟩) hHeld ?_
        refine wpAnyH_done (by kernel_rfl) ?_ _
        go_wp2_with fail
        refine bodyPost_ret (v := .tuple #[.agg #[.int .i64 d, .slice D m k], .int .i64 x]) (results_row_tmp Try.results14 _ _ w.heap.size 26 #[.int .i64 d, .slice D m k] (0, 0) _ _ rfl rfl HSE.out Try.underlying26 rfl (auc_info d D m k)) rfl ?_
        exact ⟨d, D, m, k, cs, x, rfl, hm.out, hcap.out, hnil.out, RE.out, KE.out⟩
  case' n_2 =>
    go_simp
    refine (l06Draw g _ S3d.out).mono ?_
    rintro e w5 ⟨x, rfl, hx, s5, c5⟩
    have k5 := Lib.hid (((Chg.drewN W3 1 0 0).any g (g + 1)).trans c5)
    have B5 : Hid (ABox w5 hb d D m k) := Lib.hid (ABox.far B3.out k5.out (by have := hz.out; omega))
    have K5 := Lib.hid (below_draw K3.out k5.out (by have := hgw.out; omega) S3.out.lt)
    have Z5 := Lib.hid ((k5.out.block w.heap.size (by have := hgw.out; have := hz.out; have := hz3.out; omega) (.inl (by have := hgw.out; omega))).trans Z3.out)
    have R5 := Lib.hid ((R3.out.chg k5.out (.inr (by have := hg1.out; omega))).more (Nat.le_refl _) k5.out.size)
    have hx2 := Lib.hid hx
    clear s5 c5
    refine hK'.out _ _ trivial (fun hHeld => ?_)
    clear hK'
    refine wpAnyH_ready (rs := [0]) (by kernel_rfl) (by simp) (AllReadyH.cons (i := 0) rfl (fun K' hK' => ?n2_0) AllReadyH.nil)
    case' n2_0 =>
      refine step_of_wp7 rfl (wp_load_row 26 _ rfl hb rfl 26 #[.int .i64 d, .slice D m k] (0, 0) _ B5.out Try.underlying26 rfl (auc_info d D m k) ?_)
      refine hK'.out _ _ trivial (fun hHeld => ?_)
      clear hK'
      refine wpAnyH_ready (rs := [3]) (by kernel_rfl) (by simp) (AllReadyH.cons (i := 3) rfl (fun K' hK' => ?n20_3) AllReadyH.nil)
      case' n20_3 =>
        have HSE := Lib.hid (setRow_heap w5 w.heap.size _ #[.int .i64 d, .slice D m k] _ _ Z5.out)
        have KE := Lib.hid (K5.out.trans (rowB w5 (Nat.le_refl w.heap.size) #[.int .i64 d, .slice D m k]))
        have RE := Lib.hid (show Rd (w5.setRow w.heap.size #[.int .i64 d, .slice D m k]) w.heap.size (w5.setRow w.heap.size #[.int .i64 d, .slice D m k]).heap.size D m cs from (R5.out.chg (chg_row w5 w.heap.size #[.int .i64 d, .slice D m k]) (.inr (by have := hzw.out; omega))).more (by have := hzw.out; omega) (by rw [setRow_size]; exact Nat.le_refl _))
        refine step_of_wp7 rfl (wp_store_row 26 _ _ rfl w.heap.size #[.int .i64 d, .slice D m k] rfl rfl 26 _ Z5.out (auc_info d D m k) rfl (auc_cells d D m k) ?_)
        generalize w5.setRow w.heap.size #[.int .i64 d, .slice D m k] = V9 at HSE KE RE ⊢
        refine hK'.out _ _ trivial (fun hHeld => ?_)
        clear hK'
        refine take_slotC (i := 4) (d := some 3) (v := .int .i64 x) rfl (by kernel_rfl) (by kernel_rfl) (by kernel_rfl) (by kernel_rfl) (fun _ _ _ h => h) (.inl ⟨by kernel_rfl, fun V hV => by go_simp⟩) hHeld ?_
        refine wpAnyH_done (by kernel_rfl) ?_ _
        go_wp2_with fail
        refine bodyPost_ret (v := .tuple #[.agg #[.int .i64 d, .slice D m k], .int .i64 x]) (results_row_tmp Try.results14 _ _ w.heap.size 26 #[.int .i64 d, .slice D m k] (0, 0) _ _ rfl rfl HSE.out Try.underlying26 rfl (auc_info d D m k)) rfl ?_
        exact ⟨d, D, m, k, cs, x, rfl, hm.out, hcap.out, hnil.out, RE.out, KE.out⟩

/-- Whether a list holds a number. -/
theorem take_has {zs : List Int} {j : Nat} {x : Int} (h : j < zs.length) : (zs.take (j + 1)).contains x = ((zs.take j).contains x || zs.getD j 0 == x) := by
  rw [List.take_add_one, List.getElem?_eq_getElem h, List.getD_eq_getElem?_getD, List.getElem?_eq_getElem h]
  simp only [Option.toList_some, Option.getD_some, List.contains_eq_any_beq, List.any_append, List.any_cons, List.any_nil, Bool.or_false]
  congr 1
  exact BEq.comm
set_option maxHeartbeats 1600000 in
theorem w5Has (A : Option Addr) (n c : Nat) (zs : List Int) (x : Int) (w : World) (h1 : Rp w A n zs) (hl : zs.length = n) (hn : n ≤ 1048576) :
    Calls Try.prog 19 #[.slice A n c, .int .i64 x] w fun e w' => e = .returned (.bool (zs.contains x)) ∧ Chg w w' 0 0 := by
  go_enter Try.func19, Try.ntmps19
  go_wp2
  go_loopw [5] (fun i wr => ∃ j : Nat, j ≤ n ∧ i = .int .i64 j ∧ Hid (Chg w wr 0 0) ∧ Hid ((zs.take j).contains x = false)) (fun i _ => n - (intOf i).toNat)
  case atStart => exact ⟨0, Nat.zero_le _, rfl, Chg.refl _ _ _, by show _ = _; simp⟩
  case round =>
    obtain ⟨j, hj, rfl, hch, hno⟩ := hrel
    by_cases hlt : j < n
    · obtain ⟨b, off, rfl, hc⟩ := (h1.still hch.out) (by omega)
      have q1 := hc j hlt
      have hjl : (j : Int) < (n : Int) := by omega
      have hch2 := Lib.hid (hch.out.trans (Chg.drewN wr 1 0 0))
      have ht := take_has (zs := zs) (x := x) (j := j) (by omega)
      rw [hno.out, Bool.false_or] at ht
      have hall : Hid ((zs.take (j + 1)).contains x = true → zs.contains x = true) := fun h => by
        have := List.mem_of_mem_take (List.contains_iff_mem.1 h)
        exact List.contains_iff_mem.2 this
      have HT := Lib.hid ht
      clear ht
      generalize zs.getD j 0 = z at q1 HT
      clear hc
      cases hz : (z == x)
      · have hno2 : Hid ((zs.take (j + 1)).contains x = false) := HT.out.trans hz
        clear HT hall hno
        go_wp2
        go_roundw
        all_goals first
          | exact ⟨j + 1, by omega, by go_num, hch2, hno2⟩
          | exact ⟨j + 1, by omega, by go_num, hch, hno2⟩
          | (simp [intOf]; omega)
      · have hy : Hid (zs.contains x = true) := hall.out (HT.out.trans hz)
        clear HT hall hno
        go_wp2
        go_ret
        first | exact ⟨by rw [hy.out]; rfl, hch2.out⟩ | exact ⟨by rw [hy.out]; rfl, hch.out⟩
    · obtain rfl : j = n := by omega
      have hf : Hid (zs.contains x = false) := by have := hno.out; rw [List.take_of_length_le (by omega)] at this; exact this
      go_wp2
      go_ret
      exact ⟨by rw [hf.out]; rfl, hch.out⟩

theorem u64_pos (z : Int) : 0 ≤ IntKind.u64.wrap z := by
  have h : 0 ≤ z % (2 ^ IntKind.u64.bits : Int) := Int.emod_nonneg _ (by decide)
  unfold IntKind.wrap
  have hs : IntKind.u64.signed = false := rfl
  simp only [hs, Bool.false_and, Bool.false_eq_true, if_false]
  exact h
set_option maxHeartbeats 1600000 in
theorem w5Pick (A : Option Addr) (n c : Nat) (k m : Int) (w : World) (h : Bytes w A n) (hn : n ≤ 1048576) (hm : 0 < m ∧ m ≤ 1000) :
    Calls Try.prog 28 #[.slice A n c, .int .i64 k, .int .i64 m] w fun e w' => ∃ r : Int, e = .returned (.int .i64 r) ∧ 0 ≤ r ∧ r < m ∧ Chg w w' 0 0 := by
  go_enter Try.func28, Try.ntmps28
  go_wp2
  generalize IntKind.u64.wrap (1469598103934665603 + IntKind.u64.wrap (IntKind.u64.wrap k * 7919)) = y0
  generalize IntKind.u64.wrap (IntKind.u64.wrap k * 7919) = y1
  generalize IntKind.u64.wrap k = y2
  go_loopw [7, 8] (fun u i wr => ∃ (j : Nat) (y : Int), j ≤ n ∧ i = .int .i64 j ∧ u = .int .u64 y ∧ Hid (Chg w wr 0 0)) (fun _ i _ => n - (intOf i).toNat)
  case atStart => exact ⟨0, _, Nat.zero_le _, rfl, rfl, Chg.refl _ _ _⟩
  case round =>
    obtain ⟨j, y, hj, rfl, rfl, hch⟩ := hrel
    by_cases hlt : j < n
    · obtain ⟨b, off, rfl, hbl, hc⟩ := h (by omega)
      obtain ⟨x, x0, x1, hx⟩ := hc j hlt
      have hx' : wr.cell? ⟨b, off + j, none⟩ = some (.int .u8 x) := by rw [World.cell?_of_block (hch.out.block b hbl (.inr (Nat.zero_le _)))]; exact hx
      have hjl : (j : Int) < (n : Int) := by omega
      have hch2 := Lib.hid (hch.out.trans (Chg.drewN wr 1 0 0))
      clear hc hx
      go_wp2
      go_roundw
      all_goals first
        | exact ⟨j + 1, _, by omega, by go_num, rfl, hch⟩
        | exact ⟨j + 1, _, by omega, by go_num, rfl, hch2⟩
        | (simp [intOf]; omega)
    · obtain rfl : j = n := by omega
      go_wp2
      go_ret
      have hX : 0 ≤ bits BinOp.xor IntKind.u64 y (y / 536870912) := u64_pos _
      generalize bits BinOp.xor IntKind.u64 y (y / 536870912) = X at hX
      have h1 : 0 ≤ X.tmod 1000003 ∧ X.tmod 1000003 < 1000003 := ⟨Int.tmod_nonneg _ hX, Int.tmod_lt_of_pos _ (by omega)⟩
      generalize X.tmod 1000003 = Y at h1
      have h2 : wrap64 Y = Y := by unfold wrap64; omega
      exact ⟨(wrap64 Y).tmod m, rfl, by rw [h2]; exact Int.tmod_nonneg _ h1.1, Int.tmod_lt_of_pos _ hm.1, hch.out⟩
end Go.Proofs.Ytnkbcmkngghnoaa.Lib1
