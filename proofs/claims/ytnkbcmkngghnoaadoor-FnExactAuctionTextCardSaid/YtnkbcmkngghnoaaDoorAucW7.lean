/- Chapter 7: the model's ReadAuction. (Written by wip/gen7w.py.) -/
import Derived.Test.YtnkbcmkngghnoaaDoorAucQ7
namespace Go.Proofs.YtnkbcmkngghnoaaDoor.Lib1
open Go.RowKit
set_option maxRecDepth 100000

/-- An auction and a bool are handed back, the auction in memory of the call's own. -/
def RetAB (w : World) (d : Int) (zs : List Int) (b : Bool) (e : Ending) (w' : World) : Prop := ∃ v, e = .returned (.tuple #[.agg #[.int .i64 d, v], .bool b]) ∧ OwnV w' w.heap.size v zs ∧ Below w.heap.size w w'
theorem seat_word (t0 : ByteArray) (k : Int) : (t0.toList == (seatT k ++ ⟨#[58]⟩).toList) = decide (toL t0 = [seatB k, 58]) := by
  rw [ByteArray.toList_eq, ByteArray.toList_eq, app_data]
  have e : (seatT k).data.toList ++ (ByteArray.mk #[58]).data.toList = [seatB k, 58] := rfl
  rw [e]
  unfold toL
  cases h : t0.data.toList == [seatB k, 58]
  · have : ¬ t0.data.toList = [seatB k, 58] := by simpa using h
    exact (decide_eq_false this).symm
  · have : t0.data.toList = [seatB k, 58] := by simpa using h
    exact (decide_eq_true this).symm
theorem same_text (a b : ByteArray) : (a.toList == b.toList) = decide (a = b) := by
  rw [ByteArray.toList_eq, ByteArray.toList_eq]
  cases h : a.data.toList == b.data.toList
  · have hn : ¬ a.data.toList = b.data.toList := by simpa using h
    exact (decide_eq_false (fun e => hn (by rw [e]))).symm
  · have hy : a.data.toList = b.data.toList := by simpa using h
    exact (decide_eq_true (toL_inj hy)).symm
theorem no_text (s : ByteArray) : s.toList.isEmpty = decide (s = ⟨#[]⟩) := by
  rw [ByteArray.toList_eq]
  cases h : s.data.toList.isEmpty
  · have hn : ¬ s.data.toList = [] := by simpa using h
    exact (decide_eq_false (fun e => hn (by rw [e]))).symm
  · have hy : s.data.toList = [] := by simpa using h
    exact (decide_eq_true (toL_inj (show toL s = toL ⟨#[]⟩ from hy))).symm

set_option maxHeartbeats 8000000 in
theorem spec_ReadAuction (s : ByteArray) (w : World) (hs0 : s.size ≤ 1048576) :
    Calls Tryd.prog 21 #[.string s] w (RetAB w (rdA s).1 (rdA s).2.1 (rdA s).2.2) := by
  have HZ0 := Lib.hid (heap_alloc_new w (.cells aucZero 26))
  have KW0 := Lib.hid ((Below.refl w.heap.size w).alloc (Nat.le_refl _) (.cells aucZero 26))
  have sz0 := Lib.hid (show (w.alloc (.cells aucZero 26)).heap.size = w.heap.size + 1 by simp)
  have HZ0 : Hid ((w.alloc (.cells #[.int .i64 0, .slice none 0 0] 26)).heap[w.heap.size]? = some (.cells aucZero 26 (0, 0))) := HZ0.out
  have KW0 : Hid (Below w.heap.size w (w.alloc (.cells #[.int .i64 0, .slice none 0 0] 26))) := KW0.out
  have sz0 : Hid ((w.alloc (.cells #[.int .i64 0, .slice none 0 0] 26)).heap.size = w.heap.size + 1) := sz0.out
  go_enter Tryd.func21, Tryd.ntmps21
  go_wp2_with fail
  generalize w.alloc (.cells #[.int .i64 0, .slice none 0 0] 26) = W0 at HZ0 KW0 sz0 ⊢
  refine (l07Words s _ hs0).mono ?_
  rintro e w2 ⟨v, ts, rfl, ov, hts, hsm, hnt, b2⟩
  have HTS := Lib.hid hts
  have HSM := Lib.hid hsm
  have hpos : 0 < ts.length := by
    rcases Nat.eq_zero_or_pos ts.length with q | q
    · have e0 : ts = [] := List.eq_nil_of_length_eq_zero q
      rw [e0] at hts
      exact absurd hts.symm (splitW_ne _)
    · exact q
  obtain ⟨A0, cw, rfl, hform⟩ := ov.form
  obtain ⟨bw, rfl, hbw0, hbw1, hcw⟩ := hform hpos
  have HCW := Lib.hid hcw
  have hZ2 := Lib.hid ((b2.block w.heap.size (by have := sz0.out; omega)).trans HZ0.out)
  have KW2 := Lib.hid (KW0.out.trans (b2.mono (by have := sz0.out; omega)))
  have sz2 := Lib.hid (show w.heap.size + 1 ≤ w2.heap.size by have := b2.size; have := sz0.out; omega)
  have hbg : w.heap.size < bw := by have := sz0.out; omega
  clear hts hsm ov hform hcw b2 HZ0 KW0 sz0

  have HB0 := Lib.hid (heap_alloc_new w2 (.cells aucZero 26))
  have HB0 : Hid ((w2.alloc (.cells #[.int .i64 0, .slice none 0 0] 26)).heap[w2.heap.size]? = some (.cells aucZero 26 (0, 0))) := HB0.out
  have HB1 := Lib.hid (setRow_heap (w2.alloc (.cells #[.int .i64 0, .slice none 0 0] 26)) w2.heap.size _ #[.int .i64 (-1), .slice none 0 0] _ _ HB0.out)
  have K3 := Lib.hid (((Below.refl w2.heap.size w2).alloc (Nat.le_refl _) (.cells #[.int .i64 0, .slice none 0 0] 26)).trans (rowB (w2.alloc (.cells #[.int .i64 0, .slice none 0 0] 26)) (Nat.le_refl w2.heap.size) #[.int .i64 (-1), .slice none 0 0]))
  have sz3 := Lib.hid (show ((w2.alloc (.cells #[.int .i64 0, .slice none 0 0] 26)).setRow w2.heap.size #[.int .i64 (-1), .slice none 0 0]).heap.size = w2.heap.size + 1 by rw [setRow_size]; simp)
  generalize hN : ts.length = N at hpos hnt HCW ⊢
  have HN := Lib.hid hN
  clear hN
  go_wp2_with (refine wpList_store_row rfl 26 _ _ rfl w2.heap.size #[.int .i64 (-1), .slice none 0 0] rfl rfl 26 aucZero HB0.out (auc_info (-1) none 0 0) rfl (auc_cells (-1) none 0 0) ?_)
  generalize (w2.alloc (.cells #[.int .i64 0, .slice none 0 0] 26)).setRow w2.heap.size #[.int .i64 (-1), .slice none 0 0] = W3 at HB1 K3 sz3 ⊢
  obtain ⟨t0, ht0⟩ : ∃ t0, t0 = ts.getD 0 ByteArray.empty := ⟨_, rfl⟩
  have HT0 := Lib.hid ht0
  have hc3 := Lib.hid (fun (j : Nat) (hj : j < N) => (show W3.cell? ⟨bw, j, none⟩ = some (.string (ts.getD j ByteArray.empty)) by rw [World.cell?_of_block (K3.out.block bw hbw1)]; exact HCW.out j hj))
  clear ht0 HB0 HCW
  obtain ⟨g2, hg2⟩ : ∃ g2, g2 = w2.heap.size := ⟨_, rfl⟩
  rw [← hg2] at HB1 K3 sz3 hbw1 sz2 ⊢
  clear hg2
  have HZ3 := Lib.hid ((K3.out.block w.heap.size (by have := sz2.out; omega)).trans hZ2.out)
  have KW3 := Lib.hid (KW2.out.trans (K3.out.mono (by have := sz2.out; omega)))
  clear hZ2 KW2 K3
  have npos : (0 : Int) < (N : Int) := by omega
  go_loopw [6] (fun i wr => ∃ k : Nat, k ≤ 4 ∧ i = .int .i64 k ∧ Hid (wr.heap[g2]? = some (.cells #[.int .i64 (seatOf (toL t0) k), .slice none 0 0] 26 (0, 0))) ∧ Hid (Chg W3 wr g2 (g2 + 1))) (fun i _ => 4 - (intOf i).toNat)
  case atStart => exact ⟨0, by omega, rfl, HB1, Chg.refl _ _ _⟩
  case round =>
    obtain ⟨k, hk, rfl, hbx, hch⟩ := hrel
    by_cases hlt : k < 4
    · have hkl : (k : Int) < 4 := by omega
      have k0 : 0 ≤ (k : Int) := by omega
      have hw0 : wr.drew.cell? ⟨bw, 0, none⟩ = some (.string t0) := by
        rw [HT0.out]
        show wr.cell? _ = _
        rw [World.cell?_of_block (hch.out.block bw (by have := sz3.out; omega) (.inl hbw1))]
        exact hc3.out 0 (by omega)
      have r0 := fun V => run_string_add_sum (P := Tryd.prog) (w := V) (seatT (k : Int)) ⟨#[58]⟩ (by have : (seatT (k : Int)).size = 1 := rfl; rw [this]; decide)
      have hs1 : (seatT (k : Int)).size = 1 := rfl
      have hso : Hid (seatOf (toL t0) (k + 1) = if toL t0 = [seatB (k : Int), 58] then (k : Int) else seatOf (toL t0) k) := rfl
      have hsw := seat_word t0 (k : Int)
      have hch1 := Lib.hid (hch.out.trans ((Chg.drewN wr 1 0 0).any g2 (g2 + 1)))
      by_cases hp : toL t0 = [seatB (k : Int), 58]
      · rw [decide_eq_true hp] at hsw
        have hso' : Hid (seatOf (toL t0) (k + 1) = (k : Int)) := by show _ = _; rw [hso.out, if_pos hp]
        have f0 : wr.drew.frozen? ⟨g2, 0, none⟩ = false := by show wr.frozen? ⟨g2, 0, none⟩ = false; simp [World.frozen?, hbx.out]
        have q0 : wr.drew.cell? ⟨g2, 0, none⟩ = some (.int .i64 (seatOf (toL t0) k)) := by show wr.cell? _ = _; rw [cell_of_row wr g2 0 _ _ _ hbx.out]; rfl
        have hbx2 := Lib.hid (block_set (w := wr.drew) (g := g2) (i := 0) (t := 26) hbx.out (.int .i64 (k : Int)))
        have hch2 := Lib.hid (hch1.out.trans (chg_set wr.drew g2 0 (.int .i64 (k : Int))))
        clear hp hso
        generalize seatOf (toL t0) k = sk at hbx q0 hbx2
        go_wp2_with fail
        refine wp_region_held_drew (S := fun V => V.cell? ⟨bw, 0, none⟩ = some (.string t0)) (by kernel_rfl) hw0 (fun hHeld => ?_)
        refine take_slotC (i := 0) (d := some 18) (v := .slice (some ⟨bw, 0, none⟩) N cw) rfl (by kernel_rfl) (by kernel_rfl) (by kernel_rfl) (by kernel_rfl) (fun _ _ _ h => h) (.inl ⟨by kernel_rfl, fun V hV => by go_simp⟩) hHeld ?_
        try simp only [Act.put, List.setIfInBounds_toArray, List.set_cons_zero, List.set_cons_succ]
        refine take_slotC (i := 1) (d := some 19) (v := .pointer (some ⟨bw, 0, none⟩)) rfl (by kernel_rfl) (by kernel_rfl) (by kernel_rfl) (by kernel_rfl) (fun _ _ _ h => h) (.inl ⟨by kernel_rfl, fun V hV => by go_simp⟩) hHeld ?_
        try simp only [Act.put, List.setIfInBounds_toArray, List.set_cons_zero, List.set_cons_succ]
        refine take_slotC (i := 2) (d := some 20) (v := .string t0) rfl (by kernel_rfl) (by kernel_rfl) (by kernel_rfl) (by kernel_rfl) (fun _ _ _ h => h) (.inl ⟨by kernel_rfl, fun V hV => by go_simp⟩) hHeld ?_
        try simp only [Act.put, List.setIfInBounds_toArray, List.set_cons_zero, List.set_cons_succ]
        refine take_slotC (i := 3) (d := some 21) (v := .int .i64 (k : Int)) rfl (by kernel_rfl) (by kernel_rfl) (by kernel_rfl) (by kernel_rfl) (fun _ _ _ h => h) (.inl ⟨by kernel_rfl, fun V hV => by go_simp⟩) hHeld ?_
        try simp only [Act.put, List.setIfInBounds_toArray, List.set_cons_zero, List.set_cons_succ]
        refine wpAnyH_ready (rs := [4]) (by kernel_rfl) (by simp) (AllReadyH.cons (i := 4) rfl (fun K' hK' => ?_) AllReadyH.nil)
        go_simp
        refine (l07Seat (k : Int) _ (by omega) (by omega)).mono ?_
        rintro e w' ⟨rfl, rfl⟩
        refine hK'.out _ _ hw0 (fun hHeld => ?_)
        clear hK'
        refine take_slotC (i := 5) (d := some 23) (v := .string (seatT (k : Int) ++ ⟨#[58]⟩)) rfl (by kernel_rfl) (by kernel_rfl) (by kernel_rfl) (by kernel_rfl) (fun _ _ _ h => h) (.inl ⟨by kernel_rfl, fun V hV => by go_simp⟩) hHeld ?_
        try simp only [Act.put, List.setIfInBounds_toArray, List.set_cons_zero, List.set_cons_succ]
        refine take_slotC (i := 6) (d := some 24) (v := .bool true) rfl (by kernel_rfl) (by kernel_rfl) (by kernel_rfl) (by kernel_rfl) (fun _ _ _ h => h) (.inl ⟨by kernel_rfl, fun V hV => by go_simp⟩) hHeld ?_
        try simp only [Act.put, List.setIfInBounds_toArray, List.set_cons_zero, List.set_cons_succ]
        refine wpAnyH_done (by kernel_rfl) ?_ _
        go_wp2_with fail
        go_roundw
        case rel => exact ⟨k + 1, by omega, by go_num, by rw [hso'.out]; exact hbx2, hch2⟩
        case measure => simp [intOf]; omega
      · rw [decide_eq_false hp] at hsw
        have hso' : Hid (seatOf (toL t0) (k + 1) = seatOf (toL t0) k) := by show _ = _; rw [hso.out, if_neg hp]
        clear hp hso
        go_wp2_with fail
        refine wp_region_held_drew (S := fun V => V.cell? ⟨bw, 0, none⟩ = some (.string t0)) (by kernel_rfl) hw0 (fun hHeld => ?_)
        refine take_slotC (i := 0) (d := some 18) (v := .slice (some ⟨bw, 0, none⟩) N cw) rfl (by kernel_rfl) (by kernel_rfl) (by kernel_rfl) (by kernel_rfl) (fun _ _ _ h => h) (.inl ⟨by kernel_rfl, fun V hV => by go_simp⟩) hHeld ?_
        try simp only [Act.put, List.setIfInBounds_toArray, List.set_cons_zero, List.set_cons_succ]
        refine take_slotC (i := 1) (d := some 19) (v := .pointer (some ⟨bw, 0, none⟩)) rfl (by kernel_rfl) (by kernel_rfl) (by kernel_rfl) (by kernel_rfl) (fun _ _ _ h => h) (.inl ⟨by kernel_rfl, fun V hV => by go_simp⟩) hHeld ?_
        try simp only [Act.put, List.setIfInBounds_toArray, List.set_cons_zero, List.set_cons_succ]
        refine take_slotC (i := 2) (d := some 20) (v := .string t0) rfl (by kernel_rfl) (by kernel_rfl) (by kernel_rfl) (by kernel_rfl) (fun _ _ _ h => h) (.inl ⟨by kernel_rfl, fun V hV => by go_simp⟩) hHeld ?_
        try simp only [Act.put, List.setIfInBounds_toArray, List.set_cons_zero, List.set_cons_succ]
        refine take_slotC (i := 3) (d := some 21) (v := .int .i64 (k : Int)) rfl (by kernel_rfl) (by kernel_rfl) (by kernel_rfl) (by kernel_rfl) (fun _ _ _ h => h) (.inl ⟨by kernel_rfl, fun V hV => by go_simp⟩) hHeld ?_
        try simp only [Act.put, List.setIfInBounds_toArray, List.set_cons_zero, List.set_cons_succ]
        refine wpAnyH_ready (rs := [4]) (by kernel_rfl) (by simp) (AllReadyH.cons (i := 4) rfl (fun K' hK' => ?_) AllReadyH.nil)
        go_simp
        refine (l07Seat (k : Int) _ (by omega) (by omega)).mono ?_
        rintro e w' ⟨rfl, rfl⟩
        refine hK'.out _ _ hw0 (fun hHeld => ?_)
        clear hK'
        refine take_slotC (i := 5) (d := some 23) (v := .string (seatT (k : Int) ++ ⟨#[58]⟩)) rfl (by kernel_rfl) (by kernel_rfl) (by kernel_rfl) (by kernel_rfl) (fun _ _ _ h => h) (.inl ⟨by kernel_rfl, fun V hV => by go_simp⟩) hHeld ?_
        try simp only [Act.put, List.setIfInBounds_toArray, List.set_cons_zero, List.set_cons_succ]
        refine take_slotC (i := 6) (d := some 24) (v := .bool false) rfl (by kernel_rfl) (by kernel_rfl) (by kernel_rfl) (by kernel_rfl) (fun _ _ _ h => h) (.inl ⟨by kernel_rfl, fun V hV => by go_simp⟩) hHeld ?_
        try simp only [Act.put, List.setIfInBounds_toArray, List.set_cons_zero, List.set_cons_succ]
        refine wpAnyH_done (by kernel_rfl) ?_ _
        go_wp2_with fail
        go_roundw
        case rel => exact ⟨k + 1, by omega, by go_num, by rw [hso'.out]; exact hbx, hch1⟩
        case measure => simp [intOf]; omega
    · obtain rfl : k = 4 := by omega
      obtain ⟨d, hd⟩ : ∃ d, d = seatOf (toL t0) 4 := ⟨_, rfl⟩
      rw [← hd] at hbx
      have HD := Lib.hid hd
      clear hd HB1
      have wsz := Lib.hid (show g2 + 1 ≤ wr.heap.size by have := hch.out.size; have := sz3.out; omega)
      have hcr := Lib.hid (fun (j : Nat) (hj : j < N) => (show wr.cell? ⟨bw, j, none⟩ = some (.string (ts.getD j ByteArray.empty)) by rw [World.cell?_of_block (hch.out.block bw (by have := sz3.out; omega) (.inl hbw1))]; exact hc3.out j hj))
      have HZr := Lib.hid ((hch.out.block w.heap.size (by have := sz3.out; have := sz2.out; omega) (.inl (by have := sz2.out; omega))).trans HZ3.out)
      have KWr := Lib.hid (Chg.above KW3.out hch.out (by have := sz3.out; have := sz2.out; omega) (.inl (by have := sz2.out; omega)))
      have OV0 := Lib.hid (OwnV.made wr (base := wr.heap.size) (Nat.le_refl _))
      have K0 := Lib.hid ((Below.refl wr.heap.size wr).alloc (Nat.le_refl _) (.cells #[] 2))
      clear hc3 HZ3 KW3 hch hlt hk
      obtain ⟨W4, hW4⟩ : ∃ W4, W4 = wr := ⟨_, rfl⟩
      go_wp2_with fail
      subst hW4
      go_loopw [7, 8] (fun u i wr => ∃ cs : List Int, cs.length ≤ 319 ∧ cs.length + 1 ≤ N ∧ i = .int .i64 ((cs.length : Int) + 1) ∧ OwnV wr W4.heap.size u cs ∧ Hid (ReadTo ts cs) ∧ Hid (Below W4.heap.size W4 wr)) (fun _ i _ => 320 - (intOf i).toNat)
      case atStart => exact ⟨[], by simp, by simp; omega, rfl, OV0.out, (fun j hj => by simp at hj), K0.out⟩
      case round =>
        obtain ⟨cs, hc1, hc2, rfl, ho, hrd, hb⟩ := hrel
        have hbwr : bw < W4.heap.size := by have := wsz.out; omega
        have HBX := Lib.hid ((hb.out.block g2 (by have := wsz.out; omega)).trans hbx.out)
        have HZC := Lib.hid ((hb.out.block w.heap.size (by have := wsz.out; have := sz2.out; omega)).trans HZr.out)
        have KWC := Lib.hid (KWr.out.trans (hb.out.mono (by have := wsz.out; have := sz2.out; omega)))
        have hszr := hb.out.size
        obtain ⟨m, hm⟩ : ∃ m, m = cs.length := ⟨_, rfl⟩
        rw [← hm] at hc1 hc2
        have HM := Lib.hid hm
        rw [← hm]
        clear hm
        by_cases hgo : m + 1 < N ∧ m + 1 ≤ 319
        · obtain ⟨g0, g1⟩ := hgo
          have hkl : (m : Int) + 1 < (N : Int) := by omega
          have hk2 : (m : Int) + 1 ≤ 319 := by omega
          have hk3 : 0 ≤ (m : Int) + 1 := by omega
          have e1 : ((m : Int) + 1).toNat = m + 1 := by omega
          have hcell : wr.cell? ⟨bw, m + 1, none⟩ = some (.string (ts.getD (m + 1) ByteArray.empty)) := by
            rw [World.cell?_of_block (hb.out.block bw hbwr)]; exact hcr.out (m + 1) g0
          have hbad := Lib.hid (fun q => rdA_bad HTS.out (i := m) (by rw [HN.out]; exact g0) q)
          have hgood := Lib.hid (fun (c : Int) (q : rcV (ts.getD (m + 1) ByteArray.empty) = (c, true)) => ReadTo.snoc hrd.out (c := c) (by rw [← HM.out]; exact q))
          generalize ts.getD (m + 1) ByteArray.empty = T at hcell hbad hgood
          obtain ⟨cv, hcv⟩ : ∃ cv, cv = (rcV T).1 := ⟨_, rfl⟩
          obtain ⟨bv, hbv⟩ : ∃ bv, bv = (rcV T).2 := ⟨_, rfl⟩
          have HCV := Lib.hid hcv
          have HBV := Lib.hid hbv
          clear hcv hbv
          go_wp2_with fail
          refine (spec_ReadCall T _).mono ?_
          rintro e w5 ⟨rfl, c5⟩
          rw [← HCV.out, ← HBV.out]
          have KW5 := Lib.hid (KWC.out.trans (Chg.to_below c5 |>.mono (by have := wsz.out; have := sz2.out; omega)))
          have HZ5 := Lib.hid ((c5.block w.heap.size (by have := wsz.out; have := sz2.out; omega) (.inr (Nat.zero_le _))).trans HZC.out)
          have ho5 := ho.chg c5 (Nat.zero_le _)
          have hb5 := Lib.hid (hb.out.trans (Chg.to_below c5 |>.mono hszr))
          have hz5 : W4.heap.size ≤ w5.heap.size := hb5.out.size
          clear ho c5
          cases bv
          · have hr := Lib.hid (hbad.out HBV.out.symm)
            have ZS := Lib.hid (setRow_heap w5 w.heap.size _ aucZero _ _ HZ5.out)
            have KS := Lib.hid (show Below w.heap.size w (w5.setRow w.heap.size aucZero) from KW5.out.trans (rowB w5 (Nat.le_refl _) _))
            clear hgood hbad ho5
            go_wp2_with (refine wpList_store_row rfl 26 _ _ rfl w.heap.size aucZero rfl rfl 26 aucZero HZ5.out (auc_info 0 none 0 0) rfl (auc_cells 0 none 0 0) ?_)
            (try simp only [Exit.inBlock, Exit.then])
            refine bodyPost_ret (v := .tuple #[.agg aucZero, .bool false]) (results_row_tmp Tryd.results21 _ _ w.heap.size 26 aucZero (0, 0) _ _ rfl rfl ZS.out Tryd.underlying26 rfl (auc_info 0 none 0 0)) rfl ?_
            rw [hr.out]
            exact ⟨_, rfl, OwnV.nil_ _ _, KS.out⟩
          · have hrd' := Lib.hid (hgood.out cv (by rw [HCV.out, HBV.out]))
            have hlen : cs.length ≤ 1048576 := by rw [← HM.out]; omega
            have hm1 : Hid ((cs ++ [cv]).length = m + 1) := by show _ = _; rw [List.length_append, ← HM.out]; rfl
            clear hgood hbad
            go_wp2_with (at_builtin; refine wpList_push rfl (.tmp 49) (.tmp 51) rfl W4.heap.size _ cs rfl ho5 cv rfl hlen hz5 ?_; intro v6 w6 o6 b6)
            go_roundw
            case rel =>
              (repeat apply Exists.intro)
              exact ⟨⟨cs ++ [cv], by rw [hm1.out]; omega, by rw [hm1.out]; omega, by rw [hm1.out]; go_num, o6, hrd', hb5.out.trans b6⟩, rfl⟩
            case measure => simp [intOf]; omega
        · have hmin : Hid (cs.length = min (ts.length - 1) 319) := by show _ = _; rw [HN.out, ← HM.out]; omega
          obtain ⟨A, c, rfl, hcA, _, ho2⟩ := ho.form_at (n := m) HM.out.symm
          have hrp := Lib.hid (Rp.of_rd ho2.rd)
          have HO := Lib.hid ho
          clear ho ho2
          have hend := Lib.hid (rdA_end HTS.out hrd.out hmin.out)
          have f1 : wr.frozen? ⟨g2, 1, none⟩ = false := by simp [World.frozen?, HBX.out]
          have q1 : wr.cell? ⟨g2, 1, none⟩ = some (.slice none 0 0) := by rw [cell_of_row wr g2 1 _ _ _ HBX.out]; rfl
          have hbx2 : Hid ((wr.setCell ⟨g2, 1, none⟩ (.slice A m c)).heap[g2]? = some (.cells #[.int .i64 d, .slice A m c] 26 (0, 0))) := block_set (w := wr) (g := g2) (i := 1) (t := 26) HBX.out (.slice A m c)
          have cset := Lib.hid (chg_set wr g2 1 (.slice A m c))
          have KW6 := Lib.hid (Chg.above KWC.out cset.out (by have := wsz.out; have := sz2.out; omega) (.inl (by have := sz2.out; omega)))
          have HZ6 := Lib.hid ((cset.out.block w.heap.size (by have := wsz.out; have := sz2.out; omega) (.inl (by have := sz2.out; omega))).trans HZC.out)
          have HO6 := Lib.hid (HO.out.chg cset.out (by have := wsz.out; omega))
          have hrp6 : Hid (Rp (wr.setCell ⟨g2, 1, none⟩ (.slice A m c)) A m cs) := fun h0 => by
            obtain ⟨A', c', ea, _, _, ho3⟩ := HO6.out.form_at (n := m) HM.out.symm
            injection ea with ea1 ea2 ea3
            subst ea1
            exact Rp.of_rd ho3.rd h0
          have hsz6 : W4.heap.size ≤ (wr.setCell ⟨g2, 1, none⟩ (.slice A m c)).heap.size := by have := cset.out.size; omega
          have hmm : m ≤ 1048576 := by omega
          clear hrp HBX HZC KWC HO
          rw [← HM.out] at hend
          rw [← HT0.out, ← HD.out] at hend
          obtain ⟨X, hX⟩ : ∃ X, X = aucN d cs m := ⟨_, rfl⟩
          have HX := Lib.hid hX
          rw [← hX] at hend
          clear hX
          by_cases hlt : m + 1 < N
          · have hkl : (m : Int) + 1 < (N : Int) := by omega
            have hk2 : ¬ (m : Int) + 1 ≤ 319 := by omega
            clear hlt
            clear hgo
            go_wp2_with (first | (refine wpList_load_row rfl 26 _ rfl g2 rfl 26 #[.int .i64 d, .slice A m c] (0, 0) _ hbx2.out Tryd.underlying26 rfl (auc_info d A m c) ?_) | fail)
            refine (spec_AuctionText d A m c cs _ hrp6.out hmm hcA).mono ?_
            rw [← HX.out]
            rintro e w7 ⟨rfl, c7⟩
            have KW7 := Lib.hid (KW6.out.trans (Chg.to_below c7 |>.mono (by have := wsz.out; have := sz2.out; omega)))
            have HZ7 := Lib.hid ((c7.block w.heap.size (by have := wsz.out; have := sz2.out; omega) (.inr (Nat.zero_le _))).trans HZ6.out)
            have HB7 := Lib.hid ((c7.block g2 (by have := wsz.out; omega) (.inr (Nat.zero_le _))).trans hbx2.out)
            have HO7 := Lib.hid (HO6.out.chg c7 (Nat.zero_le _))
            have hz7 : W4.heap.size ≤ w7.heap.size := by have := c7.size; omega
            clear c7 hrp6
            by_cases hx : X = s
            · have hxs : (X.toList == s.toList) = true := by rw [same_text]; exact decide_eq_true hx
              by_cases hn : s = ⟨#[]⟩
              · have hxn : s.toList.isEmpty = true := by rw [no_text]; exact decide_eq_true hn
                have HC : ¬ (X = s ∧ s ≠ ⟨#[]⟩) := fun q => q.2 hn
                clear hx hn
                have hr := Lib.hid (show rdA s = (0, [], false) by rw [hend.out, if_neg HC])
                have ZS := Lib.hid (setRow_heap w7 w.heap.size _ aucZero _ _ HZ7.out)
                have KS := Lib.hid (show Below w.heap.size w (w7.setRow w.heap.size aucZero) from KW7.out.trans (rowB w7 (Nat.le_refl _) _))
                go_wp2_with (refine wpList_store_row rfl 26 _ _ rfl w.heap.size aucZero rfl rfl 26 aucZero HZ7.out (auc_info 0 none 0 0) rfl (auc_cells 0 none 0 0) ?_)
                refine bodyPost_ret (v := .tuple #[.agg aucZero, .bool false]) (results_row_tmp Tryd.results21 _ _ w.heap.size 26 aucZero (0, 0) _ _ rfl rfl ZS.out Tryd.underlying26 rfl (auc_info 0 none 0 0)) rfl ?_
                rw [hr.out]
                exact ⟨_, rfl, OwnV.nil_ _ _, KS.out⟩
              · have hxn : s.toList.isEmpty = false := by rw [no_text]; exact decide_eq_false hn
                have hr := Lib.hid (show rdA s = (d, cs, true) by rw [hend.out, if_pos ⟨hx, hn⟩])
                have ZS := Lib.hid (setRow_heap w7 w.heap.size _ #[.int .i64 d, .slice A m c] _ _ HZ7.out)
                have KS := Lib.hid (show Below w.heap.size w (w7.setRow w.heap.size #[.int .i64 d, .slice A m c]) from KW7.out.trans (rowB w7 (Nat.le_refl _) _))
                have OVf := Lib.hid (show OwnV (w7.setRow w.heap.size #[.int .i64 d, .slice A m c]) w.heap.size (.slice A m c) cs from (HO7.out.far w7 _ (by have := wsz.out; have := sz2.out; omega)).more (by have := wsz.out; have := sz2.out; omega))
                clear hx hn
                go_wp2_with (first | (refine wpList_load_row rfl 26 _ rfl g2 rfl 26 #[.int .i64 d, .slice A m c] (0, 0) _ HB7.out Tryd.underlying26 rfl (auc_info d A m c) ?_) | (refine wpList_store_row rfl 26 _ _ rfl w.heap.size #[.int .i64 d, .slice A m c] rfl rfl 26 aucZero HZ7.out (auc_info d A m c) rfl (auc_cells d A m c) ?_))
                refine bodyPost_ret (v := .tuple #[.agg #[.int .i64 d, .slice A m c], .bool true]) (results_row_tmp Tryd.results21 _ _ w.heap.size 26 #[.int .i64 d, .slice A m c] (0, 0) _ _ rfl rfl ZS.out Tryd.underlying26 rfl (auc_info d A m c)) rfl ?_
                rw [hr.out]
                exact ⟨_, rfl, OVf.out, KS.out⟩
            · have hxs : (X.toList == s.toList) = false := by rw [same_text]; exact decide_eq_false hx
              have HC : ¬ (X = s ∧ s ≠ ⟨#[]⟩) := fun q => hx q.1
              clear hx
              have hr := Lib.hid (show rdA s = (0, [], false) by rw [hend.out, if_neg HC])
              have ZS := Lib.hid (setRow_heap w7 w.heap.size _ aucZero _ _ HZ7.out)
              have KS := Lib.hid (show Below w.heap.size w (w7.setRow w.heap.size aucZero) from KW7.out.trans (rowB w7 (Nat.le_refl _) _))
              go_wp2_with (refine wpList_store_row rfl 26 _ _ rfl w.heap.size aucZero rfl rfl 26 aucZero HZ7.out (auc_info 0 none 0 0) rfl (auc_cells 0 none 0 0) ?_)
              refine bodyPost_ret (v := .tuple #[.agg aucZero, .bool false]) (results_row_tmp Tryd.results21 _ _ w.heap.size 26 aucZero (0, 0) _ _ rfl rfl ZS.out Tryd.underlying26 rfl (auc_info 0 none 0 0)) rfl ?_
              rw [hr.out]
              exact ⟨_, rfl, OwnV.nil_ _ _, KS.out⟩
          · have hkl : ¬ (m : Int) + 1 < (N : Int) := by omega
            clear hlt
            clear hgo
            go_wp2_with (first | (refine wpList_load_row rfl 26 _ rfl g2 rfl 26 #[.int .i64 d, .slice A m c] (0, 0) _ hbx2.out Tryd.underlying26 rfl (auc_info d A m c) ?_) | fail)
            refine (spec_AuctionText d A m c cs _ hrp6.out hmm hcA).mono ?_
            rw [← HX.out]
            rintro e w7 ⟨rfl, c7⟩
            have KW7 := Lib.hid (KW6.out.trans (Chg.to_below c7 |>.mono (by have := wsz.out; have := sz2.out; omega)))
            have HZ7 := Lib.hid ((c7.block w.heap.size (by have := wsz.out; have := sz2.out; omega) (.inr (Nat.zero_le _))).trans HZ6.out)
            have HB7 := Lib.hid ((c7.block g2 (by have := wsz.out; omega) (.inr (Nat.zero_le _))).trans hbx2.out)
            have HO7 := Lib.hid (HO6.out.chg c7 (Nat.zero_le _))
            have hz7 : W4.heap.size ≤ w7.heap.size := by have := c7.size; omega
            clear c7 hrp6
            by_cases hx : X = s
            · have hxs : (X.toList == s.toList) = true := by rw [same_text]; exact decide_eq_true hx
              by_cases hn : s = ⟨#[]⟩
              · have hxn : s.toList.isEmpty = true := by rw [no_text]; exact decide_eq_true hn
                have HC : ¬ (X = s ∧ s ≠ ⟨#[]⟩) := fun q => q.2 hn
                clear hx hn
                have hr := Lib.hid (show rdA s = (0, [], false) by rw [hend.out, if_neg HC])
                have ZS := Lib.hid (setRow_heap w7 w.heap.size _ aucZero _ _ HZ7.out)
                have KS := Lib.hid (show Below w.heap.size w (w7.setRow w.heap.size aucZero) from KW7.out.trans (rowB w7 (Nat.le_refl _) _))
                go_wp2_with (refine wpList_store_row rfl 26 _ _ rfl w.heap.size aucZero rfl rfl 26 aucZero HZ7.out (auc_info 0 none 0 0) rfl (auc_cells 0 none 0 0) ?_)
                refine bodyPost_ret (v := .tuple #[.agg aucZero, .bool false]) (results_row_tmp Tryd.results21 _ _ w.heap.size 26 aucZero (0, 0) _ _ rfl rfl ZS.out Tryd.underlying26 rfl (auc_info 0 none 0 0)) rfl ?_
                rw [hr.out]
                exact ⟨_, rfl, OwnV.nil_ _ _, KS.out⟩
              · have hxn : s.toList.isEmpty = false := by rw [no_text]; exact decide_eq_false hn
                have hr := Lib.hid (show rdA s = (d, cs, true) by rw [hend.out, if_pos ⟨hx, hn⟩])
                have ZS := Lib.hid (setRow_heap w7 w.heap.size _ #[.int .i64 d, .slice A m c] _ _ HZ7.out)
                have KS := Lib.hid (show Below w.heap.size w (w7.setRow w.heap.size #[.int .i64 d, .slice A m c]) from KW7.out.trans (rowB w7 (Nat.le_refl _) _))
                have OVf := Lib.hid (show OwnV (w7.setRow w.heap.size #[.int .i64 d, .slice A m c]) w.heap.size (.slice A m c) cs from (HO7.out.far w7 _ (by have := wsz.out; have := sz2.out; omega)).more (by have := wsz.out; have := sz2.out; omega))
                clear hx hn
                go_wp2_with (first | (refine wpList_load_row rfl 26 _ rfl g2 rfl 26 #[.int .i64 d, .slice A m c] (0, 0) _ HB7.out Tryd.underlying26 rfl (auc_info d A m c) ?_) | (refine wpList_store_row rfl 26 _ _ rfl w.heap.size #[.int .i64 d, .slice A m c] rfl rfl 26 aucZero HZ7.out (auc_info d A m c) rfl (auc_cells d A m c) ?_))
                refine bodyPost_ret (v := .tuple #[.agg #[.int .i64 d, .slice A m c], .bool true]) (results_row_tmp Tryd.results21 _ _ w.heap.size 26 #[.int .i64 d, .slice A m c] (0, 0) _ _ rfl rfl ZS.out Tryd.underlying26 rfl (auc_info d A m c)) rfl ?_
                rw [hr.out]
                exact ⟨_, rfl, OVf.out, KS.out⟩
            · have hxs : (X.toList == s.toList) = false := by rw [same_text]; exact decide_eq_false hx
              have HC : ¬ (X = s ∧ s ≠ ⟨#[]⟩) := fun q => hx q.1
              clear hx
              have hr := Lib.hid (show rdA s = (0, [], false) by rw [hend.out, if_neg HC])
              have ZS := Lib.hid (setRow_heap w7 w.heap.size _ aucZero _ _ HZ7.out)
              have KS := Lib.hid (show Below w.heap.size w (w7.setRow w.heap.size aucZero) from KW7.out.trans (rowB w7 (Nat.le_refl _) _))
              go_wp2_with (refine wpList_store_row rfl 26 _ _ rfl w.heap.size aucZero rfl rfl 26 aucZero HZ7.out (auc_info 0 none 0 0) rfl (auc_cells 0 none 0 0) ?_)
              refine bodyPost_ret (v := .tuple #[.agg aucZero, .bool false]) (results_row_tmp Tryd.results21 _ _ w.heap.size 26 aucZero (0, 0) _ _ rfl rfl ZS.out Tryd.underlying26 rfl (auc_info 0 none 0 0)) rfl ?_
              rw [hr.out]
              exact ⟨_, rfl, OwnV.nil_ _ _, KS.out⟩
end Go.Proofs.YtnkbcmkngghnoaaDoor.Lib1
