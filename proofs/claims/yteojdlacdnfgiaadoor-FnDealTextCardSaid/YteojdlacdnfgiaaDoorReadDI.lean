/- Chapter 3: the program's ReadDeal, over the library's Split taken by its contract. -/
import Derived.Test.YteojdlacdnfgiaaDoorReadDS
import Derived.Test.YteojdlacdnfgiaaDoorReadI
import Derived.Test.YteojdlacdnfgiaaDoorImplA
namespace Go.Proofs.YteojdlacdnfgiaaDoor.Lib1
open Go.RowKit
set_option maxRecDepth 100000

theorem splitS_len : ∀ l : List UInt8, (splitS l).length ≤ l.length + 1
  | [] => by simp [splitS]
  | b :: l => by
    have ih := splitS_len l
    rw [splitS]
    by_cases hb : b = 32
    · rw [if_pos hb]; simp; omega
    · rw [if_neg hb]
      match h : splitS l with
      | [] => simp
      | p :: ps => rw [h] at ih; simp at ih ⊢; omega
theorem splitS_short : ∀ (l p : List UInt8), p ∈ splitS l → p.length ≤ l.length
  | [], p, h => by simp [splitS] at h; simp [h]
  | b :: l, p, h => by
    have ih := splitS_short l
    rw [splitS] at h
    by_cases hb : b = 32
    · rw [if_pos hb] at h
      rcases List.mem_cons.1 h with rfl | h
      · simp
      · have := ih p h; simp; omega
    · rw [if_neg hb] at h
      match e : splitS l with
      | [] => exact absurd e (splitS_ne l)
      | q :: qs =>
        rw [e] at h
        rcases List.mem_cons.1 h with rfl | h
        · have := ih q (by rw [e]; simp); simp; omega
        · have := ih p (by rw [e]; simp [h]); simp; omega

theorem cutPrefix_yes (s : ByteArray) (w : World) (h2 : 2 ≤ s.size) (h : s.extract 0 2 = ⟨#[78, 58]⟩) :
    Calls Tryd.prog 46 #[.string s, .string ⟨#[78, 58]⟩] w fun e w' => e = .returned (.tuple #[.string (s.extract 2 s.size), .bool true]) ∧ w = w' := by
  have h2I : (2 : Int) ≤ (s.size : Int) := by omega
  have hz : (ByteArray.mk #[78, 58]).size = 2 := rfl
  go_enter Tryd.func46, Tryd.ntmps46
  go_wp2
  go_ret2
  exact ⟨rfl, rfl⟩
theorem cutPrefix_no (s : ByteArray) (w : World) (h : ¬ (2 ≤ s.size ∧ s.extract 0 2 = ⟨#[78, 58]⟩)) :
    Calls Tryd.prog 46 #[.string s, .string ⟨#[78, 58]⟩] w fun e w' => (∃ t, e = .returned (.tuple #[.string t, .bool false])) ∧ w = w' := by
  by_cases h2 : 2 ≤ s.size
  · have h2I : (2 : Int) ≤ (s.size : Int) := by omega
    have hne : ((s.extract 0 2).toList == [78, 58]) = false := by
      rw [beq_eq_false_iff_ne, ByteArray.toList_eq]
      intro e
      apply h
      refine ⟨h2, ?_⟩
      apply ByteArray.ext
      apply Array.toList_inj.1
      exact e
    clear h
    go_enter Tryd.func46, Tryd.ntmps46
    go_wp2
    go_ret2
    exact ⟨⟨_, rfl⟩, rfl⟩
  · have h2I : ¬ (2 : Int) ≤ (s.size : Int) := by omega
    clear h
    go_enter Tryd.func46, Tryd.ntmps46
    go_wp2
    go_ret2
    exact ⟨⟨_, rfl⟩, rfl⟩

def ImplRD (f : Nat) : Prop := -- with variable 0
  ∀ (s : ByteArray) (w : World), s.size ≤ 1048576 → KM w → Calls Tryd.prog f #[.string s] w (RetDB w (rdDV s.data.toList) (rdDB s.data.toList))

set_option maxHeartbeats 8000000 in
theorem impl_ReadDeal : ImplRD 18 := by
  intro s w hs0 hk
  have HK := Lib.hid hk
  clear hk
  have hsl := Lib.hid (size_list s)
  have ca := Lib.hid (Chg.of_alloc w (.cells #[.slice none 0 0] 35) 0 0)
  by_cases hgo : 2 ≤ s.size ∧ s.extract 0 2 = ⟨#[78, 58]⟩
  · obtain ⟨h2, hseq⟩ := hgo
    have HST : Hid (s.data.toList.take 2 = [78, 58]) := by
      show _ = _
      have := ext_list s 0 2
      rw [hseq] at this
      unfold piece at this
      simpa using this.symm
    have bx0 := Lib.hid (BoxD.start w (.slice none 0 0) (.slice none 0 0))
    have cb := Lib.hid (ca.out.trans (Chg.of_alloc (w.alloc (.cells #[.slice none 0 0] 35)) (.cells #[.slice none 0 0] 35) 0 0))
    have sb : Hid (((w.alloc (.cells #[.slice none 0 0] 35)).alloc (.cells #[.slice none 0 0] 35)).heap.size = w.heap.size + 2) := by show _ = _; simp
    obtain ⟨t, ht⟩ : ∃ t, s.extract 2 s.size = t := ⟨_, rfl⟩
    have htl : Hid (t.data.toList = s.data.toList.drop 2) := by
      show _ = _
      rw [← ht, ext_list]
      unfold piece
      rw [List.take_of_length_le (by rw [List.length_drop, ← hsl.out]; exact Nat.le_refl _)]
    have htz : t.size ≤ s.size := by rw [size_list t, htl.out, List.length_drop, ← hsl.out]; omega
    obtain ⟨mx, hmx⟩ := HK.out.below cb.out.to_below
    have HS := Lib.hid (Tryd.strings_Split t ⟨#[32]⟩ mx _ (by omega) hmx (by decide))
    have hpc := split_piecesS t
    have hlen := Lib.splitB_all ⟨#[32]⟩ (by decide) 0 _ t rfl
    rw [htl.out] at hpc
    generalize Lib.splitB ⟨#[32]⟩ 0 (Lib.countB t ⟨#[32]⟩) t = P at HS hpc hlen
    have hPR : Hid (P.map (·.data.toList) = rdP s.data.toList) := hpc
    have hPn : P.length ≤ 1048576 := by
      have := splitS_len (s.data.toList.drop 2)
      rw [← hpc, List.length_map, List.length_drop, ← hsl.out] at this
      omega
    rw [← hlen] at HS
    have HT := Lib.hid ht
    clear ht hmx hpc hlen
    go_enter Tryd.func18, Tryd.ntmps18
    go_wp2_with fail
    refine (cutPrefix_yes s _ h2 hseq).mono ?_
    rintro e w' ⟨rfl, rfl⟩
    rw [HT.out]
    go_wp2_with fail
    refine HS.out.mono ?_
    rintro e w2 ⟨rfl, rfl⟩
    rw [sb.out]
    have a2 := Chg.of_alloc ((w.alloc (.cells #[.slice none 0 0] 35)).alloc (.cells #[.slice none 0 0] 35)) (.cells (P.map Value.string).toArray 9) 0 0
    have row2 : Hid ((((w.alloc (.cells #[.slice none 0 0] 35)).alloc (.cells #[.slice none 0 0] 35)).alloc (.cells (P.map Value.string).toArray 9)).heap[w.heap.size + 2]? = some (.cells (P.map Value.string).toArray 9 (0, 0))) := by
      show _ = _
      rw [← sb.out]
      exact heap_alloc_new _ _
    have bx2 := Lib.hid (bx0.out.still a2)
    have B2 := Lib.hid (cb.out.trans a2).to_below
    have z2 : w.heap.size + 3 ≤ (((w.alloc (.cells #[.slice none 0 0] 35)).alloc (.cells #[.slice none 0 0] 35)).alloc (.cells (P.map Value.string).toArray 9)).heap.size := by simp
    clear a2 bx0 cb sb HS
    go_wp2_with fail
    generalize ((w.alloc (.cells #[.slice none 0 0] 35)).alloc (.cells #[.slice none 0 0] 35)).alloc (.cells (P.map Value.string).toArray 9) = w2 at row2 bx2 B2 z2
    have hmr : Hid (∀ j, j < P.length → ((P.getD j ByteArray.empty).data.toList ∈ rdP s.data.toList)) := fun j hj => by
      rw [← hPR.out]
      exact List.mem_map.2 ⟨_, by rw [List.getD_eq_getElem?_getD, List.getElem?_eq_getElem hj]; exact List.getElem_mem _, rfl⟩
    go_loopw [22] (fun iv wr => ∃ (j : Nat) (v : Value) (hs : List (List Int)), j ≤ P.length ∧ iv = .int .i64 j ∧ Hid (BoxD w wr (.slice none 0 0) v) ∧ OwnVR wr (w.heap.size + 3) v hs ∧ hs.length ≤ j ∧ w.heap.size + 3 ≤ wr.heap.size ∧ Below w.heap.size w wr ∧ Hid (wr.heap[w.heap.size + 2]? = some (.cells (P.map Value.string).toArray 9 (0, 0))) ∧ Hid (hs = (P.take j).map (fun a => readV a.data.toList)) ∧ Hid (∀ a ∈ P.take j, readB a.data.toList = true)) (fun iv _ => P.length - (intOf iv).toNat)
    case atStart => exact ⟨0, _, [], Nat.zero_le _, rfl, bx2.out, OwnVR.nil_ _ _, Nat.le_refl _, z2, B2.out, row2.out, by show _ = _; simp, (fun p hp => by simp at hp)⟩
    case round =>
      obtain ⟨j, v, hs, hj, rfl, hbox, ho, hdl, hzt, hb, hrow, hhs, hall⟩ := hrel
      by_cases hlt : j < P.length
      · have hjl : (j : Int) < (P.length : Int) := by omega
        have hcell : wr.cell? ⟨w.heap.size + 2, j, none⟩ = some (.string (P.getD j ByteArray.empty)) := by
          rw [cell_of_row _ _ _ _ _ _ hrow.out]
          simp [List.getElem?_eq_getElem hlt, List.getD_eq_getElem?_getD]
        have hmem := Lib.hid (hmr.out j hlt)
        have htk : Hid (P.take (j + 1) = P.take j ++ [P.getD j ByteArray.empty]) := by
          show _ = _
          rw [List.take_succ_eq_append_getElem hlt, List.getD_eq_getElem?_getD, List.getElem?_eq_getElem hlt]; rfl
        have haz : (P.getD j ByteArray.empty).size ≤ 1048576 := by
          have := splitS_short _ _ hmem.out
          rw [List.length_drop, ← hsl.out, ← size_list] at this
          omega
        generalize P.getD j ByteArray.empty = a at hcell hmem htk haz
        go_wp2_with fail
        refine (impl_ReadHand a _ haz (HK.out.below hb)).mono ?_
        cases hr : readB a.data.toList with
        | false =>
          have E := Lib.hid (rd_hand hmem.out hr)
          have E2 := Lib.hid (rdd_no E.out)
          rintro e w1 ⟨D, dc, rfl, _, _, _, c1⟩
          have bx1 := Lib.hid (hbox.out.still c1)
          have k0 := bx1.out.c0
          have f0 := bx1.out.f0
          have hret := fun u => bx1.out.ret u
          have ch1 := Lib.hid (((Chg.of_below hb 0 0).trans c1).cell (g := w.heap.size) (i := 0) (v := .slice none 0 0) (Nat.le_refl _))
          clear hbox hb c1 ho hr hrow
          go_wp2_with fail
          (try simp only [Exit.inBlock, Exit.then])
          refine bodyPost_ret (v := .tuple #[.agg #[.slice none 0 0], .bool false]) (by simp [results, Tryd.results18, go_sem, hret]; try rfl) rfl ?_
          rw [E.out, E2.out]
          exact ⟨none, 0, rfl, Nat.le_refl _, OwnR.none_, ch1.out⟩
        | true =>
          have hall' : Hid (∀ p ∈ P.take (j + 1), readB p.data.toList = true) := fun p hp => by
            rw [htk.out] at hp
            rcases List.mem_append.1 hp with q | q
            · exact hall.out p q
            · simp at q; rw [q]; exact hr
          have hhs' : Hid (hs ++ [readV a.data.toList] = (P.take (j + 1)).map (fun a => readV a.data.toList)) := by show _ = _; rw [hhs.out, htk.out]; simp
          have hdl' : (hs ++ [readV a.data.toList]).length ≤ j + 1 := by simp; omega
          rintro e w1 ⟨D, dc, rfl, ld, pd, od, c1⟩
          generalize readV a.data.toList = H at ld od hhs' hdl' ⊢
          have bx1 := Lib.hid (hbox.out.still c1)
          have z1 := c1.size
          have oT1 := (OwnVRT.of ho).kept (fun k _ hk => c1.block k hk (.inr (Nat.zero_le _))) z1
          have hb1 := hb.trans (c1.to_below.mono hb.size)
          have hrow1 := Lib.hid ((c1.block _ (lt_of_block hrow.out) (.inr (Nat.zero_le _))).trans hrow.out)
          have cc1 := bx1.out.c1
          have ca1 := fun o => box_still cc1 (Chg.of_alloc w1 o 0 0)
          clear hbox hb c1 ho hr hall hhs hrow htk hcell hmem
          go_wp2_with (at_builtin; refine wpList_pushRT (w1 := w1) rfl _ _ rfl (w.heap.size + 3) v hs rfl wr.heap.size oT1 D dc H od ld pd rfl (by omega) hzt (by omega) ?_; intro v6 w4 o4 b4 far; obtain ⟨A2, c2, ea2, _, _⟩ := o4.own; rw [show (hs ++ [H]).length = hs.length + 1 by simp] at ea2; subst ea2; have bx4 := Lib.hid (bx1.out.below (b4.mono (by omega))); have k4 := bx4.out.c1; have f4 := bx4.out.f1)
          have z4 := b4.size
          have o5 := OwnVR.kept (w' := w4.setCell ⟨w.heap.size + 1, 0, none⟩ (.slice A2 (hs.length + 1) c2)) o4 (fun q hq _ => Below.heap_setCell _ _ _ _ (by show q ≠ w.heap.size + 1; omega)) (by simp [World.setCell])
          have z5 : w4.heap.size ≤ (w4.setCell ⟨w.heap.size + 1, 0, none⟩ (.slice A2 (hs.length + 1) c2)).heap.size := by simp [World.setCell]
          have ch5 := ((Chg.of_below (hb1.trans (b4.mono (by omega))) 0 0).cell (g := w.heap.size + 1) (i := 0) (v := .slice A2 (hs.length + 1) c2) (by omega)).to_below
          have bx5 := Lib.hid (bx4.out.put (.slice A2 (hs.length + 1) c2))
          have row5 := Lib.hid ((Below.heap_setCell w4 ⟨w.heap.size + 1, 0, none⟩ (.slice A2 (hs.length + 1) c2) (w.heap.size + 2) (by show w.heap.size + 2 ≠ w.heap.size + 1; omega)).trans ((b4.block _ (by omega)).trans hrow1.out))
          have zw5 : w.heap.size + 3 ≤ (w4.setCell ⟨w.heap.size + 1, 0, none⟩ (.slice A2 (hs.length + 1) c2)).heap.size := by omega
          clear z5 o4 b4 far bx1 bx4 k4 f4 hb1 od cc1 ca1 oT1 hrow1
          go_roundw
          case rel => exact ⟨j + 1, _, _, by omega, by go_num, bx5.out, o5, hdl', zw5, ch5, row5.out, hhs', hall'⟩
          case measure => simp [intOf]; omega
      · obtain rfl : j = P.length := by omega
        have hj2 : ¬ (P.length : Int) < (P.length : Int) := by omega
        rw [List.take_length] at hhs hall
        have hhs2 : Hid (hs = (rdP s.data.toList).map readV) := by show _ = _; rw [hhs.out, ← hPR.out, List.map_map]; rfl
        have E1 : Hid (rdDB s.data.toList = dealB hs) := by
          show _ = _
          rw [hhs2.out]
          refine rd_deal HST.out (List.all_eq_true.2 (fun p hp => ?_))
          rw [← hPR.out] at hp
          obtain ⟨a, ha, rfl⟩ := List.mem_map.1 hp
          exact hall.out a ha
        have E2 : Hid (dealB hs = true → rdDV s.data.toList = hs) := fun q => by
          show _ = _
          unfold rdDV
          rw [E1.out, q, if_pos rfl, hhs2.out]
        obtain ⟨A2, c2, rfl, l2, own2⟩ := ho.own
        have k1 := hbox.out.c1
        clear hall hhs ho hhs2 hrow hmr
        go_wp2_with fail
        refine (isDeal A2 hs.length c2 hs _ _ _ own2.rd).mono ?_
        rintro e w1 ⟨rfl, c1⟩
        have bx1 := Lib.hid (hbox.out.still c1)
        have k0 := bx1.out.c0
        have f0 := bx1.out.f0
        have k1' := bx1.out.c1
        have hret := fun u => bx1.out.ret u
        have ow1 := own2.still c1
        have z1 := c1.size
        have ch1 := Lib.hid ((Chg.of_below hb 0 0).trans c1)
        clear c1 hbox hb own2 k1
        cases hd : dealB hs with
        | false =>
          have E3 := Lib.hid (E1.out.trans hd)
          have E4 := Lib.hid (rdd_no E3.out)
          have hcf := Lib.hid (ch1.out.cell (g := w.heap.size) (i := 0) (v := .slice none 0 0) (Nat.le_refl _))
          clear hd
          go_wp2_with fail
          (try simp only [Exit.inBlock, Exit.then])
          refine bodyPost_ret (v := .tuple #[.agg #[.slice none 0 0], .bool false]) (by simp [results, Tryd.results18, go_sem, hret]; try rfl) rfl ?_
          rw [E3.out, E4.out]
          exact ⟨none, 0, rfl, Nat.le_refl _, OwnR.none_, hcf.out⟩
        | true =>
          have E3 := Lib.hid (E1.out.trans hd)
          have E4 := Lib.hid (E2.out hd)
          have hcf := Lib.hid (ch1.out.cell (g := w.heap.size) (i := 0) (v := .slice A2 hs.length c2) (Nat.le_refl _))
          have hfin := Lib.hid (ow1.chg (w' := w1.setCell ⟨w.heap.size, 0, none⟩ (.slice A2 hs.length c2)) ((Chg.refl _ w.heap.size (w.heap.size + 1)).store (b := w.heap.size) (k := 0) (by omega) (by omega) _) (.inr (by omega)))
          clear hd ow1
          go_wp2_with fail
          (try simp only [Exit.inBlock, Exit.then])
          refine bodyPost_ret (v := .tuple #[.agg #[.slice A2 hs.length c2], .bool true]) (by simp [results, Tryd.results18, go_sem, hret]; try rfl) rfl ?_
          rw [E3.out, E4.out]
          exact ⟨A2, c2, rfl, l2, hfin.out.more (by omega) (by simp [World.setCell]; omega), hcf.out⟩
  · have E : Hid (rdDB s.data.toList = false) := rd_start (fun q => hgo ⟨by
        have := congrArg List.length q
        rw [List.length_take, ← hsl.out] at this
        simp at this
        omega, by
        apply ByteArray.ext
        apply Array.toList_inj.1
        rw [ext_list]
        unfold piece
        simpa using q⟩)
    have E2 := Lib.hid (rdd_no E.out)
    have q1 := box_at w (.slice none 0 0) 35
    rw [E.out, E2.out]
    have hcp := Lib.hid (cutPrefix_no s (w.alloc (.cells #[.slice none 0 0] 35)) hgo)
    clear hgo
    go_enter Tryd.func18, Tryd.ntmps18
    go_wp2_with fail
    refine hcp.out.mono ?_
    rintro e w' ⟨⟨t, rfl⟩, rfl⟩
    go_wp2_with fail
    (try simp only [Exit.inBlock, Exit.then])
    refine bodyPost_ret (v := .tuple #[.agg #[.slice none 0 0], .bool false]) (by simp [results, Tryd.results18, go_sem, q1]; try rfl) rfl ?_
    exact ⟨none, 0, rfl, Nat.le_refl _, OwnR.none_, ca.out⟩
end Go.Proofs.YteojdlacdnfgiaaDoor.Lib1
