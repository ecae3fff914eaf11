/- Chapter 3: the model's ReadDeal. -/
import Derived.Test.YteojdlacdnfgiaaDoorReadS
import Derived.Test.YteojdlacdnfgiaaDoorCatR
import Derived.Test.YteojdlacdnfgiaaDoorS03
namespace Go.Proofs.YteojdlacdnfgiaaDoor.Lib1
open Go.RowKit
set_option maxRecDepth 100000

/-- A function hands back a deal of its own and a bool. -/
def RetDB (w : World) (zss : List (List Int)) (b : Bool) (e : Ending) (w' : World) : Prop :=
  ∃ A c, e = .returned (.tuple #[.agg #[.slice A zss.length c], .bool b]) ∧ zss.length ≤ c ∧ OwnR w' w.heap.size w'.heap.size A zss.length zss ∧ Chg w w' 0 0
theorem ext_list (s : ByteArray) (f i : Nat) : (s.extract f i).data.toList = piece s.data.toList f i := by
  unfold piece
  rw [ByteArray.data_extract, Array.toList_extract, List.extract_eq_take_drop]
theorem byteV (s : ByteArray) (i : Nat) (h : i < s.size) : s.data.toList.getD i 0 = s[i] := byte_getD s i h

set_option maxHeartbeats 8000000 in
theorem spec_ReadDeal (s : ByteArray) (w : World) (hs0 : s.size ≤ 1048576) :
    Calls Tryd.prog 25 #[.string s] w (RetDB w (rdDV s.data.toList) (rdDB s.data.toList)) := by
  have hsl := Lib.hid (size_list s)
  have bx0 := Lib.hid (BoxD.start w (.slice none 0 0) (.slice none 0 0))
  have cb := Lib.hid ((Chg.of_alloc w (.cells #[.slice none 0 0] 35) 0 0).trans (Chg.of_alloc (w.alloc (.cells #[.slice none 0 0] 35)) (.cells #[.slice none 0 0] 35) 0 0))
  have sb : Hid (((w.alloc (.cells #[.slice none 0 0] 35)).alloc (.cells #[.slice none 0 0] 35)).heap.size = w.heap.size + 2) := by show _ = _; simp
  by_cases hgo : (2 ≤ s.size ∧ s.size ≤ 80) ∧ s.data.toList.take 2 = [78, 58]
  · obtain ⟨⟨h2, h80⟩, hst⟩ := hgo
    have HST := Lib.hid hst
    have hne : Hid ((s.extract 0 2).data.toList = [78, 58]) := by show _ = _; rw [ext_list s 0 2]; unfold piece; simpa using hst
    have hn2 : ¬ (s.size : Int) < 2 := by omega
    have hn80 : ¬ (80 : Int) < (s.size : Int) := by omega
    have h2I : (2 : Int) ≤ (s.size : Int) := by omega
    have hseq : (s.extract 0 2) = ⟨#[78, 58]⟩ := by
      apply ByteArray.ext
      apply Array.toList_inj.1
      exact hne.out
    have hrs := Lib.hid (RdAt.start (l := s.data.toList) (by rw [← hsl.out]; exact h2))
    clear hst
    go_enter Tryd.func25, Tryd.ntmps25
    go_wp2_with fail
    have hzt0 := sb
    go_loopw [5, 6] (fun fv iv wr => ∃ (f i : Nat) (v : Value) (hs : List (List Int)) (done : List (List UInt8)), i ≤ s.size + 1 ∧ f ≤ i ∧ fv = .int .i64 f ∧ iv = .int .i64 i ∧ Hid (BoxD w wr (.slice none 0 0) v) ∧ OwnVR wr (w.heap.size + 2) v hs ∧ hs.length ≤ i ∧ w.heap.size + 2 ≤ wr.heap.size ∧ Below w.heap.size w wr ∧ Hid (hs = done.map readV) ∧ Hid (∀ p ∈ done, readB p = true) ∧ Hid (RdAt s.data.toList f i done ∨ (i = s.size + 1 ∧ rdP s.data.toList = done))) (fun _ iv _ => s.size + 2 - (intOf iv).toNat)
    case atStart => exact ⟨2, 2, _, [], [], by omega, Nat.le_refl _, rfl, rfl, bx0.out, OwnVR.nil_ _ _, by simp, by rw [sb.out]; exact Nat.le_refl _, cb.out.to_below, rfl, (fun p hp => by cases hp), .inl hrs.out⟩
    case round =>
      obtain ⟨f, i, v, hs, done, hi, hfi, rfl, rfl, hbox, ho, hdl, hzt, hb, hhs, hall, hat⟩ := hrel
      by_cases hlt : i ≤ s.size
      · have hil : (i : Int) ≤ (s.size : Int) := by omega
        have hfI : (f : Int) ≤ (i : Int) := by omega
        have hR : Hid (RdAt s.data.toList f i done) := by
          rcases hat.out with q | q
          · exact q
          · exact absurd q.1 (by omega)
        have hsz81 : s.size ≤ 81 := by omega
        clear hat
        by_cases hin : i < s.size
        · have hinI : (i : Int) < (s.size : Int) := by omega
          by_cases hb32 : s[i] = 32
          · have t32 : (((s[i].toNat : Nat) : Int) == 32) = true := by rw [hb32]; rfl
            have hcut := hR.out.cut (by rw [← hsl.out]; exact hin) (by rw [byteV s i hin]; exact hb32)
            have hnext : Hid (RdAt s.data.toList (i + 1) (i + 1) (done ++ [piece s.data.toList f i]) ∨ (i + 1 = s.size + 1 ∧ rdP s.data.toList = done ++ [piece s.data.toList f i])) := .inl hcut
            have hmem : Hid (piece s.data.toList f i ∈ rdP s.data.toList) := by show _ ∈ _; rw [hcut.eq]; simp
            clear hcut hb32 hR
            have hpe := Lib.hid (ext_list s f i)
            have hps : (s.extract f i).size ≤ 1048576 := by rw [ByteArray.size_extract]; omega
            go_wp2_with fail
            refine (spec_ReadHand (s.extract f i) _ hps).mono ?_
            rw [hpe.out]
            cases hr : readB (piece s.data.toList f i) with
            | false =>
              have E := Lib.hid (rd_hand hmem.out hr)
              have E2 := Lib.hid (rdd_no E.out)
              rintro e w1 ⟨D, dc, rfl, _, _, _, c1⟩
              have bx1 := Lib.hid (hbox.out.still c1)
              have k0 := bx1.out.c0
              have f0 := bx1.out.f0
              have hret := fun u => bx1.out.ret u
              have ch1 := Lib.hid (((Chg.of_below hb 0 0).trans c1).cell (g := w.heap.size) (i := 0) (v := .slice none 0 0) (Nat.le_refl _))
              clear hbox hb c1 ho hr
              go_wp2_with fail
              (try simp only [Exit.inBlock, Exit.then])
              refine bodyPost_ret (v := .tuple #[.agg #[.slice none 0 0], .bool false]) (by simp [results, Tryd.results25, go_sem, hret]; try rfl) rfl ?_
              rw [E.out, E2.out]
              exact ⟨none, 0, rfl, Nat.le_refl _, OwnR.none_, ch1.out⟩
            | true =>
              have hall' : Hid (∀ p ∈ done ++ [piece s.data.toList f i], readB p = true) := fun p hp => by
                rcases List.mem_append.1 hp with q | q
                · exact hall.out p q
                · simp at q; rw [q]; exact hr
              have hhs' : Hid (hs ++ [readV (piece s.data.toList f i)] = (done ++ [piece s.data.toList f i]).map readV) := by show _ = _; rw [hhs.out]; simp
              have hdl' : (hs ++ [readV (piece s.data.toList f i)]).length ≤ i + 1 := by simp; omega
              rintro e w1 ⟨D, dc, rfl, ld, pd, od, c1⟩
              generalize readV (piece s.data.toList f i) = H at ld od hhs' hdl' ⊢
              have bx1 := Lib.hid (hbox.out.still c1)
              have z1 := c1.size
              have oT1 := (OwnVRT.of ho).kept (fun k _ hk => c1.block k hk (.inr (Nat.zero_le _))) z1
              have hb1 := hb.trans (c1.to_below.mono hb.size)
              have hzb : w.heap.size + 2 ≤ w1.heap.size := by omega
              have cc1 := bx1.out.c1
              have ca1 := fun o => box_still cc1 (Chg.of_alloc w1 o 0 0)
              clear hbox hb c1 ho hr hall hhs
              go_wp2_with (first | (at_builtin; refine wpList_pushRT (w1 := w2) rfl _ _ rfl (w.heap.size + 2) v5 hs rfl wr.heap.size oT2 D dc H od2 ld pd rfl (by omega) hzt (by omega) ?_; intro v6 w4 o4 b4 far; obtain ⟨A2, c2, ea2, _, _⟩ := o4.own; rw [show (hs ++ [H]).length = hs.length + 1 by simp] at ea2; subst ea2; have bx4 := Lib.hid (bx2.out.below b4); have k4 := bx4.out.c1; have f4 := bx4.out.f1) | (at_builtin; refine wpList_catR rfl _ _ rfl (w.heap.size + 2) wr.heap.size v hs rfl oT1 rfl (by omega) hzb ?_; intro v5 w2 oT2 b2; have z2 := b2.size; have od2 : Own w2 wr.heap.size w2.heap.size D H.length H := (od.still (Chg.of_below b2 0 0)).more (Nat.le_refl _) z2; have bx2 := Lib.hid (bx1.out.still (Chg.of_below b2 0 0))))
              have z4 := b4.size
              have o5 := OwnVR.kept (w' := w4.setCell ⟨w.heap.size + 1, 0, none⟩ (.slice A2 (hs.length + 1) c2)) o4 (fun q hq _ => Below.heap_setCell _ _ _ _ (by show q ≠ w.heap.size + 1; omega)) (by simp [World.setCell])
              have z5 : w4.heap.size ≤ (w4.setCell ⟨w.heap.size + 1, 0, none⟩ (.slice A2 (hs.length + 1) c2)).heap.size := by simp [World.setCell]
              have ch5 := ((Chg.of_below ((hb1.trans (b2.mono (by omega))).trans (b4.mono (by omega))) 0 0).cell (g := w.heap.size + 1) (i := 0) (v := .slice A2 (hs.length + 1) c2) (by omega)).to_below
              have bx5 := Lib.hid (bx4.out.put (.slice A2 (hs.length + 1) c2))
              have zw5 : w.heap.size + 2 ≤ (w4.setCell ⟨w.heap.size + 1, 0, none⟩ (.slice A2 (hs.length + 1) c2)).heap.size := by omega
              clear z5 o4 b4 far bx1 bx2 bx4 k4 f4 hb1 od od2 cc1 ca1 oT1 oT2 b2
              go_roundw
              case rel => exact ⟨i + 1, i + 1, _, _, _, by omega, by omega, by go_num, by go_num, bx5.out, o5, hdl', zw5, ch5, hhs', hall', hnext⟩
              case measure => simp [intOf]; omega
          · have t32 : (((s[i].toNat : Nat) : Int) == 32) = false := by
              rw [beq_eq_false_iff_ne]; intro e; apply hb32; exact UInt8.toNat_inj.1 (by show s[i].toNat = 32; omega)
            have hnx := Lib.hid (hR.out.pass (by rw [← hsl.out]; exact hin) (by rw [byteV s i hin]; exact hb32))
            clear hb32 hR
            go_wp2_with fail
            go_roundw
            case rel => exact ⟨f, i + 1, v, hs, done, by omega, by omega, rfl, by go_num, hbox, ho, by omega, hzt, hb, hhs, hall, .inl hnx.out⟩
            case measure => simp [intOf]; omega
        · obtain rfl : i = s.size := by omega
          have hinI : ¬ (s.size : Int) < (s.size : Int) := by omega
          have hlast := hR.out.last hsl.out
          have hnext : Hid (RdAt s.data.toList (s.size + 1) (s.size + 1) (done ++ [piece s.data.toList f s.size]) ∨ (s.size + 1 = s.size + 1 ∧ rdP s.data.toList = done ++ [piece s.data.toList f s.size])) := .inr ⟨rfl, hlast⟩
          have hmem : Hid (piece s.data.toList f s.size ∈ rdP s.data.toList) := by show _ ∈ _; rw [hlast]; simp
          clear hlast hR
          have hpe := Lib.hid (ext_list s f s.size)
          have hps : (s.extract f s.size).size ≤ 1048576 := by rw [ByteArray.size_extract]; omega
          go_wp2_with fail
          refine (spec_ReadHand (s.extract f s.size) _ hps).mono ?_
          rw [hpe.out]
          cases hr : readB (piece s.data.toList f s.size) with
          | false =>
            have E := Lib.hid (rd_hand hmem.out hr)
            have E2 := Lib.hid (rdd_no E.out)
            rintro e w1 ⟨D, dc, rfl, _, _, _, c1⟩
            have bx1 := Lib.hid (hbox.out.still c1)
            have k0 := bx1.out.c0
            have f0 := bx1.out.f0
            have hret := fun u => bx1.out.ret u
            have ch1 := Lib.hid (((Chg.of_below hb 0 0).trans c1).cell (g := w.heap.size) (i := 0) (v := .slice none 0 0) (Nat.le_refl _))
            clear hbox hb c1 ho hr
            go_wp2_with fail
            (try simp only [Exit.inBlock, Exit.then])
            refine bodyPost_ret (v := .tuple #[.agg #[.slice none 0 0], .bool false]) (by simp [results, Tryd.results25, go_sem, hret]; try rfl) rfl ?_
            rw [E.out, E2.out]
            exact ⟨none, 0, rfl, Nat.le_refl _, OwnR.none_, ch1.out⟩
          | true =>
            have hall' : Hid (∀ p ∈ done ++ [piece s.data.toList f s.size], readB p = true) := fun p hp => by
              rcases List.mem_append.1 hp with q | q
              · exact hall.out p q
              · simp at q; rw [q]; exact hr
            have hhs' : Hid (hs ++ [readV (piece s.data.toList f s.size)] = (done ++ [piece s.data.toList f s.size]).map readV) := by show _ = _; rw [hhs.out]; simp
            have hdl' : (hs ++ [readV (piece s.data.toList f s.size)]).length ≤ s.size + 1 := by simp; omega
            rintro e w1 ⟨D, dc, rfl, ld, pd, od, c1⟩
            generalize readV (piece s.data.toList f s.size) = H at ld od hhs' hdl' ⊢
            have bx1 := Lib.hid (hbox.out.still c1)
            have z1 := c1.size
            have oT1 := (OwnVRT.of ho).kept (fun k _ hk => c1.block k hk (.inr (Nat.zero_le _))) z1
            have hb1 := hb.trans (c1.to_below.mono hb.size)
            have hzb : w.heap.size + 2 ≤ w1.heap.size := by omega
            have cc1 := bx1.out.c1
            have ca1 := fun o => box_still cc1 (Chg.of_alloc w1 o 0 0)
            clear hbox hb c1 ho hr hall hhs
            go_wp2_with (first | (at_builtin; refine wpList_pushRT (w1 := w2) rfl _ _ rfl (w.heap.size + 2) v5 hs rfl wr.heap.size oT2 D dc H od2 ld pd rfl (by omega) hzt (by omega) ?_; intro v6 w4 o4 b4 far; obtain ⟨A2, c2, ea2, _, _⟩ := o4.own; rw [show (hs ++ [H]).length = hs.length + 1 by simp] at ea2; subst ea2; have bx4 := Lib.hid (bx2.out.below b4); have k4 := bx4.out.c1; have f4 := bx4.out.f1) | (at_builtin; refine wpList_catR rfl _ _ rfl (w.heap.size + 2) wr.heap.size v hs rfl oT1 rfl (by omega) hzb ?_; intro v5 w2 oT2 b2; have z2 := b2.size; have od2 : Own w2 wr.heap.size w2.heap.size D H.length H := (od.still (Chg.of_below b2 0 0)).more (Nat.le_refl _) z2; have bx2 := Lib.hid (bx1.out.still (Chg.of_below b2 0 0))))
            have z4 := b4.size
            have o5 := OwnVR.kept (w' := w4.setCell ⟨w.heap.size + 1, 0, none⟩ (.slice A2 (hs.length + 1) c2)) o4 (fun q hq _ => Below.heap_setCell _ _ _ _ (by show q ≠ w.heap.size + 1; omega)) (by simp [World.setCell])
            have z5 : w4.heap.size ≤ (w4.setCell ⟨w.heap.size + 1, 0, none⟩ (.slice A2 (hs.length + 1) c2)).heap.size := by simp [World.setCell]
            have ch5 := ((Chg.of_below ((hb1.trans (b2.mono (by omega))).trans (b4.mono (by omega))) 0 0).cell (g := w.heap.size + 1) (i := 0) (v := .slice A2 (hs.length + 1) c2) (by omega)).to_below
            have bx5 := Lib.hid (bx4.out.put (.slice A2 (hs.length + 1) c2))
            have zw5 : w.heap.size + 2 ≤ (w4.setCell ⟨w.heap.size + 1, 0, none⟩ (.slice A2 (hs.length + 1) c2)).heap.size := by omega
            clear z5 o4 b4 far bx1 bx2 bx4 k4 f4 hb1 od od2 cc1 ca1 oT1 oT2 b2
            go_roundw
            case rel => exact ⟨s.size + 1, s.size + 1, _, _, _, by omega, by omega, by go_num, by go_num, bx5.out, o5, hdl', zw5, ch5, hhs', hall', (by rcases hnext.out with q | q; exact .inl q; exact .inr ⟨rfl, q.2⟩)⟩
            case measure => (simp [intOf]) <;> omega
      · obtain rfl : i = s.size + 1 := by omega
        have hP : rdP s.data.toList = done := by
          rcases hat.out with q | q
          · have := q.il; rw [← hsl.out] at this; omega
          · exact q.2
        have E1 : Hid (rdDB s.data.toList = dealB hs) := by
          show _ = _
          rw [hhs.out, ← hP]
          exact rd_deal HST.out (List.all_eq_true.2 (fun p hp => by rw [hP] at hp; exact hall.out p hp))
        have E2 : Hid (dealB hs = true → rdDV s.data.toList = hs) := fun q => by
          show _ = _
          unfold rdDV
          rw [E1.out, q, if_pos rfl, hP, hhs.out]
        have hlr : Hid (∀ j, j < hs.length → (hs.getD j []).length ≤ 1048576) := fun j hj => by
          rw [hhs.out] at hj ⊢
          rw [getD_row hj, List.getElem_map]
          have h3 : readB (done[j]'(by simpa using hj)) = true := hall.out _ (List.getElem_mem _)
          have h4 := hand_len (read_yes h3).1
          unfold readV
          rw [h3, if_pos rfl]
          omega
        obtain ⟨A2, c2, rfl, l2, own2⟩ := ho.own
        have hq1 : ¬ (s.size : Int) + 1 ≤ (s.size : Int) := by omega
        have k1 := hbox.out.c1
        clear hP hat hall hhs ho
        go_wp2_with fail
        refine (l03Deal A2 hs.length c2 hs _ _ _ own2.rd hlr.out).mono ?_
        rintro e w1 ⟨rfl, c1⟩
        have bx1 := Lib.hid (hbox.out.still c1)
        have k0 := bx1.out.c0
        have f0 := bx1.out.f0
        have k1' := bx1.out.c1
        have hret := fun u => bx1.out.ret u
        have ow1 := own2.still c1
        have z1 := c1.size
        have ch1 := Lib.hid ((Chg.of_below hb 0 0).trans c1)
        clear c1 hbox hb own2 k1
        cases hd : dealB hs with
        | false =>
          have E3 := Lib.hid (E1.out.trans hd)
          have E4 := Lib.hid (rdd_no E3.out)
          have hcf := Lib.hid (ch1.out.cell (g := w.heap.size) (i := 0) (v := .slice none 0 0) (Nat.le_refl _))
          clear hd
          go_wp2_with fail
          (try simp only [Exit.inBlock, Exit.then])
          refine bodyPost_ret (v := .tuple #[.agg #[.slice none 0 0], .bool false]) (by simp [results, Tryd.results25, go_sem, hret]; try rfl) rfl ?_
          rw [E3.out, E4.out]
          exact ⟨none, 0, rfl, Nat.le_refl _, OwnR.none_, hcf.out⟩
        | true =>
          have E3 := Lib.hid (E1.out.trans hd)
          have E4 := Lib.hid (E2.out hd)
          have hcf := Lib.hid (ch1.out.cell (g := w.heap.size) (i := 0) (v := .slice A2 hs.length c2) (Nat.le_refl _))
          have hfin := Lib.hid (ow1.chg (w' := w1.setCell ⟨w.heap.size, 0, none⟩ (.slice A2 hs.length c2)) ((Chg.refl _ w.heap.size (w.heap.size + 1)).store (b := w.heap.size) (k := 0) (by omega) (by omega) _) (.inr (by omega)))
          clear hd ow1
          go_wp2_with fail
          (try simp only [Exit.inBlock, Exit.then])
          refine bodyPost_ret (v := .tuple #[.agg #[.slice A2 hs.length c2], .bool true]) (by simp [results, Tryd.results25, go_sem, hret]; try rfl) rfl ?_
          rw [E3.out, E4.out]
          exact ⟨A2, c2, rfl, l2, hfin.out.more (by omega) (by simp [World.setCell]; omega), hcf.out⟩
  · have E : Hid (rdDB s.data.toList = false) := by
      show _ = _
      by_cases q1 : s.size < 2
      · exact rd_few (by rw [← hsl.out]; exact q1)
      · by_cases q2 : 80 < s.size
        · exact rd_long (by rw [← hsl.out]; exact q2)
        · exact rd_start (fun q => hgo ⟨⟨by omega, by omega⟩, q⟩)
    have E2 := Lib.hid (rdd_no E.out)
    rw [E.out, E2.out]
    have q1 := bx0.out.c0
    by_cases r1 : s.size < 2
    · have r1I : (s.size : Int) < 2 := by omega
      clear hgo
      go_enter Tryd.func25, Tryd.ntmps25
      go_wp2_with fail
      (try simp only [Exit.inBlock, Exit.then])
      refine bodyPost_ret (v := .tuple #[.agg #[.slice none 0 0], .bool false]) (by simp [results, Tryd.results25, go_sem, q1]; try rfl) rfl ?_
      exact ⟨none, 0, rfl, Nat.le_refl _, OwnR.none_, cb.out⟩
    have r1I : ¬ (s.size : Int) < 2 := by omega
    have r1J : (2 : Int) ≤ (s.size : Int) := by omega
    by_cases r2 : 80 < s.size
    · have r2I : (80 : Int) < (s.size : Int) := by omega
      clear hgo
      go_enter Tryd.func25, Tryd.ntmps25
      go_wp2_with fail
      (try simp only [Exit.inBlock, Exit.then])
      refine bodyPost_ret (v := .tuple #[.agg #[.slice none 0 0], .bool false]) (by simp [results, Tryd.results25, go_sem, q1]; try rfl) rfl ?_
      exact ⟨none, 0, rfl, Nat.le_refl _, OwnR.none_, cb.out⟩
    have r2I : ¬ (80 : Int) < (s.size : Int) := by omega
    have r2J : 2 ≤ s.size := by omega
    have hne : (s.extract 0 2) ≠ ⟨#[78, 58]⟩ := fun e => hgo ⟨⟨by omega, by omega⟩, by
      have := ext_list s 0 2
      rw [e] at this
      unfold piece at this
      simpa using this.symm⟩
    have hne2 : ((s.extract 0 2).toList == [78, 58]) = false := by
      rw [beq_eq_false_iff_ne, ByteArray.toList_eq]
      intro e
      apply hne
      apply ByteArray.ext
      apply Array.toList_inj.1
      exact e
    clear hgo
    go_enter Tryd.func25, Tryd.ntmps25
    go_wp2_with fail
    (try simp only [Exit.inBlock, Exit.then])
    refine bodyPost_ret (v := .tuple #[.agg #[.slice none 0 0], .bool false]) (by simp [results, Tryd.results25, go_sem, q1]; try rfl) rfl ?_
    exact ⟨none, 0, rfl, Nat.le_refl _, OwnR.none_, cb.out⟩
end Go.Proofs.YteojdlacdnfgiaaDoor.Lib1
