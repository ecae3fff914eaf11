/- Chapter 5: the draw of a deal; the law FnRelative. -/
import Derived.Test.YtdfmkikngifjmaaDraw5
import Derived.Test.YtdfmkikngifjmaaDohJ5
import Derived.Test.YtdfmkikngifjmaaCanT5
import Derived.Test.YtdfmkikngifjmaaMadeS5
import Derived.Deep.RegionHeld3
namespace Go.Proofs.Ytdfmkikngifjmaa.Lib1
open Go.RowKit
set_option maxRecDepth 100000

/-- A deal was drawn. -/
def DrewDeal (w : World) (e : Ending) (w' : World) : Prop :=
  ∃ A n c zss, e = .returned (.agg #[.slice A n c]) ∧ n ≤ 4 ∧ n ≤ c ∧ RdR w' w.heap.size w'.heap.size A n zss ∧ Rows15 zss ∧ Below w.heap.size w w'
set_option maxHeartbeats 2000000 in
/-- spec.DrawRelativeDeal -/
theorem DrawRelativeDeal (A : Option Addr) (n c : Nat) (w : World) (h : Bytes w A n) (hn : n ≤ 1048576) : Calls Try.prog 25 #[.slice A n c] w (DrewDeal w) := by
  have ca := Lib.hid (Chg.of_alloc w (.cells #[.slice none 0 0] 25) 0 0)
  have R0 := Lib.hid (BoxAt.new w (.slice none 0 0) 25 rfl)
  have hB0 := Lib.hid (h.chg (ca.out.any w.heap.size w.heap.size))
  have hz0 : Hid ((w.alloc (.cells #[.slice none 0 0] 25)).heap.size = w.heap.size + 1) := by show _ = _; simp
  go_enter Try.func25, Try.ntmps25
  go_wp2_with fail
  generalize w.alloc (.cells #[.slice none 0 0] 25) = w0 at ca R0 hB0 hz0
  refine (l01From A n c _ hB0.out hn).mono ?_
  rintro e w1 ⟨rfl, s1, b1⟩
  generalize hgq : w0.heap.size = g at s1 b1
  have hg : Hid (g = w.heap.size + 1) := by show _ = _; rw [← hgq]; exact hz0.out
  have R1 := Lib.hid (show BoxAt w1 w.heap.size (.slice none 0 0) 25 from (b1.block _ (by have := hg.out; omega)).trans R0.out)
  have B1 := Lib.hid ((ca.out.to_below).trans (b1.mono (by have := hg.out; omega)))
  have l1 := Lib.hid s1.lt
  clear R0 hB0 b1 ca hz0
  have HG := Lib.hid hgq
  clear hgq
  go_wp2_with fail
  refine (l05Draw g _ s1).mono ?_
  rintro e w3 ⟨A3, n3, c3, zss, rfl, hn3, hc3, rd3, h15, s3, k3⟩
  have R3 := Lib.hid (R1.out.far k3 (by have := hg.out; omega))
  have B3 := Lib.hid (Chg.above B1.out k3 B1.out.size (.inl (by have := hg.out; omega)))
  have RD3 := Lib.hid (rd3.more (lo' := w.heap.size + 1) (by have := hg.out; have := l1.out; omega) (Nat.le_refl _))
  have H15 := Lib.hid h15
  have p1 := R3.out.c
  have f1 := R3.out.f
  have hret := fun u => R3.out.ret u
  clear R1 B1 k3 s1 rd3 h15 s3
  go_wp2_with fail
  (try simp only [Exit.inBlock, Exit.then])
  refine bodyPost_ret (v := .agg #[.slice A3 n3 c3]) (by simp [results, Try.results25, go_sem, hret]; try rfl) rfl ?_
  have st : Chg w3 (w3.setCell ⟨w.heap.size, 0, none⟩ (.slice A3 n3 c3)) w.heap.size (w.heap.size + 1) := (Chg.refl _ _ _).store (Nat.le_refl _) (by show w.heap.size < w.heap.size + 1; omega) _
  exact ⟨A3, n3, c3, zss, rfl, hn3, hc3, (RD3.out.chg st (.inr (Nat.le_refl _))).more (by omega) st.size, H15.out, Below.setAt B3.out (Nat.le_refl _)⟩

theorem suitF_map (f : Int → Int) (q : Int) (row : List Int) (h : ∀ x ∈ row, f x / 13 = x / 13) : (suitF q (row.map f)).length = (suitF q row).length := by
  unfold suitF
  rw [List.filter_map, List.length_map]
  exact congrArg List.length (List.filter_congr fun x hx => by simp [suitP, h x hx])
theorem shape_rel {zss : List (List Int)} (hd : dealB zss = true) {s : Nat} (hs : s < 4) : shapeV ((relRows zss).getD s []) = shapeV (zss.getD s []) := by
  have h1 := deal_hand hd hs
  have h2 := deal_hand (rel_deal hd) hs
  have hr := ((hand_iff _).1 h1).2.2
  unfold shapeV
  rw [h1, h2]
  simp only [if_true]
  unfold shapeF
  rw [relRows_getD]
  have hm : ∀ x ∈ zss.getD s [], relF (holderF zss) x / 13 = x / 13 := fun x hx => relF_div _ (hr x hx).1 (hr x hx).2
  rw [suitF_map _ 0 _ hm, suitF_map _ 1 _ hm, suitF_map _ 2 _ hm, suitF_map _ 3 _ hm]
theorem hlB_deal {zss : List (List Int)} (hd : dealB zss = true) : hlB (listsTo (holderF zss) 4) = true := by
  obtain ⟨h4, h13, h03⟩ := HL.of_deal hd
  exact hlB_yes h4 fun q _ => (rowH_iff _).2 ⟨h13 q, h03 q⟩

set_option maxHeartbeats 4000000 in
theorem law_Relative (A : Option Addr) (n c : Nat) (w : World) (h : Bytes w A n) :
    Calls Try.prog 4 #[.slice A n c] w fun e w' => e = .returned (.bool true) ∧ Below w.heap.size w w' := by
  by_cases hbig : 4096 < n
  · have hb : Hid (decide (4096 < n) = true) := by show _ = _; simpa using hbig
    go_enter Try.func4, Try.ntmps4
    go_wp2_with fail
    refine (big _ _ _ _).mono ?_
    rintro e w' ⟨rfl, rfl⟩
    rw [hb.out]
    go_wp2_with fail
    go_ret
    exact ⟨rfl, Below.refl _ _⟩
  have hb : Hid (decide (4096 < n) = false) := by show _ = _; simpa using hbig
  have hn : n ≤ 1048576 := by omega
  clear hbig
  go_enter Try.func4, Try.ntmps4
  go_wp2_with fail
  refine (big _ _ _ _).mono ?_
  rintro e w' ⟨rfl, rfl⟩
  rw [hb.out]
  go_wp2_with fail
  refine (DrawRelativeDeal A n c _ h hn).mono ?_
  rintro e w1 ⟨A1, n1, c1, zss, rfl, hn1, _, rd1, h15', B1⟩
  have h15 := Lib.hid h15'
  have ca := Lib.hid (Chg.of_alloc w1 (.cells #[.slice A1 n1 c1] 25) 0 0)
  have D2 := Lib.hid (BoxAt.new w1 (.slice A1 n1 c1) 25 rfl)
  have K2 := Lib.hid (B1.trans (ca.out.to_below.mono B1.size))
  have RD2 := Lib.hid (rd1.still ca.out)
  generalize hlo1 : w.heap.size = lo1 at RD2
  generalize hhi1 : w1.heap.size = hi1 at RD2
  clear hlo1 hhi1 rd1 B1 h15' hb h
  have pd := D2.out.c
  have hl0 := Lib.hid (fun j (_ : j < n1) => (show (zss.getD j []).length ≤ 1048576 by have := h15.out j; omega))
  go_wp2_with fail
  generalize w1.alloc (.cells #[.slice A1 n1 c1] 25) = w2 at ca D2 K2 RD2 pd
  refine (impl_RelativeDeal A1 n1 c1 zss lo1 hi1 w2 RD2.out).mono ?_
  rintro e w3 ⟨R, cr, rfl, _, or, ch3⟩
  obtain ⟨m, hm⟩ : ∃ m, (relV zss).length = m := ⟨_, rfl⟩
  rw [hm] at or ⊢
  have HM := Lib.hid hm
  clear hm
  have ca4 := Lib.hid (ch3.trans (Chg.of_alloc w3 (.cells #[.slice R m cr] 25) 0 0))
  have D4 := Lib.hid (D2.out.still ca4.out)
  have E4 := Lib.hid (BoxAt.new w3 (.slice R m cr) 25 rfl)
  have K4 := Lib.hid (K2.out.trans (ca4.out.to_below.mono K2.out.size))
  have RD4 := Lib.hid (RD2.out.still ca4.out)
  have OR4 := Lib.hid (or.rd.still (Chg.of_alloc w3 (.cells #[.slice R m cr] 25) 0 0))
  have pd4 := D4.out.c
  clear or ch3 D2 K2 RD2 pd ca
  go_wp2_with fail
  generalize w3.alloc (.cells #[.slice R m cr] 25) = V4 at ca4 D4 E4 K4 RD4 OR4 pd4 ⊢
  refine (spec_IsDeal A1 n1 c1 zss lo1 hi1 V4 RD4.out hl0.out).mono ?_
  rintro e w5 ⟨rfl, ch5⟩
  have D5 := Lib.hid (D4.out.still ch5)
  have E5 := Lib.hid (E4.out.still ch5)
  have K5 := Lib.hid (K4.out.trans (ch5.to_below.mono K4.out.size))
  have RD5 := Lib.hid (RD4.out.still ch5)
  have OR5 := Lib.hid (OR4.out.still ch5)
  clear ch5 D4 E4 K4 RD4 OR4 pd4 ca4
  have pd := D5.out.c
  have pe := E5.out.c
  cases hd : dealB zss with
  | false =>
    have hv : relV zss = [] := by simp [relV, hd]
    have hh : Hid (hlV zss = []) := by show _ = _; simp [hlV, hd]
    obtain rfl : m = 0 := by rw [← HM.out, hv]; rfl
    have hhl := Lib.hid (impl_HolderLists A1 n1 c1 zss lo1 hi1 w5 RD5.out)
    rw [hh.out] at hhl
    clear hv hd HM
    go_wp2_with fail
    refine hhl.out.mono ?_
    rintro e w6 ⟨Q, cq, rfl, _, _, ch6⟩
    go_wp2_with fail
    go_ret
    exact ⟨rfl, K5.out.trans (ch6.to_below.mono K5.out.size)⟩
  | true =>
    have hv : relV zss = relRows zss := by simp [relV, hd]
    have hdr := rel_deal hd
    obtain rfl : m = 4 := by rw [← HM.out, hv]; exact ((deal_iff _).1 hdr).1
    obtain rfl : n1 = 4 := by rw [← RD5.out.1]; exact ((deal_iff _).1 hd).1
    rw [hv] at OR5
    have hhv : Hid (hlV zss = listsTo (holderF zss) 4) := by show _ = _; simp [hlV, hd]
    have hhl := Lib.hid (impl_HolderLists A1 4 c1 zss lo1 hi1 w5 RD5.out)
    rw [hhv.out] at hhl
    have hq4 : Hid ((listsTo (holderF zss) 4).length = 4) := listsTo_length _ _
    have hdv : Hid (dohV (listsTo (holderF zss) 4) = relRows zss ∧ dohE (listsTo (holderF zss) 4) = 0) := by
      have hb := hlB_deal hd
      have e := made_rel hd
      exact ⟨by simp [dohV, hb, e, hdr], by simp [dohE, hb, e, hdr]⟩
    have hrr : Hid (relV (relRows zss) = relRows zss) := by show _ = _; simp [relV, hdr, rel_rel hd]
    have hhr : Hid (hlV (relRows zss) = listsTo (holderF zss) 4) := by show _ = _; simp [hlV, hdr, rel_lists hd]
    have hr4 : Hid ((relRows zss).length = 4) := ((deal_iff _).1 hdr).1
    have hsh := Lib.hid (fun s (hs : s < 4) => shape_rel hd hs)
    have hr13 := Lib.hid (fun j (hj : j < 4) => (show ((relRows zss).getD j []).length ≤ 1048576 by have := deal_row13 hdr j hj; omega))
    have hq13 := Lib.hid (fun j (_ : j < 4) => (show ((listsTo (holderF zss) 4).getD j []).length ≤ 1048576 by have := (HL.of_deal hd).2.1 j; omega))
    have hz13 := Lib.hid (fun j (hj : j < 4) => (show (zss.getD j []).length ≤ 1048576 by have := deal_row13 hd j hj; omega))
    clear hv hdr hd HM hhv
    generalize relRows zss = rz at OR5 hdv hrr hhr hr4 hsh hr13
    generalize listsTo (holderF zss) 4 = qz at hhl hq4 hdv hhr hq13
    go_wp2_with fail
    refine hhl.out.mono ?_
    rintro e w6 ⟨Q, cq, rfl, _, oq, ch6⟩
    rw [hq4.out] at oq ⊢
    have D6 := Lib.hid (D5.out.still ch6)
    have E6 := Lib.hid (E5.out.still ch6)
    have K6 := Lib.hid (K5.out.trans (ch6.to_below.mono K5.out.size))
    have RD6 := Lib.hid (RD5.out.still ch6)
    have OR6 := Lib.hid (OR5.out.still ch6)
    have OQ6 := Lib.hid oq.rd
    clear ch6 oq D5 E5 K5 RD5 OR5 pd pe hhl
    have hdo := Lib.hid (impl_DealOfHolders Q 4 cq qz _ _ w6 OQ6.out hq13.out)
    rw [hdv.out.1, hdv.out.2] at hdo
    go_wp2_with fail
    refine hdo.out.mono ?_
    rintro e w7 ⟨M, cm, rfl, _, om, ch7⟩
    rw [hr4.out] at om ⊢
    have N7 := Lib.hid (ch7.trans (Chg.of_alloc w7 (.cells #[.slice M 4 cm] 25) 0 0))
    have F7 := Lib.hid (BoxAt.new w7 (.slice M 4 cm) 25 rfl)
    have D7 := Lib.hid (D6.out.still N7.out)
    have E7 := Lib.hid (E6.out.still N7.out)
    have K7 := Lib.hid (K6.out.trans (N7.out.to_below.mono K6.out.size))
    have RD7 := Lib.hid (RD6.out.still N7.out)
    have OR7 := Lib.hid (OR6.out.still N7.out)
    have OQ7 := Lib.hid (OQ6.out.still N7.out)
    have OM7 := Lib.hid (om.rd.still (Chg.of_alloc w7 (.cells #[.slice M 4 cm] 25) 0 0))
    have pe := E7.out.c
    have pf := F7.out.c
    clear om ch7 D6 E6 K6 RD6 OR6 OQ6 N7 hdo
    go_wp2_with fail
    generalize w7.alloc (.cells #[.slice M 4 cm] 25) = V7 at F7 D7 E7 K7 RD7 OR7 OQ7 OM7 pe pf ⊢
    have dr := Lib.hid (Chg.drewN V7 1 0 0)
    have hre := Lib.hid (fun V (k : Chg V7 V 0 0) => impl_RelativeDeal R 4 cr rz _ _ V (OR7.out.still k))
    rw [hrr.out] at hre
    have hho := Lib.hid (fun V (k : Chg V7 V 0 0) => impl_HolderLists R 4 cr rz _ _ V (OR7.out.still k))
    rw [hhr.out] at hho
    go_region_held3 (fun W => W.cell? ⟨w3.heap.size, 0, none⟩ = some (.slice R 4 cr) ∧ W.cell? ⟨w7.heap.size, 0, none⟩ = some (.slice M 4 cm)) (first | exact ⟨pe, pf⟩ | exact ⟨pe8, pf8⟩ | exact ⟨pe9, pf9⟩ | exact ⟨pe10, pf10⟩ | exact ⟨pe11, pf11⟩ | exact ⟨pe12, pf12⟩)
      (first
        | (go_at_call 30; refine (likeRows _ _ 4 4 _ _ qz _ _ _ _ w11 o11 (OQ7.out.still k11.out) (by omega) hq13.out).mono ?_; rintro e w12 ⟨rfl, c12⟩; have k12 := Lib.hid (k11.out.trans c12); have pe12 := box_still pe k12.out; have pf12 := box_still pf k12.out)
        | (go_at_call 28; refine (hho.out w10 k10.out).mono ?_; rintro e w11 ⟨Q11, cq11, rfl, _, oq11, c11⟩; rw [hq4.out] at oq11 ⊢; have o11 := oq11.rd; have k11 := Lib.hid (k10.out.trans c11); have pe11 := box_still pe k11.out; have pf11 := box_still pf k11.out)
        | (go_at_call 29; refine (likeDeals _ _ 4 4 _ _ rz _ _ _ _ w9 o9 (OR7.out.still k9.out) (by omega) hr13.out).mono ?_; rintro e w10 ⟨rfl, c10⟩; have k10 := Lib.hid (k9.out.trans c10); have pe10 := box_still pe k10.out; have pf10 := box_still pf k10.out)
        | (go_at_call 26; refine (hre.out w8 k8.out).mono ?_; rintro e w9 ⟨R9, cr9, rfl, _, or9, c9⟩; rw [hr4.out] at or9 ⊢; have o9 := or9.rd; have k9 := Lib.hid (k8.out.trans c9); have pe9 := box_still pe k9.out; have pf9 := box_still pf k9.out)
        | (go_at_call 29; refine (likeDeals _ _ 4 4 _ _ rz _ _ _ _ _ (OM7.out.still dr.out) (OR7.out.still dr.out) (by omega) hr13.out).mono ?_; rintro e w8 ⟨rfl, c8⟩; have k8 := Lib.hid (dr.out.trans c8); have pe8 := box_still pe k8.out; have pf8 := box_still pf k8.out))
    all_goals
      have hsl := Lib.hid (fun (zs : List Int) => (show (shapeV zs).length ≤ 1048576 by unfold shapeV; split <;> simp [shapeF]))
      clear pe pf pe8 pf8 pe9 pf9 pe10 pf10 pe11 pf11 pe12 pf12
      clear o9 or9 oq11 o11 c8 c9 c10 c11 c12 k8 k9 k10 k11 F7 OM7 OQ7 hre hho hdv
      go_wp2_with fail
      go_loopw [8] (fun i wr => ∃ s : Nat, s ≤ 4 ∧ i = .int .i64 s ∧ Hid (Chg V7 wr 0 0)) (fun i _ => 4 - (intOf i).toNat)
      case atStart => exact ⟨0, by omega, rfl, k12.out⟩
      case round =>
        obtain ⟨s, hs, rfl, hw⟩ := hrel
        by_cases hlt : s < 4
        · have hsI : (s : Int) < 4 := by omega
          have dw := Lib.hid (hw.out.trans (Chg.drewN wr 1 0 0))
          have q1 := (D7.out.still hw.out).c
          have q2 := (E7.out.still hw.out).c
          obtain ⟨b, off, B, C, eA, _, _, hcw, hrw, hrl, _⟩ := RD7.out.at_ hlt
          obtain ⟨b', off', B', C', eR, _, _, hcw', hrw', hrl', _⟩ := OR7.out.at_ hlt
          subst eA
          subst eR
          have q3 := box_still hcw hw.out
          have q4 := box_still hcw' hw.out
          have hsv := hsh.out s hlt
          have l1 := hz13.out s hlt
          have l2 := hr13.out s hlt
          have S1 := Lib.hid (fun V (k : Chg V7 V 0 0) => spec_ShapeOf B _ C _ _ _ V (hrw.still k) l1)
          have S2 := Lib.hid (fun V (k : Chg V7 V 0 0) => spec_ShapeOf B' _ C' _ _ _ V (hrw'.still k) l2)
          rw [hsv] at S2
          have hsz := hsl.out (zss.getD s [])
          generalize shapeV (zss.getD s []) = sv at S1 S2 hsz
          generalize (zss.getD s []).length = z1 at S1 q3
          generalize (rz.getD s []).length = z2 at S2 q4
          clear hcw hrw hrl hcw' hrw' hrl' hsv l1 l2
          go_wp2_with fail
          go_region_held3 (fun W => W.cell? ⟨w1.heap.size, 0, none⟩ = some (.slice (some ⟨b, off, none⟩) 4 c1) ∧ W.cell? ⟨w3.heap.size, 0, none⟩ = some (.slice (some ⟨b', off', none⟩) 4 cr) ∧ W.cell? ⟨b, off + s, none⟩ = some (.slice B z1 C) ∧ W.cell? ⟨b', off' + s, none⟩ = some (.slice B' z2 C'))
            (first | exact ⟨q1, q2, q3, q4⟩ | exact ⟨box_still q1 j5.out, box_still q2 j5.out, box_still q3 j5.out, box_still q4 j5.out⟩ | exact ⟨box_still q1 j6.out, box_still q2 j6.out, box_still q3 j6.out, box_still q4 j6.out⟩ | exact ⟨box_still q1 j7.out, box_still q2 j7.out, box_still q3 j7.out, box_still q4 j7.out⟩)
            (first
              | (go_at_call 31; refine (likeInts _ _ _ _ _ _ sv _ _ _ _ v6 (x5.rd.still ch6) x6.rd hsz).mono ?_; rintro e v7 ⟨rfl, c7⟩; have j7 := Lib.hid (j6.out.trans c7))
              | (go_at_call 32; refine (S2.out v5 (dw.out.trans i5.out)).mono ?_; rintro e v6 ⟨A6, c6, rfl, _, _, x6, ch6⟩; have j6 := Lib.hid (j5.out.trans ch6); have i6 := Lib.hid (i5.out.trans ch6))
              | (go_at_call 32; refine (S1.out _ dw.out).mono ?_; rintro e v5 ⟨A5, c5, rfl, _, _, x5, ch5⟩; have j5 := Lib.hid ((Chg.drewN wr 1 0 0).trans ch5); have i5 := Lib.hid ch5))
          all_goals
            have hfin := Lib.hid (hw.out.trans j7.out)
            clear j5 j6 j7 i5 i6 c7 ch5 ch6 x5 x6 q1 q2 q3 q4
            go_wp2_with fail
            go_roundw
            case rel => exact ⟨s + 1, by omega, by go_num, hfin⟩
            case measure => simp [intOf]; omega
        · obtain rfl : s = 4 := by omega
          go_wp2_with fail
          go_ret
          exact ⟨rfl, K7.out.trans (hw.out.to_below.mono K7.out.size)⟩

end Go.Proofs.Ytdfmkikngifjmaa.Lib1
