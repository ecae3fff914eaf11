/- Chapter 3: the law FnDealSymmetries. -/
import Derived.Test.YtdfmkikngifjmaaLists3
import Derived.Test.YtdfmkikngifjmaaDraw3c
import Derived.Test.YtdfmkikngifjmaaPermJ
import Derived.Test.YtdfmkikngifjmaaRepI
import Derived.Deep.RegionHeld3
namespace Go.Proofs.Ytdfmkikngifjmaa.Lib1
open Go.RowKit
set_option maxRecDepth 100000

set_option maxHeartbeats 20000000 in
theorem law_DealSymmetries (A : Option Addr) (n c : Nat) (w : World) (h : Bytes w A n) :
    Calls Try.prog 13 #[.slice A n c] w fun e w' => e = .returned (.bool true) ∧ Below w.heap.size w w' := by
  by_cases hbig : 4096 < n
  · have hb := Lib.hid (big A n c w)
    rw [decide_eq_true hbig] at hb
    clear hbig
    go_enter Try.func13, Try.ntmps13
    go_wp2_with fail
    refine hb.out.mono ?_
    rintro e w' ⟨rfl, rfl⟩
    go_wp2_with fail
    go_ret
    exact ⟨rfl, Below.refl _ _⟩
  have hb := Lib.hid (big A n c w)
  rw [decide_eq_false hbig] at hb
  have hn : n ≤ 1048576 := by omega
  clear hbig
  go_enter Try.func13, Try.ntmps13
  go_wp2_with fail
  refine hb.out.mono ?_
  rintro e w' ⟨rfl, rfl⟩
  go_wp2_with fail
  refine (DrawPermuteSuits A n c _ h hn).mono ?_
  rintro e w1 ⟨A1, n1, c1, zss, T, m, d, to, rfl, hn1, rd1, h15', hm, rt1, B1⟩
  have h15 := Lib.hid h15'
  have ca := Lib.hid (Chg.of_alloc w1 (.cells #[.slice A1 n1 c1] 25) 0 0)
  have D2 := Lib.hid (BoxAt.new w1 (.slice A1 n1 c1) 25 rfl)
  have K2 := Lib.hid (B1.trans (ca.out.to_below.mono B1.size))
  have RD2 := Lib.hid (rd1.still ca.out)
  have RT2 := Lib.hid (rt1.still ca.out)
  have hi1le : Hid (w1.heap.size ≤ w1.heap.size) := Nat.le_refl _
  generalize hlo1 : w.heap.size = lo1 at RD2 RT2
  generalize hhi1 : w1.heap.size = hi1 at RD2 RT2
  clear hi1le
  clear hlo1 rd1 rt1 B1 h15' hb
  have HHI := Lib.hid hhi1
  clear hhi1
  have pd := D2.out.c
  have hm5 : m ≤ 1048576 := by omega
  have hl0 := Lib.hid (fun j (_ : j < n1) => (show (zss.getD j []).length ≤ 1048576 by have := h15.out j; omega))
  have hI := Lib.hid (fun W (q : RdR W lo1 hi1 A1 n1 zss) (q' : Rd W lo1 hi1 T m to) => permuteSuits A1 n1 c1 zss lo1 hi1 T m d to lo1 hi1 W q q')
  have hS := Lib.hid (fun W (q : RdR W lo1 hi1 A1 n1 zss) (q' : Rd W lo1 hi1 T m to) => spec_PermuteSuits A1 n1 c1 zss lo1 hi1 T m d to lo1 hi1 W q q' hm5 (by omega) hl0.out)
  cases hd : dealB zss with
  | false =>
    have hE : permE zss to = 1 := by simp [permE, hd]
    have hP : permV zss to = [] := by simp [permV, hd]
    rw [hE, hP] at hI hS
    have HD := Lib.hid hd
    clear hd hE hP
    go_wp2_with fail
    generalize w1.alloc (.cells #[.slice A1 n1 c1] 25) = w2 at ca D2 K2 RD2 RT2 pd
    refine (hI.out w2 RD2.out RT2.out).mono ?_
    rintro e w3 ⟨A3, c3, rfl, _, _, ch3⟩
    have ca3 := Lib.hid (ch3.trans (Chg.of_alloc w3 (.cells #[.slice A3 0 c3] 25) 0 0))
    have D4 := Lib.hid (D2.out.still ca3.out)
    have pd4 := D4.out.c
    have RD4 := Lib.hid (RD2.out.still ca3.out)
    have RT4 := Lib.hid (RT2.out.still ca3.out)
    have K4 := Lib.hid (K2.out.trans (ca3.out.to_below.mono K2.out.size))
    clear ch3 pd
    go_wp2_with fail
    refine (hS.out _ RD4.out RT4.out).mono ?_
    rintro e w5 ⟨A5, c5, rfl, _, _, ch5⟩
    have ca5 := Lib.hid (ch5.trans (Chg.of_alloc w5 (.cells #[.slice A5 0 c5] 25) 0 0))
    have D6 := Lib.hid (D4.out.still ca5.out)
    have pd6 := D6.out.c
    have RD6 := Lib.hid (RD4.out.still ca5.out)
    have K6 := Lib.hid (K4.out.trans (ca5.out.to_below.mono K4.out.size))
    clear ch5 pd4
    go_wp2_with fail
    refine (spec_IsDeal A1 n1 c1 zss lo1 hi1 _ RD6.out hl0.out).mono ?_
    rintro e w7 ⟨rfl, c7⟩
    rw [HD.out]
    have K7 := Lib.hid (K6.out.trans (c7.to_below.mono K6.out.size))
    clear c7
    go_wp2_with fail
    go_ret
    exact ⟨rfl, K7.out⟩
  | true =>
    have HD := Lib.hid hd
    obtain rfl : n1 = 4 := by rw [← RD2.out.1]; exact ((deal_iff zss).1 hd).1
    cases ho : orderB to with
    | false =>
      have hE : permE zss to = 2 := by simp [permE, hd, ho]
      have hP : permV zss to = [] := by simp [permV, ho]
      rw [hE, hP] at hI hS
      clear hd hE hP ho
      go_wp2_with fail
      generalize w1.alloc (.cells #[.slice A1 4 c1] 25) = w2 at ca D2 K2 RD2 RT2 pd
      refine (hI.out w2 RD2.out RT2.out).mono ?_
      rintro e w3 ⟨A3, c3, rfl, _, _, ch3⟩
      have ca3 := Lib.hid (ch3.trans (Chg.of_alloc w3 (.cells #[.slice A3 0 c3] 25) 0 0))
      have D4 := Lib.hid (D2.out.still ca3.out)
      have pd4 := D4.out.c
      have RD4 := Lib.hid (RD2.out.still ca3.out)
      have RT4 := Lib.hid (RT2.out.still ca3.out)
      have K4 := Lib.hid (K2.out.trans (ca3.out.to_below.mono K2.out.size))
      clear ch3 pd
      go_wp2_with fail
      refine (hS.out _ RD4.out RT4.out).mono ?_
      rintro e w5 ⟨A5, c5, rfl, _, _, ch5⟩
      have ca5 := Lib.hid (ch5.trans (Chg.of_alloc w5 (.cells #[.slice A5 0 c5] 25) 0 0))
      have Dt := Lib.hid (D4.out.still ca5.out)
      have RDt := Lib.hid (RD4.out.still ca5.out)
      have Kt := Lib.hid (K4.out.trans (ca5.out.to_below.mono K4.out.size))
      clear ch5 pd4 hI hS ca ca3 ca5 D2 D4 RD2 RD4 RT2 RT4 K2 K4
      have pd := Dt.out.c
      go_wp2_with fail
      refine (spec_IsDeal A1 4 c1 zss lo1 hi1 _ RDt.out (fun j _ => by have := h15.out j; omega)).mono ?_
      rintro e w18 ⟨rfl, c18⟩
      rw [HD.out]
      have D18 := Lib.hid (Dt.out.still c18)
      have RD18 := Lib.hid (RDt.out.still c18)
      have K18 := Lib.hid (Kt.out.trans (c18.to_below.mono Kt.out.size))
      have hp3 := Lib.hid D18.out.lt
      clear c18 pd Dt RDt Kt
      have pd := D18.out.c
      have Q0 := Lib.hid (BoxAt.new w18 (.slice A1 4 c1) 25 rfl)
      have ca := Lib.hid (Chg.of_alloc w18 (.cells #[.slice A1 4 c1] 25) 0 0)
      have RDa := Lib.hid (RD18.out.still ca.out)
      go_wp2_with fail
      generalize w18.alloc (.cells #[.slice A1 4 c1] 25) = w19 at Q0 ca RDa
      generalize hp : w18.heap.size = p14 at Q0
      have HP := Lib.hid hp
      clear hp pd
      go_loopw [15] (fun i wr => ∃ (k : Nat) (A' : Option Addr) (c' lo' hi' : Nat), k ≤ 4 ∧ i = .int .i64 k ∧ Hid (BoxAt wr p14 (.slice A' 4 c') 25) ∧ Hid (RdR wr lo' hi' A' 4 (iterN (rotTo · 1 4) k zss)) ∧ Hid (hi' ≤ p14 ∨ p14 + 1 ≤ lo') ∧ Hid (Chg w18 wr 0 0)) (fun i _ => 4 - (intOf i).toNat)
      case atStart => exact ⟨0, _, _, lo1, hi1, by omega, rfl, Q0.out, RDa.out, .inl (by have := HP.out; have := HHI.out; have := hp3.out; omega), ca.out⟩
      case round =>
        clear Q0 ca RDa
        obtain ⟨k, A', c', lo', hi', hk, rfl, hbox, hrd, hfar, hch⟩ := hrel
        by_cases hlt : k < 4
        · have hkl : (k : Int) < 4 := by omega
          have hdk := Lib.hid (iterN_deal (fun z hz => deal_turns hz (by omega : (0 : Int) ≤ 1) (by omega)) HD.out k)
          have hv := Lib.hid (rotV_yes hdk.out (by omega : (0 : Int) ≤ 1) (by omega))
          have pb := hbox.out.c
          have hsz := Lib.hid (show p14 + 1 ≤ wr.heap.size from hbox.out.lt)
          have hnx : Hid (rotTo (iterN (rotTo · 1 4) k zss) 1 4 = iterN (rotTo · 1 4) (k + 1) zss) := rfl
          have hrot := Lib.hid (rotateDeal A' 4 c' 1 (iterN (rotTo · 1 4) k zss) lo' hi' wr hrd.out)
          rw [hv.out.1, hv.out.2, hnx.out] at hrot
          have hl4 : Hid ((iterN (rotTo · 1 4) (k + 1) zss).length = 4) := by show _ = _; rw [← hnx.out, rotTo_length]
          go_wp2_with fail
          refine hrot.out.mono ?_
          rintro e w2 ⟨A2, c2, rfl, hc2, o2, ch2⟩
          rw [hl4.out] at hc2 o2 ⊢
          have ca2 := Lib.hid (Chg.of_alloc w2 (.cells #[.slice A2 4 c2] 25) 0 0)
          have bn := box_at w2 (.slice A2 4 c2) 25
          have b14 := Lib.hid ((hbox.out.still ch2).still ca2.out)
          have p14c := b14.out.c
          have p14f := b14.out.f
          have hnb : Hid (BoxAt ((w2.alloc (.cells #[.slice A2 4 c2] 25)).setCell ⟨p14, 0, none⟩ (.slice A2 4 c2)) p14 (.slice A2 4 c2) 25) := by show _ = _; have := b14.out; unfold BoxAt at this; simp [World.setCell, Array.getElem?_modify, this]
          have st : Hid (Chg (w2.alloc (.cells #[.slice A2 4 c2] 25)) ((w2.alloc (.cells #[.slice A2 4 c2] 25)).setCell ⟨p14, 0, none⟩ (.slice A2 4 c2)) p14 (p14 + 1)) := (Chg.refl _ _ _).store (Nat.le_refl _) (by show p14 < p14 + 1; omega) _
          have hrd2 := Lib.hid ((o2.rd.still ca2.out).chg st.out (.inr hsz.out))
          have hch2 := Lib.hid (((hch.out.trans ch2).trans ca2.out).cell (g := p14) (i := 0) (v := .slice A2 4 c2) (Nat.le_of_eq HP.out))
          clear o2 ch2 hrot pb hbox hrd hfar hch
          go_wp2_with fail
          go_roundw
          case rel => exact ⟨k + 1, A2, c2, _, _, by omega, by go_num, hnb, hrd2, .inr hsz.out, hch2⟩
          case measure => simp [intOf]; omega
        · obtain rfl : k = 4 := by omega
          have hit : Hid (iterN (rotTo · 1 4) 4 zss = zss) := by show _ = _; obtain ⟨qa, qb, qc, qd, rfl⟩ := four_rows (((deal_iff zss).1 HD.out).1); rfl
          rw [hit.out] at hrd
          have D20 := Lib.hid (D18.out.still hch.out)
          have RD20 := Lib.hid (RD18.out.still hch.out)
          have K20 := Lib.hid (K18.out.trans (hch.out.to_below.mono K18.out.size))
          have v3 := Lib.hid (rotV_yes HD.out (by omega : (0 : Int) ≤ 3) (by omega))
          have d3 := Lib.hid (deal_turns HD.out (by omega : (0 : Int) ≤ 3) (by omega))
          have v1 := Lib.hid (rotV_yes d3.out (by omega : (0 : Int) ≤ 1) (by omega))
          have hback : Hid (rotTo (rotTo zss 3 4) 1 4 = zss) := by show _ = _; obtain ⟨qa, qb, qc, qd, rfl⟩ := four_rows (((deal_iff zss).1 HD.out).1); rfl
          have hz4 := Lib.hid (((deal_iff zss).1 HD.out).1)
          have pd := D20.out.c
          have hr3 := Lib.hid (rotateDeal A1 4 c1 3 zss lo1 hi1 wr RD20.out)
          rw [v3.out.1, v3.out.2] at hr3
          go_wp2_with fail
          refine hr3.out.mono ?_
          rintro e w21 ⟨A21, c21, rfl, hc21, o21, ch21⟩
          rw [rotTo_length] at hc21 o21 ⊢
          have ca21 := Lib.hid (Chg.of_alloc w21 (.cells #[.slice A21 4 c21] 25) 0 0)
          have b21 := box_at w21 (.slice A21 4 c21) 25
          have k21 := Lib.hid (ch21.trans ca21.out)
          have o21' := Lib.hid (o21.still ca21.out)
          have hr1 := Lib.hid (rotateDeal A21 4 c21 1 (rotTo zss 3 4) _ _ _ o21'.out.rd)
          rw [v1.out.1, v1.out.2, hback.out] at hr1
          clear ch21 o21 hr3
          go_wp2_with fail
          refine hr1.out.mono ?_
          rintro e w22 ⟨A22, c22, rfl, hc22, o22, ch22⟩
          rw [hz4.out] at hc22 o22 ⊢
          have ca22 := Lib.hid (Chg.of_alloc w22 (.cells #[.slice A22 4 c22] 25) 0 0)
          have b22 := Lib.hid (BoxAt.new w22 (.slice A22 4 c22) 25 rfl)
          have kk := Lib.hid ((k21.out.trans ch22).trans ca22.out)
          have RD22 := Lib.hid (RD20.out.still kk.out)
          have D22 := Lib.hid (D20.out.still kk.out)
          have A22r := Lib.hid (o22.still ca22.out)
          have Q22 := Lib.hid (hbox.out.still kk.out)
          have RQ22 := Lib.hid (hrd.out.still kk.out)
          have K22 := Lib.hid (K20.out.trans (kk.out.to_below.mono K20.out.size))
          clear o22 ch22 hr1 b21 ca21 o21' k21 pd hbox hrd hfar hch kk
          have e0 := D22.out.c
          have e1 := b22.out.c
          have e2 := Q22.out.c
          go_wp2_with fail
          generalize w22.alloc (.cells #[.slice A22 4 c22] 25) = w23 at ca22 b22 RD22 D22 A22r Q22 RQ22 K22 e0 e1 e2
          have hl := Lib.hid (fun j (_ : j < 4) => (show (zss.getD j []).length ≤ 1048576 by have := h15.out j; omega))
          have dr := Lib.hid (Chg.drewN w23 1 0 0)
          have hm1 : Hid (mirrorV (mirrorV zss) = zss) := mirror_twice HD.out
          have hml : Hid ((mirrorV zss).length = 4) := by show _ = _; simp [mirrorV, HD.out, swapR_length, hz4.out]
          have kmi := Lib.hid (fun W (q : RdR W lo1 hi1 A1 4 zss) => impl_MirrorDeal' A1 4 c1 zss lo1 hi1 W q)
          have S23 := Lib.hid (And.intro e2 (And.intro e0 e1))
          go_region_held3 (fun W => W.cell? ⟨p14, 0, none⟩ = some (.slice A' 4 c') ∧ W.cell? ⟨w1.heap.size, 0, none⟩ = some (.slice A1 4 c1) ∧ W.cell? ⟨w22.heap.size, 0, none⟩ = some (.slice A22 4 c22)) (first | exact ⟨e2, e0, e1⟩ | exact ⟨g12, g10, g11⟩ | exact ⟨g22, g20, g21⟩ | exact ⟨g32, g30, g31⟩ | exact ⟨g42, g40, g41⟩ | exact ⟨g52, g50, g51⟩) (first | (have q4 := d27; go_at_call 29; refine (likeDeals A27 A1 4 4 c27 c1 zss _ _ _ _ w27 ov27 (RD22.out.still d27.out) (by omega) hl.out).mono ?_; rintro e w28 ⟨rfl, c28⟩; have g52 := box_still g42 c28; have g50 := box_still g40 c28; have g51 := box_still g41 c28) | (have q4 := d26; go_at_call 47; refine (impl_MirrorDeal' A26 4 c26 (mirrorV zss) _ _ w26 ov26).mono ?_; rw [hm1.out]; unfold RetD; rw [hz4.out]; rintro e w27 ⟨A27, c27, rfl, _, o27, c27'⟩; have ov27 := o27.rd; have d27 := Lib.hid (d26.out.trans c27'); have q3 := trivial; have g42 := box_still g32 c27'; have g40 := box_still g30 c27'; have g41 := box_still g31 c27') | (have q4 := d25; go_at_call 47; refine (kmi.out w25 (RD22.out.still d25.out)).mono ?_; unfold RetD; rw [hml.out]; rintro e w26 ⟨A26, c26, rfl, _, o26, c26'⟩; have ov26 := o26.rd; have d26 := Lib.hid (d25.out.trans c26'); have g32 := box_still g22 c26'; have g30 := box_still g20 c26'; have g31 := box_still g21 c26') | (have q4 := d24; go_at_call 29; refine (likeDeals A22 A1 4 4 c22 c1 zss _ _ _ _ w24 (A22r.out.rd.still d24.out) (RD22.out.still d24.out) (by omega) hl.out).mono ?_; rintro e w25 ⟨rfl, c25⟩; have d25 := Lib.hid (d24.out.trans c25); have g22 := box_still g12 c25; have g20 := box_still g10 c25; have g21 := box_still g11 c25) | (go_at_call 29; refine (likeDeals A' A1 4 4 c' c1 zss _ _ _ _ _ (RQ22.out.still dr.out) (RD22.out.still dr.out) (by omega) hl.out).mono ?_; rintro e w24 ⟨rfl, c24⟩; have d24 := Lib.hid (dr.out.trans c24); have g12 := box_still e2 d24.out; have g10 := box_still e0 d24.out; have g11 := box_still e1 d24.out))
          all_goals
            have kf := Lib.hid (K22.out.trans ((d27.out.trans c28).to_below.mono K22.out.size))
            clear c28 d27 d26 d25 d24 c24 c25 c26' c27' o26 o27 ov26 ov27
            (try go_wp2_with fail)
            go_ret
            exact ⟨rfl, kf.out⟩
    | true =>
      have hE : permE zss to = 0 := by simp [permE, hd, ho]
      have hz4' := ((deal_iff zss).1 hd).1
      have hPl : (permV zss to).length = 4 := by simp [permV, hd, ho, permRows_length]
      have hpb := Lib.hid (perm_back hd ho)
      obtain ⟨hto4, hto⟩ := order_range ho
      obtain rfl : m = 4 := by rw [← RT2.out.1]; exact hto4
      have HTO := Lib.hid hto
      rw [hE] at hI hS
      generalize hPP : permV zss to = P at hI hS hPl hpb
      have hPlen := Lib.hid hPl
      have hzl := Lib.hid hz4'
      clear hd hE ho hPP hto hto4 hPl hz4'
      have hmk : ∀ W, (Instr.makeSlice 40 (.int .i64 4) (.int .i64 4)).run Try.prog W = .ok (.slice (some ⟨W.heap.size, 0, none⟩) 4 4) (W.alloc (.cells (([0, 0, 0, 0] : List Int).map (Value.int .i64)).toArray 2)) := fun W => by
        have q := run_make_row' (P := Try.prog) 40 2 (.int .i64 0) 8 Try.underlying40 cells_info rfl .i64 .i64 4 (by decide) (by decide) W
        rw [show madeCells #[Value.int .i64 0] 4 = (([0, 0, 0, 0] : List Int).map (Value.int .i64)).toArray by kernel_rfl] at q
        exact q
      go_wp2_with fail
      generalize w1.alloc (.cells #[.slice A1 4 c1] 25) = w2 at ca D2 K2 RD2 RT2 pd
      refine (hI.out w2 RD2.out RT2.out).mono ?_
      rintro e w3 ⟨A3, c3, rfl, _, o3, ch3⟩
      rw [hPlen.out] at o3 ⊢
      have ca3 := Lib.hid (ch3.trans (Chg.of_alloc w3 (.cells #[.slice A3 4 c3] 25) 0 0))
      have X4 := Lib.hid (BoxAt.new w3 (.slice A3 4 c3) 25 rfl)
      have O4 := Lib.hid (o3.still (Chg.of_alloc w3 (.cells #[.slice A3 4 c3] 25) 0 0))
      have D4 := Lib.hid (D2.out.still ca3.out)
      have pd4 := D4.out.c
      have RD4 := Lib.hid (RD2.out.still ca3.out)
      have RT4 := Lib.hid (RT2.out.still ca3.out)
      have K4 := Lib.hid (K2.out.trans (ca3.out.to_below.mono K2.out.size))
      clear ch3 pd o3
      go_wp2_with fail
      generalize w3.alloc (.cells #[.slice A3 4 c3] 25) = w4 at ca3 X4 O4 D4 RD4 RT4 K4 pd4
      refine (hS.out _ RD4.out RT4.out).mono ?_
      rintro e w5 ⟨A5, c5, rfl, _, _, ch5⟩
      rw [hPlen.out]
      have ca5 := Lib.hid (ch5.trans (Chg.of_alloc w5 (.cells #[.slice A5 4 c5] 25) 0 0))
      have D6 := Lib.hid (D4.out.still ca5.out)
      have X6 := Lib.hid (X4.out.still ca5.out)
      have O6 := Lib.hid (O4.out.still ca5.out)
      have RD6 := Lib.hid (RD4.out.still ca5.out)
      have RT6 := Lib.hid (RT4.out.still ca5.out)
      have K6 := Lib.hid (K4.out.trans (ca5.out.to_below.mono K4.out.size))
      clear ch5 pd4 hI hS
      go_wp2_with fail
      clear hmk
      have H6 : Hid ((w5.alloc (.cells #[.slice A5 4 c5] 25)).heap.size = w5.heap.size + 1) := by show _ = _; simp
      generalize w5.alloc (.cells #[.slice A5 4 c5] 25) = w6 at ca5 D6 X6 O6 RD6 RT6 K6 H6
      have F0 := Lib.hid (show Full (w6.alloc (.cells (([0, 0, 0, 0] : List Int).map (Value.int .i64)).toArray 2)) (w5.heap.size + 1) [0, 0, 0, 0] from by rw [← H6.out]; exact heap_alloc_new w6 _)
      have cf := Lib.hid (Chg.of_alloc w6 (.cells (([0, 0, 0, 0] : List Int).map (Value.int .i64)).toArray 2) 0 0)
      go_loopw [10] (fun i wr => ∃ k : Nat, k ≤ 4 ∧ i = .int .i64 k ∧ Hid (Full wr (w5.heap.size + 1) (backTo to k)) ∧ Hid (Chg w6 wr 0 0)) (fun i _ => 4 - (intOf i).toNat)
      case atStart => exact ⟨0, by omega, rfl, F0.out, cf.out⟩
      case round =>
        clear F0 cf
        obtain ⟨k, hk, rfl, hfu, hch⟩ := hrel
        by_cases hlt : k < 4
        · have hkl : (k : Int) < 4 := by omega
          obtain ⟨tb, toff, rfl, _, _, hc⟩ := (RT6.out.still hch.out).2 (by omega)
          have hck := hc k hlt
          obtain ⟨t, ht⟩ : ∃ t : Nat, to.getD k 0 = t := ⟨(to.getD k 0).toNat, by have := HTO.out k hlt; omega⟩
          have ht4 : t < 4 := by have := HTO.out k hlt; omega
          have htI : (t : Int) < 4 := by omega
          have hnx : Hid ((backTo to k).set t (k : Int) = backTo to (k + 1)) := by show _ = _; rw [backTo, ht]; rfl
          have cc := hfu.out.cell (j := t) (by rw [backTo_length]; exact ht4)
          have c1' := cc.1
          have c2' := cc.2
          have hset := Lib.hid (hfu.out.set (i := t) (k : Int))
          rw [hnx.out] at hset
          have hch2 := Lib.hid (hch.out.cell (g := w5.heap.size + 1) (i := t) (v := .int .i64 (k : Int)) (Nat.le_of_eq H6.out))
          rw [ht] at hck
          clear cc hc hfu hch ht
          generalize (backTo to k).getD t 0 = old at c1'
          go_wp2_with fail
          go_roundw
          case rel => exact ⟨k + 1, by omega, by go_num, hset, hch2⟩
          case measure => simp [intOf]; omega
        · obtain rfl : k = 4 := by omega
          have X7 := Lib.hid (X6.out.still hch.out)
          have px := X7.out.c
          have rb := Lib.hid (hfu.out.rd (n := 4) (lo := 0) (Nat.zero_le _) (by rw [backTo_length]; omega))
          rw [List.take_of_length_le (by rw [backTo_length]; omega)] at rb
          have hq := Lib.hid (permuteSuits A3 4 c3 P _ _ (some ⟨w5.heap.size + 1, 0, none⟩) 4 4 (backTo to 4) _ _ wr (O6.out.still hch.out).rd rb.out)
          rw [hpb.out.1, hpb.out.2] at hq
          have D7 := Lib.hid (D6.out.still hch.out)
          have RD7 := Lib.hid (RD6.out.still hch.out)
          have K7 := Lib.hid (K6.out.trans (hch.out.to_below.mono K6.out.size))
          clear hfu hch
          go_wp2_with fail
          refine hq.out.mono ?_
          rintro e w8 ⟨A8, c8, rfl, _, o8, ch8⟩
          rw [hzl.out] at o8 ⊢
          have ca8 := Lib.hid (Chg.of_alloc w8 (.cells #[.slice A8 4 c8] 25) 0 0)
          have k8 := Lib.hid (ch8.trans ca8.out)
          have y8 := box_at w8 (.slice A8 4 c8) 25
          have D8 := Lib.hid (D7.out.still k8.out)
          have RD8 := Lib.hid (RD7.out.still k8.out)
          have K8 := Lib.hid (K7.out.trans (k8.out.to_below.mono K7.out.size))
          have O8 := Lib.hid (o8.still ca8.out)
          have pd8 := D8.out.c
          clear o8 ch8 hq px
          go_wp2_with fail
          refine (likeDeals A8 A1 4 4 c8 c1 zss _ _ _ _ _ O8.out.rd RD8.out (by omega) (fun j _ => by have := h15.out j; omega)).mono ?_
          rintro e w9 ⟨rfl, c9⟩
          have Dt := Lib.hid (D8.out.still c9)
          have RDt := Lib.hid (RD8.out.still c9)
          have Kt := Lib.hid (K8.out.trans (c9.to_below.mono K8.out.size))
          clear c9 pd8 y8 ca8 k8 D8 RD8 K8 O8 D7 RD7 K7 X7 rb D6 X6 O6 RD6 RT6 K6 ca5 ca3 X4 O4 D4 RD4 RT4 K4 ca D2 K2 RD2 RT2
          have pd := Dt.out.c
          go_wp2_with fail
          refine (spec_IsDeal A1 4 c1 zss lo1 hi1 _ RDt.out (fun j _ => by have := h15.out j; omega)).mono ?_
          rintro e w18 ⟨rfl, c18⟩
          rw [HD.out]
          have D18 := Lib.hid (Dt.out.still c18)
          have RD18 := Lib.hid (RDt.out.still c18)
          have K18 := Lib.hid (Kt.out.trans (c18.to_below.mono Kt.out.size))
          have hp3 := Lib.hid D18.out.lt
          clear c18 pd Dt RDt Kt
          have pd := D18.out.c
          have Q0 := Lib.hid (BoxAt.new w18 (.slice A1 4 c1) 25 rfl)
          have ca := Lib.hid (Chg.of_alloc w18 (.cells #[.slice A1 4 c1] 25) 0 0)
          have RDa := Lib.hid (RD18.out.still ca.out)
          go_wp2_with fail
          generalize w18.alloc (.cells #[.slice A1 4 c1] 25) = w19 at Q0 ca RDa
          generalize hp : w18.heap.size = p14 at Q0
          have HP := Lib.hid hp
          clear hp pd
          go_loopw [15] (fun i wr => ∃ (k : Nat) (A' : Option Addr) (c' lo' hi' : Nat), k ≤ 4 ∧ i = .int .i64 k ∧ Hid (BoxAt wr p14 (.slice A' 4 c') 25) ∧ Hid (RdR wr lo' hi' A' 4 (iterN (rotTo · 1 4) k zss)) ∧ Hid (hi' ≤ p14 ∨ p14 + 1 ≤ lo') ∧ Hid (Chg w18 wr 0 0)) (fun i _ => 4 - (intOf i).toNat)
          case atStart => exact ⟨0, _, _, lo1, hi1, by omega, rfl, Q0.out, RDa.out, .inl (by have := HP.out; have := HHI.out; have := hp3.out; omega), ca.out⟩
          case round =>
            clear Q0 ca RDa
            obtain ⟨k, A', c', lo', hi', hk, rfl, hbox, hrd, hfar, hch⟩ := hrel
            by_cases hlt : k < 4
            · have hkl : (k : Int) < 4 := by omega
              have hdk := Lib.hid (iterN_deal (fun z hz => deal_turns hz (by omega : (0 : Int) ≤ 1) (by omega)) HD.out k)
              have hv := Lib.hid (rotV_yes hdk.out (by omega : (0 : Int) ≤ 1) (by omega))
              have pb := hbox.out.c
              have hsz := Lib.hid (show p14 + 1 ≤ wr.heap.size from hbox.out.lt)
              have hnx : Hid (rotTo (iterN (rotTo · 1 4) k zss) 1 4 = iterN (rotTo · 1 4) (k + 1) zss) := rfl
              have hrot := Lib.hid (rotateDeal A' 4 c' 1 (iterN (rotTo · 1 4) k zss) lo' hi' wr hrd.out)
              rw [hv.out.1, hv.out.2, hnx.out] at hrot
              have hl4 : Hid ((iterN (rotTo · 1 4) (k + 1) zss).length = 4) := by show _ = _; rw [← hnx.out, rotTo_length]
              go_wp2_with fail
              refine hrot.out.mono ?_
              rintro e w2 ⟨A2, c2, rfl, hc2, o2, ch2⟩
              rw [hl4.out] at hc2 o2 ⊢
              have ca2 := Lib.hid (Chg.of_alloc w2 (.cells #[.slice A2 4 c2] 25) 0 0)
              have bn := box_at w2 (.slice A2 4 c2) 25
              have b14 := Lib.hid ((hbox.out.still ch2).still ca2.out)
              have p14c := b14.out.c
              have p14f := b14.out.f
              have hnb : Hid (BoxAt ((w2.alloc (.cells #[.slice A2 4 c2] 25)).setCell ⟨p14, 0, none⟩ (.slice A2 4 c2)) p14 (.slice A2 4 c2) 25) := by show _ = _; have := b14.out; unfold BoxAt at this; simp [World.setCell, Array.getElem?_modify, this]
              have st : Hid (Chg (w2.alloc (.cells #[.slice A2 4 c2] 25)) ((w2.alloc (.cells #[.slice A2 4 c2] 25)).setCell ⟨p14, 0, none⟩ (.slice A2 4 c2)) p14 (p14 + 1)) := (Chg.refl _ _ _).store (Nat.le_refl _) (by show p14 < p14 + 1; omega) _
              have hrd2 := Lib.hid ((o2.rd.still ca2.out).chg st.out (.inr hsz.out))
              have hch2 := Lib.hid (((hch.out.trans ch2).trans ca2.out).cell (g := p14) (i := 0) (v := .slice A2 4 c2) (Nat.le_of_eq HP.out))
              clear o2 ch2 hrot pb hbox hrd hfar hch
              go_wp2_with fail
              go_roundw
              case rel => exact ⟨k + 1, A2, c2, _, _, by omega, by go_num, hnb, hrd2, .inr hsz.out, hch2⟩
              case measure => simp [intOf]; omega
            · obtain rfl : k = 4 := by omega
              have hit : Hid (iterN (rotTo · 1 4) 4 zss = zss) := by show _ = _; obtain ⟨qa, qb, qc, qd, rfl⟩ := four_rows (((deal_iff zss).1 HD.out).1); rfl
              rw [hit.out] at hrd
              have D20 := Lib.hid (D18.out.still hch.out)
              have RD20 := Lib.hid (RD18.out.still hch.out)
              have K20 := Lib.hid (K18.out.trans (hch.out.to_below.mono K18.out.size))
              have v3 := Lib.hid (rotV_yes HD.out (by omega : (0 : Int) ≤ 3) (by omega))
              have d3 := Lib.hid (deal_turns HD.out (by omega : (0 : Int) ≤ 3) (by omega))
              have v1 := Lib.hid (rotV_yes d3.out (by omega : (0 : Int) ≤ 1) (by omega))
              have hback : Hid (rotTo (rotTo zss 3 4) 1 4 = zss) := by show _ = _; obtain ⟨qa, qb, qc, qd, rfl⟩ := four_rows (((deal_iff zss).1 HD.out).1); rfl
              have hz4 := Lib.hid (((deal_iff zss).1 HD.out).1)
              have pd := D20.out.c
              have hr3 := Lib.hid (rotateDeal A1 4 c1 3 zss lo1 hi1 wr RD20.out)
              rw [v3.out.1, v3.out.2] at hr3
              go_wp2_with fail
              refine hr3.out.mono ?_
              rintro e w21 ⟨A21, c21, rfl, hc21, o21, ch21⟩
              rw [rotTo_length] at hc21 o21 ⊢
              have ca21 := Lib.hid (Chg.of_alloc w21 (.cells #[.slice A21 4 c21] 25) 0 0)
              have b21 := box_at w21 (.slice A21 4 c21) 25
              have k21 := Lib.hid (ch21.trans ca21.out)
              have o21' := Lib.hid (o21.still ca21.out)
              have hr1 := Lib.hid (rotateDeal A21 4 c21 1 (rotTo zss 3 4) _ _ _ o21'.out.rd)
              rw [v1.out.1, v1.out.2, hback.out] at hr1
              clear ch21 o21 hr3
              go_wp2_with fail
              refine hr1.out.mono ?_
              rintro e w22 ⟨A22, c22, rfl, hc22, o22, ch22⟩
              rw [hz4.out] at hc22 o22 ⊢
              have ca22 := Lib.hid (Chg.of_alloc w22 (.cells #[.slice A22 4 c22] 25) 0 0)
              have b22 := Lib.hid (BoxAt.new w22 (.slice A22 4 c22) 25 rfl)
              have kk := Lib.hid ((k21.out.trans ch22).trans ca22.out)
              have RD22 := Lib.hid (RD20.out.still kk.out)
              have D22 := Lib.hid (D20.out.still kk.out)
              have A22r := Lib.hid (o22.still ca22.out)
              have Q22 := Lib.hid (hbox.out.still kk.out)
              have RQ22 := Lib.hid (hrd.out.still kk.out)
              have K22 := Lib.hid (K20.out.trans (kk.out.to_below.mono K20.out.size))
              clear o22 ch22 hr1 b21 ca21 o21' k21 pd hbox hrd hfar hch kk
              have e0 := D22.out.c
              have e1 := b22.out.c
              have e2 := Q22.out.c
              go_wp2_with fail
              generalize w22.alloc (.cells #[.slice A22 4 c22] 25) = w23 at ca22 b22 RD22 D22 A22r Q22 RQ22 K22 e0 e1 e2
              have hl := Lib.hid (fun j (_ : j < 4) => (show (zss.getD j []).length ≤ 1048576 by have := h15.out j; omega))
              have dr := Lib.hid (Chg.drewN w23 1 0 0)
              have hm1 : Hid (mirrorV (mirrorV zss) = zss) := mirror_twice HD.out
              have hml : Hid ((mirrorV zss).length = 4) := by show _ = _; simp [mirrorV, HD.out, swapR_length, hz4.out]
              have kmi := Lib.hid (fun W (q : RdR W lo1 hi1 A1 4 zss) => impl_MirrorDeal' A1 4 c1 zss lo1 hi1 W q)
              have S23 := Lib.hid (And.intro e2 (And.intro e0 e1))
              go_region_held3 (fun W => W.cell? ⟨p14, 0, none⟩ = some (.slice A' 4 c') ∧ W.cell? ⟨w1.heap.size, 0, none⟩ = some (.slice A1 4 c1) ∧ W.cell? ⟨w22.heap.size, 0, none⟩ = some (.slice A22 4 c22)) (first | exact ⟨e2, e0, e1⟩ | exact ⟨g12, g10, g11⟩ | exact ⟨g22, g20, g21⟩ | exact ⟨g32, g30, g31⟩ | exact ⟨g42, g40, g41⟩ | exact ⟨g52, g50, g51⟩) (first | (have q4 := d27; go_at_call 29; refine (likeDeals A27 A1 4 4 c27 c1 zss _ _ _ _ w27 ov27 (RD22.out.still d27.out) (by omega) hl.out).mono ?_; rintro e w28 ⟨rfl, c28⟩; have g52 := box_still g42 c28; have g50 := box_still g40 c28; have g51 := box_still g41 c28) | (have q4 := d26; go_at_call 47; refine (impl_MirrorDeal' A26 4 c26 (mirrorV zss) _ _ w26 ov26).mono ?_; rw [hm1.out]; unfold RetD; rw [hz4.out]; rintro e w27 ⟨A27, c27, rfl, _, o27, c27'⟩; have ov27 := o27.rd; have d27 := Lib.hid (d26.out.trans c27'); have q3 := trivial; have g42 := box_still g32 c27'; have g40 := box_still g30 c27'; have g41 := box_still g31 c27') | (have q4 := d25; go_at_call 47; refine (kmi.out w25 (RD22.out.still d25.out)).mono ?_; unfold RetD; rw [hml.out]; rintro e w26 ⟨A26, c26, rfl, _, o26, c26'⟩; have ov26 := o26.rd; have d26 := Lib.hid (d25.out.trans c26'); have g32 := box_still g22 c26'; have g30 := box_still g20 c26'; have g31 := box_still g21 c26') | (have q4 := d24; go_at_call 29; refine (likeDeals A22 A1 4 4 c22 c1 zss _ _ _ _ w24 (A22r.out.rd.still d24.out) (RD22.out.still d24.out) (by omega) hl.out).mono ?_; rintro e w25 ⟨rfl, c25⟩; have d25 := Lib.hid (d24.out.trans c25); have g22 := box_still g12 c25; have g20 := box_still g10 c25; have g21 := box_still g11 c25) | (go_at_call 29; refine (likeDeals A' A1 4 4 c' c1 zss _ _ _ _ _ (RQ22.out.still dr.out) (RD22.out.still dr.out) (by omega) hl.out).mono ?_; rintro e w24 ⟨rfl, c24⟩; have d24 := Lib.hid (dr.out.trans c24); have g12 := box_still e2 d24.out; have g10 := box_still e0 d24.out; have g11 := box_still e1 d24.out))
              all_goals
                have kf := Lib.hid (K22.out.trans ((d27.out.trans c28).to_below.mono K22.out.size))
                clear c28 d27 d26 d25 d24 c24 c25 c26' c27' o26 o27 ov26 ov27
                (try go_wp2_with fail)
                go_ret
                exact ⟨rfl, kf.out⟩

end Go.Proofs.Ytdfmkikngifjmaa.Lib1
