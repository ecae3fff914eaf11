/- The law FnExchange: exchanging two cards twice restores a deal, and every card in play has exactly one holder. -/
import Derived.Test.YtdfmkikngifjmaaExch3
import Derived.Test.YtdfmkikngifjmaaSetR5
import Derived.Deep.RegionHeld3
namespace Go.Proofs.Ytdfmkikngifjmaa.Lib1
open Go.RowKit
set_option maxRecDepth 100000

set_option maxHeartbeats 20000000 in
theorem law_Exchange (A : Option Addr) (n c : Nat) (w : World) (h : Bytes w A n) :
    Calls Try.prog 14 #[.slice A n c] w fun e w' => e = .returned (.bool true) ∧ Below w.heap.size w w' := by
  by_cases hbig : 4096 < n
  · have hb := Lib.hid (decide_eq_true hbig)
    go_enter Try.func14, Try.ntmps14
    go_wp2_with fail
    refine (big _ _ _ _).mono ?_
    rintro e w' ⟨rfl, rfl⟩
    rw [hb.out]
    go_wp2_with fail
    go_ret
    exact ⟨rfl, Below.refl _ _⟩
  have hb := Lib.hid (decide_eq_false hbig)
  have hn : n ≤ 1048576 := by omega
  clear hbig
  go_enter Try.func14, Try.ntmps14
  go_wp2_with fail
  refine (big _ _ _ _).mono ?_
  rintro e w' ⟨rfl, rfl⟩
  rw [hb.out]
  go_wp2_with fail
  refine (DrawExchangeCards A n c _ h hn).mono ?_
  rintro e w1 ⟨A1, n1, c1, zss, a, b, rfl, hn1, rd1, h15', B1⟩
  have h15 := Lib.hid h15'
  have ca := Lib.hid (Chg.of_alloc w1 (.cells #[.slice A1 n1 c1] 25) 0 0)
  have D2 := Lib.hid (BoxAt.new w1 (.slice A1 n1 c1) 25 rfl)
  have K2 := Lib.hid (B1.trans (ca.out.to_below.mono B1.size))
  have RD2 := Lib.hid (rd1.still ca.out)
  generalize hlo1 : w.heap.size = lo1 at RD2
  generalize hhi1 : w1.heap.size = hi1 at RD2
  clear hlo1 hhi1 rd1 B1 h15' hb h
  have pd := D2.out.c
  have hl0 := Lib.hid (fun j (_ : j < n1) => (show (zss.getD j []).length ≤ 1048576 by have := h15.out j; omega))
  have hI := Lib.hid (fun W (q : RdR W lo1 hi1 A1 n1 zss) => exchangeCards A1 n1 c1 a b zss lo1 hi1 W q)
  have hS := Lib.hid (fun W (q : RdR W lo1 hi1 A1 n1 zss) => spec_ExchangeCards A1 n1 c1 a b zss lo1 hi1 W q (by omega) hl0.out)
  by_cases hh : dealB zss = true ∧ exFound zss a b = true
  · obtain ⟨hd, hf⟩ := hh
    have EX := Lib.hid (exchange hd hf)
    generalize mapD (exch a b) zss = P at EX
    rw [EX.out.v, EX.out.e] at hI hS
    have hz4 := Lib.hid (((deal_iff zss).1 hd).1)
    obtain rfl : n1 = 4 := by rw [← RD2.out.1]; exact hz4.out
    have HD := Lib.hid hd
    have hP4 := Lib.hid EX.out.len
    clear hd hf
    go_wp2_with fail
    generalize w1.alloc (.cells #[.slice A1 4 c1] 25) = w2 at ca D2 K2 RD2 pd
    refine (hI.out w2 RD2.out).mono ?_
    rintro e w3 ⟨X, cx, rfl, _, ox, ch3⟩
    rw [hP4.out] at ox ⊢
    have a3 := Lib.hid (Chg.of_alloc w3 (.cells #[.slice X 4 cx] 25) 0 0)
    have c3 := Lib.hid (ch3.trans a3.out)
    have X4 := Lib.hid (BoxAt.new w3 (.slice X 4 cx) 25 rfl)
    have OX4 := Lib.hid (ox.still a3.out)
    have D4 := Lib.hid (D2.out.still c3.out)
    have pd4 := D4.out.c
    have RD4 := Lib.hid (RD2.out.still c3.out)
    have K4 := Lib.hid (K2.out.trans (c3.out.to_below.mono K2.out.size))
    clear ch3 pd ox D2 RD2 K2 ca
    go_wp2_with fail
    generalize w3.alloc (.cells #[.slice X 4 cx] 25) = w4 at a3 c3 X4 OX4 D4 RD4 K4 pd4
    refine (hS.out w4 RD4.out).mono ?_
    rintro e w5 ⟨Y, cy, rfl, _, _, ch5⟩
    rw [hP4.out]
    have c5 := Lib.hid (ch5.trans (Chg.of_alloc w5 (.cells #[.slice Y 4 cy] 25) 0 0))
    have D6 := Lib.hid (D4.out.still c5.out)
    have X6 := Lib.hid (X4.out.still c5.out)
    have OX6 := Lib.hid (OX4.out.still c5.out)
    have RD6 := Lib.hid (RD4.out.still c5.out)
    have K6 := Lib.hid (K4.out.trans (c5.out.to_below.mono K4.out.size))
    have px6 := X6.out.c
    clear ch5 pd4 hI hS D4 X4 OX4 RD4 K4 a3 c3
    have h2 := Lib.hid (fun W lo hi (q : RdR W lo hi X 4 P) => exchangeCards X 4 cx a b P lo hi W q)
    rw [EX.out.v2, EX.out.e2] at h2
    go_wp2_with fail
    generalize w5.alloc (.cells #[.slice Y 4 cy] 25) = w6 at c5 D6 X6 OX6 RD6 K6 px6
    refine (h2.out w6 _ _ OX6.out.rd).mono ?_
    rintro e w7 ⟨Z, cz, rfl, _, oz, ch7⟩
    rw [hz4.out] at oz ⊢
    have a7 := Lib.hid (Chg.of_alloc w7 (.cells #[.slice Z 4 cz] 25) 0 0)
    have c7 := Lib.hid (ch7.trans a7.out)
    have Y8 := Lib.hid (BoxAt.new w7 (.slice Z 4 cz) 25 rfl)
    have OZ8 := Lib.hid (oz.still a7.out)
    have D8 := Lib.hid (D6.out.still c7.out)
    have X8 := Lib.hid (X6.out.still c7.out)
    have OX8 := Lib.hid (OX6.out.still c7.out)
    have RD8 := Lib.hid (RD6.out.still c7.out)
    have K8 := Lib.hid (K6.out.trans (c7.out.to_below.mono K6.out.size))
    clear ch7 oz h2 px6 D6 X6 OX6 RD6 K6 c5
    have e0 := D8.out.c
    have e1 := X8.out.c
    have e2 := Y8.out.c
    go_wp2_with fail
    generalize w7.alloc (.cells #[.slice Z 4 cz] 25) = w8 at a7 c7 Y8 OZ8 D8 X8 OX8 RD8 K8 e0 e1 e2
    have hl := Lib.hid (fun j (_ : j < 4) => (show (zss.getD j []).length ≤ 1048576 by have := h15.out j; omega))
    have hlP := Lib.hid (fun j (_ : j < 4) => (show (P.getD j []).length ≤ 1048576 by have := hand_len (((deal_iff P).1 EX.out.deal).2.1 j ‹_›).1; omega))
    have dr := Lib.hid (Chg.drewN w8 1 0 0)
    have HDP := Lib.hid EX.out.deal
    have ha := Lib.hid EX.out.ha
    have hbb := Lib.hid EX.out.hb
    have hcd := Lib.hid EX.out.cards
    go_region_held3 (fun W => W.cell? ⟨w1.heap.size, 0, none⟩ = some (.slice A1 4 c1) ∧ W.cell? ⟨w3.heap.size, 0, none⟩ = some (.slice X 4 cx) ∧ W.cell? ⟨w7.heap.size, 0, none⟩ = some (.slice Z 4 cz)) (first | exact ⟨e0, e1, e2⟩ | exact ⟨g90, g91, g92⟩ | exact ⟨g100, g101, g102⟩ | exact ⟨g110, g111, g112⟩ | exact ⟨g120, g121, g122⟩ | exact ⟨g130, g131, g132⟩ | exact ⟨g140, g141, g142⟩) (first | (have q4 := d13; go_at_call 59; refine (spec_HolderOf A1 4 c1 a zss lo1 hi1 w13 (RD8.out.still d13.out) (by omega) hl.out).mono ?_; rintro e w14 ⟨rfl, c14⟩; have d14 := Lib.hid (d13.out.trans c14); have g140 := box_still g130 c14; have g141 := box_still g131 c14; have g142 := box_still g132 c14) | (have q4 := d12; go_at_call 58; refine (holderOf X 4 cx b P _ _ w12 (OX8.out.rd.still d12.out)).mono ?_; rw [hbb.out]; rintro e w13 ⟨rfl, c13⟩; have d13 := Lib.hid (d12.out.trans c13); have g130 := box_still g120 c13; have g131 := box_still g121 c13; have g132 := box_still g122 c13) | (have q4 := d11; go_at_call 59; refine (spec_HolderOf A1 4 c1 b zss lo1 hi1 w11 (RD8.out.still d11.out) (by omega) hl.out).mono ?_; rintro e w12 ⟨rfl, c12⟩; have d12 := Lib.hid (d11.out.trans c12); have g120 := box_still g110 c12; have g121 := box_still g111 c12; have g122 := box_still g112 c12) | (have q4 := d10; go_at_call 58; refine (holderOf X 4 cx a P _ _ w10 (OX8.out.rd.still d10.out)).mono ?_; rw [ha.out]; rintro e w11 ⟨rfl, c11⟩; have d11 := Lib.hid (d10.out.trans c11); have g110 := box_still g100 c11; have g111 := box_still g101 c11; have g112 := box_still g102 c11) | (have q4 := d9; go_at_call 27; refine (spec_IsDeal X 4 cx P _ _ w9 (OX8.out.rd.still d9.out) hlP.out).mono ?_; rw [HDP.out]; rintro e w10 ⟨rfl, c10⟩; have d10 := Lib.hid (d9.out.trans c10); have g100 := box_still g90 c10; have g101 := box_still g91 c10; have g102 := box_still g92 c10) | (go_at_call 29; refine (likeDeals Z A1 4 4 cz c1 zss _ _ _ _ _ (OZ8.out.rd.still dr.out) (RD8.out.still dr.out) (by omega) hl.out).mono ?_; rintro e w9 ⟨rfl, c9⟩; have d9 := Lib.hid (dr.out.trans c9); have g90 := box_still e0 d9.out; have g91 := box_still e1 d9.out; have g92 := box_still e2 d9.out))
    all_goals
      have D15 := Lib.hid (D8.out.still d14.out)
      have X15 := Lib.hid (X8.out.still d14.out)
      have OX15 := Lib.hid (OX8.out.still d14.out)
      have RD15 := Lib.hid (RD8.out.still d14.out)
      have K15 := Lib.hid (K8.out.trans (d14.out.to_below.mono K8.out.size))
      clear d9 d10 d11 d12 d13 d14 c9 c10 c11 c12 c13 c14 g90 g91 g92 g100 g101 g102 g110 g111 g112 g120 g121 g122 g130 g131 g132 g141 g142 e0 e1 e2 D8 X8 OX8 RD8 K8 OZ8 Y8 a7 c7
      (try go_wp2_with fail)
      refine (cardsOfDeal A1 4 c1 zss _ _ _ RD15.out).mono ?_
      rintro e w16 ⟨C, cc, rfl, _, _, oc, c16⟩
      have D16 := Lib.hid (D15.out.still c16)
      have X16 := Lib.hid (X15.out.still c16)
      have OX16 := Lib.hid (OX15.out.still c16)
      have RD16 := Lib.hid (RD15.out.still c16)
      have K16 := Lib.hid (K15.out.trans (c16.to_below.mono K15.out.size))
      have hdc : Hid (dealCards zss = cardsF zss 52) := by show _ = _; simp [dealCards, HD.out]
      rw [hdc.out] at oc hcd ⊢
      have OC := Lib.hid oc
      clear hdc
      have hc52 := cardsF_len zss 52
      generalize hLL : cardsF zss 52 = L at OC hcd hc52 ⊢
      have HL := Lib.hid hLL
      obtain ⟨f, hf⟩ : ∃ f : Nat → Nat, ∀ k, f k = (cardsF zss k).length := ⟨_, fun _ => rfl⟩
      have HF := Lib.hid hf
      clear hf
      clear hLL oc c16 D15 X15 OX15 RD15 K15 g140
      go_wp2_with fail
      go_loopw [13, 14] (fun nv i wr => ∃ k m : Nat, k ≤ 52 ∧ m ≤ k ∧ i = .int .i64 k ∧ nv = .int .i64 (m : Int) ∧ Hid (f k = m) ∧ Hid (Chg w16 wr 0 0)) (fun _ i _ => 52 - (intOf i).toNat)
      case atStart => exact ⟨0, 0, Nat.zero_le _, Nat.le_refl _, rfl, rfl, HF.out 0, Chg.refl _ _ _⟩
      case round =>
        obtain ⟨k, m, hk, hmk, rfl, rfl, hcm, hch⟩ := hrel
        by_cases hlt : k < 52
        · have hkl : (k : Int) < 52 := by omega
          have pd := (D16.out.still hch.out).c
          have hsucc : Hid (cardsF zss (k + 1) = cardsF zss k ++ if 0 ≤ holderF zss (k : Int) then [(k : Int)] else []) := rfl
          have hvf := Lib.hid (holderV_deal HD.out (k : Int))
          go_wp2_with fail
          refine (holderOf A1 4 c1 (k : Int) zss _ _ _ (RD16.out.still hch.out)).mono ?_
          rintro e w17 ⟨rfl, c17⟩
          have ch17 := Lib.hid (hch.out.trans c17)
          clear c17 hch pd
          by_cases h0 : 0 ≤ holderV zss (k : Int)
          · obtain ⟨j, hj4, ej, hm⟩ := holder_small HD.out h0
            have hmem : Hid (hasB (zss.getD j []) (k : Int) = true) := decide_eq_true hm
            have hmc : Hid (hasB L (k : Int) = true) := by
              show _ = _
              rw [← HL.out]
              exact decide_eq_true ((cardsF_mem zss (k : Int) 52).2 ⟨by omega, by omega, by rw [← hvf.out]; exact h0⟩)
            have hcn : Hid (f (k + 1) = m + 1) := by
              show _ = _
              have hcm' := hcm.out
              rw [HF.out] at hcm' ⊢
              rw [hsucc.out, if_pos (by rw [← hvf.out]; exact h0), List.length_append, hcm']; rfl
            have hj3' : ¬ 3 < j := by omega
            rw [ej]
            have hjI : (j : Int) < 4 := by omega
            have hj3 : ¬ (3 : Int) < (j : Int) := by omega
            have hj0 : (0 : Int) ≤ (j : Int) := by omega
            have pd17 := (D16.out.still ch17.out).c
            obtain ⟨rb, ro, RB, RC, rfl, _, _, hcell, hrow, _, _⟩ := (RD16.out.still ch17.out).at_ hj4
            have hr15 := h15.out j
            clear h0 ej hm hsucc hvf hcm HF HL
            generalize zss.getD j [] = row at hcell hrow hr15 hmem
            have oc17 := Lib.hid (OC.out.rd.still ch17.out)
            go_wp2_with fail
            refine (hasInt RB row.length RC (k : Int) row _ _ _ hrow (by omega)).mono ?_
            rw [hmem.out]
            rintro e w' ⟨rfl, rfl⟩
            go_wp2_with fail
            refine (hasInt C L.length cc (k : Int) L _ _ _ oc17.out (by omega)).mono ?_
            rw [hmc.out]
            rintro e w' ⟨rfl, rfl⟩
            go_wp2_with fail
            go_roundw
            case rel => exact ⟨k + 1, m + 1, by omega, by omega, by go_num, by go_num, hcn, ch17⟩
            case measure => simp [intOf]; omega
          · have hcn : Hid (f (k + 1) = m) := by
              show _ = _
              have hcm' := hcm.out
              rw [HF.out] at hcm' ⊢
              rw [hsucc.out, if_neg (by rw [← hvf.out]; exact h0), List.append_nil]; exact hcm'
            clear hsucc hvf hcm HF HL OC
            generalize holderV zss (k : Int) = hv at h0 ⊢
            go_wp2_with fail
            go_roundw
            case rel => exact ⟨k + 1, m, by omega, by omega, by go_num, rfl, hcn, ch17⟩
            case measure => simp [intOf]; omega
        · obtain rfl : k = 52 := by omega
          obtain rfl : m = L.length := by rw [← HL.out, ← HF.out]; exact hcm.out.symm
          clear hcm
          have px := (X16.out.still hch.out).c
          have hcx := Lib.hid (cardsOfDeal X 4 cx P _ _ wr (OX16.out.rd.still hch.out))
          rw [hcd.out] at hcx
          go_wp2_with fail
          refine hcx.out.mono ?_
          rintro e w18 ⟨E, ce, rfl, _, _, oe, c18⟩
          have ch18 := Lib.hid (hch.out.trans c18)
          have K18 := Lib.hid (K16.out.trans (ch18.out.to_below.mono K16.out.size))
          have oc18 := Lib.hid (OC.out.rd.still ch18.out)
          clear c18 hcx hch
          go_wp2_with fail
          refine (likeIntsQ E C L.length L.length ce cc L _ _ _ _ _ oe.rd oc18.out (by omega)).mono ?_
          rintro e w19 ⟨rfl, hq⟩
          have K19 := Lib.hid (K18.out.trans ((Chg.of_drew hq 0 0).to_below.mono K18.out.size))
          go_wp2_with fail
          go_ret
          exact ⟨rfl, K19.out⟩
  · obtain ⟨v0, e0⟩ := exch_none' hh
    rw [v0] at hI hS
    have key : ∀ k : Int, k = 1 ∨ k = 4 → exE zss a b = k → True := fun _ _ _ => trivial
    clear key hh v0
    rcases e0 with e0 | e0
    all_goals
      rw [e0] at hI hS
      clear e0
      go_wp2_with fail
      generalize w1.alloc (.cells #[.slice A1 n1 c1] 25) = w2 at ca D2 K2 RD2 pd
      refine (hI.out w2 RD2.out).mono ?_
      rintro e w3 ⟨X, cx, rfl, _, _, ch3⟩
      have c3 := Lib.hid (ch3.trans (Chg.of_alloc w3 (.cells #[.slice X 0 cx] 25) 0 0))
      have X4 := Lib.hid (BoxAt.new w3 (.slice X 0 cx) 25 rfl)
      have D4 := Lib.hid (D2.out.still c3.out)
      have pd4 := D4.out.c
      have RD4 := Lib.hid (RD2.out.still c3.out)
      have K4 := Lib.hid (K2.out.trans (c3.out.to_below.mono K2.out.size))
      clear ch3 pd
      go_wp2_with fail
      refine (hS.out _ RD4.out).mono ?_
      rintro e w5 ⟨Y, cy, rfl, _, _, ch5⟩
      have c5 := Lib.hid (ch5.trans (Chg.of_alloc w5 (.cells #[.slice Y 0 cy] 25) 0 0))
      have X6 := Lib.hid (X4.out.still c5.out)
      have px := X6.out.c
      have K6 := Lib.hid (K4.out.trans (c5.out.to_below.mono K4.out.size))
      clear ch5 pd4
      go_wp2_with fail
      go_ret
      exact ⟨rfl, K6.out⟩
end Go.Proofs.Ytdfmkikngifjmaa.Lib1
