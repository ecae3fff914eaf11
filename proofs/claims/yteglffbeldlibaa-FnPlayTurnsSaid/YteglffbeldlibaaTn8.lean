/- Chapter 8: the law FnPlayTurns. (Written by wip/gen8z.py.) -/
import Derived.Test.YteglffbeldlibaaTl8
import Derived.Test.YteglffbeldlibaaPy8
import Derived.Test.YteglffbeldlibaaPz8
import Derived.Test.YteglffbeldlibaaRepI
namespace Go.Proofs.Yteglffbeldlibaa.Lib1
open Go.RowKit
set_option maxRecDepth 100000

theorem RdR.keep8 {w w' : World} {lo n : Nat} {A : Option Addr} {zss : List (List Int)} (h : RdR w lo w.heap.size A n zss) (c : Chg w w' 0 0) : RdR w' 0 w'.heap.size A n zss := (h.chg c (.inr (Nat.zero_le _))).more (Nat.zero_le _) c.size
set_option maxHeartbeats 8000000 in
theorem law_FnPlayTurns (A0 : Option Addr) (n0 c0 : Nat) (w : World) (h : Bytes w A0 n0) :
    Calls Try.prog 6 #[.slice A0 n0 c0] w fun e w' => e = .returned (.bool true) ∧ Below w.heap.size w w' := by
  by_cases hn : 4096 < n0
  · have hb := Lib.hid (decide_eq_true hn)
    go_enter Try.func6, Try.ntmps6
    go_wp2_with fail
    refine (big _ _ _ _).mono ?_
    rintro e w' ⟨rfl, rfl⟩
    rw [hb.out]
    go_wp2_with fail
    go_ret
    exact ⟨rfl, Below.refl _ _⟩
  · have hb := Lib.hid (decide_eq_false hn)
    go_enter Try.func6, Try.ntmps6
    go_wp2_with fail
    refine (big _ _ _ _).mono ?_
    rintro e w' ⟨rfl, rfl⟩
    rw [hb.out]
    go_wp2_with fail
    refine (DrawIsPlay A0 n0 c0 _ h (by omega)).mono ?_
    rintro e w1 ⟨D, n', c', zss, st, ld, A, m, cp, us, rfl, hnc, h15, hm, hcap, hnil, hrr, hrd, b1⟩
    have HUM := Lib.hid hrd.1
    have HBY := Lib.hid h
    clear h hb
    have h1m : ∀ j, j < n' → (zss.getD j []).length ≤ 1048576 := fun j _ => Nat.le_trans (h15 j) (by omega)
    obtain ⟨g3, hg3⟩ : ∃ g, g = w1.heap.size := ⟨_, rfl⟩
    obtain ⟨g4, hg4⟩ : ∃ g, g = g3 + 1 := ⟨_, rfl⟩
    have a3 := Chg.of_alloc w1 (.cells #[.slice none 0 0] 26) 0 0
    have a4 := Chg.of_alloc (w1.alloc (.cells #[.slice none 0 0] 26)) (.cells #[.int .i64 0, .int .i64 0, .slice none 0 0] 29) 0 0
    have HB1 := Lib.hid ((SBox.new w1 26 #[.slice none 0 0]).still a4)
    have HB2 := Lib.hid (SBox.new (w1.alloc (.cells #[.slice none 0 0] 26)) 29 #[.int .i64 0, .int .i64 0, .slice none 0 0])
    rw [← hg3] at HB1
    rw [show (w1.alloc (.cells #[.slice none 0 0] 26)).heap.size = g4 by simp; omega] at HB2
    have k1 := chgr8 ((w1.alloc (.cells #[.slice none 0 0] 26)).alloc (.cells #[.int .i64 0, .int .i64 0, .slice none 0 0] 29)) g3 #[.slice D n' c']
    have k2 := chgr8 (((w1.alloc (.cells #[.slice none 0 0] 26)).alloc (.cells #[.int .i64 0, .int .i64 0, .slice none 0 0] 29)).setRow g3 #[.slice D n' c']) g4 #[.int .i64 st, .int .i64 ld, .slice A m cp]
    have HB3 := Lib.hid (HB2.out.chg k1 (by omega))
    have HD := Lib.hid (SBox.chg (setRow_heap _ g3 _ #[.slice D n' c'] _ _ HB1.out) k2 (by omega))
    have HP := Lib.hid (show SBox _ _ _ _ from setRow_heap _ g4 _ #[.int .i64 st, .int .i64 ld, .slice A m cp] _ _ HB3.out)
    have a5 := a3.trans a4
    have hz := Nat.le_trans a5.size (Nat.le_trans k1.size k2.size)
    have R1 := Lib.hid ((((hrd.chg a5 (.inr (Nat.zero_le _))).chg k1 (.inl (by omega))).chg k2 (.inl (by omega))).more (Nat.zero_le _) hz)
    have RR := Lib.hid ((((hrr.chg a5 (.inr (Nat.zero_le _))).chg k1 (.inl (by omega))).chg k2 (.inl (by omega))).more (Nat.zero_le _) hz)
    have K1 := Lib.hid (((Chg.above b1 a5 b1.size (.inr rfl)).trans (rowB ((w1.alloc (.cells #[.slice none 0 0] 26)).alloc (.cells #[.int .i64 0, .int .i64 0, .slice none 0 0] 29)) (g := g3) (by have := b1.size; omega) #[.slice D n' c'])).trans (rowB (((w1.alloc (.cells #[.slice none 0 0] 26)).alloc (.cells #[.int .i64 0, .int .i64 0, .slice none 0 0] 29)).setRow g3 #[.slice D n' c']) (g := g4) (by have := b1.size; omega) #[.int .i64 st, .int .i64 ld, .slice A m cp]))
    have HG3 := Lib.hid hg3
    have HG4 := Lib.hid hg4
    clear hrd hrr b1 a3 a4 a5 k1 k2 hz hg3 hg4 HB2 h15
    go_wp2_with (first | (rw [← HG3.out]; refine wpList_store_row rfl 26 _ _ rfl g3 #[.slice D n' c'] rfl rfl 26 #[.slice none 0 0] HB1.out (deal_info8 _) rfl (deal_cells8 _ _ _) ?_) | (rw [← HG4.out]; refine wpList_store_row rfl 29 _ _ rfl g4 #[.int .i64 st, .int .i64 ld, .slice A m cp] rfl rfl 29 #[.int .i64 0, .int .i64 0, .slice none 0 0] HB3.out (play_info _ _ _ _ _) rfl (play_cells _ _ _ _ _) ?_) | (refine wpList_load_row rfl 26 _ rfl g3 rfl 26 #[.slice D n' c'] (0, 0) _ HD.out Try.underlying26 rfl (deal_info8 _) ?_) | (refine wpList_load_row rfl 29 _ rfl g4 rfl 29 #[.int .i64 st, .int .i64 ld, .slice A m cp] (0, 0) _ HP.out Try.underlying29 rfl (play_info _ _ _ _ _) ?_))
    generalize ((((w1.alloc (.cells #[.slice none 0 0] 26)).alloc (.cells #[.int .i64 0, .int .i64 0, .slice none 0 0] 29)).setRow g3 #[.slice D n' c']).setRow g4 #[.int .i64 st, .int .i64 ld, .slice A m cp]) = W2 at HD HP R1 RR K1 ⊢
    clear HG3 HG4 HB1 HB3
    refine (spec_IsPlay D n' c' zss st ld A m cp us W2 RR.out h1m R1.out (by omega) hcap hnil).mono ?_
    rintro e w3 ⟨rfl, c3⟩
    have HD := Lib.hid (HD.out.still c3)
    have HP := Lib.hid (HP.out.still c3)
    have RR := Lib.hid (RR.out.keep8 c3)
    have R1 := Lib.hid (R1.out.keep8 c3)
    have K1 := Lib.hid (Chg.above K1.out c3 K1.out.size (.inr rfl))
    clear c3
    cases hpl : playB zss st ld us
    · go_wp2_with (first | (refine wpList_load_row rfl 26 _ rfl g3 rfl 26 #[.slice D n' c'] (0, 0) _ HD.out Try.underlying26 rfl (deal_info8 _) ?_) | (refine wpList_load_row rfl 29 _ rfl g4 rfl 29 #[.int .i64 st, .int .i64 ld, .slice A m cp] (0, 0) _ HP.out Try.underlying29 rfl (play_info _ _ _ _ _) ?_))
      refine (impl_IsPlay D n' c' zss st ld A m cp us _ RR.out h1m R1.out (by omega) hcap hnil).mono ?_
      rintro e w4 ⟨rfl, c3⟩
      rw [hpl]
      have K1 := Lib.hid (Chg.above K1.out c3 K1.out.size (.inr rfl))
      go_wp2_with fail
      go_ret
      exact ⟨rfl, K1.out⟩
    · go_wp2_with fail
      refine (w5Pick A0 n0 c0 2 4 _ (HBY.out.chg (Chg.of_below K1.out w.heap.size 0)) (by omega) (by omega)).mono ?_
      rintro e w4 ⟨k, rfl, k0, k3, c3⟩
      have HD := Lib.hid (HD.out.still c3)
      have HP := Lib.hid (HP.out.still c3)
      have RR := Lib.hid (RR.out.keep8 c3)
      have R1 := Lib.hid (R1.out.keep8 c3)
      have K1 := Lib.hid (Chg.above K1.out c3 K1.out.size (.inr rfl))
      clear c3
      obtain ⟨kk, rfl⟩ : ∃ kk : Nat, k = (kk : Int) := ⟨k.toNat, by omega⟩
      have hk : 0 ≤ (kk : Int) ∧ (kk : Int) ≤ 3 := ⟨by omega, by omega⟩
      have HPR := Lib.hid (play_rot hk hpl)
      have HDL := Lib.hid (show dealB zss = true by unfold playB at hpl; simp only [Bool.and_eq_true] at hpl; exact hpl.1.1)
      have HPLN := Lib.hid (show plainB st ld us = true by unfold playB at hpl; simp only [Bool.and_eq_true] at hpl; exact hpl.1.2)
      have HRV := Lib.hid (rotV_yes HDL.out hk.1 hk.2)
      go_wp2_with (refine wpList_load_row rfl 26 _ rfl g3 rfl 26 #[.slice D n' c'] (0, 0) _ HD.out Try.underlying26 rfl (deal_info8 _) ?_)
      refine (rotateDeal D n' c' (kk : Int) zss 0 _ _ RR.out).mono ?_
      rintro e w5 ⟨F, fc, rfl, hfc, hfo, c3⟩
      have hz5 := c3.size
      have HD := Lib.hid (HD.out.still c3)
      have HP := Lib.hid (HP.out.still c3)
      have RR := Lib.hid (RR.out.keep8 c3)
      have R1 := Lib.hid (R1.out.keep8 c3)
      have K1 := Lib.hid (Chg.above K1.out c3 K1.out.size (.inr rfl))
      rw [HRV.out.2]
      have RE := Lib.hid (hfo.rd.more (Nat.zero_le _) (Nat.le_refl _))
      have h4 : (rotV zss (kk : Int)).length = 4 := by rw [HRV.out.1]; exact rotTo_length _ _ _
      rw [h4] at RE hfc ⊢
      clear c3 hfo hz5
      have h1e : ∀ j, j < 4 → ((rotV zss (kk : Int)).getD j []).length ≤ 1048576 := fun j hj => by have hd := deal_turns HDL.out hk.1 hk.2; rw [HRV.out.1]; exact Nat.le_trans (rows_ok hd hj).1 (by omega)
      generalize hZ : rotV zss (kk : Int) = zs2 at RE h1e HPR ⊢
      obtain ⟨g6, hg⟩ : ∃ g, g = w5.heap.size := ⟨_, rfl⟩
      have HB0 := Lib.hid (SBox.new w5 26 #[.slice none 0 0])
      have ca := Chg.of_alloc w5 (.cells #[.slice none 0 0] 26) 0 0
      rw [← hg] at HB0
      have k1 := chgr8 (w5.alloc (.cells #[.slice none 0 0] 26)) g6 #[.slice F 4 fc]
      have HE := Lib.hid (show SBox _ _ _ _ from setRow_heap _ g6 _ #[.slice F 4 fc] _ _ HB0.out)
      have HD := Lib.hid ((HD.out.still ca).chg k1 (by have := SBox.lt HD.out; omega))
      have HP := Lib.hid ((HP.out.still ca).chg k1 (by have := SBox.lt HP.out; omega))
      have RR := Lib.hid (((RR.out.chg ca (.inr (Nat.zero_le _))).chg k1 (.inl (by omega))).more (Nat.zero_le _) (Nat.le_trans ca.size k1.size))
      have R1 := Lib.hid (((R1.out.chg ca (.inr (Nat.zero_le _))).chg k1 (.inl (by omega))).more (Nat.zero_le _) (Nat.le_trans ca.size k1.size))
      have RE := Lib.hid (((RE.out.chg ca (.inr (Nat.zero_le _))).chg k1 (.inl (by omega))).more (Nat.zero_le _) (Nat.le_trans ca.size k1.size))
      have K1 := Lib.hid ((Chg.above K1.out ca K1.out.size (.inr rfl)).trans (rowB (w5.alloc (.cells #[.slice none 0 0] 26)) (g := g6) (by have := K1.out.size; omega) #[.slice F 4 fc]))
      have HG := Lib.hid hg
      clear hg ca k1
      obtain ⟨_, _, hldr, _⟩ := plain_parts HPLN.out
      obtain ⟨ld2, hl2⟩ : ∃ l, l = (ld + (kk : Int)) % 4 := ⟨_, rfl⟩
      have w39 : IntKind.i64.wrap (ld + (kk : Int)) = ld + (kk : Int) := IntWalk.i64_in _ (by omega)
      have t40 : Int.tmod (ld + (kk : Int)) 4 = ld2 := by rw [Int.tmod_eq_emod_of_nonneg (by omega), hl2]
      have p0 := HP.out.p0
      have p1 := HP.out.p1
      have p2 := HP.out.p2
      have hbq := bldP8 st ld2 A m cp
      have HB6 := HB0
      have HG6 := HG
      rw [← hl2] at HPR
      have HL2 := Lib.hid hl2
      clear HB0 HG hl2
      obtain ⟨g8, hg⟩ : ∃ g, g = ((w5.alloc (.cells #[.slice none 0 0] 26)).setRow g6 #[.slice F 4 fc]).heap.size := ⟨_, rfl⟩
      have HB0 := Lib.hid (SBox.new ((w5.alloc (.cells #[.slice none 0 0] 26)).setRow g6 #[.slice F 4 fc]) 29 #[.int .i64 0, .int .i64 0, .slice none 0 0])
      have ca := Chg.of_alloc ((w5.alloc (.cells #[.slice none 0 0] 26)).setRow g6 #[.slice F 4 fc]) (.cells #[.int .i64 0, .int .i64 0, .slice none 0 0] 29) 0 0
      rw [← hg] at HB0
      have k1 := chgr8 (((w5.alloc (.cells #[.slice none 0 0] 26)).setRow g6 #[.slice F 4 fc]).alloc (.cells #[.int .i64 0, .int .i64 0, .slice none 0 0] 29)) g8 #[.int .i64 st, .int .i64 ld2, .slice A m cp]
      have HQ := Lib.hid (show SBox _ _ _ _ from setRow_heap _ g8 _ #[.int .i64 st, .int .i64 ld2, .slice A m cp] _ _ HB0.out)
      have HD := Lib.hid ((HD.out.still ca).chg k1 (by have := SBox.lt HD.out; omega))
      have HP := Lib.hid ((HP.out.still ca).chg k1 (by have := SBox.lt HP.out; omega))
      have HE := Lib.hid ((HE.out.still ca).chg k1 (by have := SBox.lt HE.out; omega))
      have RR := Lib.hid (((RR.out.chg ca (.inr (Nat.zero_le _))).chg k1 (.inl (by omega))).more (Nat.zero_le _) (Nat.le_trans ca.size k1.size))
      have R1 := Lib.hid (((R1.out.chg ca (.inr (Nat.zero_le _))).chg k1 (.inl (by omega))).more (Nat.zero_le _) (Nat.le_trans ca.size k1.size))
      have RE := Lib.hid (((RE.out.chg ca (.inr (Nat.zero_le _))).chg k1 (.inl (by omega))).more (Nat.zero_le _) (Nat.le_trans ca.size k1.size))
      have K1 := Lib.hid ((Chg.above K1.out ca K1.out.size (.inr rfl)).trans (rowB (((w5.alloc (.cells #[.slice none 0 0] 26)).setRow g6 #[.slice F 4 fc]).alloc (.cells #[.int .i64 0, .int .i64 0, .slice none 0 0] 29)) (g := g8) (by have := K1.out.size; omega) #[.int .i64 st, .int .i64 ld2, .slice A m cp]))
      have HG := Lib.hid hg
      clear hg ca k1
      have HG8 := Lib.hid (show g8 = w5.heap.size + 1 by rw [HG.out, setRow_size]; simp)
      clear HG
      go_wp2_with (first | (rw [← HG6.out]; refine wpList_store_row rfl 26 _ _ rfl g6 #[.slice F 4 fc] rfl rfl 26 #[.slice none 0 0] HB6.out (deal_info8 _) rfl (deal_cells8 _ _ _) ?_) | (rw [← HG8.out]; refine wpList_store_row rfl 29 _ _ rfl g8 #[.int .i64 st, .int .i64 ld2, .slice A m cp] rfl rfl 29 #[.int .i64 0, .int .i64 0, .slice none 0 0] HB0.out (play_info _ _ _ _ _) rfl (play_cells _ _ _ _ _) ?_) | (refine wpList_load_row rfl 29 _ rfl g4 rfl 29 #[.int .i64 st, .int .i64 ld, .slice A m cp] (0, 0) _ HP.out Try.underlying29 rfl (play_info _ _ _ _ _) ?_))
      generalize ((((w5.alloc (.cells #[.slice none 0 0] 26)).setRow g6 #[.slice F 4 fc]).alloc (.cells #[.int .i64 0, .int .i64 0, .slice none 0 0] 29)).setRow g8 #[.int .i64 st, .int .i64 ld2, .slice A m cp]) = w6 at HD HP HE HQ RR RE R1 K1 ⊢
      clear HG6 HG8 HB6 HB0 p0 p1 p2 hbq w39 t40
      have EA := Lib.hid (show tricksV st ld us = [cntS st ld us 0 (us.length / 4), cntS st ld us 1 (us.length / 4)] by unfold tricksV; rw [HPLN.out]; rfl)
      have EB := Lib.hid (show tricksV st ld2 us = [cntS st ld2 us 0 (us.length / 4), cntS st ld2 us 1 (us.length / 4)] by unfold tricksV; rw [show plainB st ld2 us = true by rw [HL2.out]; exact plain_rot HPLN.out]; rfl)
      obtain ⟨x0, hx0⟩ : ∃ x, x = cntS st ld us 0 (us.length / 4) := ⟨_, rfl⟩
      obtain ⟨x1, hx1⟩ : ∃ x, x = cntS st ld us 1 (us.length / 4) := ⟨_, rfl⟩
      obtain ⟨r, hr⟩ : ∃ r, r = kk % 2 := ⟨_, rfl⟩
      obtain ⟨q, hq⟩ : ∃ q, q = 1 - kk % 2 := ⟨_, rfl⟩
      have hr2 : r < 2 := by omega
      have hq2 : q < 2 := by omega
      have hr3 : ¬ (2 : Int) ≤ (r : Int) := by omega
      have hq3 : ¬ (2 : Int) ≤ (q : Int) := by omega
      have HTL : Hid (∀ j, j < 2 → (tricksV st ld2 us).getD j 0 = if j = r then x0 else x1) := Lib.hid fun j hj => by
        rw [EB.out, HL2.out, hx0, hx1]
        match j, hj with
        | 0, _ => show cntS st _ us 0 _ = _; by_cases h0 : (0 : Nat) = r
                  · rw [if_pos h0]; exact cnt_rot st ld (kk : Int) us (by omega) (.inl rfl) _
                  · rw [if_neg h0]; exact cnt_rot st ld (kk : Int) us (by omega) (.inl rfl) _
        | 1, _ => show cntS st _ us 1 _ = _; by_cases h0 : (1 : Nat) = r
                  · rw [if_pos h0]; exact cnt_rot st ld (kk : Int) us (by omega) (.inr rfl) _
                  · rw [if_neg h0]; exact cnt_rot st ld (kk : Int) us (by omega) (.inr rfl) _
      rw [← hx0, ← hx1] at EA
      have tk2 : Int.tmod (kk : Int) 2 = (r : Int) := by rw [Int.tmod_eq_emod_of_nonneg (by omega)]; omega
      have wq : IntKind.i64.wrap (1 - (r : Int)) = (q : Int) := by rw [IntWalk.i64_in _ (by omega)]; omega
      refine (impl_TricksOfSides st ld A m cp us w6 R1.out (by omega) hcap).mono ?_
      rintro e w7a ⟨v, rfl, o1, b3⟩
      obtain ⟨A1, ac, rfl, _, _, ow1⟩ := o1.form
      have c3 := Chg.of_below b3 0 0
      rw [EA.out] at ow1 ⊢
      obtain ⟨ab, _, rfl, _, _, _, _⟩ := ow1.2 (by show 0 < 2; omega)
      have RA := Lib.hid (ow1.rd.more (Nat.zero_le _) (Nat.le_refl _) : Rd w7a 0 w7a.heap.size (some ⟨ab, 0, none⟩) 2 [x0, x1])
      have HD := Lib.hid (HD.out.still c3)
      have HP := Lib.hid (HP.out.still c3)
      have RR := Lib.hid (RR.out.keep8 c3)
      have R1 := Lib.hid (R1.out.keep8 c3)
      have K1 := Lib.hid (Chg.above K1.out c3 K1.out.size (.inr rfl))
      have HE := Lib.hid (HE.out.still c3)
      have RE := Lib.hid (RE.out.keep8 c3)
      have HQ := Lib.hid (HQ.out.still c3)
      clear o1 b3 ow1 c3
      go_wp2_with (refine wpList_load_row rfl 29 _ rfl g8 rfl 29 #[.int .i64 st, .int .i64 ld2, .slice A m cp] (0, 0) _ HQ.out Try.underlying29 rfl (play_info _ _ _ _ _) ?_)
      refine (impl_TricksOfSides st ld2 A m cp us w7a R1.out (by omega) hcap).mono ?_
      rintro e w7 ⟨v, rfl, o1, b3⟩
      obtain ⟨B1, bc, rfl, _, _, ow1⟩ := o1.form
      have c3 := Chg.of_below b3 0 0
      have h2 : (tricksV st ld2 us).length = 2 := by rw [EB.out]; rfl
      rw [h2] at ow1 ⊢
      obtain ⟨bb, _, rfl, _, _, _, _⟩ := ow1.2 (by omega)
      have RB := Lib.hid (ow1.rd.more (Nat.zero_le _) (Nat.le_refl _) : Rd w7 0 w7.heap.size (some ⟨bb, 0, none⟩) 2 (tricksV st ld2 us))
      have HD := Lib.hid (HD.out.still c3)
      have HP := Lib.hid (HP.out.still c3)
      have RR := Lib.hid (RR.out.keep8 c3)
      have R1 := Lib.hid (R1.out.keep8 c3)
      have K1 := Lib.hid (Chg.above K1.out c3 K1.out.size (.inr rfl))
      have HE := Lib.hid (HE.out.still c3)
      have RE := Lib.hid (RE.out.keep8 c3)
      have HQ := Lib.hid (HQ.out.still c3)
      have RA := Lib.hid (RA.out.keep8 c3)
      clear o1 b3 ow1 c3 h2
      have HBR := Lib.hid (show (tricksV st ld2 us).getD r 0 = x0 by rw [HTL.out r hr2, if_pos rfl])
      have HBQ := Lib.hid (show (tricksV st ld2 us).getD q 0 = x1 by rw [HTL.out q hq2, if_neg (by omega)])
      have cd : Chg w7 w7.drew 0 0 := Chg.of_drew ⟨1, rfl⟩ 0 0
      have HD := Lib.hid (HD.out.still cd)
      have HP := Lib.hid (HP.out.still cd)
      have RR := Lib.hid (RR.out.keep8 cd)
      have R1 := Lib.hid (R1.out.keep8 cd)
      have K1 := Lib.hid (Chg.above K1.out cd K1.out.size (.inr rfl))
      have HE := Lib.hid (HE.out.still cd)
      have RE := Lib.hid (RE.out.keep8 cd)
      have HQ := Lib.hid (HQ.out.still cd)
      have RA := Lib.hid (RA.out.keep8 cd)
      have RB := Lib.hid (RB.out.keep8 cd)
      have hS0 : (fun V => SBox V 26 g3 #[.slice D n' c'] ∧ SBox V 29 g4 #[.int .i64 st, .int .i64 ld, .slice A m cp] ∧ SBox V 26 g6 #[.slice F 4 fc] ∧ SBox V 29 g8 #[.int .i64 st, .int .i64 ld2, .slice A m cp] ∧ V.cell? ⟨ab, 0, none⟩ = some (.int .i64 x0) ∧ V.cell? ⟨ab, 1, none⟩ = some (.int .i64 x1) ∧ V.cell? ⟨bb, r, none⟩ = some (.int .i64 x0) ∧ V.cell? ⟨bb, q, none⟩ = some (.int .i64 x1)) w7.drew := ⟨HD.out, HP.out, HE.out, HQ.out, RA.out.at8 (show 0 < 2 by omega), RA.out.at8 (show 1 < 2 by omega), (RB.out.at8 hr2).trans (by rw [HBR.out]), (RB.out.at8 hq2).trans (by rw [HBQ.out])⟩
      clear cd HTL EA EB hx0 hx1 hr hq
      go_wp2_with fail
      refine wp_region_held_drew (S := fun V => SBox V 26 g3 #[.slice D n' c'] ∧ SBox V 29 g4 #[.int .i64 st, .int .i64 ld, .slice A m cp] ∧ SBox V 26 g6 #[.slice F 4 fc] ∧ SBox V 29 g8 #[.int .i64 st, .int .i64 ld2, .slice A m cp] ∧ V.cell? ⟨ab, 0, none⟩ = some (.int .i64 x0) ∧ V.cell? ⟨ab, 1, none⟩ = some (.int .i64 x1) ∧ V.cell? ⟨bb, r, none⟩ = some (.int .i64 x0) ∧ V.cell? ⟨bb, q, none⟩ = some (.int .i64 x1)) (by kernel_rfl) hS0 (fun hHeld => ?_)
      generalize w7.drew = V0 at HD HP HE HQ RR RE R1 RA RB K1 hHeld ⊢
      refine take_slotC (i := 0) (d := some 48) (v := .int .i64 0) rfl (by kernel_rfl) (by kernel_rfl) (by kernel_rfl) (by kernel_rfl) (fun _ _ _ h => h) (.inl ⟨by kernel_rfl, fun V hV => by obtain ⟨_, _, _, _, hV1, hV2, hV3, hV4⟩ := hV; go_simp⟩) hHeld ?_
      try simp only [Act.put, List.setIfInBounds_toArray, List.set_cons_zero, List.set_cons_succ]
      refine take_slotC (i := 1) (d := some 49) (v := .bool true) rfl (by kernel_rfl) (by kernel_rfl) (by kernel_rfl) (by kernel_rfl) (fun _ _ _ h => h) (.inl ⟨by kernel_rfl, fun V hV => by obtain ⟨_, _, _, _, hV1, hV2, hV3, hV4⟩ := hV; go_simp⟩) hHeld ?_
      try simp only [Act.put, List.setIfInBounds_toArray, List.set_cons_zero, List.set_cons_succ]
      refine take_slotC (i := 2) (d := some 50) (v := .bool true) rfl (by kernel_rfl) (by kernel_rfl) (by kernel_rfl) (by kernel_rfl) (fun _ _ _ h => h) (.inl ⟨by kernel_rfl, fun V hV => by obtain ⟨_, _, _, _, hV1, hV2, hV3, hV4⟩ := hV; go_simp⟩) hHeld ?_
      try simp only [Act.put, List.setIfInBounds_toArray, List.set_cons_zero, List.set_cons_succ]
      refine take_slotC (i := 3) (d := some 51) (v := .agg #[.slice D n' c']) rfl (by kernel_rfl) (by kernel_rfl) (by kernel_rfl) (by kernel_rfl) (fun _ _ _ h => h) (yieldsIf_load_mid (by kernel_rfl) 26 (.tmp 3) rfl g3 0 rfl [.slice D n' c'] _ (fun V hV => SBox.range hV.1) Try.underlying26 rfl (deal_infoLd _)) hHeld ?_
      try simp only [Act.put, List.setIfInBounds_toArray, List.set_cons_zero, List.set_cons_succ]
      refine take_slotC (i := 4) (d := some 52) (v := .agg #[.int .i64 st, .int .i64 ld, .slice A m cp]) rfl (by kernel_rfl) (by kernel_rfl) (by kernel_rfl) (by kernel_rfl) (fun _ _ _ h => h) (yieldsIf_load_mid (by kernel_rfl) 29 (.tmp 4) rfl g4 0 rfl [.int .i64 st, .int .i64 ld, .slice A m cp] _ (fun V hV => SBox.range hV.2.1) Try.underlying29 rfl (play_infoL _ _ _)) hHeld ?_
      try simp only [Act.put, List.setIfInBounds_toArray, List.set_cons_zero, List.set_cons_succ]
      refine wpAnyH_ready (rs := [5]) (by kernel_rfl) (by simp) (AllReadyH.cons (i := 5) rfl (fun K' hK' => ?_) AllReadyH.nil)
      go_simp
      refine (impl_IsPlay D n' c' zss st ld A m cp us V0 RR.out h1m R1.out (by omega) hcap hnil).mono ?_
      rintro e w8 ⟨rfl, c8⟩
      rw [hpl]
      have HD := Lib.hid (HD.out.still c8)
      have HP := Lib.hid (HP.out.still c8)
      have RR := Lib.hid (RR.out.keep8 c8)
      have R1 := Lib.hid (R1.out.keep8 c8)
      have K1 := Lib.hid (Chg.above K1.out c8 K1.out.size (.inr rfl))
      have HE := Lib.hid (HE.out.still c8)
      have RE := Lib.hid (RE.out.keep8 c8)
      have HQ := Lib.hid (HQ.out.still c8)
      have RA := Lib.hid (RA.out.keep8 c8)
      have RB := Lib.hid (RB.out.keep8 c8)
      clear c8
      refine hK'.out _ _ ⟨HD.out, HP.out, HE.out, HQ.out, RA.out.at8 (show 0 < 2 by omega), RA.out.at8 (show 1 < 2 by omega), (RB.out.at8 hr2).trans (by rw [HBR.out]), (RB.out.at8 hq2).trans (by rw [HBQ.out])⟩ (fun hHeld => ?_)
      clear hK'
      try simp only [Act.put, List.setIfInBounds_toArray, List.set_cons_zero, List.set_cons_succ]
      refine take_slotC (i := 6) (d := some 54) (v := .bool true) rfl (by kernel_rfl) (by kernel_rfl) (by kernel_rfl) (by kernel_rfl) (fun _ _ _ h => h) (.inl ⟨by kernel_rfl, fun V hV => by obtain ⟨_, _, _, _, hV1, hV2, hV3, hV4⟩ := hV; go_simp⟩) hHeld ?_
      try simp only [Act.put, List.setIfInBounds_toArray, List.set_cons_zero, List.set_cons_succ]
      refine take_slotC (i := 7) (d := some 55) (v := .bool true) rfl (by kernel_rfl) (by kernel_rfl) (by kernel_rfl) (by kernel_rfl) (fun _ _ _ h => h) (.inl ⟨by kernel_rfl, fun V hV => by obtain ⟨_, _, _, _, hV1, hV2, hV3, hV4⟩ := hV; go_simp⟩) hHeld ?_
      try simp only [Act.put, List.setIfInBounds_toArray, List.set_cons_zero, List.set_cons_succ]
      refine take_slotC (i := 8) (d := some 56) (v := .agg #[.slice F 4 fc]) rfl (by kernel_rfl) (by kernel_rfl) (by kernel_rfl) (by kernel_rfl) (fun _ _ _ h => h) (yieldsIf_load_mid (by kernel_rfl) 26 (.tmp 6) rfl g6 0 rfl [.slice F 4 fc] _ (fun V hV => SBox.range hV.2.2.1) Try.underlying26 rfl (deal_infoLd _)) hHeld ?_
      try simp only [Act.put, List.setIfInBounds_toArray, List.set_cons_zero, List.set_cons_succ]
      refine take_slotC (i := 9) (d := some 57) (v := .agg #[.int .i64 st, .int .i64 ld2, .slice A m cp]) rfl (by kernel_rfl) (by kernel_rfl) (by kernel_rfl) (by kernel_rfl) (fun _ _ _ h => h) (yieldsIf_load_mid (by kernel_rfl) 29 (.tmp 8) rfl g8 0 rfl [.int .i64 st, .int .i64 ld2, .slice A m cp] _ (fun V hV => SBox.range hV.2.2.2.1) Try.underlying29 rfl (play_infoL _ _ _)) hHeld ?_
      try simp only [Act.put, List.setIfInBounds_toArray, List.set_cons_zero, List.set_cons_succ]
      refine wpAnyH_ready (rs := [10]) (by kernel_rfl) (by simp) (AllReadyH.cons (i := 10) rfl (fun K' hK' => ?_) AllReadyH.nil)
      go_simp
      refine (impl_IsPlay F 4 fc _ st ld2 A m cp us w8 RE.out h1e R1.out (by omega) hcap hnil).mono ?_
      rintro e w9 ⟨rfl, c8⟩
      rw [HPR.out]
      have HD := Lib.hid (HD.out.still c8)
      have HP := Lib.hid (HP.out.still c8)
      have RR := Lib.hid (RR.out.keep8 c8)
      have R1 := Lib.hid (R1.out.keep8 c8)
      have K1 := Lib.hid (Chg.above K1.out c8 K1.out.size (.inr rfl))
      have HE := Lib.hid (HE.out.still c8)
      have RE := Lib.hid (RE.out.keep8 c8)
      have HQ := Lib.hid (HQ.out.still c8)
      have RA := Lib.hid (RA.out.keep8 c8)
      have RB := Lib.hid (RB.out.keep8 c8)
      clear c8
      refine hK'.out _ _ ⟨HD.out, HP.out, HE.out, HQ.out, RA.out.at8 (show 0 < 2 by omega), RA.out.at8 (show 1 < 2 by omega), (RB.out.at8 hr2).trans (by rw [HBR.out]), (RB.out.at8 hq2).trans (by rw [HBQ.out])⟩ (fun hHeld => ?_)
      clear hK'
      try simp only [Act.put, List.setIfInBounds_toArray, List.set_cons_zero, List.set_cons_succ]
      refine take_slotC (i := 11) (d := some 59) (v := .bool true) rfl (by kernel_rfl) (by kernel_rfl) (by kernel_rfl) (by kernel_rfl) (fun _ _ _ h => h) (.inl ⟨by kernel_rfl, fun V hV => by obtain ⟨_, _, _, _, hV1, hV2, hV3, hV4⟩ := hV; go_simp⟩) hHeld ?_
      try simp only [Act.put, List.setIfInBounds_toArray, List.set_cons_zero, List.set_cons_succ]
      refine take_slotC (i := 12) (d := some 60) (v := .bool true) rfl (by kernel_rfl) (by kernel_rfl) (by kernel_rfl) (by kernel_rfl) (fun _ _ _ h => h) (.inl ⟨by kernel_rfl, fun V hV => by obtain ⟨_, _, _, _, hV1, hV2, hV3, hV4⟩ := hV; go_simp⟩) hHeld ?_
      try simp only [Act.put, List.setIfInBounds_toArray, List.set_cons_zero, List.set_cons_succ]
      refine take_slotC (i := 13) (d := some 61) (v := .slice (some ⟨ab, 0, none⟩) 2 ac) rfl (by kernel_rfl) (by kernel_rfl) (by kernel_rfl) (by kernel_rfl) (fun _ _ _ h => h) (.inl ⟨by kernel_rfl, fun V hV => by obtain ⟨_, _, _, _, hV1, hV2, hV3, hV4⟩ := hV; go_simp⟩) hHeld ?_
      try simp only [Act.put, List.setIfInBounds_toArray, List.set_cons_zero, List.set_cons_succ]
      refine take_slotC (i := 14) (d := some 62) (v := .int .i64 2) rfl (by kernel_rfl) (by kernel_rfl) (by kernel_rfl) (by kernel_rfl) (fun _ _ _ h => h) (.inl ⟨by kernel_rfl, fun V hV => by obtain ⟨_, _, _, _, hV1, hV2, hV3, hV4⟩ := hV; go_simp⟩) hHeld ?_
      try simp only [Act.put, List.setIfInBounds_toArray, List.set_cons_zero, List.set_cons_succ]
      refine take_slotC (i := 15) (d := some 63) (v := .bool true) rfl (by kernel_rfl) (by kernel_rfl) (by kernel_rfl) (by kernel_rfl) (fun _ _ _ h => h) (.inl ⟨by kernel_rfl, fun V hV => by obtain ⟨_, _, _, _, hV1, hV2, hV3, hV4⟩ := hV; go_simp⟩) hHeld ?_
      try simp only [Act.put, List.setIfInBounds_toArray, List.set_cons_zero, List.set_cons_succ]
      refine take_slotC (i := 16) (d := some 64) (v := .bool true) rfl (by kernel_rfl) (by kernel_rfl) (by kernel_rfl) (by kernel_rfl) (fun _ _ _ h => h) (.inl ⟨by kernel_rfl, fun V hV => by obtain ⟨_, _, _, _, hV1, hV2, hV3, hV4⟩ := hV; go_simp⟩) hHeld ?_
      try simp only [Act.put, List.setIfInBounds_toArray, List.set_cons_zero, List.set_cons_succ]
      refine take_slotC (i := 17) (d := some 65) (v := .bool true) rfl (by kernel_rfl) (by kernel_rfl) (by kernel_rfl) (by kernel_rfl) (fun _ _ _ h => h) (.inl ⟨by kernel_rfl, fun V hV => by obtain ⟨_, _, _, _, hV1, hV2, hV3, hV4⟩ := hV; go_simp⟩) hHeld ?_
      try simp only [Act.put, List.setIfInBounds_toArray, List.set_cons_zero, List.set_cons_succ]
      refine take_slotC (i := 18) (d := some 66) (v := .slice (some ⟨bb, 0, none⟩) 2 bc) rfl (by kernel_rfl) (by kernel_rfl) (by kernel_rfl) (by kernel_rfl) (fun _ _ _ h => h) (.inl ⟨by kernel_rfl, fun V hV => by obtain ⟨_, _, _, _, hV1, hV2, hV3, hV4⟩ := hV; go_simp⟩) hHeld ?_
      try simp only [Act.put, List.setIfInBounds_toArray, List.set_cons_zero, List.set_cons_succ]
      refine take_slotC (i := 19) (d := some 67) (v := .int .i64 2) rfl (by kernel_rfl) (by kernel_rfl) (by kernel_rfl) (by kernel_rfl) (fun _ _ _ h => h) (.inl ⟨by kernel_rfl, fun V hV => by obtain ⟨_, _, _, _, hV1, hV2, hV3, hV4⟩ := hV; go_simp⟩) hHeld ?_
      try simp only [Act.put, List.setIfInBounds_toArray, List.set_cons_zero, List.set_cons_succ]
      refine take_slotC (i := 20) (d := some 68) (v := .bool true) rfl (by kernel_rfl) (by kernel_rfl) (by kernel_rfl) (by kernel_rfl) (fun _ _ _ h => h) (.inl ⟨by kernel_rfl, fun V hV => by obtain ⟨_, _, _, _, hV1, hV2, hV3, hV4⟩ := hV; go_simp⟩) hHeld ?_
      try simp only [Act.put, List.setIfInBounds_toArray, List.set_cons_zero, List.set_cons_succ]
      refine take_slotC (i := 21) (d := some 69) (v := .bool true) rfl (by kernel_rfl) (by kernel_rfl) (by kernel_rfl) (by kernel_rfl) (fun _ _ _ h => h) (.inl ⟨by kernel_rfl, fun V hV => by obtain ⟨_, _, _, _, hV1, hV2, hV3, hV4⟩ := hV; go_simp⟩) hHeld ?_
      try simp only [Act.put, List.setIfInBounds_toArray, List.set_cons_zero, List.set_cons_succ]
      refine take_slotC (i := 22) (d := some 70) (v := .bool true) rfl (by kernel_rfl) (by kernel_rfl) (by kernel_rfl) (by kernel_rfl) (fun _ _ _ h => h) (.inl ⟨by kernel_rfl, fun V hV => by obtain ⟨_, _, _, _, hV1, hV2, hV3, hV4⟩ := hV; go_simp⟩) hHeld ?_
      try simp only [Act.put, List.setIfInBounds_toArray, List.set_cons_zero, List.set_cons_succ]
      refine take_slotC (i := 23) (d := some 71) (v := .slice (some ⟨ab, 0, none⟩) 2 ac) rfl (by kernel_rfl) (by kernel_rfl) (by kernel_rfl) (by kernel_rfl) (fun _ _ _ h => h) (.inl ⟨by kernel_rfl, fun V hV => by obtain ⟨_, _, _, _, hV1, hV2, hV3, hV4⟩ := hV; go_simp⟩) hHeld ?_
      try simp only [Act.put, List.setIfInBounds_toArray, List.set_cons_zero, List.set_cons_succ]
      refine take_slotC (i := 24) (d := some 72) (v := .pointer (some ⟨ab, 0, none⟩)) rfl (by kernel_rfl) (by kernel_rfl) (by kernel_rfl) (by kernel_rfl) (fun _ _ _ h => h) (.inl ⟨by kernel_rfl, fun V hV => by obtain ⟨_, _, _, _, hV1, hV2, hV3, hV4⟩ := hV; go_simp⟩) hHeld ?_
      try simp only [Act.put, List.setIfInBounds_toArray, List.set_cons_zero, List.set_cons_succ]
      refine take_slotC (i := 25) (d := some 73) (v := .int .i64 x0) rfl (by kernel_rfl) (by kernel_rfl) (by kernel_rfl) (by kernel_rfl) (fun _ _ _ h => h) (.inl ⟨by kernel_rfl, fun V hV => by obtain ⟨_, _, _, _, hV1, hV2, hV3, hV4⟩ := hV; go_simp⟩) hHeld ?_
      try simp only [Act.put, List.setIfInBounds_toArray, List.set_cons_zero, List.set_cons_succ]
      refine take_slotC (i := 26) (d := some 74) (v := .slice (some ⟨bb, 0, none⟩) 2 bc) rfl (by kernel_rfl) (by kernel_rfl) (by kernel_rfl) (by kernel_rfl) (fun _ _ _ h => h) (.inl ⟨by kernel_rfl, fun V hV => by obtain ⟨_, _, _, _, hV1, hV2, hV3, hV4⟩ := hV; go_simp⟩) hHeld ?_
      try simp only [Act.put, List.setIfInBounds_toArray, List.set_cons_zero, List.set_cons_succ]
      refine take_slotC (i := 27) (d := some 75) (v := .int .i64 (kk : Int)) rfl (by kernel_rfl) (by kernel_rfl) (by kernel_rfl) (by kernel_rfl) (fun _ _ _ h => h) (.inl ⟨by kernel_rfl, fun V hV => by obtain ⟨_, _, _, _, hV1, hV2, hV3, hV4⟩ := hV; go_simp⟩) hHeld ?_
      try simp only [Act.put, List.setIfInBounds_toArray, List.set_cons_zero, List.set_cons_succ]
      refine take_slotC (i := 28) (d := some 76) (v := .int .i64 (r : Int)) rfl (by kernel_rfl) (by kernel_rfl) (by kernel_rfl) (by kernel_rfl) (fun _ _ _ h => h) (.inl ⟨by kernel_rfl, fun V hV => by obtain ⟨_, _, _, _, hV1, hV2, hV3, hV4⟩ := hV; go_simp⟩) hHeld ?_
      try simp only [Act.put, List.setIfInBounds_toArray, List.set_cons_zero, List.set_cons_succ]
      refine take_slotC (i := 29) (d := some 77) (v := .pointer (some ⟨bb, r, none⟩)) rfl (by kernel_rfl) (by kernel_rfl) (by kernel_rfl) (by kernel_rfl) (fun _ _ _ h => h) (.inl ⟨by kernel_rfl, fun V hV => by obtain ⟨_, _, _, _, hV1, hV2, hV3, hV4⟩ := hV; go_simp⟩) hHeld ?_
      try simp only [Act.put, List.setIfInBounds_toArray, List.set_cons_zero, List.set_cons_succ]
      refine take_slotC (i := 30) (d := some 78) (v := .int .i64 x0) rfl (by kernel_rfl) (by kernel_rfl) (by kernel_rfl) (by kernel_rfl) (fun _ _ _ h => h) (.inl ⟨by kernel_rfl, fun V hV => by obtain ⟨_, _, _, _, hV1, hV2, hV3, hV4⟩ := hV; go_simp⟩) hHeld ?_
      try simp only [Act.put, List.setIfInBounds_toArray, List.set_cons_zero, List.set_cons_succ]
      refine take_slotC (i := 31) (d := some 79) (v := .bool true) rfl (by kernel_rfl) (by kernel_rfl) (by kernel_rfl) (by kernel_rfl) (fun _ _ _ h => h) (.inl ⟨by kernel_rfl, fun V hV => by obtain ⟨_, _, _, _, hV1, hV2, hV3, hV4⟩ := hV; go_simp⟩) hHeld ?_
      try simp only [Act.put, List.setIfInBounds_toArray, List.set_cons_zero, List.set_cons_succ]
      refine take_slotC (i := 32) (d := some 80) (v := .bool true) rfl (by kernel_rfl) (by kernel_rfl) (by kernel_rfl) (by kernel_rfl) (fun _ _ _ h => h) (.inl ⟨by kernel_rfl, fun V hV => by obtain ⟨_, _, _, _, hV1, hV2, hV3, hV4⟩ := hV; go_simp⟩) hHeld ?_
      try simp only [Act.put, List.setIfInBounds_toArray, List.set_cons_zero, List.set_cons_succ]
      refine take_slotC (i := 33) (d := some 81) (v := .bool true) rfl (by kernel_rfl) (by kernel_rfl) (by kernel_rfl) (by kernel_rfl) (fun _ _ _ h => h) (.inl ⟨by kernel_rfl, fun V hV => by obtain ⟨_, _, _, _, hV1, hV2, hV3, hV4⟩ := hV; go_simp⟩) hHeld ?_
      try simp only [Act.put, List.setIfInBounds_toArray, List.set_cons_zero, List.set_cons_succ]
      refine take_slotC (i := 34) (d := some 82) (v := .slice (some ⟨ab, 0, none⟩) 2 ac) rfl (by kernel_rfl) (by kernel_rfl) (by kernel_rfl) (by kernel_rfl) (fun _ _ _ h => h) (.inl ⟨by kernel_rfl, fun V hV => by obtain ⟨_, _, _, _, hV1, hV2, hV3, hV4⟩ := hV; go_simp⟩) hHeld ?_
      try simp only [Act.put, List.setIfInBounds_toArray, List.set_cons_zero, List.set_cons_succ]
      refine take_slotC (i := 35) (d := some 83) (v := .pointer (some ⟨ab, 1, none⟩)) rfl (by kernel_rfl) (by kernel_rfl) (by kernel_rfl) (by kernel_rfl) (fun _ _ _ h => h) (.inl ⟨by kernel_rfl, fun V hV => by obtain ⟨_, _, _, _, hV1, hV2, hV3, hV4⟩ := hV; go_simp⟩) hHeld ?_
      try simp only [Act.put, List.setIfInBounds_toArray, List.set_cons_zero, List.set_cons_succ]
      refine take_slotC (i := 36) (d := some 84) (v := .int .i64 x1) rfl (by kernel_rfl) (by kernel_rfl) (by kernel_rfl) (by kernel_rfl) (fun _ _ _ h => h) (.inl ⟨by kernel_rfl, fun V hV => by obtain ⟨_, _, _, _, hV1, hV2, hV3, hV4⟩ := hV; go_simp⟩) hHeld ?_
      try simp only [Act.put, List.setIfInBounds_toArray, List.set_cons_zero, List.set_cons_succ]
      refine take_slotC (i := 37) (d := some 85) (v := .slice (some ⟨bb, 0, none⟩) 2 bc) rfl (by kernel_rfl) (by kernel_rfl) (by kernel_rfl) (by kernel_rfl) (fun _ _ _ h => h) (.inl ⟨by kernel_rfl, fun V hV => by obtain ⟨_, _, _, _, hV1, hV2, hV3, hV4⟩ := hV; go_simp⟩) hHeld ?_
      try simp only [Act.put, List.setIfInBounds_toArray, List.set_cons_zero, List.set_cons_succ]
      refine take_slotC (i := 38) (d := some 86) (v := .int .i64 (kk : Int)) rfl (by kernel_rfl) (by kernel_rfl) (by kernel_rfl) (by kernel_rfl) (fun _ _ _ h => h) (.inl ⟨by kernel_rfl, fun V hV => by obtain ⟨_, _, _, _, hV1, hV2, hV3, hV4⟩ := hV; go_simp⟩) hHeld ?_
      try simp only [Act.put, List.setIfInBounds_toArray, List.set_cons_zero, List.set_cons_succ]
      refine take_slotC (i := 39) (d := some 87) (v := .int .i64 (r : Int)) rfl (by kernel_rfl) (by kernel_rfl) (by kernel_rfl) (by kernel_rfl) (fun _ _ _ h => h) (.inl ⟨by kernel_rfl, fun V hV => by obtain ⟨_, _, _, _, hV1, hV2, hV3, hV4⟩ := hV; go_simp⟩) hHeld ?_
      try simp only [Act.put, List.setIfInBounds_toArray, List.set_cons_zero, List.set_cons_succ]
      refine take_slotC (i := 40) (d := some 88) (v := .int .i64 (q : Int)) rfl (by kernel_rfl) (by kernel_rfl) (by kernel_rfl) (by kernel_rfl) (fun _ _ _ h => h) (.inl ⟨by kernel_rfl, fun V hV => by obtain ⟨_, _, _, _, hV1, hV2, hV3, hV4⟩ := hV; go_simp⟩) hHeld ?_
      try simp only [Act.put, List.setIfInBounds_toArray, List.set_cons_zero, List.set_cons_succ]
      refine take_slotC (i := 41) (d := some 89) (v := .pointer (some ⟨bb, q, none⟩)) rfl (by kernel_rfl) (by kernel_rfl) (by kernel_rfl) (by kernel_rfl) (fun _ _ _ h => h) (.inl ⟨by kernel_rfl, fun V hV => by obtain ⟨_, _, _, _, hV1, hV2, hV3, hV4⟩ := hV; go_simp⟩) hHeld ?_
      try simp only [Act.put, List.setIfInBounds_toArray, List.set_cons_zero, List.set_cons_succ]
      refine take_slotC (i := 42) (d := some 90) (v := .int .i64 x1) rfl (by kernel_rfl) (by kernel_rfl) (by kernel_rfl) (by kernel_rfl) (fun _ _ _ h => h) (.inl ⟨by kernel_rfl, fun V hV => by obtain ⟨_, _, _, _, hV1, hV2, hV3, hV4⟩ := hV; go_simp⟩) hHeld ?_
      try simp only [Act.put, List.setIfInBounds_toArray, List.set_cons_zero, List.set_cons_succ]
      refine take_slotC (i := 43) (d := some 91) (v := .bool true) rfl (by kernel_rfl) (by kernel_rfl) (by kernel_rfl) (by kernel_rfl) (fun _ _ _ h => h) (.inl ⟨by kernel_rfl, fun V hV => by obtain ⟨_, _, _, _, hV1, hV2, hV3, hV4⟩ := hV; go_simp⟩) hHeld ?_
      try simp only [Act.put, List.setIfInBounds_toArray, List.set_cons_zero, List.set_cons_succ]
      refine take_slotC (i := 44) (d := some 92) (v := .bool true) rfl (by kernel_rfl) (by kernel_rfl) (by kernel_rfl) (by kernel_rfl) (fun _ _ _ h => h) (.inl ⟨by kernel_rfl, fun V hV => by obtain ⟨_, _, _, _, hV1, hV2, hV3, hV4⟩ := hV; go_simp⟩) hHeld ?_
      try simp only [Act.put, List.setIfInBounds_toArray, List.set_cons_zero, List.set_cons_succ]
      refine take_slotC (i := 45) (d := some 2) (v := .bool true) rfl (by kernel_rfl) (by kernel_rfl) (by kernel_rfl) (by kernel_rfl) (fun _ _ _ h => h) (.inl ⟨by kernel_rfl, fun V hV => by obtain ⟨_, _, _, _, hV1, hV2, hV3, hV4⟩ := hV; go_simp⟩) hHeld ?_
      try simp only [Act.put, List.setIfInBounds_toArray, List.set_cons_zero, List.set_cons_succ]
      refine wpAnyH_done (by kernel_rfl) ?_ _
      go_wp2_with fail
      go_ret
      exact ⟨rfl, K1.out⟩
end Go.Proofs.Yteglffbeldlibaa.Lib1
