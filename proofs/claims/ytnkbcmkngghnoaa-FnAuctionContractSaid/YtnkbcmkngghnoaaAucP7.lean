/- Chapter 7: the law FnAuctionGrows, for whatever functions of the program keep the contracts. (Written by wip/gen7p.py.) -/
import Derived.Test.YtnkbcmkngghnoaaAucZ7
import Derived.Test.YtnkbcmkngghnoaaAucB7
import Derived.Test.YtnkbcmkngghnoaaAucC7
namespace Go.Proofs.Ytnkbcmkngghnoaa.Lib1
open Go.RowKit
set_option maxRecDepth 100000

theorem Rd.keep {w w' : World} {lo n : Nat} {A : Option Addr} {zs : List Int} (h : Rd w lo w.heap.size A n zs) (c : Chg w w' 0 0) : Rd w' 0 w'.heap.size A n zs := (h.chg c (.inr (Nat.zero_le _))).more (Nat.zero_le _) c.size
theorem legalTo_has (zs : List Int) (n : Nat) (x : Int) : ∀ k : Nat, (legalTo zs n k).contains x = (decide (0 ≤ x ∧ x < (k : Int)) && legTo zs n x)
  | 0 => by
    have : ¬ (0 ≤ x ∧ x < ((0 : Nat) : Int)) := by omega
    rw [decide_eq_false this]; rfl
  | k + 1 => by
    have ih := legalTo_has zs n x k
    rw [legalTo]
    by_cases hx : x = (k : Int)
    · subst hx
      have h1 : ¬ (0 ≤ (k : Int) ∧ (k : Int) < (k : Int)) := by omega
      have h2 : (0 ≤ (k : Int) ∧ (k : Int) < ((k + 1 : Nat) : Int)) := by omega
      rw [decide_eq_false h1, Bool.false_and] at ih
      rw [decide_eq_true h2, Bool.true_and]
      cases hg : legTo zs n (k : Int)
      · simpa [hg] using ih
      · simp
    · have h1 : decide (0 ≤ x ∧ x < ((k + 1 : Nat) : Int)) = decide (0 ≤ x ∧ x < (k : Int)) := by
        by_cases h : 0 ≤ x ∧ x < (k : Int)
        · rw [decide_eq_true h, decide_eq_true (show 0 ≤ x ∧ x < ((k + 1 : Nat) : Int) by omega)]
        · rw [decide_eq_false h, decide_eq_false (show ¬ (0 ≤ x ∧ x < ((k + 1 : Nat) : Int)) by omega)]
      rw [h1, ← ih]
      cases hg : legTo zs n (k : Int)
      · simp
      · simp only [if_true, List.contains_eq_any_beq, List.any_append, List.any_cons, List.any_nil, Bool.or_false]
        have : (x == (k : Int)) = false := by simpa using hx
        rw [this, Bool.or_false]
theorem legTo_range {zs : List Int} {n : Nat} {x : Int} (h : legTo zs n x = true) : 0 ≤ x ∧ x < 38 := by
  unfold legTo at h
  by_cases h0 : x = 0
  · omega
  by_cases h1 : x = 1
  · omega
  by_cases h2 : x = 2
  · omega
  rw [if_neg h0, if_neg h1, if_neg h2] at h
  have := inB_seat (Bool.and_eq_true_iff.1 h).1
  omega
theorem legal_has (zs : List Int) (n : Nat) (x : Int) : (legalTo zs n 38).contains x = legTo zs n x := by
  rw [legalTo_has]
  cases h : legTo zs n x
  · rw [Bool.and_false]
  · rw [decide_eq_true (show 0 ≤ x ∧ x < ((38 : Nat) : Int) from legTo_range h)]; rfl
theorem grows_all (d : Int) (cs : List Int) (n : Nat) (x : Int) (hl : cs.length = n) :
    (seatV d cs n = -1 ∧ legalV d cs n = [] ∧ (addB d cs n x = 1 ∨ addB d cs n x = 5)) ∨
    ((0 ≤ seatV d cs n ∧ seatV d cs n ≤ 3) ∧ (legalV d cs n).contains 0 = true ∧ ((addB d cs n x = 2 ∧ (legalV d cs n).contains x = false) ∨ (addB d cs n x = 0 ∧ (legalV d cs n).contains x = true ∧ (inB (addD d cs n x) 0 3 && validTo (addL d cs n x) (addL d cs n x).length) = true ∧ (overTo (addL d cs n x) (addL d cs n x).length = true ∨ (overTo (addL d cs n x) (addL d cs n x).length = false ∧ seatV (addD d cs n x) (addL d cs n x) (addL d cs n x).length = (seatV d cs n + 1) % 4))))) := by
  cases h1 : inB d 0 3 && validTo cs n
  · refine .inl ⟨?_, ?_, .inl ?_⟩
    · unfold seatV; rw [h1]; rfl
    · unfold legalV; rw [h1]; rfl
    · unfold addB; rw [h1]; rfl
  cases h2 : overTo cs n
  · refine .inr ⟨?_, ?_, ?_⟩
    · unfold seatV; rw [h1, h2]; simp; omega
    · have : legalV d cs n = legalTo cs n 38 := by unfold legalV; rw [h1, h2]; rfl
      rw [this, legal_has]; rfl
    have hL : legalV d cs n = legalTo cs n 38 := by unfold legalV; rw [h1, h2]; rfl
    rw [hL, legal_has]
    cases h3 : legTo cs n x
    · refine .inl ⟨?_, rfl⟩
      unfold addB; rw [h1, h2, h3]; rfl
    · have hb : addB d cs n x = 0 := by unfold addB; rw [h1, h2, h3]; rfl
      have hd : addD d cs n x = d := by unfold addD; rw [if_pos hb]
      have hq : addL d cs n x = cs ++ [x] := by unfold addL; rw [if_pos hb]
      have hv : validTo (cs ++ [x]) (n + 1) = true := by
        have hc : ∀ j, j < n → (cs ++ [x]).getD j 0 = cs.getD j 0 := fun j hj => getD_snoc cs x j (by omega)
        simp only [validTo]
        rw [validTo_congr n hc, overTo_congr n hc, legTo_congr n hc, ← hl, getD_last, hl, h2, h3, (Bool.and_eq_true_iff.1 h1).2]; rfl
      have hd0 := (Bool.and_eq_true_iff.1 h1).1
      have hlen : (cs ++ [x]).length = n + 1 := by rw [List.length_append, hl]; rfl
      refine .inr ⟨hb, rfl, ?_, ?_⟩
      · rw [hd, hq, hlen, hd0, hv]; rfl
      · rw [hd, hq, hlen]
        cases h4 : overTo (cs ++ [x]) (n + 1)
        · refine .inr ⟨rfl, ?_⟩
          unfold seatV
          rw [hd0, hv, h4, (Bool.and_eq_true_iff.1 h1).2, h2]
          have hr := inB_seat hd0
          simp
          omega
        · exact .inl rfl
  · refine .inl ⟨?_, ?_, .inr ?_⟩
    · unfold seatV; rw [h1, h2]; rfl
    · unfold legalV; rw [h1, h2]; rfl
    · unfold addB; rw [h1, h2]; rfl

set_option maxHeartbeats 8000000 in
theorem law_FnAuctionGrows (hI : IsAucF 20) (hE : EndF 21) (hL : LegF 15) (hA : AddF 16) (hS : SeatF 17) (A : Option Addr) (n c : Nat) (w : World) (h : Bytes w A n) :
    Calls Try.prog 3 #[.slice A n c] w fun e w' => e = .returned (.bool true) ∧ Below w.heap.size w w' := by
  by_cases hn : 4096 < n
  · have hb := Lib.hid (decide_eq_true hn)
    clear hI hE hL hA hS
    go_enter Try.func3, Try.ntmps3
    go_wp2_with fail
    refine (big _ _ _ _).mono ?_
    rintro e w' ⟨rfl, rfl⟩
    rw [hb.out]
    go_wp2_with fail
    go_ret
    exact ⟨rfl, Below.refl _ _⟩
  · have hb := Lib.hid (decide_eq_false hn)
    have HI := Lib.hid hI
    have HE := Lib.hid hE
    have HLg := Lib.hid hL
    have HA := Lib.hid hA
    have HS := Lib.hid hS
    clear hI hE hL hA hS
    go_enter Try.func3, Try.ntmps3
    go_wp2_with fail
    refine (big _ _ _ _).mono ?_
    rintro e w' ⟨rfl, rfl⟩
    rw [hb.out]
    go_wp2_with fail
    refine (DrawAddCall A n c _ h (by omega)).mono ?_
    rintro e w1 ⟨d, D, m, k, cs, x, rfl, hm, hcap, hnil, hrd, b1⟩
    clear h hb
    have HNIL := Lib.hid hnil
    have HALL := Lib.hid (grows_all d cs m x hrd.1)
    have B0 : Hid ((w1.alloc (.cells #[.int .i64 0, .slice none 0 0] 26)).heap[w1.heap.size]? = some (.cells aucZero 26 (0, 0))) := heap_alloc_new w1 _
    have ca := Chg.of_alloc w1 (.cells #[.int .i64 0, .slice none 0 0] 26) 0 0
    have B1 : Hid (ABox ((w1.alloc (.cells #[.int .i64 0, .slice none 0 0] 26)).setRow w1.heap.size #[.int .i64 d, .slice D m k]) w1.heap.size d D m k) := setRow_heap _ _ _ #[.int .i64 d, .slice D m k] _ _ B0.out
    have C1 := Lib.hid (ca.rowC (show w1.heap.size ≤ w1.heap.size by omega) #[.int .i64 d, .slice D m k])
    have R1 := Lib.hid (hrd.keep C1.out)
    have K1 := Lib.hid (b1.trans ((Chg.to_below C1.out).mono b1.size))
    clear ca hrd b1 hnil
    go_wp2_with (first | (refine wpList_store_row rfl 26 _ _ rfl w1.heap.size #[.int .i64 d, .slice D m k] rfl rfl 26 aucZero B0.out (auc_info d D m k) rfl (auc_cells d D m k) ?_) | (refine wpList_load_row rfl 26 _ rfl w1.heap.size rfl 26 #[.int .i64 d, .slice D m k] (0, 0) _ B1.out Try.underlying26 rfl (auc_info d D m k) ?_))
    generalize (w1.alloc (.cells #[.int .i64 0, .slice none 0 0] 26)).setRow w1.heap.size #[.int .i64 d, .slice D m k] = W2 at B1 C1 R1 K1 ⊢
    obtain ⟨g, hg⟩ : ∃ g, g = w1.heap.size := ⟨_, rfl⟩
    rw [← hg] at B1 ⊢
    clear hg C1 B0
    refine (HLg.out d D m k cs _ (Rp.of_rd R1.out) (by omega) hcap).mono ?_
    rintro e w3 ⟨v, rfl, ov, b3⟩
    obtain ⟨E, ke, rfl, _⟩ := ov.form
    obtain ⟨LL, hLL⟩ : ∃ LL, LL = legalV d cs m := ⟨_, rfl⟩
    rw [← hLL] at ov HALL ⊢
    obtain ⟨q, hq⟩ : ∃ q, q = LL.length := ⟨_, rfl⟩
    rw [← hq] at ov ⊢
    have HQ := Lib.hid hq
    have hq2 : q ≤ 1048576 := by
      rw [hq, hLL]; unfold legalV
      split
      · have := legalTo_len cs m 38; omega
      · exact Nat.zero_le _
    have HQ2 := Lib.hid hq2
    clear hq2
    have P3 := Lib.hid (Rp.of_rd ov.parts4.rd)
    have c3 := Chg.of_below b3 0 0
    have B3 := Lib.hid (B1.out.still c3)
    have R3 := Lib.hid (R1.out.keep c3)
    have K3 := Lib.hid (K1.out.trans (b3.mono K1.out.size))
    clear b3 c3 B1 R1 K1 ov hLL hq
    go_wp2_with (refine wpList_load_row rfl 26 _ rfl g rfl 26 #[.int .i64 d, .slice D m k] (0, 0) _ B3.out Try.underlying26 rfl (auc_info d D m k) ?_)
    refine (HA.out d D m k cs x _ R3.out (by omega) hcap HNIL.out).mono ?_
    rintro e w4 ⟨u, rfl, ou, b4⟩
    obtain ⟨F, kf, rfl, hkf, _⟩ := ou.form
    obtain ⟨bd, hbd⟩ : ∃ bd, bd = addB d cs m x := ⟨_, rfl⟩
    obtain ⟨ad, had⟩ : ∃ ad, ad = addD d cs m x := ⟨_, rfl⟩
    obtain ⟨al, hal⟩ : ∃ al, al = addL d cs m x := ⟨_, rfl⟩
    have hlf0 : (addL d cs m x).length ≤ 1048576 := by
      unfold addL; split
      · rw [List.length_append, R3.out.1]; show m + 1 ≤ 1048576; omega
      · exact Nat.zero_le _
    rw [← hal] at ou hkf hlf0 HALL
    rw [← hbd, ← had] at HALL
    rw [← hbd, ← had, ← hal]
    obtain ⟨lf, hlf⟩ : ∃ lf, lf = al.length := ⟨_, rfl⟩
    rw [← hlf] at ou hkf hlf0 HALL ⊢
    have P4 := Lib.hid (P3.out.still (Chg.of_below b4 0 0))
    have F4 := Lib.hid (Rp.of_rd ou.parts4.rd)
    have B4 := Lib.hid (B3.out.still (Chg.of_below b4 0 0))
    have R4 := Lib.hid ((Rp.of_rd R3.out).still (Chg.of_below b4 0 0))
    have K4 := Lib.hid (K3.out.trans (b4.mono K3.out.size))
    clear b4 ou P3 B3 R3 K3 hbd had hal hlf
    have B0 : Hid ((w4.alloc (.cells #[.int .i64 0, .slice none 0 0] 26)).heap[w4.heap.size]? = some (.cells aucZero 26 (0, 0))) := heap_alloc_new w4 _
    have ca := Chg.of_alloc w4 (.cells #[.int .i64 0, .slice none 0 0] 26) 0 0
    have N5 : Hid (ABox ((w4.alloc (.cells #[.int .i64 0, .slice none 0 0] 26)).setRow w4.heap.size #[.int .i64 ad, .slice F lf kf]) w4.heap.size ad F lf kf) := setRow_heap _ _ _ #[.int .i64 ad, .slice F lf kf] _ _ B0.out
    have C5 := Lib.hid (ca.rowC (show w4.heap.size ≤ w4.heap.size by omega) #[.int .i64 ad, .slice F lf kf])
    have B5 := Lib.hid (B4.out.still C5.out)
    have R5 := Lib.hid (R4.out.still C5.out)
    have P5 := Lib.hid (P4.out.still C5.out)
    have F5 := Lib.hid (F4.out.still C5.out)
    have K5 := Lib.hid (K4.out.trans ((Chg.to_below C5.out).mono K4.out.size))
    clear ca B4 R4 P4 F4 K4
    go_wp2_with (first | (refine wpList_store_row rfl 26 _ _ rfl w4.heap.size #[.int .i64 ad, .slice F lf kf] rfl rfl 26 aucZero B0.out (auc_info ad F lf kf) rfl (auc_cells ad F lf kf) ?_) | (refine wpList_load_row rfl 26 _ rfl g rfl 26 #[.int .i64 d, .slice D m k] (0, 0) _ B5.out Try.underlying26 rfl (auc_info d D m k) ?_))
    generalize (w4.alloc (.cells #[.int .i64 0, .slice none 0 0] 26)).setRow w4.heap.size #[.int .i64 ad, .slice F lf kf] = W5 at N5 C5 B5 R5 P5 F5 K5 ⊢
    obtain ⟨g2, hg2⟩ : ∃ g2, g2 = w4.heap.size := ⟨_, rfl⟩
    rw [← hg2] at N5 ⊢
    clear hg2 C5 B0
    refine (HS.out d D m k cs _ R5.out (by omega) hcap).mono ?_
    obtain ⟨s, hs⟩ : ∃ s, s = seatV d cs m := ⟨_, rfl⟩
    rw [← hs] at HALL ⊢
    rintro e w6 ⟨rfl, c6⟩
    have N6 := Lib.hid (N5.out.still c6)
    have B6 := Lib.hid (B5.out.still c6)
    have R6 := Lib.hid (R5.out.still c6)
    have P6 := Lib.hid (P5.out.still c6)
    have F6 := Lib.hid (F5.out.still c6)
    have K6 := Lib.hid (K5.out.trans ((Chg.to_below c6).mono K5.out.size))
    have HSV := Lib.hid hs
    clear c6 N5 B5 R5 P5 F5 K5 hs
    go_wp2_with (refine wpList_load_row rfl 26 _ rfl g rfl 26 #[.int .i64 d, .slice D m k] (0, 0) _ B6.out Try.underlying26 rfl (auc_info d D m k) ?_)
    refine (spec_SeatToCall d D m k cs _ R6.out (by omega) hcap).mono ?_
    rw [← HSV.out]
    rintro e w7 ⟨rfl, c7⟩
    have N7 := Lib.hid (N6.out.still c7)
    have P7 := Lib.hid (P6.out.still c7)
    have F7 := Lib.hid (F6.out.still c7)
    have K7 := Lib.hid (K6.out.trans ((Chg.to_below c7).mono K6.out.size))
    clear c7 N6 B6 R6 P6 F6 K6 HSV
    rcases HALL.out with ⟨h1, h2, h3⟩ | ⟨⟨h1, h1'⟩, h2, h3⟩
    · subst h1
      have hq0 : q = 0 := by rw [HQ.out, h2]; rfl
      subst hq0
      clear HALL h2
      rcases h3 with rfl | rfl
      · go_wp2_with fail
        go_ret
        exact ⟨rfl, K7.out⟩
      · go_wp2_with fail
        go_ret
        exact ⟨rfl, K7.out⟩
    · have hs0 : ¬ s < 0 := by omega
      have hs1 : 0 ≤ s + 1 := by omega
      have H2 := Lib.hid h2
      have H3 := Lib.hid h3
      clear HALL h2 h3
      go_wp2_with fail
      refine (w5Has E q ke LL 0 _ P7.out HQ.out.symm HQ2.out).mono ?_
      rw [H2.out]
      rintro e w8 ⟨rfl, c8⟩
      have N8 := Lib.hid (N7.out.still c8)
      have P8 := Lib.hid (P7.out.still c8)
      have F8 := Lib.hid (F7.out.still c8)
      have K8 := Lib.hid (K7.out.trans ((Chg.to_below c8).mono K7.out.size))
      clear c8 N7 P7 F7 K7 H2
      go_wp2_with fail
      refine (w5Has E q ke LL x _ P8.out HQ.out.symm HQ2.out).mono ?_
      rcases H3.out with ⟨rfl, h4⟩ | ⟨rfl, h4, h5, h6⟩
      · rw [h4]
        rintro e w9 ⟨rfl, c9⟩
        have K9 := Lib.hid (K8.out.trans ((Chg.to_below c9).mono K8.out.size))
        clear c9 H3 h4 N8
        go_wp2_with fail
        go_ret
        exact ⟨rfl, K9.out⟩
      · rw [h4]
        rintro e w9 ⟨rfl, c9⟩
        have N9 := Lib.hid (N8.out.still c9)
        have F9 := Lib.hid (F8.out.still c9)
        have K9 := Lib.hid (K8.out.trans ((Chg.to_below c9).mono K8.out.size))
        have H5 := Lib.hid h5
        have H6 := Lib.hid h6
        clear c9 H3 h4 h5 h6 N8 P8 F8 K8
        have y0 := N9.out.c0
        have y1 := N9.out.c1
        go_wp2_with fail
        refine (HI.out ad F lf kf al _ F9.out hlf0 hkf).mono ?_
        rw [H5.out]
        rintro e wA ⟨rfl, cA⟩
        have NA := Lib.hid (N9.out.still cA)
        have FA := Lib.hid (F9.out.still cA)
        have KA := Lib.hid (K9.out.trans ((Chg.to_below cA).mono K9.out.size))
        clear cA y0 y1 N9 F9 K9
        have y0 := NA.out.c0
        have y1 := NA.out.c1
        go_wp2_with fail
        refine (HE.out ad F lf kf al _ FA.out hlf0 hkf).mono ?_
        rw [H5.out]
        rcases H6.out with h6 | ⟨h6, h7⟩
        · rw [h6]
          rintro e wB ⟨rfl, cB⟩
          have KB := Lib.hid (KA.out.trans ((Chg.to_below cB).mono KA.out.size))
          clear cB y0 y1 NA h6 H6
          go_wp2_with fail
          go_ret
          exact ⟨rfl, KB.out⟩
        · rw [h6]
          rintro e wB ⟨rfl, cB⟩
          have NB := Lib.hid (NA.out.still cB)
          have FB := Lib.hid (FA.out.still cB)
          have KB := Lib.hid (KA.out.trans ((Chg.to_below cB).mono KA.out.size))
          have H7 := Lib.hid h7
          clear cB y0 y1 NA FA KA h6 h7 H6
          have y0 := NB.out.c0
          have y1 := NB.out.c1
          go_wp2_with fail
          refine (HS.out ad F lf kf al _ FB.out hlf0 hkf).mono ?_
          rw [H7.out]
          rintro e wC ⟨rfl, cC⟩
          have KC := Lib.hid (KB.out.trans ((Chg.to_below cC).mono KB.out.size))
          clear cC y0 y1 NB
          go_wp2_with fail
          go_ret
          exact ⟨rfl, KC.out⟩
end Go.Proofs.Ytnkbcmkngghnoaa.Lib1
