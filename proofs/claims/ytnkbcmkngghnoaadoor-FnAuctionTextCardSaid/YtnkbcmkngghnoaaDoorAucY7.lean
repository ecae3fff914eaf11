/- Chapter 7: the law FnAuctionText, for whatever functions of the program keep the contracts. -/
import Derived.Test.YtnkbcmkngghnoaaDoorAucL7
import Derived.Test.YtnkbcmkngghnoaaDoorAucU7
import Derived.Test.YtnkbcmkngghnoaaDoorAucW7
import Derived.Test.YtnkbcmkngghnoaaDoorAucN7
namespace Go.Proofs.YtnkbcmkngghnoaaDoor.Lib1
open Go.RowKit
set_option maxRecDepth 100000


set_option maxHeartbeats 1600000 in
theorem w5Ints (A : Option Addr) (n c : Nat) (B : Option Addr) (k : Nat) (zs : List Int) (w : World) (h1 : Rp w A n zs) (h2 : Rp w B n zs) (hn : n ≤ 1048576) :
    Calls Tryd.prog 13 #[.slice A n c, .slice B n k] w fun e w' => e = .returned (.bool true) ∧ Chg w w' 0 0 := by
  go_enter Tryd.func13, Tryd.ntmps13
  go_wp2
  go_loopw [5] (fun i wr => ∃ j : Nat, j ≤ n ∧ i = .int .i64 j ∧ Hid (Chg w wr 0 0)) (fun i _ => n - (intOf i).toNat)
  case atStart => exact ⟨0, Nat.zero_le _, rfl, Chg.refl _ _ _⟩
  case round =>
    obtain ⟨j, hj, rfl, hch⟩ := hrel
    by_cases hlt : j < n
    · obtain ⟨b, off, rfl, hc⟩ := (h1.still hch.out) (by omega)
      obtain ⟨b2, off2, rfl, hc2⟩ := (h2.still hch.out) (by omega)
      have q1 := hc j hlt
      have q2 := hc2 j hlt
      have hjl : (j : Int) < (n : Int) := by omega
      have hch2 := Lib.hid (hch.out.trans (Chg.drewN wr 1 0 0))
      generalize zs.getD j 0 = z at q1 q2
      clear hc hc2
      go_wp2
      go_region
      all_goals go_wp2
      all_goals go_roundw
      all_goals first
        | exact ⟨j + 1, by omega, by go_num, hch2⟩
        | (simp [intOf]; omega)
    · obtain rfl : j = n := by omega
      go_wp2
      go_ret
      exact ⟨rfl, hch.out⟩

set_option maxHeartbeats 8000000 in
theorem law_FnAuctionText {E : World → Prop} (hE : ∀ w w' : World, E w → Below w.heap.size w w' → E w') (hT : AucTextF 9) (hR : ReadAucF E 10) (hI : IsAucF 12) (A : Option Addr) (n c : Nat) (w : World) (h : Bytes w A n) (h0 : E w) :
    Calls Tryd.prog 3 #[.slice A n c] w fun e w' => e = .returned (.bool true) ∧ Below w.heap.size w w' := by
  by_cases hn : 4096 < n
  · have hb := Lib.hid (decide_eq_true hn)
    clear hT hR hI hE h0
    go_enter Tryd.func3, Tryd.ntmps3
    go_wp2_with fail
    refine (big _ _ _ _).mono ?_
    rintro e w' ⟨rfl, rfl⟩
    rw [hb.out]
    go_wp2_with fail
    go_ret
    exact ⟨rfl, Below.refl _ _⟩
  · have hb := Lib.hid (decide_eq_false hn)
    have HT := Lib.hid hT
    have HR := Lib.hid hR
    have HE := Lib.hid (fun w' b => hE w w' h0 b)
    have HI := Lib.hid hI
    clear hT hR hI hE h0
    go_enter Tryd.func3, Tryd.ntmps3
    go_wp2_with fail
    refine (big _ _ _ _).mono ?_
    rintro e w' ⟨rfl, rfl⟩
    rw [hb.out]
    go_wp2_with fail
    refine (DrawAuctionText A n c _ h (by omega)).mono ?_
    rintro e w1 ⟨d, D, m, k, cs, rfl, hm, hcap, hnil, hrd, b1⟩
    clear h hn hb
    have B0 : Hid ((w1.alloc (.cells #[.int .i64 0, .slice none 0 0] 26)).heap[w1.heap.size]? = some (.cells aucZero 26 (0, 0))) := heap_alloc_new w1 _
    have ca := Chg.of_alloc w1 (.cells #[.int .i64 0, .slice none 0 0] 26) 0 0
    have B1 : Hid (ABox ((w1.alloc (.cells #[.int .i64 0, .slice none 0 0] 26)).setRow w1.heap.size #[.int .i64 d, .slice D m k]) w1.heap.size d D m k) := setRow_heap _ _ _ #[.int .i64 d, .slice D m k] _ _ B0.out
    have C1 := Lib.hid (ca.rowC (show w1.heap.size ≤ w1.heap.size by omega) #[.int .i64 d, .slice D m k])
    have R1 := Lib.hid ((Rp.of_rd hrd).still C1.out)
    have K1 := Lib.hid (b1.trans ((Chg.to_below C1.out).mono b1.size))
    have Z1 := Lib.hid b1.size
    have hlen := Lib.hid hrd.1
    have sz1 := Lib.hid (show w1.heap.size < ((w1.alloc (.cells #[.int .i64 0, .slice none 0 0] 26)).setRow w1.heap.size #[.int .i64 d, .slice D m k]).heap.size by rw [setRow_size]; simp)
    clear ca hrd b1
    go_wp2_with (first | (refine wpList_store_row rfl 26 _ _ rfl w1.heap.size #[.int .i64 d, .slice D m k] rfl rfl 26 aucZero B0.out (auc_info d D m k) rfl (auc_cells d D m k) ?_) | (refine wpList_load_row rfl 26 _ rfl w1.heap.size rfl 26 #[.int .i64 d, .slice D m k] (0, 0) _ B1.out Tryd.underlying26 rfl (auc_info d D m k) ?_))
    generalize (w1.alloc (.cells #[.int .i64 0, .slice none 0 0] 26)).setRow w1.heap.size #[.int .i64 d, .slice D m k] = W2 at B1 C1 R1 K1 sz1 ⊢
    obtain ⟨g, hg⟩ : ∃ g, g = w1.heap.size := ⟨_, rfl⟩
    rw [← hg] at B1 Z1 sz1 ⊢
    clear hg C1 B0
    refine (HT.out d D m k cs _ R1.out (by omega) hcap).mono ?_
    rintro e w3 ⟨rfl, c3⟩
    obtain ⟨X, hX⟩ : ∃ X, X = aucN d cs m := ⟨_, rfl⟩
    rw [← hX]
    have HX := Lib.hid hX
    have hXs : X.size ≤ 1048576 := by
      rw [hX]; unfold aucN; split
      · have := textTo_size d cs m; omega
      · decide
    clear hX
    have B3 := Lib.hid (B1.out.still c3)
    have R3 := Lib.hid (R1.out.still c3)
    have K3 := Lib.hid (K1.out.trans ((Chg.to_below c3).mono K1.out.size))
    have sz3 := Lib.hid (show g < w3.heap.size by have := c3.size; have := sz1.out; omega)
    clear c3 B1 R1 K1
    go_wp2_with fail
    cases hV : inB d 0 3 && validTo cs m
    · have hXe : X = ⟨#[]⟩ := by rw [HX.out]; unfold aucN; rw [hV]; rfl
      refine (HR.out X _ hXs (HE.out _ K3.out)).mono ?_
      rintro e w4 ⟨v, rfl, ov, b4⟩
      obtain ⟨E, ke, rfl, _⟩ := ov.form
      generalize (rdA X).2.1.length = L at ov ⊢
      generalize (rdA X).1 = d2 at ⊢
      generalize (rdA X).2.2 = ok at ⊢
      generalize (rdA X).2.1 = cs2 at ov
      have B4 := Lib.hid (B3.out.still (Chg.of_below b4 0 0))
      have R4 := Lib.hid (R3.out.still (Chg.of_below b4 0 0))
      have K4 := Lib.hid (K3.out.trans (b4.mono K3.out.size))
      have P4 := Lib.hid (Rp.of_rd ov.parts4.rd)
      have sz4 := Lib.hid (show g < w4.heap.size by have := b4.size; have := sz3.out; omega)
      have B0 : Hid ((w4.alloc (.cells #[.int .i64 0, .slice none 0 0] 26)).heap[w4.heap.size]? = some (.cells aucZero 26 (0, 0))) := heap_alloc_new w4 _
      have ca := Chg.of_alloc w4 (.cells #[.int .i64 0, .slice none 0 0] 26) 0 0
      have B5 : Hid (ABox ((w4.alloc (.cells #[.int .i64 0, .slice none 0 0] 26)).setRow w4.heap.size #[.int .i64 d2, .slice E L ke]) w4.heap.size d2 E L ke) := setRow_heap _ _ _ #[.int .i64 d2, .slice E L ke] _ _ B0.out
      have C5 := Lib.hid (ca.rowC (show w4.heap.size ≤ w4.heap.size by omega) #[.int .i64 d2, .slice E L ke])
      have G5 := Lib.hid (B4.out.still C5.out)
      have R5 := Lib.hid (R4.out.still C5.out)
      have P5 := Lib.hid (P4.out.still C5.out)
      have K5 := Lib.hid (K4.out.trans ((Chg.to_below C5.out).mono K4.out.size))
      clear ca b4 ov B3 R3 K3 B4 R4 K4 P4
      go_wp2_with (first | (refine wpList_store_row rfl 26 _ _ rfl w4.heap.size #[.int .i64 d2, .slice E L ke] rfl rfl 26 aucZero B0.out (auc_info d2 E L ke) rfl (auc_cells d2 E L ke) ?_) | (refine wpList_load_row rfl 26 _ rfl g rfl 26 #[.int .i64 d, .slice D m k] (0, 0) _ G5.out Tryd.underlying26 rfl (auc_info d D m k) ?_))
      generalize (w4.alloc (.cells #[.int .i64 0, .slice none 0 0] 26)).setRow w4.heap.size #[.int .i64 d2, .slice E L ke] = W5 at B5 C5 G5 R5 P5 K5 ⊢
      refine (spec_IsAuction d D m k cs _ R5.out (by omega) hcap).mono ?_
      rw [hV]
      rintro e w6 ⟨rfl, c6⟩
      have B6 := Lib.hid (B5.out.still c6)
      have G6 := Lib.hid (G5.out.still c6)
      have R6 := Lib.hid (R5.out.still c6)
      have P6 := Lib.hid (P5.out.still c6)
      have K6 := Lib.hid (K5.out.trans ((Chg.to_below c6).mono K5.out.size))
      clear c6 B5 G5 R5 P5 K5 C5 B0
      subst hXe
      have HVF := Lib.hid hV
      clear hV
      have g0 := G6.out.c0
      have g1 := G6.out.c1
      go_wp2_with fail
      refine (HI.out d D m k cs _ R6.out (by omega) hcap).mono ?_
      have hV : (inB d 0 3 && validTo cs m) = false := HVF.out
      rw [hV]
      rintro e w7 ⟨rfl, c7⟩
      have K7 := Lib.hid (K6.out.trans ((Chg.to_below c7).mono K6.out.size))
      clear c7 hV
      go_wp2_with fail
      go_ret
      exact ⟨rfl, K7.out⟩
    · have hXe : X = textTo d cs cs.length := by rw [HX.out]; unfold aucN; rw [hV, hlen.out]; rfl
      have hau : aucB d cs = true := by unfold aucB; rw [hlen.out]; exact hV
      have hrd := rdA_hit hau hXe.symm
      refine (HR.out X _ hXs (HE.out _ K3.out)).mono ?_
      rw [hrd]
      rintro e w4 ⟨v, rfl, ov, b4⟩
      obtain ⟨E, ke, rfl, _⟩ := ov.form
      obtain ⟨L, hL⟩ : ∃ L, L = cs.length := ⟨_, rfl⟩
      rw [← hL] at ov ⊢
      have hLm : L = m := hL.trans hlen.out
      subst hLm
      clear hL hXe hau hrd
      have B4 := Lib.hid (B3.out.still (Chg.of_below b4 0 0))
      have R4 := Lib.hid (R3.out.still (Chg.of_below b4 0 0))
      have K4 := Lib.hid (K3.out.trans (b4.mono K3.out.size))
      have P4 := Lib.hid (Rp.of_rd ov.parts4.rd)
      have sz4 := Lib.hid (show g < w4.heap.size by have := b4.size; have := sz3.out; omega)
      have B0 : Hid ((w4.alloc (.cells #[.int .i64 0, .slice none 0 0] 26)).heap[w4.heap.size]? = some (.cells aucZero 26 (0, 0))) := heap_alloc_new w4 _
      have ca := Chg.of_alloc w4 (.cells #[.int .i64 0, .slice none 0 0] 26) 0 0
      have B5 : Hid (ABox ((w4.alloc (.cells #[.int .i64 0, .slice none 0 0] 26)).setRow w4.heap.size #[.int .i64 d, .slice E L ke]) w4.heap.size d E L ke) := setRow_heap _ _ _ #[.int .i64 d, .slice E L ke] _ _ B0.out
      have C5 := Lib.hid (ca.rowC (show w4.heap.size ≤ w4.heap.size by omega) #[.int .i64 d, .slice E L ke])
      have G5 := Lib.hid (B4.out.still C5.out)
      have R5 := Lib.hid (R4.out.still C5.out)
      have P5 := Lib.hid (P4.out.still C5.out)
      have K5 := Lib.hid (K4.out.trans ((Chg.to_below C5.out).mono K4.out.size))
      clear ca b4 ov B3 R3 K3 B4 R4 K4 P4
      go_wp2_with (first | (refine wpList_store_row rfl 26 _ _ rfl w4.heap.size #[.int .i64 d, .slice E L ke] rfl rfl 26 aucZero B0.out (auc_info d E L ke) rfl (auc_cells d E L ke) ?_) | (refine wpList_load_row rfl 26 _ rfl g rfl 26 #[.int .i64 d, .slice D L k] (0, 0) _ G5.out Tryd.underlying26 rfl (auc_info d D L k) ?_))
      generalize (w4.alloc (.cells #[.int .i64 0, .slice none 0 0] 26)).setRow w4.heap.size #[.int .i64 d, .slice E L ke] = W5 at B5 C5 G5 R5 P5 K5 ⊢
      obtain ⟨g2, hg2⟩ : ∃ g2, g2 = w4.heap.size := ⟨_, rfl⟩
      rw [← hg2] at B5 sz4 ⊢
      clear hg2 C5 B0
      refine (spec_IsAuction d D L k cs _ R5.out (by omega) hcap).mono ?_
      rw [hV]
      rintro e w6 ⟨rfl, c6⟩
      have B6 := Lib.hid (B5.out.still c6)
      have G6 := Lib.hid (G5.out.still c6)
      have R6 := Lib.hid (R5.out.still c6)
      have P6 := Lib.hid (P5.out.still c6)
      have K6 := Lib.hid (K5.out.trans ((Chg.to_below c6).mono K5.out.size))
      clear c6 B5 G5 R5 P5 K5 hV
      have g0 := G6.out.c0
      have g1 := G6.out.c1
      have q0 := B6.out.c0
      have q1 := B6.out.c1
      go_wp2_with fail
      refine (w5Ints D L k E ke cs w6 R6.out P6.out (by omega)).mono ?_
      rintro e w7 ⟨rfl, c7⟩
      have K7 := Lib.hid (K6.out.trans ((Chg.to_below c7).mono K6.out.size))
      clear c7
      go_wp2_with fail
      go_ret
      exact ⟨rfl, K7.out⟩
end Go.Proofs.YtnkbcmkngghnoaaDoor.Lib1
