/- The exact law of DealNumbers. (Written by wip/gen4d.py.) -/
import Derived.Test.YtfhfgdgpilpdkaaDealN4
import Derived.Test.YtfhfgdgpilpdkaaLaw3
namespace Go.Proofs.Ytfhfgdgpilpdkaa.Lib1
open Go.RowKit
set_option maxRecDepth 100000

set_option maxHeartbeats 3200000 in
theorem law_DealNumbers (A : Option Addr) (n c : Nat) (zss : List (List Int)) (w : World) (h : RdR w 0 w.heap.size A n zss) (hL : Lens n zss) :
    Calls Try.prog 14 #[.agg #[.slice A n c]] w fun e w' => e = .returned (.bool true) ∧ Below w.heap.size w w' := by
  have hbx := Lib.hid (box_at w (.slice A n c) 65)
  have ca := Lib.hid (Chg.of_alloc w (.cells #[.slice A n c] 65) 0 0)
  have hdl : (dnV zss).length ≤ 52 := by have := dnV_len zss; omega
  go_enter Try.func14, Try.ntmps14
  go_wp2_with fail
  refine (szDeal A n c 1048576 zss _ _ _ (h.still ca.out) (by omega) (by omega) hL).mono ?_
  rintro e w1 ⟨v, rfl, hv, c1⟩
  have k1 := Lib.hid (ca.out.trans c1)
  have b1 := box_still hbx.out c1
  have hw1 : w.heap.size < w1.heap.size := lt_of_cell b1
  clear c1
  by_cases hv0 : v < 0
  · go_wp2_with fail
    go_ret
    exact ⟨rfl, k1.out.to_below⟩
  · obtain ⟨hn, hl, hc⟩ := hv.le (by omega) rfl
    have hlt : ¬ v < 0 := hv0
    clear hv
    go_wp2_with fail
    refine (toDeal A n c zss _ _ _ (h.still k1.out) hn hl).mono ?_
    rintro e w2 ⟨g2, rfl, o2, c2⟩
    have k2 := Lib.hid (k1.out.trans c2)
    have b2 := box_still b1 c2
    have z2 := c2.size
    clear c2 b1
    go_wp2_with fail
    refine (spec_DealNumbers _ n n zss _ _ _ o2.rd hn hl).mono ?_
    rintro e w3 ⟨W, cw, rfl, _, _, ow, c3⟩
    have k3 := Lib.hid (k2.out.trans c3)
    have b3 := box_still b2 c3
    have z3 := c3.size
    clear c3 b2 o2
    generalize hLL : dnV zss = L at ow hdl
    have HLL := Lib.hid hLL
    clear hLL
    go_wp2_with fail
    refine (toDeal A n c zss _ _ _ (h.still k3.out) hn hl).mono ?_
    rintro e w4 ⟨g4, rfl, o4, c4⟩
    have bx := box_at w4 (.slice (some ⟨g4, 0, none⟩) n n) 26
    have ca4 := Chg.of_alloc w4 (.cells #[.slice (some ⟨g4, 0, none⟩) n n] 26) 0 0
    have z4 := c4.size
    have z5 : (w4.alloc (.cells #[.slice (some ⟨g4, 0, none⟩) n n] 26)).heap.size = w4.heap.size + 1 := by simp
    have k4 := Lib.hid ((k3.out.trans c4).trans ca4)
    have b4 := box_still (box_still b3 c4) ca4
    have o4' := o4.still ca4
    have ow4 := (ow.still c4).still ca4
    clear c4 b3 o4 ca4 ow
    go_wp2_with fail
    generalize w4.alloc (.cells #[.slice (some ⟨g4, 0, none⟩) n n] 26) = w5 at bx k4 b4 o4' ow4 z5
    refine (impl_DealNumbers _ n n zss _ _ _ o4'.rd (Nat.le_refl _)).mono ?_
    rw [HLL.out]
    rintro e w6 ⟨G, cg, rfl, _, _, og, c6⟩
    have k6 := Lib.hid (k4.out.trans c6)
    have b6 := box_still b4 c6
    have x6 := box_still bx c6
    have o6 := o4'.still c6
    have ow6 := ow4.still c6
    have z6 := c6.size
    clear c6 b4 bx o4' ow4
    go_wp2_with fail
    refine (eqInt64S _ _ _ _ _ _ L _ _ _ _ _ og.rd ow6.rd (by omega)).mono ?_
    rintro e w7 ⟨rfl, c7⟩
    have k7 := Lib.hid (k6.out.trans c7)
    have b7 := box_still b6 c7
    have x7 := box_still x6 c7
    have o7 := o6.still c7
    have ow7 := ow6.still c7
    have og7 := og.still c7
    have z7 := c7.size
    clear c7 b6 x6 o6 ow6 og
    go_wp2_with fail
    go_region_with (first | (go_at_call 59; refine (toDeal A n c zss _ _ _ ((h.still k7.out).still (Chg.drewN w7 1 0 0)) hn hl).mono ?_; rintro e w8 ⟨g8, rfl, o8, c8⟩; have d8 := (Chg.drewN w7 1 0 0).trans c8; have x8 := box_still x7 d8; have o78 := o7.still d8) | (go_at_call 60; refine (eqDeal _ _ n n _ _ zss _ _ _ _ _ o78.rd o8.rd hn hl).mono ?_; rintro e w9 ⟨rfl, c9⟩))
    all_goals
      have d9 := d8.trans c9
      have k9 := Lib.hid (k7.out.trans d9)
      have b9 := box_still b7 d9
      have x9 := box_still x7 d9
      have o9 := o7.still d9
      have ow9 := ow7.still d9
      have og9 := og7.still d9
      have z9 := d9.size
      clear d9 d8 c9 c8 x8 o78 o8 b7 x7 o7 ow7 og7
      go_wp2_with fail
      refine (markDeal1 _ n _ zss _ _ _ o9 hn hc).mono ?_
      rintro e w10 ⟨rfl, _, c10⟩
      have b10 := cell_above b9 c10 (.inl (by show w.heap.size < w3.heap.size; omega))
      have ow10 := ow9.chg c10 (.inl (Nat.le_refl _))
      have og10 := og9.chg c10 (.inr (by omega))
      have kB := Lib.hid (Chg.above k9.out.to_below c10 (by omega) (.inl (by omega)))
      have z10 := c10.size
      have hkn : ¬ (1 : Int) + (cnt zss n : Int) < 0 := by omega
      clear c10 b9 x9 o9 ow9 og9
      go_wp2_with fail
      refine (eqInt64S _ _ _ _ _ _ L _ _ _ _ _ og10.rd ow10.rd (by omega)).mono ?_
      rintro e w11 ⟨rfl, c11⟩
      have b11 := box_still b10 c11
      have ow11 := ow10.still c11
      have og11 := og10.still c11
      have kB11 := Lib.hid (Chg.above kB.out c11 (by omega) (.inr rfl))
      have z11 := c11.size
      clear c11 b10 ow10 og10 kB
      go_wp2_with fail
      refine (mark1 _ _ _ L _ _ _ og11 (by omega)).mono ?_
      rintro e w12 ⟨rfl, og12, c12, q12⟩
      have b12 := cell_above b11 c12 (.inl (by show w.heap.size < w5.heap.size; omega))
      have ow12 := ow11.chg c12 (.inl (by omega))
      have kB12 := Lib.hid (Chg.above kB11.out c12 (by omega) (.inl (by omega)))
      have z12 : w11.heap.size ≤ w12.heap.size := by omega
      clear c12 q12 b11 ow11 og11 kB11
      go_wp2_with fail
      refine (held1 _ _ _ _ _ _ og12.rd (by omega)).mono ?_
      rintro e w' ⟨rfl, rfl⟩
      have hLn : ¬ (1 : Int) + (L.length : Int) < 0 := by omega
      go_wp2_with fail
      refine (toDeal A n c zss _ _ _ (h.below kB12.out (Nat.le_refl _)) hn hl).mono ?_
      rintro e w13 ⟨g13, rfl, o13, c13⟩
      have ow13 := ow12.still c13
      have og13 := og12.still c13
      have kB13 := Lib.hid (Chg.above kB12.out c13 (by omega) (.inr rfl))
      have z13 := c13.size
      clear c13 b12 ow12 og12 kB12
      go_wp2_with fail
      refine (impl_DealNumbers _ n n zss _ _ _ o13.rd (Nat.le_refl _)).mono ?_
      rw [HLL.out]
      rintro e w14 ⟨K, ck, rfl, _, _, ok, c14⟩
      have ow14 := ow13.still c14
      have og14 := og13.still c14
      have kB14 := Lib.hid (Chg.above kB13.out c14 (by omega) (.inr rfl))
      have z14 := c14.size
      clear c14 o13 ow13 og13 kB13
      go_wp2_with fail
      refine (eqInt64S _ _ _ _ _ _ L _ _ _ _ _ ok.rd ow14.rd (by omega)).mono ?_
      rintro e w15 ⟨rfl, c15⟩
      have og15 := og14.still c15
      have kB15 := Lib.hid (Chg.above kB14.out c15 (by omega) (.inr rfl))
      clear c15 ok ow14 og14 kB14
      go_wp2_with fail
      refine (held1 _ _ _ _ _ _ og15.rd (by omega)).mono ?_
      rintro e w' ⟨rfl, rfl⟩
      go_wp2_with fail
      go_ret
      exact ⟨rfl, kB15.out⟩

end Go.Proofs.Ytfhfgdgpilpdkaa.Lib1
