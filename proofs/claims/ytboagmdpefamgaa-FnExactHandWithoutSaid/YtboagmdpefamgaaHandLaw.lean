/- The laws that compare HandWith and HandWithout with the model. -/
import Derived.Test.YtboagmdpefamgaaHand
namespace Go.Proofs.Ytboagmdpefamgaa.Lib1
open Go.RowKit

set_option maxHeartbeats 1600000 in
theorem law_HandWith (A : Option Addr) (n c : Nat) (s : Int) (zs : List Int) (w : World) (h : Rd w 0 w.heap.size A n zs) :
    Calls Try.prog 12 #[.slice A n c, .int .i64 s] w fun e w' => e = .returned (.bool true) ∧ Below w.heap.size w w' := by
  by_cases hn : n ≤ 1048576
  · have hb : ¬ (1048576 : Int) < (n : Int) := by omega
    have hm : (withV zs s).length ≤ 1048576 := by have := withV_le zs s; omega
    go_enter Try.func12, Try.ntmps12
    go_wp2_with fail
    refine (toInt64S A n c zs _ _ _ h hn).mono ?_
    rintro e w1 ⟨rfl, o1, c1⟩
    go_wp2_with fail
    refine (spec_HandWith _ n n s zs _ _ _ o1.rd hn).mono ?_
    rintro e w2 ⟨W, cw, rfl, _, _, ow, c2⟩
    have h2 := (h.still c1).still c2
    have b2 := c1.trans c2
    go_wp2_with fail
    refine (toInt64S A n c zs _ _ _ h2 hn).mono ?_
    rintro e w3 ⟨rfl, ox, c3⟩
    have h3 := h2.still c3
    have ow3 := ow.still c3
    have b3 := b2.trans c3
    go_wp2_with fail
    refine (impl_HandWith _ n n s zs _ _ _ ox.rd (Nat.le_refl _) (Plain.at_ _ _ _)).mono ?_
    rintro e w4 ⟨G, cg, rfl, _, _, og, c4⟩
    have h4 := h3.still c4
    have ow4 := ow3.still c4
    have ox4 := ox.still c4
    have b4 := b3.trans c4
    go_wp2_with fail
    refine (eqInt64S _ _ _ _ _ _ (withV zs s) _ _ _ _ _ og.rd ow4.rd hm).mono ?_
    rintro e w5 ⟨rfl, c5⟩
    have h5 := h4.still c5
    have ow5 := ow4.still c5
    have ox5 := ox4.still c5
    have og5 := og.still c5
    have b5 := b4.trans c5
    go_wp2_with fail
    refine (toInt64S A n c zs _ _ _ h5 hn).mono ?_
    rintro e w6 ⟨rfl, oy, c6⟩
    have h6 := h5.still c6
    have ow6 := ow5.still c6
    have ox6 := ox5.still c6
    have og6 := og5.still c6
    have b6 := b5.trans c6
    go_wp2_with fail
    refine (eqInt64S _ _ n n n n zs _ _ _ _ _ ox6.rd oy.rd hn).mono ?_
    rintro e w7 ⟨rfl, c7⟩
    have h7 := h6.still c7
    have ow7 := ow6.still c7
    have ox7 := ox6.still c7
    have og7 := og6.still c7
    have b7 := (b6.trans c7).to_below
    have t2 := c2.size
    have t3 := c3.size
    have t4 := c4.size
    have t1 := c1.size
    have t7 := (c5.trans (c6.trans c7)).size
    clear h h2 h3 h4 h5 h6 ow ow3 ow4 ow5 ow6 ox ox4 ox5 ox6 og og5 og6 c1 c2 c3 c4 c5 c6 c7 b2 b3 b4 b5 b6 o1 oy
    go_wp2_with fail
    refine (mark1 _ n n zs _ _ _ ox7 hn).mono ?_
    rintro e w8 ⟨rfl, _, c8, z8⟩
    have h8 := h7.chg c8 (by omega)
    have ow8 := ow7.chg c8 (by omega)
    have og8 := og7.chg c8 (by omega)
    have b8 := Chg.above b7 c8 (by omega) (by omega)
    have t8 : w7.heap.size ≤ w8.heap.size := by omega
    clear z8 c8 h7 ow7 og7 ox7 b7
    go_wp2_with fail
    refine (eqInt64S _ _ _ _ _ _ (withV zs s) _ _ _ _ _ og8.rd ow8.rd hm).mono ?_
    rintro e w9 ⟨rfl, c9⟩
    have h9 := h8.still c9
    have ow9 := ow8.still c9
    have og9 := og8.still c9
    have b9 := Chg.above b8 c9 (by omega) (by omega)
    have t9 := c9.size
    clear c9 h8 ow8 og8 b8
    go_wp2_with fail
    refine (mark1 _ _ _ (withV zs s) _ _ _ og9 hm).mono ?_
    rintro e w10 ⟨rfl, og10, c10, z10⟩
    have h10 := h9.chg c10 (by omega)
    have ow10 := ow9.chg c10 (by omega)
    have b10 := Chg.above b9 c10 (by omega) (by omega)
    have t10 : w9.heap.size ≤ w10.heap.size := by omega
    clear z10 c10 h9 ow9 og9 b9
    go_wp2_with fail
    refine (held1 _ _ _ _ _ _ og10.rd hm).mono ?_
    rintro e w' ⟨rfl, rfl⟩
    go_wp2_with fail
    refine (toInt64S A n c zs _ _ _ h10 hn).mono ?_
    rintro e w11 ⟨rfl, oz, c11⟩
    have ow11 := ow10.still c11
    have og11 := og10.still c11
    have b11 := Chg.above b10 c11 (by omega) (by omega)
    have t11 := c11.size
    clear c11 h10 ow10 og10 b10
    go_wp2_with fail
    refine (impl_HandWith _ n n s zs _ _ _ oz.rd (Nat.le_refl _) (Plain.at_ _ _ _)).mono ?_
    rintro e w12 ⟨K, ck, rfl, _, _, ok, c12⟩
    have ow12 := ow11.still c12
    have og12 := og11.still c12
    have b12 := Chg.above b11 c12 (by omega) (by omega)
    have t12 := c12.size
    clear c12 ow11 og11 b11 oz
    go_wp2_with fail
    refine (eqInt64S _ _ _ _ _ _ (withV zs s) _ _ _ _ _ ok.rd ow12.rd hm).mono ?_
    rintro e w13 ⟨rfl, c13⟩
    have og13 := og12.still c13
    have b13 := Chg.above b12 c13 (by omega) (by omega)
    clear c13 ow12 og12 b12 ok
    go_wp2_with fail
    refine (held1 _ _ _ _ _ _ og13.rd hm).mono ?_
    rintro e w' ⟨rfl, rfl⟩
    go_wp2_with fail
    go_ret
    exact ⟨rfl, b13⟩
  · have hb : (1048576 : Int) < (n : Int) := by omega
    go_enter Try.func12, Try.ntmps12
    go_wp2
    go_ret
    exact ⟨rfl, Below.refl _ _⟩

set_option maxHeartbeats 1600000 in
theorem law_HandWithout (A : Option Addr) (n c : Nat) (s : Int) (zs : List Int) (w : World) (h : Rd w 0 w.heap.size A n zs) :
    Calls Try.prog 13 #[.slice A n c, .int .i64 s] w fun e w' => e = .returned (.bool true) ∧ Below w.heap.size w w' := by
  by_cases hn : n ≤ 1048576
  · have hb : ¬ (1048576 : Int) < (n : Int) := by omega
    have hm : (withoutV zs s).length ≤ 1048576 := by have := withoutV_le zs s; omega
    go_enter Try.func13, Try.ntmps13
    go_wp2_with fail
    refine (toInt64S A n c zs _ _ _ h hn).mono ?_
    rintro e w1 ⟨rfl, o1, c1⟩
    go_wp2_with fail
    refine (spec_HandWithout _ n n s zs _ _ _ o1.rd hn).mono ?_
    rintro e w2 ⟨W, cw, rfl, _, _, ow, c2⟩
    have h2 := (h.still c1).still c2
    have b2 := c1.trans c2
    go_wp2_with fail
    refine (toInt64S A n c zs _ _ _ h2 hn).mono ?_
    rintro e w3 ⟨rfl, ox, c3⟩
    have h3 := h2.still c3
    have ow3 := ow.still c3
    have b3 := b2.trans c3
    go_wp2_with fail
    refine (impl_HandWithout _ n n s zs _ _ _ ox.rd (Nat.le_refl _)).mono ?_
    rintro e w4 ⟨G, cg, rfl, _, _, og, c4⟩
    have h4 := h3.still c4
    have ow4 := ow3.still c4
    have ox4 := ox.still c4
    have b4 := b3.trans c4
    go_wp2_with fail
    refine (eqInt64S _ _ _ _ _ _ (withoutV zs s) _ _ _ _ _ og.rd ow4.rd hm).mono ?_
    rintro e w5 ⟨rfl, c5⟩
    have h5 := h4.still c5
    have ow5 := ow4.still c5
    have ox5 := ox4.still c5
    have og5 := og.still c5
    have b5 := b4.trans c5
    go_wp2_with fail
    refine (toInt64S A n c zs _ _ _ h5 hn).mono ?_
    rintro e w6 ⟨rfl, oy, c6⟩
    have h6 := h5.still c6
    have ow6 := ow5.still c6
    have ox6 := ox5.still c6
    have og6 := og5.still c6
    have b6 := b5.trans c6
    go_wp2_with fail
    refine (eqInt64S _ _ n n n n zs _ _ _ _ _ ox6.rd oy.rd hn).mono ?_
    rintro e w7 ⟨rfl, c7⟩
    have h7 := h6.still c7
    have ow7 := ow6.still c7
    have ox7 := ox6.still c7
    have og7 := og6.still c7
    have b7 := (b6.trans c7).to_below
    have t2 := c2.size
    have t3 := c3.size
    have t4 := c4.size
    have t1 := c1.size
    have t7 := (c5.trans (c6.trans c7)).size
    clear h h2 h3 h4 h5 h6 ow ow3 ow4 ow5 ow6 ox ox4 ox5 ox6 og og5 og6 c1 c2 c3 c4 c5 c6 c7 b2 b3 b4 b5 b6 o1 oy
    go_wp2_with fail
    refine (mark1 _ n n zs _ _ _ ox7 hn).mono ?_
    rintro e w8 ⟨rfl, _, c8, z8⟩
    have h8 := h7.chg c8 (by omega)
    have ow8 := ow7.chg c8 (by omega)
    have og8 := og7.chg c8 (by omega)
    have b8 := Chg.above b7 c8 (by omega) (by omega)
    have t8 : w7.heap.size ≤ w8.heap.size := by omega
    clear z8 c8 h7 ow7 og7 ox7 b7
    go_wp2_with fail
    refine (eqInt64S _ _ _ _ _ _ (withoutV zs s) _ _ _ _ _ og8.rd ow8.rd hm).mono ?_
    rintro e w9 ⟨rfl, c9⟩
    have h9 := h8.still c9
    have ow9 := ow8.still c9
    have og9 := og8.still c9
    have b9 := Chg.above b8 c9 (by omega) (by omega)
    have t9 := c9.size
    clear c9 h8 ow8 og8 b8
    go_wp2_with fail
    refine (mark1 _ _ _ (withoutV zs s) _ _ _ og9 hm).mono ?_
    rintro e w10 ⟨rfl, og10, c10, z10⟩
    have h10 := h9.chg c10 (by omega)
    have ow10 := ow9.chg c10 (by omega)
    have b10 := Chg.above b9 c10 (by omega) (by omega)
    have t10 : w9.heap.size ≤ w10.heap.size := by omega
    clear z10 c10 h9 ow9 og9 b9
    go_wp2_with fail
    refine (held1 _ _ _ _ _ _ og10.rd hm).mono ?_
    rintro e w' ⟨rfl, rfl⟩
    go_wp2_with fail
    refine (toInt64S A n c zs _ _ _ h10 hn).mono ?_
    rintro e w11 ⟨rfl, oz, c11⟩
    have ow11 := ow10.still c11
    have og11 := og10.still c11
    have b11 := Chg.above b10 c11 (by omega) (by omega)
    have t11 := c11.size
    clear c11 h10 ow10 og10 b10
    go_wp2_with fail
    refine (impl_HandWithout _ n n s zs _ _ _ oz.rd (Nat.le_refl _)).mono ?_
    rintro e w12 ⟨K, ck, rfl, _, _, ok, c12⟩
    have ow12 := ow11.still c12
    have og12 := og11.still c12
    have b12 := Chg.above b11 c12 (by omega) (by omega)
    have t12 := c12.size
    clear c12 ow11 og11 b11 oz
    go_wp2_with fail
    refine (eqInt64S _ _ _ _ _ _ (withoutV zs s) _ _ _ _ _ ok.rd ow12.rd hm).mono ?_
    rintro e w13 ⟨rfl, c13⟩
    have og13 := og12.still c13
    have b13 := Chg.above b12 c13 (by omega) (by omega)
    clear c13 ow12 og12 b12 ok
    go_wp2_with fail
    refine (held1 _ _ _ _ _ _ og13.rd hm).mono ?_
    rintro e w' ⟨rfl, rfl⟩
    go_wp2_with fail
    go_ret
    exact ⟨rfl, b13⟩
  · have hb : (1048576 : Int) < (n : Int) := by omega
    go_enter Try.func13, Try.ntmps13
    go_wp2
    go_ret
    exact ⟨rfl, Below.refl _ _⟩

end Go.Proofs.Ytboagmdpefamgaa.Lib1
