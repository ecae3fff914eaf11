/- The exact law of ReadHand, out of a contract of the program's function and the model's. -/
import Derived.Test.YteojdlacdnfgiaaDoorTextLaw2
namespace Go.Proofs.YteojdlacdnfgiaaDoor.Lib1
open Go.RowKit
set_option maxRecDepth 100000

set_option maxHeartbeats 1600000 in
theorem law_ReadHand (I : ImplRM 11) (s : ByteArray) (w : World) (hk0 : KM w) :
    Calls Tryd.prog 5 #[.string s] w fun e w' => e = .returned (.bool true) ∧ Below w.heap.size w w' := by
  have hk := Lib.hid hk0
  clear hk0
  by_cases hn : s.size ≤ 1048576
  · have hb : ¬ (1048576 : Int) < (s.size : Int) := by omega
    have hm : (readV s.data.toList).length ≤ 1048576 := by have := readV_le s.data.toList; omega
    go_enter Tryd.func5, Tryd.ntmps5
    go_wp2_with fail
    refine (spec_ReadHand s _ hn).mono ?_
    rintro e w1 ⟨W, cw, rfl, _, _, ow, c1⟩
    go_wp2_with fail
    refine (I s _ hn (hk.out.below c1.to_below)).mono ?_
    rintro e w2 ⟨G, cg, rfl, _, _, og, c2⟩
    have ow2 := ow.still c2
    have b2 := c1.trans c2
    have t1 := c1.size
    have t2 := c2.size
    clear ow c1 c2
    generalize hB : readB s.data.toList = b
    have HB := Lib.hid hB
    clear hB
    go_wp2_with fail
    refine (eqInt64S _ _ _ _ _ _ (readV s.data.toList) _ _ _ _ _ og.rd ow2.rd hm).mono ?_
    rintro e w3 ⟨rfl, c3⟩
    have ow3 := ow2.still c3
    have og3 := og.still c3
    have b3 := (b2.trans c3).to_below
    have t3 := c3.size
    clear ow2 og b2 c3
    go_wp2_with fail
    refine (mark1 _ _ _ (readV s.data.toList) _ _ _ og3 hm).mono ?_
    rintro e w4 ⟨rfl, og4, c4, z4⟩
    have ow4 := ow3.chg c4 (by omega)
    have b4 := Chg.above b3 c4 (by omega) (by omega)
    have t4 : w3.heap.size ≤ w4.heap.size := by omega
    clear z4 c4 ow3 og3 b3
    go_wp2_with fail
    refine (held1 _ _ _ _ _ _ og4.rd hm).mono ?_
    rintro e w' ⟨rfl, rfl⟩
    go_wp2_with fail
    refine (I s _ hn (hk.out.below b4)).mono ?_
    rintro e w5 ⟨K, ck, rfl, _, _, ok, c5⟩
    have ow5 := ow4.still c5
    have og5 := og4.still c5
    have b5 := Chg.above b4 c5 (by omega) (by omega)
    have t5 := c5.size
    clear c5 ow4 og4 b4
    rw [HB.out]
    go_wp2_with fail
    refine (eqInt64S _ _ _ _ _ _ (readV s.data.toList) _ _ _ _ _ ok.rd ow5.rd hm).mono ?_
    rintro e w6 ⟨rfl, c6⟩
    have og6 := og5.still c6
    have b6 := Chg.above b5 c6 (by omega) (by omega)
    clear c6 ow5 og5 b5 ok
    go_wp2_with fail
    refine (held1 _ _ _ _ _ _ og6.rd hm).mono ?_
    rintro e w' ⟨rfl, rfl⟩
    go_wp2_with fail
    go_ret
    exact ⟨rfl, b6⟩
  · have hb : (1048576 : Int) < (s.size : Int) := by omega
    go_enter Tryd.func5, Tryd.ntmps5
    go_wp2
    go_ret
    exact ⟨rfl, Below.refl _ _⟩

end Go.Proofs.YteojdlacdnfgiaaDoor.Lib1
