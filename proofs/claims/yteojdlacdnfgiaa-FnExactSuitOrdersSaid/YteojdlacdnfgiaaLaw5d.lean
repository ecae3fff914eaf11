/- The exact law of SuitOrders. (Written by wip/gen5.py.) -/
import Derived.Test.YteojdlacdnfgiaaEx5
import Derived.Test.YteojdlacdnfgiaaSo5
import Derived.Test.YteojdlacdnfgiaaOrdS5
namespace Go.Proofs.Yteojdlacdnfgiaa.Lib1
open Go.RowKit
set_option maxRecDepth 100000

theorem ord_room (strain : Int) : Room (ordV strain) := by
  unfold ordV
  split
  · exact room_of (n := 256) (m := 4) (ordTo_len strain 256) (ordTo_four strain 256) (by omega) (by omega)
  · exact room_of (n := 0) (m := 0) (by simp) (fun j => by simp) (by omega) (by omega)

set_option maxHeartbeats 4000000 in
theorem law_SuitOrders (a0 : Int) (w : World) :
    Calls Try.prog 7 #[.int .i64 a0] w fun e w' => e = .returned (.bool true) ∧ Below w.heap.size w w' := by
  have few := ord_room a0
  generalize hRR : ordV a0 = R at few
  have HRR := Lib.hid hRR
  clear hRR
  have hRc : 1 + cnt R R.length ≤ 1048576 := few.1
  have hRn : R.length ≤ 1048576 := few.2.1
  have hRl : ∀ j, j < R.length → (R.getD j []).length ≤ 1048576 := few.2.2
  have hcp : ¬ (1 : Int) + (cnt R R.length : Int) < 0 := by omega
  clear few
  have bl := Below.refl w.heap.size w
  go_enter Try.func7, Try.ntmps7
  go_wp2_with fail
  refine (spec_SuitOrders a0 _).mono ?_
  rw [HRR.out]
  rintro e w1 ⟨W1, d1, rfl, _, q1, c1⟩
  have b1 := Chg.above bl c1 (by omega) (by omega)
  have t1 : w.heap.size ≤ w1.heap.size := c1.size
  clear c1
  go_wp2_with fail
  refine (impl_SuitOrders a0 _).mono ?_
  rw [HRR.out]
  rintro e w2 ⟨W2, d2, rfl, _, q2, c2⟩
  have W_1 := q1.still c2
  have b2 := Chg.above b1 c2 (by omega) (by omega)
  have t2 : w1.heap.size ≤ w2.heap.size := c2.size
  clear q1 b1 c2
  go_wp2_with fail
  refine (eqInt64SS _ _ R.length R.length _ _ R _ _ _ _ _ q2.rd W_1.rd hRn hRl).mono ?_
  rintro e w3 ⟨rfl, c3⟩
  have W_2 := W_1.still c3
  have G_3 := q2.still c3
  have b3 := Chg.above b2 c3 (by omega) (by omega)
  have t3 : w2.heap.size ≤ w3.heap.size := c3.size
  clear W_1 q2 b2 c3
  go_wp2_with fail
  refine (markRows1 _ R.length _ R _ _ _ G_3 hRn hRc).mono ?_
  rintro e w4 ⟨rfl, m4, c4⟩
  clear G_3
  have W_4 := W_2.chg c4 (by omega)
  have b4 := Chg.above b3 c4 (by omega) (by omega)
  have t4 : w3.heap.size ≤ w4.heap.size := c4.size
  clear W_2 b3 c4
  go_wp2_with fail
  refine (heldRows1 _ R.length _ R _ _ _ rfl m4.rd hRn hRc).mono ?_
  rintro e w' ⟨rfl, rfl⟩
  go_wp2_with fail
  refine (impl_SuitOrders a0 _).mono ?_
  rw [HRR.out]
  rintro e w6 ⟨W6, d6, rfl, _, q6, c6⟩
  have W_5 := W_4.still c6
  have M_6 := m4.still c6
  have b6 := Chg.above b4 c6 (by omega) (by omega)
  have t6 : w4.heap.size ≤ w6.heap.size := c6.size
  clear W_4 m4 b4 c6
  go_wp2_with fail
  refine (eqInt64SS _ _ R.length R.length _ _ R _ _ _ _ _ q6.rd W_5.rd hRn hRl).mono ?_
  rintro e w7 ⟨rfl, c7⟩
  have W_7 := W_5.still c7
  have M_8 := M_6.still c7
  have K_9 := q6.still c7
  have b7 := Chg.above b6 c7 (by omega) (by omega)
  have t7 : w6.heap.size ≤ w7.heap.size := c7.size
  clear W_5 M_6 q6 b6 c7
  go_wp2_with fail
  refine (heldRows1 _ R.length _ R _ _ _ rfl M_8.rd hRn hRc).mono ?_
  rintro e w' ⟨rfl, rfl⟩
  go_wp2_with fail
  go_ret
  exact ⟨rfl, b7⟩

end Go.Proofs.Yteojdlacdnfgiaa.Lib1
