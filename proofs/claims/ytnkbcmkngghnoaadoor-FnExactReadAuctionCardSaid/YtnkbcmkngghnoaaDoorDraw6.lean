/- Chapter 6: a number that is mostly a call, drawn. -/
import Derived.Test.YtnkbcmkngghnoaaDoorDraws
namespace Go.Proofs.YtnkbcmkngghnoaaDoor.Lib1
open Go.RowKit
set_option maxRecDepth 100000

set_option maxHeartbeats 1600000 in
/-- spec.l06Draw -/
theorem l06Draw (g : Nat) (w : World) (h : Src w g) :
    Calls Tryd.prog 54 #[.pointer (some ⟨g, 0, none⟩)] w (Drew g w fun r => -1 ≤ r ∧ r ≤ 1000) := by
  go_enter Tryd.func54, Tryd.ntmps54
  go_wp2_with fail
  refine (l01Next g 12 _ h (by omega)).mono ?_
  rintro e w1 ⟨r1, rfl, ⟨r10, r11⟩, s1, c1⟩
  by_cases h0 : r1 = 0
  · subst h0
    go_wp2_with fail
    refine (l01Next g 3 _ (s1.still (Chg.of_alloc _ _ _ _)) (by omega)).mono ?_
    rintro e w2 ⟨r2, rfl, ⟨r20, r21⟩, s2, c2⟩
    have r22 := r21 (by omega)
    have hcell : ∃ z : Int, -1 ≤ z ∧ z ≤ 1000 ∧ w2.cell? ⟨w1.heap.size, r2.toNat, none⟩ = some (.int .i64 z) := by
      have hg := s1.lt
      have hb := c2.block w1.heap.size (by simp) (by omega)
      have hr : r2 = 0 ∨ r2 = 1 ∨ r2 = 2 := by omega
      rw [World.cell?_of_block (w := w1.alloc (.cells #[.int .i64 (-1), .int .i64 38, .int .i64 1000] 2)) hb, World.cell?_alloc_mark]
      rcases hr with rfl | rfl | rfl
      · exact ⟨-1, by omega, by omega, rfl⟩
      · exact ⟨38, by omega, by omega, rfl⟩
      · exact ⟨1000, by omega, by omega, rfl⟩
    obtain ⟨z, z0, z1, hz⟩ := hcell
    go_wp2_with fail
    go_ret
    exact ⟨z, rfl, ⟨z0, z1⟩, s2, (c1.trans (Chg.of_alloc _ _ _ _)).trans c2⟩
  have t0 : (r1 == 0) = false := by simpa using h0
  by_cases h1 : r1 = 1 ∨ r1 = 2 ∨ r1 = 3
  · rcases h1 with rfl | rfl | rfl
    all_goals
      go_wp2_with fail
      refine (l01Next g 3 _ s1 (by omega)).mono ?_
      rintro e w2 ⟨r2, rfl, ⟨r20, r21⟩, s2, c2⟩
      have r22 := r21 (by omega)
      go_wp2_with fail
      go_ret
      exact ⟨r2, rfl, ⟨by omega, by omega⟩, s2, c1.trans c2⟩
  have t1 : (r1 == 1) = false := by simp; omega
  have t2 : (r1 == 2) = false := by simp; omega
  have t3 : (r1 == 3) = false := by simp; omega
  clear h0 h1
  go_wp2_with fail
  refine (l01Next g 35 _ s1 (by omega)).mono ?_
  rintro e w2 ⟨r2, rfl, ⟨r20, r21⟩, s2, c2⟩
  have r22 := r21 (by omega)
  go_wp2_with fail
  go_ret
  exact ⟨3 + r2, rfl, ⟨by omega, by omega⟩, s2, c1.trans c2⟩

def DrewCS (w : World) (e : Ending) (w' : World) : Prop := ∃ c s : Int, e = .returned (.tuple #[.int .i64 c, .int .i64 s]) ∧ (-1 ≤ c ∧ c ≤ 1000) ∧ (-1 ≤ s ∧ s ≤ 5) ∧ Below w.heap.size w w'


end Go.Proofs.YtnkbcmkngghnoaaDoor.Lib1
