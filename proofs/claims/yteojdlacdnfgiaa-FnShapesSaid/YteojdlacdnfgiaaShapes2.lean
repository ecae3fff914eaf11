/- The law FnShapes: the lengths of a hand add up to the number of its cards, its pattern is a rearrangement of its shape, and points, controls, losers and quick tricks lie within their bounds; from contracts of the program's functions. -/
import Derived.Test.YteojdlacdnfgiaaParts2
namespace Go.Proofs.Yteojdlacdnfgiaa.Lib1
open Go.RowKit
set_option maxRecDepth 100000

/-- The lengths and the pattern by index. -/
def sK (zs : List Int) (j : Int) : Int := (shapeF zs).getD j.toNat 0
def tK (zs : List Int) (j : Int) : Int := (downF (shapeF zs)).getD j.toNat 0
def outF (z : Int) : Int := if z < 0 ∨ 13 < z then 1 else 0
theorem outF_nonneg (z : Int) : 0 ≤ outF z := by unfold outF; split <;> omega
theorem shape_elems {zs : List Int} (h : handB zs = true) : sumF outF (shapeF zs) = 0 := by
  have hz := (hand_bounds h).1
  have a := suitF_le 0 zs
  have b := suitF_le 1 zs
  have c := suitF_le 2 zs
  have d := suitF_le 3 zs
  have e : ∀ n : Nat, n ≤ 13 → outF (n : Int) = 0 := fun n hn => by unfold outF; rw [if_neg (by omega)]
  simp only [shapeF, sumF]
  rw [e _ (by omega), e _ (by omega), e _ (by omega), e _ (by omega)]
  rfl
theorem outF_in {z : Int} (h : outF z ≤ 0) : 0 ≤ z ∧ z ≤ 13 := by
  unfold outF at h
  by_cases hz : z < 0 ∨ 13 < z
  · rw [if_pos hz] at h; omega
  · omega
theorem sK_range {zs : List Int} (h : handB zs = true) (j : Nat) (hj : j < 4) : 0 ≤ sK zs j ∧ sK zs j ≤ 13 := by
  have hm : sK zs j ∈ shapeF zs := by
    unfold sK
    rw [Int.toNat_natCast, List.getD_eq_getElem?_getD, List.getElem?_eq_getElem (by simpa [shapeF] using hj)]
    exact List.getElem_mem _
  exact outF_in (by have := sumF_mem outF_nonneg _ _ hm; rw [shape_elems h] at this; exact this)
theorem tK_range {zs : List Int} (h : handB zs = true) (j : Nat) (hj : j < 4) : 0 ≤ tK zs j ∧ tK zs j ≤ 13 := by
  have hm : tK zs j ∈ downF (shapeF zs) := by
    unfold tK
    rw [Int.toNat_natCast, List.getD_eq_getElem?_getD, List.getElem?_eq_getElem (by rw [downF_length]; simpa [shapeF] using hj)]
    exact List.getElem_mem _
  exact outF_in (by have := sumF_mem outF_nonneg _ _ hm; rw [downF_sum, shape_elems h] at this; exact this)
theorem tK_down (zs : List Int) (j : Nat) (h0 : 0 < j) (hj : j < 4) : tK zs j ≤ tK zs ((j : Int) - 1) := by
  obtain ⟨a, b, c, d, e, h1, h2, h3, _⟩ := pattern_four zs
  unfold tK
  rw [e]
  obtain rfl | rfl | rfl : j = 1 ∨ j = 2 ∨ j = 3 := by omega
  · exact h1
  · exact h2
  · exact h3
theorem sq_range {a : Int} (h : 0 ≤ a ∧ a ≤ 13) : 0 ≤ a * a ∧ a * a ≤ 200 := by
  obtain ⟨n, rfl⟩ := Int.eq_ofNat_of_zero_le h.1
  have h2 : n ≤ 13 := by omega
  have h3 : n * n ≤ 13 * 13 := Nat.mul_le_mul h2 h2
  rw [← Int.natCast_mul]
  omega
def ssK (zs : List Int) (j : Int) : Int := sK zs j * sK zs j
def ttK (zs : List Int) (j : Int) : Int := tK zs j * tK zs j
theorem s_sum {zs : List Int} (h : handB zs = true) : upTo (sK zs) 4 = zs.length := by
  rw [upTo_four]
  exact shape_sum h
theorem s_squares (zs : List Int) : upTo (ssK zs) 4 = upTo (ttK zs) 4 := by
  obtain ⟨a, b, c, d, e, _, _, _, h⟩ := pattern_four zs
  rw [upTo_four, upTo_four]
  unfold ttK tK
  rw [e]
  exact h.symm
theorem shapeV_no {zs : List Int} (h : handB zs = false) : shapeV zs = [] ∧ patternV zs = [] := by simp [shapeV, patternV, h]
theorem shapeV_yes {zs : List Int} (h : handB zs = true) : shapeV zs = shapeF zs ∧ patternV zs = downF (shapeF zs) := by simp [shapeV, patternV, h]

set_option maxRecDepth 100000 in
set_option maxHeartbeats 3200000 in
theorem law_Shapes (IS : ImplS 12 shapeV) (IT : ImplS 13 patternV) (IP : ImplI 15 hcpV) (IC : ImplI 16 ctrlV) (IL : ImplI 17 losersV) (IQ : ImplI 18 quickV)
    (A : Option Addr) (n c : Nat) (w : World) (h : Bytes w A n) :
    Calls Try.prog 3 #[.slice A n c] w fun e w' => e = .returned (.bool true) ∧ Below w.heap.size w w' := by
  by_cases hn : 4096 < n
  · have hb := Lib.hid (decide_eq_true hn)
    go_enter Try.func3, Try.ntmps3
    go_wp2_with fail
    refine (big _ _ _ _).mono ?_
    rintro e w' ⟨rfl, rfl⟩
    rw [hb.out]
    go_wp2_with fail
    go_ret
    exact ⟨rfl, Below.refl _ _⟩
  · have hb := Lib.hid (decide_eq_false hn)
    go_enter Try.func3, Try.ntmps3
    go_wp2_with fail
    refine (big _ _ _ _).mono ?_
    rintro e w' ⟨rfl, rfl⟩
    rw [hb.out]
    go_wp2_with fail
    refine (DrawLosersOf A n c _ h (by omega)).mono ?_
    rintro e w1 ⟨D, dc, zs, rfl, hl, hdc, hp, od, b1⟩
    go_wp2_with fail
    refine (IS D zs.length dc zs _ _ _ od.rd (by omega) hdc hp).mono ?_
    rintro e w2 ⟨S, sc, rfl, _, _, os, c2⟩
    have b2 := Chg.above b1 c2 b1.size (.inr rfl)
    have od2 := od.still c2
    clear b1 c2 od
    go_wp2_with fail
    refine (IT D zs.length dc zs _ _ _ od2.rd (by omega) hdc hp).mono ?_
    rintro e w3 ⟨P, pc, rfl, _, _, op, c3⟩
    have b3 := Chg.above b2 c3 b2.size (.inr rfl)
    have od3 := od2.still c3
    have os3 := os.still c3
    clear b2 c3 od2 os
    go_wp2_with fail
    refine (spec_IsHand D zs.length dc zs _ _ _ od3.rd (by omega)).mono ?_
    rintro e w4 ⟨rfl, c4⟩
    have b4 := Chg.above b3 c4 b3.size (.inr rfl)
    have od4 := od3.still c4
    have os4 := os3.still c4
    have op4 := op.still c4
    clear b3 c4 od3 os3 op
    cases hh : handB zs with
    | false =>
      have HQ := Lib.hid (hcpV_no hh)
      obtain ⟨e1, e2⟩ := shapeV_no hh
      rw [e1, e2]
      clear hh os4 op4
      go_wp2_with fail
      refine (IP D zs.length dc zs _ _ _ od4.rd (by omega) hdc hp).mono ?_
      rintro e w5 ⟨rfl, c5⟩
      have b5 := Chg.above b4 c5 b4.size (.inr rfl)
      rw [HQ.out]
      go_wp2_with fail
      go_ret
      exact ⟨rfl, b5⟩
    | true =>
      have HH := Lib.hid hh
      have HS := Lib.hid (s_sum hh)
      obtain ⟨e1, e2⟩ := shapeV_yes hh
      rw [e1] at os4 ⊢
      rw [e2] at op4 ⊢
      have l1 : (shapeF zs).length = 4 := rfl
      have l2 : (downF (shapeF zs)).length = 4 := by rw [downF_length]; rfl
      rw [l1] at os4 ⊢
      rw [l2] at op4 ⊢
      obtain ⟨sb, so, rfl, _, _, hsc⟩ := os4.rd.2 (by omega)
      obtain ⟨pb, po, rfl, _, _, hpc⟩ := op4.rd.2 (by omega)
      have hrd := od4.rd.all
      clear hh od4 os4 op4 e1 e2 l1 l2
      go_wp2_with fail
      go_loopw [6, 7, 8, 9] (fun s sq b i wr => ∃ k q : Nat, k ≤ 4 ∧ i = .int .i64 k ∧ s = .int .i64 (upTo (sK zs) k) ∧ sq = .int .i64 (upTo (ssK zs) k) ∧ b = .int .i64 (upTo (ttK zs) k) ∧ wr = w4.drewN q) (fun _ _ _ i _ => 4 - (intOf i).toNat)
      case atStart => exact ⟨0, 0, by omega, rfl, rfl, rfl, rfl, rfl⟩
      case round =>
        obtain ⟨k, q, hk, rfl, rfl, rfl, rfl, rfl⟩ := hrel
        have s1 := upTo_range (fun j hj => (show 0 ≤ sK zs j ∧ sK zs j ≤ 200 by have := sK_range HH.out j hj; omega)) k hk
        have s2 := upTo_range (fun j hj => (show 0 ≤ ssK zs j ∧ ssK zs j ≤ 200 from sq_range (sK_range HH.out j hj))) k hk
        have s3 := upTo_range (fun j hj => (show 0 ≤ ttK zs j ∧ ttK zs j ≤ 200 from sq_range (tK_range HH.out j hj))) k hk
        by_cases hlt : k < 4
        · have hltI : (k : Int) < 4 := by omega
          have r1 := sK_range HH.out k hlt
          have r2 := sq_range r1
          have r3 := tK_range HH.out k hlt
          have r4 := sq_range r3
          have hcs := hsc k hlt
          have hcp := hpc k hlt
          rw [show (shapeF zs).getD k 0 = sK zs k by unfold sK; rw [Int.toNat_natCast]] at hcs
          rw [show (downF (shapeF zs)).getD k 0 = tK zs k by unfold tK; rw [Int.toNat_natCast]] at hcp
          have u1 : Hid (upTo (sK zs) k + sK zs k = upTo (sK zs) (k + 1)) := rfl
          have u2 : Hid (upTo (ssK zs) k + sK zs k * sK zs k = upTo (ssK zs) (k + 1)) := rfl
          have u3 : Hid (upTo (ttK zs) k + tK zs k * tK zs k = upTo (ttK zs) (k + 1)) := rfl
          by_cases h0 : k = 0
          · have hd : decide ((0 : Int) < (k : Int)) = false := by simp [h0]
            have hd' : decide (0 < k) = false := by simp [h0]
            generalize sK zs k = x at hcs r1 r2 u1 u2
            generalize tK zs k = y at hcp r3 r4 u3
            clear hsc hpc h0
            go_wp2
            go_quiet (fail)
            go_wp2
            go_quiet (fail)
            go_wp2
            go_quiet (fail)
            go_wp2
            go_roundw
            case rel => exact ⟨k + 1, _, by omega, by go_num, by rw [u1.out], by rw [u2.out], by rw [u3.out], rfl⟩
            case measure => simp [intOf]; omega
          · have hcq := hpc (k - 1) (by omega)
            have hp0 : (0 : Int) < (k : Int) := by omega
            have hp1 : 0 < k := by omega
            have e1 : ((k : Int) - 1).toNat = k - 1 := by omega
            have e2 : IntKind.i64.wrap ((k : Int) - 1) = (k : Int) - 1 := IntWalk.i64_in _ (by omega)
            have e3 : 0 ≤ (k : Int) - 1 := by omega
            have e4 : (k : Int) - 1 < 4 := by omega
            have hdn := tK_down zs k hp1 hlt
            rw [show tK zs ((k : Int) - 1) = (downF (shapeF zs)).getD (k - 1) 0 by unfold tK; rw [e1]] at hdn
            generalize (downF (shapeF zs)).getD (k - 1) 0 = y' at hcq hdn
            generalize sK zs k = x at hcs r1 r2 u1 u2
            generalize tK zs k = y at hcp r3 r4 u3 hdn
            have ht : decide (y' < y) = false := by simp; omega
            clear hsc hpc h0
            go_wp2
            go_quiet (fail)
            go_wp2
            go_quiet (fail)
            go_wp2
            go_quiet (fail)
            go_wp2
            go_roundw
            case rel => exact ⟨k + 1, _, by omega, by go_num, by rw [u1.out], by rw [u2.out], by rw [u3.out], rfl⟩
            case measure => simp [intOf]; omega
        · obtain rfl : k = 4 := by omega
          obtain ⟨g1, g2, g3, g4, g5⟩ := shapes_bounds HH.out
          have g6 := ctrlV_range HH.out
          rw [HS.out, s_squares]
          have d0 := below_drewN b4 q
          have hrd0 := hrd.drewN q
          clear s1 s2 s3 hsc hpc
          generalize upTo (ttK zs) 4 = sq
          generalize w4.drewN q = w4' at d0 hrd0
          have f0 := Below.refl w4'.heap.size w4'
          go_wp2_with fail
          refine (IP D zs.length dc zs _ _ _ (hrd0.all.below f0 (Nat.le_refl _)) (by omega) hdc hp).mono ?_
          rintro e w20 ⟨rfl, c20⟩
          have f1 := Chg.above f0 c20 f0.size (.inr rfl)
          clear c20 f0
          go_wp2_with fail
          refine (IC D zs.length dc zs _ _ _ (hrd0.all.below f1 (Nat.le_refl _)) (by omega) hdc hp).mono ?_
          rintro e w21 ⟨rfl, c21⟩
          have f2 := Chg.above f1 c21 f1.size (.inr rfl)
          clear c21 f1
          go_wp2_with fail
          refine (IL D zs.length dc zs _ _ _ (hrd0.all.below f2 (Nat.le_refl _)) (by omega) hdc hp).mono ?_
          rintro e w22 ⟨rfl, c22⟩
          have f3 := Chg.above f2 c22 f2.size (.inr rfl)
          clear c22 f2
          go_wp2_with fail
          refine (IQ D zs.length dc zs _ _ _ (hrd0.all.below f3 (Nat.le_refl _)) (by omega) hdc hp).mono ?_
          rintro e w23 ⟨rfl, c23⟩
          have f4 := Chg.above f3 c23 f3.size (.inr rfl)
          clear c23 f3
          generalize hcpV zs = p1 at g1
          generalize quickV zs = p4 at g2
          generalize ctrlV zs = p2 at g1 g2 g6
          generalize losersV zs = p3 at g3 g4 g5
          go_wp2_with fail
          go_ret
          exact ⟨rfl, d0.trans (f4.mono d0.size)⟩

end Go.Proofs.Yteojdlacdnfgiaa.Lib1
