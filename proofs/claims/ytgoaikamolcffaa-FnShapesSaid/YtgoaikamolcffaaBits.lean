/- Chapter 2: the program's small functions over a suit's number. -/
import Derived.Test.YtgoaikamolcffaaMask
import Derived.Test.YtgoaikamolcffaaLaw2
namespace Go.Proofs.Ytgoaikamolcffaa.Lib1
open Go.RowKit

theorem and1 (m r : Nat) (hm : m < 8192) : bits .and .u16 ((m : Int) / 2 ^ r) 1 = (bt m r : Int) := by
  have e : ((m : Int) / 2 ^ r) = ((m / 2 ^ r : Nat) : Int) := by simp
  have l : m / 2 ^ r ≤ m := Nat.div_le_self _ _
  have h := u16_and_nat (m / 2 ^ r) 1 (by omega) (by omega)
  rw [e]
  rw [nat_mask1] at h
  exact h
theorem countOf (m r : Nat) (w : World) (hm : m < 8192) (hr : r < 13) :
    Calls Try.prog 93 #[.int .u16 m, .int .i64 r] w fun e w' => e = .returned (.int .i64 (bt m r)) ∧ w = w' := by
  have e := and1 m r hm
  have l : bt m r < 2 := Nat.mod_lt _ (by omega)
  go_enter Try.func93, Try.ntmps93
  go_wp2
  go_ret
  exact ⟨rfl, rfl⟩
theorem has (m r : Nat) (w : World) (hm : m < 8192) (hr : r < 13) :
    Calls Try.prog 75 #[.int .u16 m, .int .i64 r] w fun e w' => e = .returned (.bool (decide (bt m r = 1))) ∧ w = w' := by
  have e := and1 m r hm
  go_enter Try.func75, Try.ntmps75
  go_wp2
  go_ret
  exact ⟨ret_bool (by rw [Bool.eq_iff_iff]; simp; omega), rfl⟩
theorem countOf_of (m : Nat) (x : Int) (r : Nat) (w : World) (hx : x = r) (hm : m < 8192) (hr : r < 13) :
    Calls Try.prog 93 #[.int .u16 m, .int .i64 x] w fun e w' => e = .returned (.int .i64 (bt m r)) ∧ w = w' := by subst hx; exact countOf m r w hm hr
theorem has_of (m : Nat) (x : Int) (r : Nat) (w : World) (hx : x = r) (hm : m < 8192) (hr : r < 13) :
    Calls Try.prog 75 #[.int .u16 m, .int .i64 x] w fun e w' => e = .returned (.bool (decide (bt m r = 1))) ∧ w = w' := by subst hx; exact has m r w hm hr
set_option maxRecDepth 100000 in
theorem onesCount16 (m : Nat) (w : World) (hm : m < 8192) :
    Calls Try.prog 64 #[.int .u16 m] w fun e w' => e = .returned (.int .i64 (ones m)) ∧ Chg w w' 0 0 := by
  have hs := Lib.pop8tab_size
  have q0 : 0 ≤ (m : Int) / 256 := by omega
  have q1 : (m : Int) / 256 < 256 := by omega
  have e : bits .and .u16 (m : Int) 255 = (m : Int) % 256 := by
    have h := u16_and_nat m 255 (by omega) (by omega)
    rw [nat_mask8] at h
    rw [show ((m : Int) % 256) = ((m % 256 : Nat) : Int) by omega]
    exact h
  have r0 : 0 ≤ (m : Int) % 256 := by omega
  have r1 : (m : Int) % 256 < 256 := by omega
  go_enter Try.func64, Try.ntmps64
  go_wp2
  go_region
  all_goals go_wp2
  all_goals go_ret
  refine ⟨ret_int ?_, Chg.of_below (Below.refl _ _).drew _ _⟩
  have hb : m / 256 < Lib.pop8tab.size := by omega
  have f : ((Lib.pop8tab[m / 256]'hb).toNat : Int) = Lib.pop8 ((m / 256 : Nat) : Int) := by
    unfold Lib.pop8
    rw [Int.toNat_natCast, getElem?_pos Lib.pop8tab (m / 256) hb]
    rfl
  rw [f, show ((m : Int) % 256) = ((m % 256 : Nat) : Int) by omega, ones_pop m hm]
  have := ones_le m
  omega

theorem length_ (m : Nat) (w : World) (hm : m < 8192) :
    Calls Try.prog 42 #[.int .u16 m] w fun e w' => e = .returned (.int .i64 (ones m)) ∧ Chg w w' 0 0 := by
  have l := ones_le m
  go_enter Try.func42, Try.ntmps42
  go_wp2_with (go_at_call 64; refine (onesCount16 m _ hm).mono ?_; rintro e w' ⟨rfl, hc⟩)
  go_ret
  exact ⟨rfl, hc⟩

theorem length_of (x : Int) (m : Nat) (w : World) (hx : x = m) (hm : m < 8192) :
    Calls Try.prog 42 #[.int .u16 x] w fun e w' => e = .returned (.int .i64 (ones m)) ∧ Chg w w' 0 0 := by -- over 64
  subst hx; exact length_ m w hm

/-- What is asked of a function over one suit's number. -/
def OfSuit (f : Nat) (v : Nat → Int) : Prop := ∀ (m : Nat) (w : World), m < 8192 → Calls Try.prog f #[.int .u16 m] w fun e w' => e = .returned (.int .i64 (v m)) ∧ Chg w w' 0 0

theorem bt_le (m r : Nat) : bt m r ≤ 1 := by unfold bt; omega
def pointN (m : Nat) : Int := 4 * bt m 12 + 3 * bt m 11 + 2 * bt m 10 + bt m 9
def contrN (m : Nat) : Int := 2 * bt m 12 + bt m 11
def acesN (m : Nat) : Int := bt m 12
def honN (m : Nat) : Int := ones (m / 256)
theorem pointsIn : OfSuit 68 pointN := by
  intro m w hm
  unfold pointN
  have l12 := bt_le m 12
  have l11 := bt_le m 11
  have l10 := bt_le m 10
  have l9 := bt_le m 9
  go_enter Try.func68, Try.ntmps68
  go_wp2_with (go_at_call 93; (first | refine (countOf_of m _ 12 _ (by decide) hm (by omega)).mono ?_ | refine (countOf_of m _ 11 _ (by decide) hm (by omega)).mono ?_ | refine (countOf_of m _ 10 _ (by decide) hm (by omega)).mono ?_ | refine (countOf_of m _ 9 _ (by decide) hm (by omega)).mono ?_); rintro e w' ⟨rfl, rfl⟩)
  go_ret
  exact ⟨ret_int (by omega), Chg.refl _ _ _⟩
theorem controlsIn : OfSuit 69 contrN := by
  intro m w hm
  unfold contrN
  have l12 := bt_le m 12
  have l11 := bt_le m 11
  go_enter Try.func69, Try.ntmps69
  go_wp2_with (go_at_call 93; (first | refine (countOf_of m _ 12 _ (by decide) hm (by omega)).mono ?_ | refine (countOf_of m _ 11 _ (by decide) hm (by omega)).mono ?_); rintro e w' ⟨rfl, rfl⟩)
  go_ret
  exact ⟨ret_int (by omega), Chg.refl _ _ _⟩
theorem acesIn : OfSuit 72 acesN := by
  intro m w hm
  unfold acesN
  go_enter Try.func72, Try.ntmps72
  go_wp2_with (go_at_call 93; refine (countOf_of m _ 12 _ (by decide) hm (by omega)).mono ?_; rintro e w' ⟨rfl, rfl⟩)
  go_ret
  exact ⟨rfl, Chg.refl _ _ _⟩
theorem honorsIn : OfSuit 73 honN := by
  intro m w hm
  unfold honN
  go_enter Try.func73, Try.ntmps73
  go_wp2_with (go_at_call 42; refine (length_of _ (m / 256) _ (by omega) (by omega)).mono ?_; rintro e w' ⟨rfl, hc⟩)
  go_ret
  exact ⟨rfl, hc⟩
theorem quickTricksIn : OfSuit 71 quickN := by
  intro m w hm
  have l := ones_le m
  unfold quickN
  by_cases a : bt m 12 = 1 <;> by_cases b : bt m 11 = 1 <;> by_cases c : bt m 10 = 1
  all_goals
    by_cases d : 2 ≤ ones m
  all_goals
    have d' := d
    go_enter Try.func71, Try.ntmps71
    go_wp2_with (first | (go_at_call 75; (first | refine (has_of m _ 12 _ (by decide) hm (by omega)).mono ?_ | refine (has_of m _ 11 _ (by decide) hm (by omega)).mono ?_ | refine (has_of m _ 10 _ (by decide) hm (by omega)).mono ?_); rintro e w' ⟨rfl, rfl⟩) | (go_at_call 42; refine (length_ m _ hm).mono ?_; rintro e w' ⟨rfl, hc⟩))
    go_ret
    exact ⟨ret_int (by simp_all), by first | assumption | exact Chg.refl _ _ _⟩

end Go.Proofs.Ytgoaikamolcffaa.Lib1
