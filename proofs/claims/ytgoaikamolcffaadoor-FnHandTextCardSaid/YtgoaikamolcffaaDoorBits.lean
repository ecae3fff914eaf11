/- Chapter 2: the program's small functions over a suit's number. -/
import Derived.Test.YtgoaikamolcffaaDoorMask
import Derived.Test.YtgoaikamolcffaaDoorLaw2
namespace Go.Proofs.YtgoaikamolcffaaDoor.Lib1
open Go.RowKit

theorem and1 (m r : Nat) (hm : m < 8192) : bits .and .u16 ((m : Int) / 2 ^ r) 1 = (bt m r : Int) := by
  have e : ((m : Int) / 2 ^ r) = ((m / 2 ^ r : Nat) : Int) := by simp
  have l : m / 2 ^ r ≤ m := Nat.div_le_self _ _
  have h := u16_and_nat (m / 2 ^ r) 1 (by omega) (by omega)
  rw [e]
  rw [nat_mask1] at h
  exact h

theorem has (m r : Nat) (w : World) (hm : m < 8192) (hr : r < 13) :
    Calls Tryd.prog 41 #[.int .u16 m, .int .i64 r] w fun e w' => e = .returned (.bool (decide (bt m r = 1))) ∧ w = w' := by
  have e := and1 m r hm
  go_enter Tryd.func41, Tryd.ntmps41
  go_wp2
  go_ret
  exact ⟨ret_bool (by rw [Bool.eq_iff_iff]; simp; omega), rfl⟩

theorem has_of (m : Nat) (x : Int) (r : Nat) (w : World) (hx : x = r) (hm : m < 8192) (hr : r < 13) :
    Calls Tryd.prog 41 #[.int .u16 m, .int .i64 x] w fun e w' => e = .returned (.bool (decide (bt m r = 1))) ∧ w = w' := by subst hx; exact has m r w hm hr



/-- What is asked of a function over one suit's number. -/
def OfSuit (f : Nat) (v : Nat → Int) : Prop := ∀ (m : Nat) (w : World), m < 8192 → Calls Tryd.prog f #[.int .u16 m] w fun e w' => e = .returned (.int .i64 (v m)) ∧ Chg w w' 0 0

theorem bt_le (m r : Nat) : bt m r ≤ 1 := by unfold bt; omega
def pointN (m : Nat) : Int := 4 * bt m 12 + 3 * bt m 11 + 2 * bt m 10 + bt m 9
def contrN (m : Nat) : Int := 2 * bt m 12 + bt m 11
def acesN (m : Nat) : Int := bt m 12
def honN (m : Nat) : Int := ones (m / 256)





end Go.Proofs.YtgoaikamolcffaaDoor.Lib1
