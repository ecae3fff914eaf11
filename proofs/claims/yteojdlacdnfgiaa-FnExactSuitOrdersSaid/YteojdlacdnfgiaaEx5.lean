/- What the exact laws over lists of lists take besides. (Written by wip/gen5.py.) -/
import Derived.Test.YteojdlacdnfgiaaLaw3d
namespace Go.Proofs.Yteojdlacdnfgiaa.Lib1
open Go.RowKit
set_option maxRecDepth 100000

/-- Rows and cells enough for the marks. -/
def Room (R : List (List Int)) : Prop := 1 + cnt R R.length ≤ 1048576 ∧ R.length ≤ 1048576 ∧ ∀ j, j < R.length → (R.getD j []).length ≤ 1048576
theorem cnt_le {R : List (List Int)} {m : Nat} (h : ∀ j, (R.getD j []).length ≤ m) : ∀ k, cnt R k ≤ m * k
  | 0 => Nat.zero_le _
  | k + 1 => by have := cnt_le h k; have := h k; simp only [cnt]; rw [Nat.mul_succ]; omega
theorem room_of {R : List (List Int)} {n m : Nat} (h1 : R.length ≤ n) (h2 : ∀ j, (R.getD j []).length ≤ m) (hn : n ≤ 1000) (hm : m ≤ 1000) : Room R := by
  have h3 := cnt_le h2 R.length
  have h4 : m * R.length ≤ 1000 * 1000 := Nat.mul_le_mul hm (by omega)
  exact ⟨by omega, by omega, fun j _ => by have := h2 j; omega⟩
theorem room_few {R : List (List Int)} (h : Few R) : Room R := room_of h.1 h.2 (by omega) (by omega)
theorem markRows1 (A : Option Addr) (n c : Nat) (zss : List (List Int)) (lo hi : Nat) (w : World) (h : OwnR w lo hi A n zss) (hn : n ≤ 1048576) (hs : 1 + cnt zss n ≤ 1048576) :
    Calls Try.prog 36 #[.slice A n c, .int .i64 1] w fun e w' => e = .returned (.int .i64 (1 + (cnt zss n : Int))) ∧ OwnR w' lo hi A n (markedR 1 zss n) ∧ Chg w w' lo hi :=
  (markInt64SS A n c 1 zss lo hi w h hn hs).mono fun _ _ ⟨he, hr, hc, _⟩ => ⟨by rw [he]; simp, hr, hc⟩
theorem heldRows1 (A : Option Addr) (n c : Nat) (zss : List (List Int)) (lo hi : Nat) (w : World) (hz : zss.length = n) (h : RdR w lo hi A n (markedR 1 zss n)) (hn : n ≤ 1048576) (hs : 1 + cnt zss n ≤ 1048576) :
    Calls Try.prog 37 #[.slice A n c, .int .i64 1] w fun e w' => e = .returned (.int .i64 (1 + (cnt zss n : Int))) ∧ w = w' :=
  (heldInt64SS A n c 1 zss lo hi w hz h hn hs).mono fun _ _ ⟨he, hr⟩ => ⟨by rw [he]; simp, hr⟩

end Go.Proofs.Yteojdlacdnfgiaa.Lib1
