/- Chapter 3: the model's PermuteSuits. -/
import Derived.Test.YteglffbeldlibaaS03r
import Derived.Deep.RegionWith
import Derived.Test.YteglffbeldlibaaTwo
namespace Go.Proofs.Yteglffbeldlibaa.Lib1
open Go.RowKit
set_option maxRecDepth 100000

def orderB (to : List Int) : Bool := decide (to.length = 4) && (hasB to 0 && (hasB to 1 && (hasB to 2 && hasB to 3)))
theorem order_range {to : List Int} (h : orderB to = true) : to.length = 4 ∧ ∀ i, i < 4 → 0 ≤ to.getD i 0 ∧ to.getD i 0 ≤ 3 := by
  simp only [orderB, hasB, Bool.and_eq_true, decide_eq_true_eq] at h
  obtain ⟨h4, m0, m1, m2, m3⟩ := h
  refine ⟨h4, ?_⟩
  match to, h4 with
  | [a, b, c, d], _ =>
    simp only [List.mem_cons, List.not_mem_nil, or_false] at m0 m1 m2 m3
    intro i hi
    have hq : i = 0 ∨ i = 1 ∨ i = 2 ∨ i = 3 := by omega
    rcases hq with rfl | rfl | rfl | rfl
    · show 0 ≤ a ∧ a ≤ 3; omega
    · show 0 ≤ b ∧ b ≤ 3; omega
    · show 0 ≤ c ∧ c ≤ 3; omega
    · show 0 ≤ d ∧ d ≤ 3; omega
/-- A card in its new suit. -/
def newSuit (to : List Int) (z : Int) : Int := 13 * to.getD (z / 13).toNat 0 + z % 13
def permTo (row to : List Int) : Nat → List Int
  | 0 => []
  | i + 1 => ins (newSuit to (row.getD i 0)) (permTo row to i)
def permF (row to : List Int) : List Int := permTo row to row.length
theorem permTo_len (row to : List Int) : ∀ i, (permTo row to i).length = i
  | 0 => rfl
  | i + 1 => by rw [permTo, ins_length, permTo_len row to i]
def permRows (zss : List (List Int)) (to : List Int) : Nat → List (List Int)
  | 0 => []
  | s + 1 => permRows zss to s ++ [permF (zss.getD s []) to]
def permV (zss : List (List Int)) (to : List Int) : List (List Int) := if dealB zss && orderB to then permRows zss to 4 else []
def permE (zss : List (List Int)) (to : List Int) : Int := if dealB zss then (if orderB to then 0 else 2) else 1
theorem permRows_length (zss : List (List Int)) (to : List Int) : ∀ s, (permRows zss to s).length = s
  | 0 => rfl
  | s + 1 => by simp [permRows, permRows_length zss to s]




end Go.Proofs.Yteglffbeldlibaa.Lib1
