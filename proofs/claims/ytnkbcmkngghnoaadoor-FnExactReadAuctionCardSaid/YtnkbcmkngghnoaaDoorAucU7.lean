/- Chapter 7: contracts of a program's functions as propositions. -/
import Derived.Test.YtnkbcmkngghnoaaDoorAucD7
namespace Go.Proofs.YtnkbcmkngghnoaaDoor.Lib1
open Go.RowKit
set_option maxRecDepth 100000

/-- A function that tells whether an auction is valid. -/
def IsAucF (f : Nat) : Prop := ∀ (d : Int) (A : Option Addr) (n c : Nat) (zs : List Int) (w : World), Rp w A n zs → n ≤ 1048576 → n ≤ c → Calls Tryd.prog f #[.agg #[.int .i64 d, .slice A n c]] w fun e w' => e = .returned (.bool (inB d 0 3 && validTo zs n)) ∧ Chg w w' 0 0
def EndF (f : Nat) : Prop := ∀ (d : Int) (A : Option Addr) (n c : Nat) (zs : List Int) (w : World), Rp w A n zs → n ≤ 1048576 → n ≤ c → Calls Tryd.prog f #[.agg #[.int .i64 d, .slice A n c]] w fun e w' => e = .returned (.bool ((inB d 0 3 && validTo zs n) && overTo zs n)) ∧ Chg w w' 0 0
def ConF (f : Nat) : Prop := ∀ (d : Int) (A : Option Addr) (n c : Nat) (zs : List Int) (w : World), Rp w A n zs → n ≤ 1048576 → n ≤ c → Calls Tryd.prog f #[.agg #[.int .i64 d, .slice A n c]] w fun e w' => e = .returned (.tuple #[.agg (conZ d zs n), .int .i64 (conB d zs n)]) ∧ Chg w w' 0 0
def LegF (f : Nat) : Prop := ∀ (d : Int) (A : Option Addr) (n c : Nat) (zs : List Int) (w : World), Rp w A n zs → n ≤ 1048576 → n ≤ c → Calls Tryd.prog f #[.agg #[.int .i64 d, .slice A n c]] w (RetV w (legalV d zs n))
def AddF (f : Nat) : Prop := ∀ (d : Int) (A : Option Addr) (n c : Nat) (zs : List Int) (x : Int) (w : World), Rd w 0 w.heap.size A n zs → n ≤ 1048576 → n ≤ c → (A = none → c = 0) → Calls Tryd.prog f #[.agg #[.int .i64 d, .slice A n c], .int .i64 x] w (RetAI w (addD d zs n x) (addL d zs n x) (addB d zs n x))
def SeatF (f : Nat) : Prop := ∀ (d : Int) (A : Option Addr) (n c : Nat) (zs : List Int) (w : World), Rp w A n zs → n ≤ 1048576 → n ≤ c → Calls Tryd.prog f #[.agg #[.int .i64 d, .slice A n c]] w fun e w' => e = .returned (.int .i64 (seatV d zs n)) ∧ Chg w w' 0 0
def IsConF (f : Nat) : Prop := ∀ (l s x d : Int) (w : World), Calls Tryd.prog f #[.agg #[.int .i64 l, .int .i64 s, .int .i64 x, .int .i64 d]] w fun e w' => e = .returned (.bool (isConV l s x d)) ∧ Chg w w' 0 0
def BidF (f : Nat) : Prop := ∀ (l s : Int) (w : World), Calls Tryd.prog f #[.int .i64 l, .int .i64 s] w fun e w' => e = .returned (.int .i64 (bidV l s)) ∧ Chg w w' 0 0
theorem inB_seat {z l u : Int} (h : inB z l u = true) : l ≤ z ∧ z ≤ u := by unfold inB at h; simpa using h
end Go.Proofs.YtnkbcmkngghnoaaDoor.Lib1
