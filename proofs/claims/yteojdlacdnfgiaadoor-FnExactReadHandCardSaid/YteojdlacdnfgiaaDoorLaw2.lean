/- The exact laws of chapter 2, each out of a contract of the program's function (taken as a hypothesis) and the model's. -/
import Derived.Test.YteojdlacdnfgiaaDoorS02r
import Derived.Test.YteojdlacdnfgiaaDoorDraw2
namespace Go.Proofs.YteojdlacdnfgiaaDoor.Lib1
open Go.RowKit
set_option maxRecDepth 100000

/-- What is asked of a function of the program over one hand: a number, a list, a text; a hand and a number. -/
def ImplI (f : Nat) (v : List Int → Int) : Prop := ∀ (A : Option Addr) (n c : Nat) (zs : List Int) (lo hi : Nat) (w : World), Rd w lo hi A n zs → n ≤ 1048576 → n ≤ c → Plain A c → Calls Tryd.prog f #[.slice A n c] w (RetI w (v zs))
def ImplI1 (f : Nat) (v : List Int → Int → Int) : Prop := ∀ (A : Option Addr) (n c : Nat) (t : Int) (zs : List Int) (lo hi : Nat) (w : World), Rd w lo hi A n zs → n ≤ 1048576 → n ≤ c → Plain A c → Calls Tryd.prog f #[.slice A n c, .int .i64 t] w (RetI w (v zs t))
def ImplS (f : Nat) (v : List Int → List Int) : Prop := ∀ (A : Option Addr) (n c : Nat) (zs : List Int) (lo hi : Nat) (w : World), Rd w lo hi A n zs → n ≤ 1048576 → n ≤ c → Plain A c → Calls Tryd.prog f #[.slice A n c] w (RetS w (v zs))
def ImplT (f : Nat) (v : List Int → List UInt8) : Prop := ∀ (A : Option Addr) (n c : Nat) (zs : List Int) (lo hi : Nat) (w : World), Rd w lo hi A n zs → n ≤ 1048576 → n ≤ c → Plain A c → Calls Tryd.prog f #[.slice A n c] w (RetT w (v zs))
def ImplR (f : Nat) : Prop := ∀ (s : ByteArray) (w : World), s.size ≤ 1048576 → Calls Tryd.prog f #[.string s] w (RetSB w (readV s.data.toList) (readB s.data.toList))

theorem shapeV_le (zs : List Int) : (shapeV zs).length ≤ 4 := by unfold shapeV; split <;> simp [shapeF]
theorem patternV_le (zs : List Int) : (patternV zs).length ≤ 4 := by unfold patternV; split <;> simp [downF_length, shapeF]









end Go.Proofs.YteojdlacdnfgiaaDoor.Lib1
