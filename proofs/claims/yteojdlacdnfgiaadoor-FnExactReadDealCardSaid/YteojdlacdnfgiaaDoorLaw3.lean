/- The exact laws of chapter 3, each out of a contract of the program's function (taken as a hypothesis) and the model's. -/
import Derived.Test.YteojdlacdnfgiaaDoorS03p
import Derived.Test.YteojdlacdnfgiaaDoorS03t
import Derived.Test.YteojdlacdnfgiaaDoorDealArg
namespace Go.Proofs.YteojdlacdnfgiaaDoor.Lib1
open Go.RowKit
set_option maxRecDepth 100000

/-- What is asked of the program's functions over a deal. -/
def DealAt (w : World) (lo hi : Nat) (A : Option Addr) (n c : Nat) (zss : List (List Int)) : Prop := RdR w lo hi A n zss ∧ n ≤ c ∧ Plain A c ∧ n ≤ 1048576 ∧ (∀ j, j < n → (zss.getD j []).length ≤ 1048576) ∧ 1 + cnt zss n ≤ 1048576
def ImplDB (f : Nat) (v : List (List Int) → Bool) : Prop := ∀ (A : Option Addr) (n c : Nat) (zss : List (List Int)) (lo hi : Nat) (w : World), DealAt w lo hi A n c zss → Calls Tryd.prog f #[.agg #[.slice A n c]] w fun e w' => e = .returned (.bool (v zss)) ∧ Chg w w' 0 0
def ImplDI (f : Nat) (v : List (List Int) → Int → Int) : Prop := ∀ (A : Option Addr) (n c : Nat) (x : Int) (zss : List (List Int)) (lo hi : Nat) (w : World), DealAt w lo hi A n c zss → Calls Tryd.prog f #[.agg #[.slice A n c], .int .i64 x] w (RetI w (v zss x))
def ImplDS (f : Nat) (v : List (List Int) → List Int) : Prop := ∀ (A : Option Addr) (n c : Nat) (zss : List (List Int)) (lo hi : Nat) (w : World), DealAt w lo hi A n c zss → Calls Tryd.prog f #[.agg #[.slice A n c]] w (RetS w (v zss))
def ImplDT (f : Nat) (v : List (List Int) → List UInt8) : Prop := ∀ (A : Option Addr) (n c : Nat) (zss : List (List Int)) (lo hi : Nat) (w : World), DealAt w lo hi A n c zss → Calls Tryd.prog f #[.agg #[.slice A n c]] w (RetT w (v zss))
def ImplDD (f : Nat) (v : List (List Int) → List (List Int)) : Prop := ∀ (A : Option Addr) (n c : Nat) (zss : List (List Int)) (lo hi : Nat) (w : World), DealAt w lo hi A n c zss → Calls Tryd.prog f #[.agg #[.slice A n c]] w (RetD w (v zss))
def ImplDDI (f : Nat) (v : List (List Int) → Int → List (List Int)) (e : List (List Int) → Int → Int) : Prop := ∀ (A : Option Addr) (n c : Nat) (x : Int) (zss : List (List Int)) (lo hi : Nat) (w : World), DealAt w lo hi A n c zss → Calls Tryd.prog f #[.agg #[.slice A n c], .int .i64 x] w (RetDI w (v zss x) (e zss x))

theorem Sized.le {k v : Int} {n : Nat} {zss : List (List Int)} (h : Sized k n zss v) (hv : 0 ≤ v) (hk : k = 1048576) : n ≤ 1048576 ∧ (∀ j, j < n → (zss.getD j []).length ≤ 1048576) ∧ 1 + cnt zss n ≤ 1048576 := by
  rcases h with e | ⟨_, _, h1, h2, h3⟩
  · omega
  · refine ⟨by omega, fun j hj => by have := h2 j hj; omega, ?_⟩
    rcases Nat.eq_zero_or_pos n with e | e
    · subst e; simp [cnt]
    · omega




/-- The marks begin at 1. -/
theorem markDeal1 (A : Option Addr) (n c : Nat) (zss : List (List Int)) (lo hi : Nat) (w : World) (h : OwnR w lo hi A n zss) (hn : n ≤ 1048576) (hs : 1 + cnt zss n ≤ 1048576) :
    Calls Tryd.prog 27 #[.agg #[.slice A n c], .int .i64 1] w fun e w' => e = .returned (.int .i64 (1 + (cnt zss n : Int))) ∧ OwnR w' lo hi A n (markedR 1 zss n) ∧ Chg w w' lo hi :=
  (markDeal A n c 1 zss lo hi w h hn hs).mono fun _ _ ⟨he, hr⟩ => ⟨by rw [he]; simp, hr⟩
theorem heldDeal1 (A : Option Addr) (n c : Nat) (zss : List (List Int)) (lo hi : Nat) (w : World) (hz : zss.length = n) (h : RdR w lo hi A n (markedR 1 zss n)) (hn : n ≤ 1048576) (hs : 1 + cnt zss n ≤ 1048576) :
    Calls Tryd.prog 28 #[.agg #[.slice A n c], .int .i64 1] w fun e w' => e = .returned (.int .i64 (1 + (cnt zss n : Int))) ∧ Chg w w' 0 0 :=
  (heldDeal A n c 1 zss lo hi w hz h hn hs).mono fun _ _ ⟨he, hr⟩ => ⟨by rw [he]; simp, hr⟩
theorem cell_above {w w' : World} {lo hi : Nat} {a : Addr} {v : Value} (h : w.cell? a = some v) (c : Chg w w' lo hi) (ha : a.block < lo ∨ hi ≤ a.block) : w'.cell? a = some v := by
  rw [World.cell?_of_block (c.block _ (lt_of_cell h) ha)]; exact h


end Go.Proofs.YteojdlacdnfgiaaDoor.Lib1
