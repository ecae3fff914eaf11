/- The exact laws of chapter 2, each out of a contract of the program's function (taken as a hypothesis) and the model's. -/
import Derived.Test.YteojdlacdnfgiaaS02r
import Derived.Test.YteojdlacdnfgiaaDraw2
namespace Go.Proofs.Yteojdlacdnfgiaa.Lib1
open Go.RowKit
set_option maxRecDepth 100000

/-- What is asked of a function of the program over one hand: a number, a list, a text; a hand and a number. -/
def ImplI (f : Nat) (v : List Int → Int) : Prop := ∀ (A : Option Addr) (n c : Nat) (zs : List Int) (lo hi : Nat) (w : World), Rd w lo hi A n zs → n ≤ 1048576 → n ≤ c → Plain A c → Calls Try.prog f #[.slice A n c] w (RetI w (v zs))
def ImplI1 (f : Nat) (v : List Int → Int → Int) : Prop := ∀ (A : Option Addr) (n c : Nat) (t : Int) (zs : List Int) (lo hi : Nat) (w : World), Rd w lo hi A n zs → n ≤ 1048576 → n ≤ c → Plain A c → Calls Try.prog f #[.slice A n c, .int .i64 t] w (RetI w (v zs t))
def ImplS (f : Nat) (v : List Int → List Int) : Prop := ∀ (A : Option Addr) (n c : Nat) (zs : List Int) (lo hi : Nat) (w : World), Rd w lo hi A n zs → n ≤ 1048576 → n ≤ c → Plain A c → Calls Try.prog f #[.slice A n c] w (RetS w (v zs))
def ImplT (f : Nat) (v : List Int → List UInt8) : Prop := ∀ (A : Option Addr) (n c : Nat) (zs : List Int) (lo hi : Nat) (w : World), Rd w lo hi A n zs → n ≤ 1048576 → n ≤ c → Plain A c → Calls Try.prog f #[.slice A n c] w (RetT w (v zs))
def ImplR (f : Nat) : Prop := ∀ (s : ByteArray) (w : World), s.size ≤ 1048576 → Calls Try.prog f #[.string s] w (RetSB w (readV s.data.toList) (readB s.data.toList))

theorem shapeV_le (zs : List Int) : (shapeV zs).length ≤ 4 := by unfold shapeV; split <;> simp [shapeF]
theorem patternV_le (zs : List Int) : (patternV zs).length ≤ 4 := by unfold patternV; split <;> simp [downF_length, shapeF]





set_option maxHeartbeats 1000000 in
theorem law_HonorsOf (I : ImplI1 21 honV) (A : Option Addr) (n c : Nat) (t : Int) (zs : List Int) (lo hi : Nat) (w : World) (h : Rd w lo hi A n zs) :
    Calls Try.prog 6 #[.slice A n c, .int .i64 t] w fun e w' => e = .returned (.bool true) ∧ Below w.heap.size w w' := by
  by_cases hn : n ≤ 1048576
  · have hb : ¬ (1048576 : Int) < (n : Int) := by omega
    go_enter Try.func6, Try.ntmps6
    go_wp2_with fail
    refine (toInt64S A n c zs lo hi _ h hn).mono ?_
    rintro e w1 ⟨rfl, o1, c1⟩
    go_wp2_with fail
    refine (spec_HonorsOf _ n n t zs _ _ _ o1.rd hn).mono ?_
    rintro e w2 ⟨rfl, c2⟩
    have r2 := (h.still c1).still c2
    go_wp2_with fail
    refine (toInt64S A n c zs lo hi _ r2 hn).mono ?_
    rintro e w3 ⟨rfl, o3, c3⟩
    have r3 := r2.still c3
    go_wp2_with fail
    refine (I _ n n t zs _ _ _ o3.rd hn (Nat.le_refl _) (Plain.at_ _ _ _)).mono ?_
    rintro e w4 ⟨rfl, c4⟩
    have r4 := r3.still c4
    have o4 := o3.still c4
    go_wp2_with fail
    refine (toInt64S A n c zs lo hi _ r4 hn).mono ?_
    rintro e w5 ⟨rfl, o5, c5⟩
    go_wp2_with fail
    refine (eqInt64S _ _ n n n n zs _ _ _ _ _ (o4.rd.still c5) o5.rd hn).mono ?_
    rintro e w6 ⟨rfl, c6⟩
    go_wp2_with fail
    go_ret
    exact ⟨rfl, (((((c1.trans c2).trans c3).trans c4).trans c5).trans c6).to_below⟩
  · have hb : (1048576 : Int) < (n : Int) := by omega
    go_enter Try.func6, Try.ntmps6
    go_wp2
    go_ret
    exact ⟨rfl, Below.refl _ _⟩




end Go.Proofs.Yteojdlacdnfgiaa.Lib1
