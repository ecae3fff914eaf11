/- Chapter 8: what the exact laws over deals and plays take besides. (Written by wip/gen8x.py.) -/
import Derived.Test.YteglffbeldlibaaExP8
import Derived.Test.YteglffbeldlibaaPlayD8
import Derived.Test.YteglffbeldlibaaPlayC8
import Derived.Test.YteglffbeldlibaaPlayB8
import Derived.Test.YteglffbeldlibaaPlayX8
import Derived.Test.YteglffbeldlibaaDealArg
namespace Go.Proofs.Yteglffbeldlibaa.Lib1
open Go.RowKit
set_option maxRecDepth 100000

theorem ldeal_info7 (v : Value) : (Try.prog.info? 57).map (·.size) = some (#[v] : Array Value).size := by kernel_rfl
theorem ldeal_infoL (v : Value) : (Try.prog.info? 57).map (·.size) = some ([v] : List Value).length := by kernel_rfl
theorem Sized_le8 {k v : Int} {n : Nat} {zss : List (List Int)} (h : Sized k n zss v) (hv : 0 ≤ v) (hk : k = 1048576) : n ≤ 1048576 ∧ (∀ j, j < n → (zss.getD j []).length ≤ 1048576) ∧ 1 + cnt zss n ≤ 1048576 := by
  rcases h with e | ⟨_, _, h1, h2, h3⟩
  · omega
  · refine ⟨by omega, fun j hj => by have := h2 j hj; omega, ?_⟩
    rcases Nat.eq_zero_or_pos n with e | e
    · subst e; simp [cnt]
    · omega
theorem markDeal18 (A : Option Addr) (n c : Nat) (zss : List (List Int)) (lo hi : Nat) (w : World) (h : OwnR w lo hi A n zss) (hn : n ≤ 1048576) (hs : 1 + cnt zss n ≤ 1048576) :
    Calls Try.prog 52 #[.agg #[.slice A n c], .int .i64 1] w fun e w' => e = .returned (.int .i64 (1 + (cnt zss n : Int))) ∧ OwnR w' lo hi A n (markedR 1 zss n) ∧ Chg w w' lo hi :=
  (markDeal A n c 1 zss lo hi w h hn hs).mono fun _ _ ⟨he, hr⟩ => ⟨by rw [he]; simp, hr⟩
theorem markPlayI (st ld : Int) (A : Option Addr) (n c : Nat) (zs : List Int) (lo hi : Nat) (k : Int) (w : World) (h : Own w lo hi A n zs) (hn : n ≤ 1048576) (h0 : 0 ≤ k) (h1 : k ≤ 1048576) :
    Calls Try.prog 48 #[.agg #[.int .i64 st, .int .i64 ld, .slice A n c], .int .i64 k] w fun e w' => e = .returned (.int .i64 (k + (n : Int))) ∧ Own w' lo hi A n (marks k.toNat n) ∧ Chg w w' lo hi := by
  obtain ⟨s, rfl⟩ : ∃ s : Nat, k = (s : Int) := ⟨_, (Int.toNat_of_nonneg h0).symm⟩
  exact (markPlay st ld A n c zs lo hi s w h hn (by omega)).mono fun _ _ ⟨he, hr⟩ => ⟨by rw [he]; simp, by simpa using hr⟩
theorem markPlay1 (st ld : Int) (A : Option Addr) (n c : Nat) (zs : List Int) (lo hi : Nat) (w : World) (h : Own w lo hi A n zs) (hn : n ≤ 1048576) :
    Calls Try.prog 48 #[.agg #[.int .i64 st, .int .i64 ld, .slice A n c], .int .i64 1] w fun e w' => e = .returned (.int .i64 (1 + (n : Int))) ∧ Own w' lo hi A n (marks 1 n) ∧ Chg w w' lo hi :=
  (markPlay st ld A n c zs lo hi 1 w h hn (by omega)).mono fun _ _ ⟨he, hr⟩ => ⟨by rw [he]; simp, hr⟩
theorem heldPlay1 (st ld : Int) (A : Option Addr) (n c : Nat) (lo hi : Nat) (w : World) (h : Rd w lo hi A n (marks 1 n)) (hn : n ≤ 1048576) :
    Calls Try.prog 54 #[.agg #[.int .i64 st, .int .i64 ld, .slice A n c], .int .i64 1] w fun e w' => e = .returned (.int .i64 (1 + (n : Int))) ∧ Chg w w' 0 0 :=
  (heldPlay st ld A n c lo hi 1 w h hn (by omega)).mono fun _ _ ⟨he, hr⟩ => ⟨by rw [he]; simp, hr⟩
theorem addCs_len8 (zss : List (List Int)) (st ld : Int) (cs : List Int) (x : Int) : (addCs zss st ld cs x).length ≤ 1048576 := by
  unfold addCs
  split
  · rename_i e
    cases hp : playB zss st ld cs
    · unfold addK at e; rw [hp] at e; simp at e
    · unfold playB at hp
      simp only [Bool.and_eq_true] at hp
      have := (plain_parts hp.1.2).2.2.2
      rw [List.length_append]; simp; omega
  · simp
theorem markRows18 (A : Option Addr) (n c : Nat) (zss : List (List Int)) (lo hi : Nat) (w : World) (h : OwnR w lo hi A n zss) (hn : n ≤ 1048576) (hs : 1 + cnt zss n ≤ 1048576) :
    Calls Try.prog 58 #[.slice A n c, .int .i64 1] w fun e w' => e = .returned (.int .i64 (1 + (cnt zss n : Int))) ∧ OwnR w' lo hi A n (markedR 1 zss n) ∧ Chg w w' lo hi :=
  (markInt64SS A n c 1 zss lo hi w h hn hs).mono fun _ _ ⟨he, hr, hc, _⟩ => ⟨by rw [he]; simp, hr, hc⟩
theorem heldRows18 (A : Option Addr) (n c : Nat) (zss : List (List Int)) (lo hi : Nat) (w : World) (hz : zss.length = n) (h : RdR w lo hi A n (markedR 1 zss n)) (hn : n ≤ 1048576) (hs : 1 + cnt zss n ≤ 1048576) :
    Calls Try.prog 59 #[.slice A n c, .int .i64 1] w fun e w' => e = .returned (.int .i64 (1 + (cnt zss n : Int))) ∧ w = w' :=
  (heldInt64SS A n c 1 zss lo hi w hz h hn hs).mono fun _ _ ⟨he, hr⟩ => ⟨by rw [he]; simp, hr⟩
/-- Rows of the call's own are handed back. -/
def RetR8 (w : World) (zss : List (List Int)) (e : Ending) (w' : World) : Prop := ∃ A c, e = .returned (.slice A zss.length c) ∧ zss.length ≤ c ∧ OwnR w' w.heap.size w'.heap.size A zss.length zss ∧ Chg w w' 0 0
theorem RetR8.of {w w' : World} {zss : List (List Int)} {e : Ending} (h : RetVR w zss e w') : RetR8 w zss e w' := by
  obtain ⟨v, rfl, o, b⟩ := h
  obtain ⟨A, c, rfl, hc, own⟩ := o.own
  exact ⟨A, c, rfl, hc, own, Chg.of_below b 0 0⟩
theorem lead_len8 (st ld : Int) (cs : List Int) : (leadV st ld cs).length ≤ 1048576 := by
  unfold leadV
  split
  · rename_i h
    have := (plain_parts h).2.2.2
    rw [leadL_len]; omega
  · simp
theorem tricks_len8 (st ld : Int) (cs : List Int) : (tricksV st ld cs).length ≤ 1048576 := by
  unfold tricksV
  split <;> simp
theorem legV_len8 (zss : List (List Int)) (st ld : Int) (cs : List Int) : (legV zss st ld cs).length ≤ 1048576 := by
  unfold legV
  split
  · rename_i h
    obtain ⟨hdl, _, _⟩ := turn_ok (Bool.and_eq_true_iff.1 h).1
    have h1 := legL_len zss st ld cs
    have h2 := turnL_rng st ld cs
    have := (rows_ok hdl (s := (turnL st ld cs).toNat) (by omega)).1
    omega
  · simp
theorem cleft_room8 (zss : List (List Int)) (st ld : Int) (cs : List Int) : 1 + cnt (cleftV zss st ld cs) (cleftV zss st ld cs).length ≤ 1048576 ∧ (cleftV zss st ld cs).length ≤ 1048576 ∧ ∀ j, j < (cleftV zss st ld cs).length → ((cleftV zss st ld cs).getD j []).length ≤ 1048576 := by
  unfold cleftV
  split
  · rename_i h
    obtain ⟨hdl, _, _⟩ := turn_ok h
    have hr : ∀ j, j < 4 → ((leftTo zss cs 4).getD j []).length ≤ 13 := fun j hj => by
      rw [leftTo_at hj]
      exact Nat.le_trans (leftL_le _ _) (rows_ok hdl hj).1
    rw [leftTo_len]
    refine ⟨?_, by omega, fun j hj => by have := hr j hj; omega⟩
    have := hr 0 (by omega)
    have := hr 1 (by omega)
    have := hr 2 (by omega)
    have := hr 3 (by omega)
    simp only [cnt]
    omega
  · simp [cnt]
end Go.Proofs.Yteglffbeldlibaa.Lib1
