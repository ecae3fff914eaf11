/- Chapter 3: applySymmetries over symmetries taken by contract; the program's MirrorDeal. Chapter 3: replaceCards and its two closures, over a replacement of cards taken by contract. Chapter 3: the program's ExchangeCards. -/
import Derived.Test.YteojdlacdnfgiaaDoorSym
import Derived.Test.YteojdlacdnfgiaaDoorLists3
import Derived.Test.YteojdlacdnfgiaaDoorSortI
import Derived.Test.YteojdlacdnfgiaaDoorS03r
import Derived.Deep.RegionLaw
namespace Go.Proofs.YteojdlacdnfgiaaDoor.Lib1

section
open Go.RowKit
set_option maxRecDepth 100000

def iterN (g : List (List Int) → List (List Int)) : Nat → List (List Int) → List (List Int)
  | 0, z => z
  | k + 1, z => g (iterN g k z)
theorem iterN_deal {g : List (List Int) → List (List Int)} (hg : ∀ z, dealB z = true → dealB (g z) = true) {z : List (List Int)} (h : dealB z = true) : ∀ k, dealB (iterN g k z) = true
  | 0 => h
  | k + 1 => hg _ (iterN_deal hg h k)
theorem RdR.all {w : World} {lo hi : Nat} {A : Option Addr} {n : Nat} {zss : List (List Int)} (r : RdR w lo hi A n zss) : RdR w 0 w.heap.size A n zss := by
  obtain ⟨h0, B, C, h1, h2⟩ := r
  refine ⟨h0, B, C, fun hn => ?_, fun j hj => ⟨(h2 j hj).1.all, (h2 j hj).2⟩⟩
  obtain ⟨b, off, e, _, _, hc⟩ := h1 hn
  exact ⟨b, off, e, Nat.zero_le _, lt_of_cell (hc 0 hn), hc⟩
theorem OwnVR.own4 {w : World} {base : Nat} {v : Value} {zss : List (List Int)} (h : OwnVR w base v zss) (h4 : zss.length = 4) : ∃ b c, v = .slice (some ⟨b, 0, none⟩) 4 c ∧ 4 ≤ c ∧ c ≤ maxLen ∧ OwnR w base w.heap.size (some ⟨b, 0, none⟩) 4 zss := by
  have hk := h
  obtain ⟨A, c, e, hc, ho⟩ := h.own
  obtain ⟨B, C, h1, _, _⟩ := hk
  rcases h1.2 with ⟨_, h0⟩ | ⟨g, cap, cur, e2, _, _, _, k2, _⟩
  · omega
  · rw [e] at e2
    injection e2 with e3 _ e4
    subst e3 e4
    rw [h4] at e hc ho
    exact ⟨g, c, e, hc, k2, ho⟩


theorem deal_field (A : Option Addr) (n c : Nat) (w : World) : (Instr.field 35 (.agg #[.slice A n c]) 0).run Tryd.prog w = .ok (.slice A n c) w := by kernel_rfl

theorem one_cell {w : World} {g : Nat} {v : Value} (h : w.cell? ⟨g, 0, none⟩ = some v) : ∀ j, j < 1 → w.cell? ⟨g, 0 + j, none⟩ = some v := by
  intro j hj
  obtain rfl : j = 0 := by omega
  exact h

end

section
open Go.RowKit
set_option maxRecDepth 100000

/-- A replacement of cards, taken by contract, at every world that keeps the blocks of w. -/
def CardFn (f : Nat) (caps : Array Value) (g : Int → Int) (w : World) : Prop :=
  ∀ x : Int, 0 ≤ x → x ≤ 51 → ∀ W, Below w.heap.size w W → Calls Tryd.prog f (#[.int .i64 x] ++ caps) W fun e w' => e = .returned (.int .i64 (g x)) ∧ Below W.heap.size W w'
theorem CardFn.later {f : Nat} {caps : Array Value} {g : Int → Int} {w w1 : World} (h : CardFn f caps g w) (b : Below w.heap.size w w1) : CardFn f caps g w1 :=
  fun x h0 h1 W hb => h x h0 h1 W (b.trans (hb.mono b.size))



theorem func_store (W : World) (g : Nat) (f : Nat) (caps : Array Value) (m : Mode) : (store ⟨g, 0, none⟩ (.func (.func f) #[] caps) m).run Tryd.prog W = stored Tryd.prog W ⟨g, 0, none⟩ (.func (.func f) #[] caps) m := run_store Tryd.prog W _ _ m rfl


end

section
open Go.RowKit
set_option maxRecDepth 100000

/-! ### Boxes -/
def BoxAt (w : World) (g : Nat) (v : Value) (t : TypeId) : Prop := w.heap[g]? = some (.cells #[v] t (0, 0))
section
variable {w w' : World} {g : Nat} {v : Value} {t : TypeId}
theorem BoxAt.new (w : World) (v : Value) (t : TypeId) {g : Nat} (hg : w.heap.size = g) : BoxAt (w.alloc (.cells #[v] t)) g v t := by subst hg; exact heap_alloc_new w _
theorem BoxAt.lt (h : BoxAt w g v t) : g < w.heap.size := lt_of_block h
theorem BoxAt.alloc (h : BoxAt w g v t) (o : Obj) : BoxAt (w.alloc o) g v t := (Below.heap_alloc _ _ _ h.lt).trans h
theorem BoxAt.still (h : BoxAt w g v t) (c : Chg w w' 0 0) : BoxAt w' g v t := (c.block _ h.lt (.inr (Nat.zero_le _))).trans h
theorem BoxAt.c (h : BoxAt w g v t) : w.cell? ⟨g, 0, none⟩ = some v := by rw [cell_of_row _ _ _ _ _ _ h]; rfl
theorem BoxAt.f (h : BoxAt w g v t) : w.frozen? ⟨g, 0, none⟩ = false := by simp [World.frozen?, show w.heap[g]? = _ from h]
theorem BoxAt.ret (h : BoxAt w g v t) (u : Value) : (w.setCell ⟨g, 0, none⟩ u).cell? ⟨g, 0, none⟩ = some u := by
  rw [cell_of_row _ _ _ #[u] t (0, 0) (by simp [World.setCell, Array.getElem?_modify, show w.heap[g]? = _ from h])]; rfl
theorem BoxAt.drew (h : BoxAt w g v t) : BoxAt w.drew g v t := h
end



end

end Go.Proofs.YteojdlacdnfgiaaDoor.Lib1
