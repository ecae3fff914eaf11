/- Chapter 3: hands in another order; symmetries applied one after the other. -/
import Derived.Test.YteglffbeldlibaaCatI
import Derived.Test.YteglffbeldlibaaS03p
namespace Go.Proofs.Yteglffbeldlibaa.Lib1
open Go.RowKit
set_option maxRecDepth 100000

/-- The rows of an owned list of rows lie in a new one, in another order. -/
theorem OwnR.reorder {w w' : World} {base : Nat} {zss zss' : List (List Int)} {B : Nat → Option Addr} {C : Nat → Nat}
    (h2 : ∀ j, j < 4 → Own w base w.heap.size (B j) (zss.getD j []).length (zss.getD j []) ∧ (zss.getD j []).length ≤ C j ∧ Plain (B j) (C j))
    (h3 : ∀ i j, i < j → j < 4 → 0 < (zss.getD i []).length → 0 < (zss.getD j []).length → ∀ x y, B i = some x → B j = some y → x.block ≠ y.block)
    (c : Chg w w' 0 0) {g : Nat} {cs : Array Value} (hg : w'.heap[g]? = some (.cells cs 27 (0, 0))) (hgs : w.heap.size ≤ g) (hb : base ≤ g) (p : Nat → Nat) (hp : ∀ j, j < 4 → p j < 4) (hi : ∀ i j, i < 4 → j < 4 → p i = p j → i = j)
    (hcs : ∀ j, j < 4 → cs[j]? = some (.slice (B (p j)) (zss.getD (p j) []).length (C (p j)))) (hl : zss'.length = 4) (hz : ∀ j, j < 4 → zss'.getD j [] = zss.getD (p j) []) :
    OwnR w' base w'.heap.size (some ⟨g, 0, none⟩) 4 zss' := by
  have hs := c.size
  refine ⟨hl, fun j => B (p j), fun j => C (p j), fun _ => ⟨g, cs, rfl, hb, lt_of_block hg, hg, fun j hj => by rw [hz j hj]; exact hcs j hj, fun j hj hn x hx => ?_⟩, fun j hj => ?_, fun i j hij hj hi0 hj0 x y hx hy => ?_⟩
  · rw [hz j hj] at hn
    obtain ⟨b, _, e, _, l2, _⟩ := (h2 (p j) (hp j hj)).1.2 hn
    have e2 : some x = some ⟨b, 0, none⟩ := hx.symm.trans e
    injection e2 with e2
    rw [e2]
    show b ≠ g
    omega
  · rw [hz j hj]
    obtain ⟨q1, q2, q3⟩ := h2 (p j) (hp j hj)
    exact ⟨(q1.still c).more (Nat.le_refl _) hs, q2, q3⟩
  · rw [hz i (by omega)] at hi0
    rw [hz j hj] at hj0
    rcases Nat.lt_trichotomy (p i) (p j) with e | e | e
    · exact h3 (p i) (p j) e (hp j hj) hi0 hj0 x y hx hy
    · exact absurd (hi i j (by omega) hj e) (by omega)
    · exact fun q => h3 (p j) (p i) e (hp i (by omega)) hj0 hi0 y x hy hx q.symm

/-- A symmetry, taken by contract: at every world that keeps the blocks of w it makes of a deal's hands (rows of base and above) those of another one, in rows of base and above. -/
def Sym (f : Nat) (caps : Array Value) (g : List (List Int) → List (List Int)) (w : World) : Prop :=
  ∀ (b c : Nat) (zss : List (List Int)) (base : Nat) (W : World), Below w.heap.size w W → w.heap.size ≤ base → base ≤ W.heap.size → dealB zss = true → OwnR W base W.heap.size (some ⟨b, 0, none⟩) 4 zss → 4 ≤ c → c ≤ maxLen →
    Calls Try.prog f (#[.slice (some ⟨b, 0, none⟩) 4 c] ++ caps) W fun e w' => ∃ b' c', e = .returned (.slice (some ⟨b', 0, none⟩) 4 c') ∧ 4 ≤ c' ∧ c' ≤ maxLen ∧ OwnR w' base w'.heap.size (some ⟨b', 0, none⟩) 4 (g zss) ∧ Chg W w' 0 0

theorem hand_cells {W : World} {base b : Nat} {zss : List (List Int)} (h : OwnR W base W.heap.size (some ⟨b, 0, none⟩) 4 zss) : ∃ (B : Nat → Option Addr) (C : Nat → Nat),
    (∀ j, j < 4 → W.cell? ⟨b, j, none⟩ = some (.slice (B j) (zss.getD j []).length (C j))) ∧ base ≤ b ∧ b < W.heap.size ∧ zss.length = 4 ∧
    (∀ j, j < 4 → Own W base W.heap.size (B j) (zss.getD j []).length (zss.getD j []) ∧ (zss.getD j []).length ≤ C j ∧ Plain (B j) (C j)) ∧
    (∀ i j, i < j → j < 4 → 0 < (zss.getD i []).length → 0 < (zss.getD j []).length → ∀ x y, B i = some x → B j = some y → x.block ≠ y.block) := by
  obtain ⟨hz, B, C, h1, h2, h3⟩ := h
  obtain ⟨b', cs, e, l1, l2, hbk, hcs, _⟩ := h1 (by omega)
  obtain rfl : b = b' := by injection e with e; injection e
  exact ⟨B, C, fun j hj => by rw [cell_of_row W b j cs _ _ hbk]; exact hcs j hj, l1, l2, hz, h2, h3⟩
def pMirror (j : Nat) : Nat := if j = 3 then 1 else if j = 1 then 3 else j

end Go.Proofs.Yteglffbeldlibaa.Lib1
