/- Chapter 3: hands in another order; symmetries applied one after the other. -/
import Derived.Test.YtdfmkikngifjmaaCatI
import Derived.Test.YtdfmkikngifjmaaS03p
namespace Go.Proofs.Ytdfmkikngifjmaa.Lib1
open Go.RowKit
set_option maxRecDepth 100000

/-- The rows of an owned list of rows lie in a new one, in another order. -/
theorem OwnR.reorder {w w' : World} {base : Nat} {zss zss' : List (List Int)} {B : Nat → Option Addr} {C : Nat → Nat}
    (h2 : ∀ j, j < 4 → Own w base w.heap.size (B j) (zss.getD j []).length (zss.getD j []) ∧ (zss.getD j []).length ≤ C j ∧ Plain (B j) (C j))
    (h3 : ∀ i j, i < j → j < 4 → 0 < (zss.getD i []).length → 0 < (zss.getD j []).length → ∀ x y, B i = some x → B j = some y → x.block ≠ y.block)
    (c : Chg w w' 0 0) {g : Nat} {cs : Array Value} (hg : w'.heap[g]? = some (.cells cs 40 (0, 0))) (hgs : w.heap.size ≤ g) (hb : base ≤ g) (p : Nat → Nat) (hp : ∀ j, j < 4 → p j < 4) (hi : ∀ i j, i < 4 → j < 4 → p i = p j → i = j)
    (hcs : ∀ j, j < 4 → cs[j]? = some (.slice (B (p j)) (zss.getD (p j) []).length (C (p j)))) (hl : zss'.length = 4) (hz : ∀ j, j < 4 → zss'.getD j [] = zss.getD (p j) []) :
    OwnR w' base w'.heap.size (some ⟨g, 0, none⟩) 4 zss' := by
  have hs := c.size
  refine ⟨hl, fun j => B (p j), fun j => C (p j), fun _ => ⟨g, cs, rfl, hb, lt_of_block hg, hg, fun j hj => by rw [hz j hj]; exact hcs j hj, fun j hj hn x hx => ?_⟩, fun j hj => ?_, fun i j hij hj hi0 hj0 x y hx hy => ?_⟩
  · rw [hz j hj] at hn
    obtain ⟨b, _, e, _, l2, _⟩ := (h2 (p j) (hp j hj)).1.2 hn
    have e2 : some x = some ⟨b, 0, none⟩ := hx.symm.trans e
    injection e2 with e2
    rw [e2]
    show b ≠ g
    omega
  · rw [hz j hj]
    obtain ⟨q1, q2, q3⟩ := h2 (p j) (hp j hj)
    exact ⟨(q1.still c).more (Nat.le_refl _) hs, q2, q3⟩
  · rw [hz i (by omega)] at hi0
    rw [hz j hj] at hj0
    rcases Nat.lt_trichotomy (p i) (p j) with e | e | e
    · exact h3 (p i) (p j) e (hp j hj) hi0 hj0 x y hx hy
    · exact absurd (hi i j (by omega) hj e) (by omega)
    · exact fun q => h3 (p j) (p i) e (hp i (by omega)) hj0 hi0 y x hy hx q.symm

/-- A symmetry, taken by contract: at every world that keeps the blocks of w it makes of a deal's hands (rows of base and above) those of another one, in rows of base and above. -/
def Sym (f : Nat) (caps : Array Value) (g : List (List Int) → List (List Int)) (w : World) : Prop :=
  ∀ (b c : Nat) (zss : List (List Int)) (base : Nat) (W : World), Below w.heap.size w W → w.heap.size ≤ base → base ≤ W.heap.size → dealB zss = true → OwnR W base W.heap.size (some ⟨b, 0, none⟩) 4 zss → 4 ≤ c → c ≤ maxLen →
    Calls Try.prog f (#[.slice (some ⟨b, 0, none⟩) 4 c] ++ caps) W fun e w' => ∃ b' c', e = .returned (.slice (some ⟨b', 0, none⟩) 4 c') ∧ 4 ≤ c' ∧ c' ≤ maxLen ∧ OwnR w' base w'.heap.size (some ⟨b', 0, none⟩) 4 (g zss) ∧ Chg W w' 0 0

theorem hand_cells {W : World} {base b : Nat} {zss : List (List Int)} (h : OwnR W base W.heap.size (some ⟨b, 0, none⟩) 4 zss) : ∃ (B : Nat → Option Addr) (C : Nat → Nat),
    (∀ j, j < 4 → W.cell? ⟨b, j, none⟩ = some (.slice (B j) (zss.getD j []).length (C j))) ∧ base ≤ b ∧ b < W.heap.size ∧ zss.length = 4 ∧
    (∀ j, j < 4 → Own W base W.heap.size (B j) (zss.getD j []).length (zss.getD j []) ∧ (zss.getD j []).length ≤ C j ∧ Plain (B j) (C j)) ∧
    (∀ i j, i < j → j < 4 → 0 < (zss.getD i []).length → 0 < (zss.getD j []).length → ∀ x y, B i = some x → B j = some y → x.block ≠ y.block) := by
  obtain ⟨hz, B, C, h1, h2, h3⟩ := h
  obtain ⟨b', cs, e, l1, l2, hbk, hcs, _⟩ := h1 (by omega)
  obtain rfl : b = b' := by injection e with e; injection e
  exact ⟨B, C, fun j hj => by rw [cell_of_row W b j cs _ _ hbk]; exact hcs j hj, l1, l2, hz, h2, h3⟩
def pMirror (j : Nat) : Nat := if j = 3 then 1 else if j = 1 then 3 else j
theorem mirrorHands_sym (w : World) : Sym 91 #[] (swapR · 1 3) w := by
  intro b c zss base W hb hb1 hb2 _ ho hc hc2
  obtain ⟨B, C, hcell, l1, l2, hz, h2, h3⟩ := hand_cells ho
  have k0 := hcell 0 (by omega)
  have k1 := hcell 1 (by omega)
  have k2 := hcell 2 (by omega)
  have k3 := hcell 3 (by omega)
  have H2 := Lib.hid h2
  have H3 := Lib.hid h3
  clear hcell ho h2 h3
  have hca := Lib.hid (Chg.of_alloc W (.cells #[.slice (B 0) (zss.getD 0 []).length (C 0), .slice (B 3) (zss.getD 3 []).length (C 3), .slice (B 2) (zss.getD 2 []).length (C 2), .slice (B 1) (zss.getD 1 []).length (C 1)] 40) 0 0)
  have hnw := Lib.hid (heap_alloc_new W (.cells #[.slice (B 0) (zss.getD 0 []).length (C 0), .slice (B 3) (zss.getD 3 []).length (C 3), .slice (B 2) (zss.getD 2 []).length (C 2), .slice (B 1) (zss.getD 1 []).length (C 1)] 40))
  have hfin : Hid (∀ w', Chg W w' 0 0 → w'.heap[W.heap.size]? = some (.cells #[.slice (B 0) (zss.getD 0 []).length (C 0), .slice (B 3) (zss.getD 3 []).length (C 3), .slice (B 2) (zss.getD 2 []).length (C 2), .slice (B 1) (zss.getD 1 []).length (C 1)] 40 (0, 0)) → OwnR w' base w'.heap.size (some ⟨W.heap.size, 0, none⟩) 4 (swapR zss 1 3)) := by
    intro w' c' hg
    refine OwnR.reorder H2.out H3.out c' hg (Nat.le_refl _) hb2 pMirror ?_ ?_ ?_ (by rw [swapR_length]; exact hz) ?_
    · intro j hj; unfold pMirror; split <;> (try split) <;> omega
    · intro i j hi hj; unfold pMirror; repeat' split
      all_goals omega
    · intro j hj
      have hq : j = 0 ∨ j = 1 ∨ j = 2 ∨ j = 3 := by omega
      rcases hq with rfl | rfl | rfl | rfl <;> rfl
    · intro j hj
      rw [swapR_getD zss 1 3 j (by omega) (by omega)]
      unfold pMirror
      by_cases e : j = 3
      · rw [if_pos e, if_pos e]
      · rw [if_neg e, if_neg e]
        by_cases e1 : j = 1
        · rw [if_pos e1, if_pos e1]
        · rw [if_neg e1, if_neg e1]
  generalize (zss.getD 0 []).length = n0 at k0 hca hnw hfin
  generalize (zss.getD 1 []).length = n1 at k1 hca hnw hfin
  generalize (zss.getD 2 []).length = n2 at k2 hca hnw hfin
  generalize (zss.getD 3 []).length = n3 at k3 hca hnw hfin
  clear H2 H3
  go_enter Try.func91, Try.ntmps91
  go_wp2
  go_region
  go_wp2
  go_ret
  have d := Chg.drewN (W.alloc (.cells #[.slice (B 0) n0 (C 0), .slice (B 3) n3 (C 3), .slice (B 2) n2 (C 2), .slice (B 1) n1 (C 1)] 40)) 1 0 0
  exact ⟨_, _, rfl, Nat.le_refl _, by unfold maxLen; omega, hfin.out _ (hca.out.trans d) hnw.out, hca.out.trans d⟩

end Go.Proofs.Ytdfmkikngifjmaa.Lib1
