/- Chapter 3: the model's MirrorDeal. -/
import Derived.Test.YteglffbeldlibaaS03o
namespace Go.Proofs.Yteglffbeldlibaa.Lib1
open Go.RowKit
set_option maxRecDepth 100000

/-- Two rows exchanged. -/
def swapR (zss : List (List Int)) (i j : Nat) : List (List Int) := (zss.set i (zss.getD j [])).set j (zss.getD i [])
theorem swapR_length (zss : List (List Int)) (i j : Nat) : (swapR zss i j).length = zss.length := by simp [swapR]
theorem rset_getD (zss : List (List Int)) (j i : Nat) (zs : List Int) (hj : j < zss.length) : (zss.set j zs).getD i [] = if i = j then zs else zss.getD i [] := by
  simp only [List.getD_eq_getElem?_getD, List.getElem?_set]
  by_cases e : j = i
  · subst e; simp [hj]
  · have e' : ¬ i = j := fun h => e h.symm
    simp [e, e']
theorem swapR_getD (zss : List (List Int)) (i j k : Nat) (hi : i < zss.length) (hj : j < zss.length) : (swapR zss i j).getD k [] = if k = j then zss.getD i [] else if k = i then zss.getD j [] else zss.getD k [] := by
  unfold swapR
  rw [rset_getD _ _ _ _ (by simpa using hj), rset_getD _ _ _ _ hi]
def mirrorV (zss : List (List Int)) : List (List Int) := if dealB zss then swapR zss 1 3 else []

/-- The slices of two rows exchanged in the rows' block. -/
theorem OwnR.swap {w : World} {lo hi : Nat} {A : Option Addr} {n : Nat} {zss : List (List Int)} (h : OwnR w lo hi A n zss) {i j : Nat} (hij : i ≠ j) (hin : i < n) (hjn : j < n) :
    ∃ b u v, A = some ⟨b, 0, none⟩ ∧ lo ≤ b ∧ b < hi ∧ b < w.heap.size ∧ w.cell? ⟨b, i, none⟩ = some u ∧ w.cell? ⟨b, j, none⟩ = some v ∧ w.frozen? ⟨b, i, none⟩ = false ∧ (∃ x l c, u = .slice x l c) ∧ (∃ x l c, v = .slice x l c) ∧
      ∀ w', (∀ k, k ≠ b → w'.heap[k]? = w.heap[k]?) → (∀ cs, w.heap[b]? = some (.cells cs 27 (0, 0)) → w'.heap[b]? = some (.cells ((cs.setIfInBounds i v).setIfInBounds j u) 27 (0, 0))) → OwnR w' lo hi A n (swapR zss i j) := by
  obtain ⟨h0, B, C, h1, h2, h3⟩ := h
  obtain ⟨b, cs, e, l1, l2, hb, hc, hsep⟩ := h1 (by omega)
  refine ⟨b, _, _, e, l1, l2, lt_of_block hb, by rw [cell_of_row w b i cs _ _ hb]; exact hc i hin, by rw [cell_of_row w b j cs _ _ hb]; exact hc j hjn, by simp [World.frozen?, hb], ⟨_, _, _, rfl⟩, ⟨_, _, _, rfl⟩, fun w' hk hbk => ?_⟩
  have hsz : ∀ k, k < n → k < cs.size := fun k hk => by
    rcases Nat.lt_or_ge k cs.size with q | q
    · exact q
    · have := hc k hk; rw [Array.getElem?_eq_none q] at this; cases this
  let σ : Nat → Nat := fun k => if k = j then i else if k = i then j else k
  have hσ : ∀ k, k < n → σ k < n := fun k hk => by show (if k = j then i else if k = i then j else k) < n; split <;> (try split) <;> omega
  have hg : ∀ k, (swapR zss i j).getD k [] = zss.getD (σ k) [] := fun k => by
    rw [swapR_getD zss i j k (by omega) (by omega)]
    show _ = zss.getD (if k = j then i else if k = i then j else k) []
    split
    · rfl
    · split <;> rfl
  have hrow : ∀ {l : Nat} {D : Option Addr} {m : Nat} {zs : List Int}, Own w l hi D m zs → (0 < m → ∀ x, D = some x → x.block ≠ b) → Own w' l hi D m zs := by
    intro l D m zs hO hne
    refine ⟨hO.1, fun hm => ?_⟩
    obtain ⟨d, ds, ed, q1, q2, hd, hcs⟩ := hO.2 hm
    exact ⟨d, ds, ed, q1, q2, (hk d (fun e => hne hm _ ed e)).trans hd, hcs⟩
  refine ⟨by rw [swapR_length]; exact h0, fun k => B (σ k), fun k => C (σ k), fun _ => ⟨b, _, e, l1, l2, hbk cs hb, fun k hk' => ?_, fun k hk' hl x hx => ?_⟩, fun k hk' => ?_, fun p q hpq hq hp0 hq0 x y hx hy => ?_⟩
  · rw [hg k, Array.getElem?_setIfInBounds]
    have hss := hsz k hk'
    by_cases kj : j = k
    · subst kj
      have : σ j = i := by show (if j = j then i else _) = i; simp
      simp [hss, this]
    · rw [if_neg kj, Array.getElem?_setIfInBounds]
      by_cases ki : i = k
      · subst ki
        have : σ i = j := by show (if i = j then i else if i = i then j else i) = j; simp [hij]
        simp [hss, this]
      · rw [if_neg ki]
        have : σ k = k := by show (if k = j then i else if k = i then j else k) = k; rw [if_neg (fun e => kj e.symm), if_neg (fun e => ki e.symm)]
        rw [this]; show cs[k]? = some (.slice (B (σ k)) _ (C (σ k))); rw [this]; exact hc k hk'
  · rw [hg k] at hl
    exact hsep (σ k) (hσ k hk') hl x hx
  · rw [hg k]
    obtain ⟨q1, q2, q3⟩ := h2 (σ k) (hσ k hk')
    exact ⟨hrow q1 (fun hm x hx => hsep (σ k) (hσ k hk') hm x hx), q2, q3⟩
  · rw [hg p] at hp0
    rw [hg q] at hq0
    have hne : σ p ≠ σ q := by
      intro e
      have e' : (if p = j then i else if p = i then j else p) = (if q = j then i else if q = i then j else q) := e
      by_cases p1 : p = j
      · rw [if_pos p1] at e'
        by_cases q1 : q = j
        · omega
        · rw [if_neg q1] at e'
          by_cases q2 : q = i
          · rw [if_pos q2] at e'; omega
          · rw [if_neg q2] at e'; omega
      · rw [if_neg p1] at e'
        by_cases p2 : p = i
        · rw [if_pos p2] at e'
          by_cases q1 : q = j
          · rw [if_pos q1] at e'; omega
          · rw [if_neg q1] at e'
            by_cases q2 : q = i
            · omega
            · rw [if_neg q2] at e'; omega
        · rw [if_neg p2] at e'
          by_cases q1 : q = j
          · rw [if_pos q1] at e'; omega
          · rw [if_neg q1] at e'
            by_cases q2 : q = i
            · rw [if_pos q2] at e'; omega
            · rw [if_neg q2] at e'; omega
    rcases Nat.lt_or_gt_of_ne hne with r | r
    · exact h3 (σ p) (σ q) r (hσ q hq) hp0 hq0 x y hx hy
    · exact fun e => h3 (σ q) (σ p) r (hσ p (by omega)) hq0 hp0 y x hy hx e.symm

/-- The two boxes of a function that takes and hands back a deal. -/
structure Box2 (w wr : World) (x r : Value) : Prop where
  b0 : wr.heap[w.heap.size]? = some (.cells #[x] 26 (0, 0))
  b1 : wr.heap[w.heap.size + 1]? = some (.cells #[r] 26 (0, 0))
theorem Box2.start (w : World) (x r : Value) : Box2 w ((w.alloc (.cells #[x] 26)).alloc (.cells #[r] 26)) x r := by
  have h0 := heap_alloc_new w (.cells #[x] 26)
  have h1 := heap_alloc_new (w.alloc (.cells #[x] 26)) (.cells #[r] 26)
  simp only [World.size_alloc] at h1
  exact ⟨(Below.heap_alloc _ _ _ (by simp)).trans h0, h1⟩
theorem Box2.still {w wr w' : World} {x r : Value} (h : Box2 w wr x r) (c : Chg wr w' 0 0) : Box2 w w' x r :=
  ⟨(c.block _ (lt_of_block h.b0) (.inr (Nat.zero_le _))).trans h.b0, (c.block _ (lt_of_block h.b1) (.inr (Nat.zero_le _))).trans h.b1⟩
theorem Box2.c0 {w wr : World} {x r : Value} (h : Box2 w wr x r) : wr.cell? ⟨w.heap.size, 0, none⟩ = some x := by rw [cell_of_row _ _ _ _ _ _ h.b0]; rfl
theorem Box2.c1 {w wr : World} {x r : Value} (h : Box2 w wr x r) : wr.cell? ⟨w.heap.size + 1, 0, none⟩ = some r := by rw [cell_of_row _ _ _ _ _ _ h.b1]; rfl
theorem Box2.f1 {w wr : World} {x r : Value} (h : Box2 w wr x r) : wr.frozen? ⟨w.heap.size + 1, 0, none⟩ = false := by simp [World.frozen?, h.b1]
theorem Box2.ret {w wr : World} {x r : Value} (h : Box2 w wr x r) (u : Value) : (wr.setCell ⟨w.heap.size + 1, 0, none⟩ u).cell? ⟨w.heap.size + 1, 0, none⟩ = some u := by
  rw [cell_of_row _ _ _ #[u] 26 (0, 0) (by simp [World.setCell, Array.getElem?_modify, h.b1])]; rfl

theorem RetD.nil_ {w w' : World} (c : Chg w w' 0 0) : RetD w [] (.returned (.agg #[.slice none 0 0])) w' := ⟨none, 0, rfl, Nat.le_refl _, OwnR.none_, c⟩

theorem mirror_cells {w3 w5 : World} {lo b : Nat} {zss : List (List Int)} {v : Value} (h : OwnR w3 lo w3.heap.size (some ⟨b, 0, none⟩) 4 zss) (f0 : ∀ q, q < w3.heap.size → w5.heap[q]? = (w3.setCell ⟨b, 1, none⟩ v).heap[q]?) :
    (∃ u0, w5.cell? ⟨b, 3, none⟩ = some u0) ∧ w5.frozen? ⟨b, 3, none⟩ = false := by
  obtain ⟨h0, B, C, h1, h2, h3⟩ := h
  obtain ⟨b', cs, e, l1, l2, hb, hc, _⟩ := h1 (by omega)
  obtain rfl : b = b' := by injection e with e; injection e
  have h5 : w5.heap[b]? = some (.cells (cs.setIfInBounds 1 v) 27 (0, 0)) := (f0 b l2).trans (by simp [World.setCell, Array.getElem?_modify, hb])
  refine ⟨⟨.slice (B 3) (zss.getD 3 []).length (C 3), ?_⟩, by simp [World.frozen?, h5]⟩
  rw [cell_of_row _ _ _ _ _ _ h5, Array.getElem?_setIfInBounds, if_neg (by omega)]
  exact hc 3 (by omega)
theorem mirror_end {w3 w5 : World} {lo b : Nat} {zss : List (List Int)} {u v R : Value} {g : Nat} (h : OwnR w3 lo w3.heap.size (some ⟨b, 0, none⟩) 4 zss)
    (hsw : ∀ w', (∀ k, k ≠ b → w'.heap[k]? = w3.heap[k]?) → (∀ cs, w3.heap[b]? = some (.cells cs 27 (0, 0)) → w'.heap[b]? = some (.cells ((cs.setIfInBounds 1 v).setIfInBounds 3 u) 27 (0, 0))) → OwnR w' lo w3.heap.size (some ⟨b, 0, none⟩) 4 (swapR zss 1 3))
    (f0 : ∀ q, q < w3.heap.size → w5.heap[q]? = (w3.setCell ⟨b, 1, none⟩ v).heap[q]?) (fs : w5.heap.size = w3.heap.size + 1) (fo : w5.os = w3.os ∧ w5.tape = w3.tape ∧ w5.output = w3.output) (hg : g < lo) :
    OwnR ((w5.setCell ⟨b, 3, none⟩ u).setCell ⟨g, 0, none⟩ R) lo w3.heap.size (some ⟨b, 0, none⟩) 4 (swapR zss 1 3) ∧ Chg w3 ((w5.setCell ⟨b, 3, none⟩ u).setCell ⟨g, 0, none⟩ R) g w3.heap.size := by
  obtain ⟨h0, B, C, h1, h2, h3⟩ := h
  obtain ⟨b', cs, e, l1, l2, hb, hc, _⟩ := h1 (by omega)
  obtain rfl : b = b' := by injection e with e; injection e
  have hv := hsw ((w3.setCell ⟨b, 1, none⟩ v).setCell ⟨b, 3, none⟩ u) (fun k hk => (Below.heap_setCell _ _ _ _ hk).trans (Below.heap_setCell _ _ _ _ hk)) (fun cs' h' => by simp [World.setCell, Array.getElem?_modify, h'])
  have hsame : ∀ q, q < w3.heap.size → q ≠ g → ((w5.setCell ⟨b, 3, none⟩ u).setCell ⟨g, 0, none⟩ R).heap[q]? = ((w3.setCell ⟨b, 1, none⟩ v).setCell ⟨b, 3, none⟩ u).heap[q]? := fun q hq hqg => by
    rw [Below.heap_setCell _ _ _ _ hqg]
    by_cases e : q = b
    · subst e
      have := f0 q hq
      simp only [World.setCell, Array.getElem?_modify, if_true] at this ⊢
      rw [this]
    · rw [Below.heap_setCell _ _ _ _ e, Below.heap_setCell _ _ _ _ e]; exact f0 q hq
  constructor
  · have c : Chg ((w3.setCell ⟨b, 1, none⟩ v).setCell ⟨b, 3, none⟩ u) ((w5.setCell ⟨b, 3, none⟩ u).setCell ⟨g, 0, none⟩ R) g (g + 1) :=
      ⟨fo.1, fo.2.1, fo.2.2, by simp [World.setCell, fs], fun k hk hq => hsame k (by simpa [World.setCell] using hk) (by omega)⟩
    exact hv.chg c (.inr (by omega))
  · refine ⟨fo.1, fo.2.1, fo.2.2, by simp [World.setCell, fs], fun k hk hq => ?_⟩
    rw [hsame k hk (by omega), Below.heap_setCell _ _ _ _ (by show k ≠ b; omega), Below.heap_setCell _ _ _ _ (by show k ≠ b; omega)]


end Go.Proofs.Yteglffbeldlibaa.Lib1
