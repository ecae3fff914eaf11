/- Chapter 8, the program: cards struck from a row of a slice of slices, in place. -/
import Derived.Test.YteglffbeldlibaaPt8
import Derived.Test.YteglffbeldlibaaSetR5
import Derived.Test.YteglffbeldlibaaShelfD
import Derived.Sort.OwnSortedInts
namespace Go.Proofs.Yteglffbeldlibaa.Lib1
open Go.RowKit Go.Sort
set_option maxRecDepth 100000

theorem chg_sorted8 {w : World} {g n : Nat} {os : Array Obj} (d : Array Int) : Chg w (grow (putRow (Value.int .i64) (Sort.ahead w n) g 0 d) os) g (g + 1) := by
  have h := grownBy_sortedI (w := w) (g := g) (n := n) (os := os) d
  exact ⟨h.os, h.tape, h.output, h.size, fun k hk ho => h.block k hk (fun e => by injection e with e; omega)⟩
/-- slices.DeleteFunc on a row of the call's own: it turns the row's block alone. -/
theorem delete8 {w : World} {b n C : Nat} {ss : List Int} {p : Int → Bool} {g : Nat} {lb : Array Value} (eg : ∀ args w, (callFunc g args).run Try.prog w = .ok (.enter g args) w) (h : Own w b (b + 1) (some ⟨b, 0, none⟩) n ss) (h0 : 0 < n) (hn : n ≤ 1048576) (hcap : n ≤ C)
    (hp : ∀ (W : World) (x : Int), Chg w W b (b + 1) → FnGives Try.prog g lb #[.int .i64 x] (.bool (p x)) W) :
    Calls Try.prog 150 #[.slice (some ⟨b, 0, none⟩) n C, .func (.func g) #[] lb] w fun e w' => e = .returned (.slice (some ⟨b, 0, none⟩) (ss.filter fun x => !p x).length C) ∧
      Own w' b (b + 1) (some ⟨b, 0, none⟩) (ss.filter fun x => !p x).length (ss.filter fun x => !p x) ∧ Chg w w' b (b + 1) := by
  have hl := h.1
  obtain ⟨b', cs, e, l1, l2, hb, hc⟩ := h.2 h0
  obtain rfl : b = b' := by injection e with e; injection e
  subst hl
  have hH : Holds (Value.int .i64) w b 0 ss.toArray := fun j hj => by
    have hj' : j < ss.length := by simpa using hj
    refine ⟨?_, by simp [World.frozen?, hb]⟩
    rw [cell_of_row w b (0 + j) cs _ _ hb, Nat.zero_add, hc j hj', getElem!_pos ss.toArray j hj]
    simp [List.getD, List.getElem?_eq_getElem hj']
  have c := AnyE.slices_DeleteFunc Try.laysDel (Value.int .i64) (fun _ => rfl) p g lb eg 0 Try.zeroValue2 b 0 C ss.toArray w (fun W x hW => hp W x (Chg.of_below hW _ _)) (fun n os dk x _ => hp _ x (chg_sorted8 dk)) hH (by simp; omega) (by simpa using hcap)
  rw [show ss.toArray.size = ss.length by simp] at c
  refine c.mono fun e w' ⟨he, q, hw⟩ => ?_
  have hle := List.length_filter_le (fun x => !p x) ss
  have hw2 : w' = grow (putRow (Value.int .i64) (Sort.ahead w q) b 0 ((ss.filter fun x => !p x) ++ List.replicate (ss.length - (ss.filter fun x => !p x).length) 0).toArray) #[] := by rw [Sort.grow_empty]; simpa using hw
  refine ⟨by simpa using he, ⟨rfl, fun hpos => ?_⟩, by rw [hw2]; exact chg_sorted8 _⟩
  have hb2 := heap_sortedI (n := q) (os := #[]) ((ss.filter fun x => !p x) ++ List.replicate (ss.length - (ss.filter fun x => !p x).length) 0).toArray hb
  rw [← hw2] at hb2
  refine ⟨b, _, rfl, Nat.le_refl _, Nat.lt_succ_self _, hb2, fun j hj => ?_⟩
  have hcs : j < cs.size := by
    rcases Nat.lt_or_ge j cs.size with h | h
    · exact h
    · have := hc j (by omega); rw [Array.getElem?_eq_none h] at this; cases this
  have hjf : j < ((ss.filter fun x => !p x) ++ List.replicate (ss.length - (ss.filter fun x => !p x).length) 0).length := by rw [List.length_append]; omega
  simp only [putCells, Array.getElem?_mapIdx]
  rw [Array.getElem?_eq_getElem hcs, Option.map_some, if_pos ⟨Nat.zero_le _, by rw [Nat.zero_add, List.size_toArray]; exact hjf⟩, Nat.sub_zero, getElem!_pos _ j (by simpa using hjf)]
  simp [List.getD, List.getElem_append_left hj, List.getElem?_eq_getElem hj]
theorem Own.away8 {w w' : World} {b n : Nat} {A : Option Addr} {zs : List Int} {l h : Nat} (r : Own w b (b + 1) A n zs) (c : Chg w w' l h) (hd : b + 1 ≤ l ∨ h ≤ b) : Own w' b (b + 1) A n zs := r.chg c hd
/-- One row alone, that grows shorter in its place. -/
theorem OwnR.cut8 {w : World} {lo hi b n j : Nat} {zss : List (List Int)} (h : OwnR w lo hi (some ⟨b, 0, none⟩) n zss) (hj : j < n) (hpos : 0 < (zss.getD j []).length) : ∃ bj C,
    w.cell? ⟨b, j, none⟩ = some (.slice (some ⟨bj, 0, none⟩) (zss.getD j []).length C) ∧ Own w bj (bj + 1) (some ⟨bj, 0, none⟩) (zss.getD j []).length (zss.getD j []) ∧ (lo ≤ bj ∧ bj < hi) ∧ (lo ≤ b ∧ b < hi) ∧ bj ≠ b ∧ (zss.getD j []).length ≤ C ∧
    ∀ w1 (ys : List Int), Chg w w1 bj (bj + 1) → Own w1 bj (bj + 1) (some ⟨bj, 0, none⟩) ys.length ys → ys.length ≤ (zss.getD j []).length →
      (∃ u, w1.cell? ⟨b, j, none⟩ = some u) ∧ w1.frozen? ⟨b, j, none⟩ = false ∧ OwnR (w1.setCell ⟨b, j, none⟩ (.slice (some ⟨bj, 0, none⟩) ys.length C)) lo hi (some ⟨b, 0, none⟩) n (zss.set j ys) ∧ Chg w (w1.setCell ⟨b, j, none⟩ (.slice (some ⟨bj, 0, none⟩) ys.length C)) lo hi := by
  obtain ⟨h0, B, C, h1, h2, h3⟩ := h
  obtain ⟨b', cs, e, l1, l2, hb, hcs, hap⟩ := h1 (by omega)
  obtain rfl : b = b' := by injection e with e; injection e
  obtain ⟨ho, hl, hp⟩ := h2 j hj
  obtain ⟨bj, ej, m1, m2, hoj⟩ := ho.narrow (by omega)
  have hcell : w.cell? ⟨b, j, none⟩ = some (.slice (B j) (zss.getD j []).length (C j)) := by rw [cell_of_row w b j cs _ _ hb]; exact hcs j hj
  have ej3 := ej
  have hne : bj ≠ b := hap j hj hpos _ ej
  rw [ej3] at hcell hoj
  refine ⟨bj, C j, hcell, hoj, ⟨m1, m2⟩, ⟨l1, l2⟩, hne, hl, fun w1 ys c hown hle => ?_⟩
  have hb1 : w1.heap[b]? = some (.cells cs 27 (0, 0)) := (c.block b (lt_of_block hb) (by omega)).trans hb
  have hcj : w1.cell? ⟨b, j, none⟩ = some (.slice (B j) (zss.getD j []).length (C j)) := by rw [cell_of_row w1 b j cs _ _ hb1]; exact hcs j hj
  have hset : ∀ i, ((zss.set j ys).getD i []) = if i = j then ys else zss.getD i [] := fun i => rset_getD _ _ _ _ (by omega)
  have k2 : Chg w1 (w1.setCell ⟨b, j, none⟩ (.slice (some ⟨bj, 0, none⟩) ys.length (C j))) b (b + 1) := (Chg.refl w1 b (b + 1)).store (Nat.le_refl _) (Nat.lt_succ_self _) _
  refine ⟨⟨_, hcj⟩, by simp [World.frozen?, hb1], ⟨by simpa using h0, B, C, fun _ => ⟨b, cs.setIfInBounds j (.slice (some ⟨bj, 0, none⟩) ys.length (C j)), rfl, l1, l2, set_heapS hb1 j _, fun i hi => ?_, fun i hi hl2 x hx => ?_⟩, fun i hi => ?_, fun p q hpq hq p1 p2 x y hx hy => ?_⟩, ?_⟩
  · rw [hset i, Array.getElem?_setIfInBounds]
    have hjs : j < cs.size := by
      rcases Nat.lt_or_ge j cs.size with h | h
      · exact h
      · have := hcs j hj; rw [Array.getElem?_eq_none h] at this; cases this
    by_cases e2 : i = j
    · subst e2
      rw [if_pos rfl, if_pos rfl, if_pos hjs, ej3]
    · rw [if_neg (fun e => e2 e.symm), if_neg e2]; exact hcs i hi
  · rw [hset i] at hl2
    by_cases e2 : i = j
    · subst e2
      exact hap i hi hpos x hx
    · rw [if_neg e2] at hl2
      exact hap i hi hl2 x hx
  · rw [hset i]
    obtain ⟨hoi, hli, hpi⟩ := h2 i hi
    by_cases e2 : i = j
    · subst e2
      rw [if_pos rfl, ej3]
      exact ⟨(hown.away8 k2 (by omega)).more m1 (by omega), by omega, .inr ⟨_, _, rfl⟩⟩
    · rw [if_neg e2]
      refine ⟨?_, hli, hpi⟩
      by_cases hi0 : (zss.getD i []).length = 0
      · exact Own.empty rfl hi0
      · obtain ⟨bi, eb, n1, n2, hoi'⟩ := hoi.narrow (by omega)
        have hneb : bi ≠ b := hap i hi (by omega) _ eb
        have hnej : bi ≠ bj := by
          rcases Nat.lt_or_ge i j with hlt | hge
          · exact h3 i j hlt hj (by omega) hpos _ _ eb ej
          · exact fun e' => h3 j i (by omega) hi hpos (by omega) _ _ ej eb e'.symm
        exact ((hoi'.away8 c (by omega)).away8 k2 (by omega)).more n1 (by omega)
  · rw [hset p] at p1
    rw [hset q] at p2
    refine h3 p q hpq hq ?_ ?_ x y hx hy
    · by_cases e2 : p = j
      · rw [e2]; exact hpos
      · rwa [if_neg e2] at p1
    · by_cases e2 : q = j
      · rw [e2]; exact hpos
      · rwa [if_neg e2] at p2
  · exact (c.more m1 (by omega)).trans (k2.more l1 (by omega))
end Go.Proofs.Yteglffbeldlibaa.Lib1
