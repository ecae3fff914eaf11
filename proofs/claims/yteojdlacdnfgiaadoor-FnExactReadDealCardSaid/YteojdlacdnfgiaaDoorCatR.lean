/- Slices of rows of the call's own: copied, and pushed to. -/
import Derived.Test.YteojdlacdnfgiaaDoorNests
import Derived.Test.YteojdlacdnfgiaaDoorMapE
namespace Go.Proofs.YteojdlacdnfgiaaDoor.Lib1
open Go.RowKit
set_option maxRecDepth 100000

/-- Rows of the call's own, each of which lies below 'top'. -/
def OwnVRT (w : World) (base top : Nat) (v : Value) (zss : List (List Int)) : Prop := ∃ (B : Nat → Option Addr) (C : Nat → Nat),
  w.ownsRow base 24 1 v zss.length (rowV B C zss) ∧
  (∀ j, j < zss.length → Own w base w.heap.size (B j) (zss.getD j []).length (zss.getD j []) ∧ (zss.getD j []).length ≤ C j ∧ Plain (B j) (C j)) ∧
  (∀ i j, i < j → j < zss.length → 0 < (zss.getD i []).length → 0 < (zss.getD j []).length → ∀ x y, B i = some x → B j = some y → x.block ≠ y.block) ∧
  ∀ j, j < zss.length → 0 < (zss.getD j []).length → ∀ x, B j = some x → x.block < top
theorem OwnVRT.to {w : World} {base top : Nat} {v : Value} {zss : List (List Int)} (h : OwnVRT w base top v zss) : OwnVR w base v zss := by
  obtain ⟨B, C, h1, h2, h3, _⟩ := h; exact ⟨B, C, h1, h2, h3⟩
theorem OwnVRT.of {w : World} {base : Nat} {v : Value} {zss : List (List Int)} (h : OwnVR w base v zss) : OwnVRT w base w.heap.size v zss := by
  obtain ⟨B, C, h1, h2, h3⟩ := h
  refine ⟨B, C, h1, h2, h3, fun j hj h0 x hx => ?_⟩
  obtain ⟨b, cs, e, _, l2, _⟩ := (h2 j hj).1.2 h0
  rw [hx] at e
  injection e with e
  rw [e]; exact l2
theorem OwnVRT.nil_ (w : World) (base top : Nat) : OwnVRT w base top (.slice none 0 0) [] := by
  obtain ⟨B, C, h1, h2, h3⟩ := OwnVR.nil_ w base
  exact ⟨B, C, h1, h2, h3, fun j hj => absurd hj (by simp)⟩
theorem OwnVRT.kept {w w' : World} {base top : Nat} {v : Value} {zss : List (List Int)} (h : OwnVRT w base top v zss) (hb : ∀ k, base ≤ k → k < w.heap.size → w'.heap[k]? = w.heap[k]?) (hs : w.heap.size ≤ w'.heap.size) : OwnVRT w' base top v zss := by
  obtain ⟨B, C, h1, h2, h3, h4⟩ := h
  exact ⟨B, C, row_kept h1 hb, fun j hj => ⟨(h2 j hj).1.keptIn hb hs rfl, (h2 j hj).2⟩, h3, h4⟩

set_option maxHeartbeats 1000000 in
/-- 'append([][]T{}, rows...)': a new slice of the same rows. -/
theorem wpList_catR {w1 : World} {ops : Array Oper} {rest : List Oper} {o : Oper} {a : Act} {Q : Exit → Act → World → Prop} (hgd : o.guard = none) (s x : Operand)
    (ho : o.op = .call { callee := .builtin .append, args := #[s, x], argTypes := #[33, 33] })
    (base top : Nat) (v : Value) (zss : List (List Int)) (hv : a.eval x = v) (h : OwnVRT w1 base top v zss) (hs : a.eval s = .slice (some ⟨w1.heap.size, 0, none⟩) 0 0) (hn : zss.length ≤ 1048576) (hbase : base ≤ w1.heap.size)
    (hK : ∀ v' w2, OwnVRT w2 base top v' zss → Below w1.heap.size w1 w2 → wpList Tryd.prog ops Q rest (a.put o.dst v') w2) :
    wpList Tryd.prog ops Q (o :: rest) a (w1.alloc (.cells #[] 24)) := by
  obtain ⟨i0, hi0, hz0, hz1, hz2⟩ := info_parts rows_info
  obtain ⟨B, C, g1, g2, g3, g4⟩ := h
  have hE : (w1.alloc (.cells #[] 24)).ownsRow w1.heap.size 24 1 (.slice (some ⟨w1.heap.size, 0, none⟩) 0 0) 0 [] :=
    ⟨by simp, .inr ⟨w1.heap.size, 0, #[], rfl, Nat.le_refl _, heap_alloc_new w1 _, Nat.le_refl _, Nat.zero_le _, by simp, by simp⟩⟩
  have ba : Below w1.heap.size w1 (w1.alloc (.cells #[] 24)) := (Below.refl _ _).alloc (Nat.le_refl _) _
  rcases g1.2 with ⟨rfl, h0⟩ | ⟨g, cap, cur, rfl, hg, hh, hcap, hmax, hsz, ht⟩
  · have hz : zss = [] := List.eq_nil_of_length_eq_zero h0
    subst hz
    refine wpList_append_own_none hgd s x 33 ho w1.heap.size 24 i0 1 Tryd.underlying33 hi0 _ 0 [] hs hE hv ?_
    refine hK _ _ ⟨fun _ => none, fun _ => 0, ?_, fun j hj => absurd hj (by simp), fun i j _ hj => absurd hj (by simp), fun j hj => absurd hj (by simp)⟩ ba
    exact ⟨by simp [rowV], .inr ⟨w1.heap.size, 0, #[], rfl, hbase, heap_alloc_new w1 _, Nat.le_refl _, Nat.zero_le _, by simp, by simp [rowV]⟩⟩
  · have hgl := lt_of_block hh
    have hrl : (rowV B C zss).length = zss.length := by simp [rowV]
    refine wpList_append_own _ hgd s x 33 ho w1.heap.size 24 i0 (.slice none 0 0) 1 24 Tryd.underlying33 hi0 hz0 hz1 hz2 rfl (by decide) _ 0 [] hs hE
      ⟨g, 0, none⟩ zss.length cap (rowV B C zss) hv (by rw [hrl, Nat.mul_one]) ?_ ?_ ?_ ?_ ?_ ?_
    · intro j u hj
      have hjl : j < zss.length := by
        rcases Nat.lt_or_ge j zss.length with q | q
        · exact q
        · rw [List.getElem?_eq_none (by rw [hrl]; exact q)] at hj; cases hj
      have hadd : (⟨g, 0, none⟩ : Addr).add j = ⟨g, j, none⟩ := by unfold Addr.add; split <;> simp_all
      rw [hadd, cell_of_row _ _ _ _ _ _ ((Below.heap_alloc w1 _ g hgl).trans hh)]
      rw [← ht, List.getElem?_take, if_pos (by omega)] at hj
      simpa using hj
    · intro u hu
      simp only [rowV, List.mem_map] at hu
      obtain ⟨q, _, rfl⟩ := hu
      rfl
    · unfold maxLen; omega
    · omega
    · simp
    · intro v' w2 k1 k2 _
      have hb2 : Below w1.heap.size w1 w2 := ba.grown k2 (by simp) (by intro k hk; simp [Value.ownBlock] at hk; omega)
      refine hK v' w2 ⟨B, C, ?_, fun j hj => ⟨(g2 j hj).1.keptIn (fun k _ hk => hb2.block k hk) hb2.size rfl, (g2 j hj).2⟩, g3, g4⟩ hb2
      rw [Nat.zero_add, List.nil_append] at k1
      refine ⟨k1.1, ?_⟩
      rcases k1.2 with q | ⟨g', cap', cur', e1, e2, e3⟩
      · exact .inl q
      · exact .inr ⟨g', cap', cur', e1, Nat.le_trans hbase e2, e3⟩

set_option maxHeartbeats 1000000 in
theorem wp_pushRT {w1 : World} {o : Oper} {a : Act} {K : Act → World → Prop} {Q : Exit → Act → World → Prop} (s x : Operand)
    (ho : o.op = .call { callee := .builtin .append, args := #[s, x], argTypes := #[33, 33] })
    (base : Nat) (v : Value) (zss : List (List Int)) (hs : a.eval s = v) (top : Nat) (h : OwnVRT w1 base top v zss)
    (D : Option Addr) (c : Nat) (ys : List Int) (hr : Own w1 top w1.heap.size D ys.length ys) (hc : ys.length ≤ c) (hp : Plain D c)
    (hx : a.eval x = .slice (some ⟨w1.heap.size, 0, none⟩) 1 1) (hn : zss.length ≤ 1048576) (hbt : base ≤ top) (hbase : base ≤ w1.heap.size)
    (hK : ∀ v' w2, OwnVR w2 base v' (zss ++ [ys]) → Below base w1 w2 → (∀ (lo : Nat) (A : Option Addr) (n : Nat) (zs : List Int), Own w1 lo w1.heap.size A n zs → Own w2 lo w2.heap.size A n zs) → K (a.put o.dst v') w2) :
    o.wp Tryd.prog a (w1.alloc (.cells #[.slice D ys.length c] 24)) K Q := by
  obtain ⟨i0, hi0, hz0, hz1, hz2⟩ := info_parts rows_info
  have h1 := h.to
  obtain ⟨B, C, g1, g2, g3, g4⟩ := h
  have g1' := g1
  refine wp_append_own _ s x 33 ho base 24 i0 (.slice none 0 0) 1 24 Tryd.underlying33 hi0 hz0 hz1 hz2 rfl (by decide) v zss.length (rowV B C zss) hs (World.ownsRow.alloc g1' _)
    ⟨w1.heap.size, 0, none⟩ 1 1 [.slice D ys.length c] hx rfl ?_ ?_ ?_ ?_ ?_ ?_
  · intro j u hj
    match j, hj with
    | 0, hj => simp at hj; subst hj; simp [Addr.add]
  · intro u hu; simp at hu; subst hu; rfl
  · unfold maxLen; omega
  · omega
  · simp; omega
  · intro v' w2 k1 k2 _
    have hbl := h1.block
    have hb1 : Below base w1 (w1.alloc (.cells #[.slice D ys.length c] 24)) := (Below.refl _ _).alloc (by omega) _
    have hfar : ∀ {lo : Nat} {A : Option Addr} {n : Nat} {zs : List Int}, Own w1 lo w1.heap.size A n zs → Own w2 lo w2.heap.size A n zs := by
      intro lo A n zs hO
      refine ⟨hO.1, fun hn0 => ?_⟩
      obtain ⟨b, cs, e, l1, l2, hb, hcs⟩ := hO.2 hn0
      have hne : v.ownBlock ≠ some b := by
        intro ev
        rcases g1'.2 with ⟨rfl, _⟩ | ⟨g, cap, cur, rfl, _, hh, _⟩
        · simp [Value.ownBlock] at ev
        · simp [Value.ownBlock] at ev
          subst ev
          rw [hb] at hh
          injection hh with hh
          injection hh with _ ht _
          exact rowsT_ne ht.symm
      have hsz := k2.size
      have hbk : w2.heap[b]? = w1.heap[b]? := (k2.block b (by simp; omega) (fun e => hne e.symm)).trans (Below.heap_alloc _ _ _ l2)
      exact ⟨b, cs, e, l1, by simp at hsz; omega, hbk.trans hb, hcs⟩
    refine hK v' w2 ?_ (hb1.grown k2 (by simp; omega) hbl) (fun lo A n zs hO => hfar hO)
    refine ⟨fun j => if j < zss.length then B j else D, fun j => if j < zss.length then C j else c, ?_, fun j hj => ?_, fun i j hij hj hi hj0 p q hp1 hq1 => ?_⟩
    · rw [← rowV_snoc, List.length_append, List.length_singleton]; exact k1
    · rw [List.length_append, List.length_singleton] at hj
      dsimp only
      rw [getD_snoc]
      by_cases e : j < zss.length
      · rw [if_pos e, if_pos e, if_pos e]
        obtain ⟨q1, q2⟩ := g2 j e
        exact ⟨hfar q1, q2⟩
      · have e' : j = zss.length := by omega
        rw [if_neg e, if_neg e, if_neg e, if_pos e']
        exact ⟨hfar (hr.more hbt (Nat.le_refl _)), hc, hp⟩
    · rw [List.length_append, List.length_singleton] at hj
      have ei : i < zss.length := by omega
      dsimp only at hp1 hq1
      rw [if_pos ei] at hp1
      rw [getD_snoc, if_pos ei] at hi
      by_cases e : j < zss.length
      · rw [if_pos e] at hq1
        rw [getD_snoc, if_pos e] at hj0
        exact g3 i j hij e hi hj0 p q hp1 hq1
      · rw [if_neg e] at hq1
        have e' : j = zss.length := by omega
        rw [getD_snoc, if_neg e, if_pos e'] at hj0
        obtain ⟨d, ds, ed, m1, m2, hd, _⟩ := hr.2 hj0
        rw [hq1] at ed
        injection ed with ed
        have := g4 i ei hi p hp1
        rw [ed]
        show p.block ≠ d
        omega

theorem wpList_pushRT {w1 : World} {ops : Array Oper} {rest : List Oper} {o : Oper} {a : Act} {Q : Exit → Act → World → Prop} (hgd : o.guard = none) (s x : Operand)
    (ho : o.op = .call { callee := .builtin .append, args := #[s, x], argTypes := #[33, 33] })
    (base : Nat) (v : Value) (zss : List (List Int)) (hs : a.eval s = v) (top : Nat) (h : OwnVRT w1 base top v zss)
    (D : Option Addr) (c : Nat) (ys : List Int) (hr : Own w1 top w1.heap.size D ys.length ys) (hc : ys.length ≤ c) (hp : Plain D c)
    (hx : a.eval x = .slice (some ⟨w1.heap.size, 0, none⟩) 1 1) (hn : zss.length ≤ 1048576) (hbt : base ≤ top) (hbase : base ≤ w1.heap.size)
    (hK : ∀ v' w2, OwnVR w2 base v' (zss ++ [ys]) → Below base w1 w2 → (∀ (lo : Nat) (A : Option Addr) (n : Nat) (zs : List Int), Own w1 lo w1.heap.size A n zs → Own w2 lo w2.heap.size A n zs) → wpList Tryd.prog ops Q rest (a.put o.dst v') w2) :
    wpList Tryd.prog ops Q (o :: rest) a (w1.alloc (.cells #[.slice D ys.length c] 24)) :=
  wpList_plain hgd fun _ hK' => wp_pushRT s x ho base v zss hs top h D c ys hr hc hp hx hn hbt hbase fun v' w2 h1 h2 h3 => hK' _ _ (hK v' w2 h1 h2 h3)

/-- The two boxes of DealOfNumbers: its result, and the deal that it makes. -/
structure BoxD (w wr : World) (r v : Value) : Prop where
  b0 : wr.heap[w.heap.size]? = some (.cells #[r] 35 (0, 0))
  b1 : wr.heap[w.heap.size + 1]? = some (.cells #[v] 35 (0, 0))
section
variable {w wr w' : World} {r v : Value}
theorem BoxD.c0 (h : BoxD w wr r v) : wr.cell? ⟨w.heap.size, 0, none⟩ = some r := by rw [cell_of_row _ _ _ _ _ _ h.b0]; rfl
theorem BoxD.c1 (h : BoxD w wr r v) : wr.cell? ⟨w.heap.size + 1, 0, none⟩ = some v := by rw [cell_of_row _ _ _ _ _ _ h.b1]; rfl
theorem BoxD.f0 (h : BoxD w wr r v) : wr.frozen? ⟨w.heap.size, 0, none⟩ = false := by simp [World.frozen?, h.b0]
theorem BoxD.f1 (h : BoxD w wr r v) : wr.frozen? ⟨w.heap.size + 1, 0, none⟩ = false := by simp [World.frozen?, h.b1]
theorem BoxD.below (h : BoxD w wr r v) (b : Below (w.heap.size + 2) wr w') : BoxD w w' r v := ⟨(b.block _ (by omega)).trans h.b0, (b.block _ (by omega)).trans h.b1⟩
theorem BoxD.still (h : BoxD w wr r v) (c : Chg wr w' 0 0) : BoxD w w' r v := ⟨(c.block _ (lt_of_block h.b0) (.inr (Nat.zero_le _))).trans h.b0, (c.block _ (lt_of_block h.b1) (.inr (Nat.zero_le _))).trans h.b1⟩
theorem BoxD.put (h : BoxD w wr r v) (u : Value) : BoxD w (wr.setCell ⟨w.heap.size + 1, 0, none⟩ u) r u :=
  ⟨(Below.heap_setCell _ _ _ _ (by show w.heap.size ≠ w.heap.size + 1; omega)).trans h.b0, by simp [World.setCell, Array.getElem?_modify, h.b1]⟩
theorem BoxD.ret (h : BoxD w wr r v) (u : Value) : (wr.setCell ⟨w.heap.size, 0, none⟩ u).cell? ⟨w.heap.size, 0, none⟩ = some u := by
  rw [cell_of_row _ _ _ #[u] 35 (0, 0) (by simp [World.setCell, Array.getElem?_modify, h.b0])]; rfl
theorem BoxD.start (w : World) (r v : Value) : BoxD w ((w.alloc (.cells #[r] 35)).alloc (.cells #[v] 35)) r v := by
  have e : (w.alloc (.cells #[r] 35)).heap.size = w.heap.size + 1 := by simp
  refine ⟨(Below.heap_alloc _ _ _ (by omega)).trans (heap_alloc_new w _), ?_⟩
  have := heap_alloc_new (w.alloc (.cells #[r] 35)) (.cells #[v] 35)
  rwa [e] at this
end
theorem dealT_ne : (35 : TypeId) ≠ 2 := by decide
/-- A row keeps its cells where a deal's box is written. -/
theorem Own.box {w : World} {lo hi g : Nat} {A : Option Addr} {n : Nat} {zs : List Int} {cs : Array Value} {fr : Nat × Nat} (h : Own w lo hi A n zs) (hg : w.heap[g]? = some (.cells cs 35 fr)) (u : Value) : Own (w.setCell ⟨g, 0, none⟩ u) lo hi A n zs :=
  ⟨h.1, fun hn => by
    obtain ⟨b, ds, e, h1, h2, hb, hc⟩ := h.2 hn
    have hne : b ≠ g := fun e' => by
      subst e'
      rw [hb] at hg
      injection hg with hg
      injection hg with _ ht _
      exact dealT_ne ht.symm
    exact ⟨b, ds, e, h1, h2, (Below.heap_setCell _ _ _ _ hne).trans hb, hc⟩⟩
end Go.Proofs.YteojdlacdnfgiaaDoor.Lib1
