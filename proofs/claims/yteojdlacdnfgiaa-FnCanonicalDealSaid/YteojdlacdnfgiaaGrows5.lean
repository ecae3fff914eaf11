/- Slices of slices of the call's own whose rows grow in place. No function of the program. 'rows[i] = append(rows[i], z)' by equations of the run; what stays where something that is no cells turns. -/
import Derived.Test.YteojdlacdnfgiaaNests
import Derived.Test.YteojdlacdnfgiaaS03o
import Derived.Maps.AppendAt
import Derived.Test.YteojdlacdnfgiaaRange5
import Derived.Lib.Hide
namespace Go.Proofs.Yteojdlacdnfgiaa.Lib1

section
open Go.RowKit
set_option maxRecDepth 100000

theorem OwnV.blockT {w : World} {base : Nat} {v : Value} {zs : List Int} (h : OwnV w base v zs) {k : Nat} (hk : v.ownBlock = some k) : base ≤ k ∧ k < w.heap.size ∧ ∃ cur, w.heap[k]? = some (.cells cur 2 (0, 0)) := by
  rcases h.2 with ⟨rfl, _⟩ | ⟨g, cap, cur, rfl, hg, hh, _⟩
  · simp [Value.ownBlock] at hk
  · simp [Value.ownBlock] at hk
    subst hk
    exact ⟨hg, lt_of_block hh, cur, hh⟩
theorem OwnV.keep {w w' : World} {base : Nat} {v : Value} {zs : List Int} (h : OwnV w base v zs) (hk : ∀ k, v.ownBlock = some k → w'.heap[k]? = w.heap[k]?) : OwnV w' base v zs := by
  refine ⟨h.1, ?_⟩
  rcases h.2 with h0 | ⟨g, cap, cur, hv, hg, hh, r⟩
  · exact .inl h0
  · exact .inr ⟨g, cap, cur, hv, hg, (hk g (by rw [hv]; rfl)).trans hh, r⟩
theorem OwnV.one {w : World} {base : Nat} {v : Value} {zs : List Int} (h : OwnV w base v zs) : v.oneCell' = true := by
  rcases h.2 with ⟨rfl, _⟩ | ⟨g, cap, cur, rfl, _⟩ <;> rfl
/-- A slice that a call has just laid, element by element. -/
theorem OwnV.new (w : World) (zs : List Int) (cs : Array Value) (hc : cs.toList = zs.map (Value.int .i64)) (hn : zs.length ≤ 1048576) {base : Nat} (hb : base ≤ w.heap.size) :
    OwnV (w.alloc (.cells cs 2)) base (.slice (some ⟨w.heap.size, 0, none⟩) zs.length zs.length) zs :=
  ⟨by simp, .inr ⟨w.heap.size, zs.length, cs, rfl, hb, heap_alloc_new w _, Nat.le_refl _, by unfold maxLen; omega, by rw [← Array.length_toList, hc]; simp, by rw [hc]; exact List.take_of_length_le (by simp)⟩⟩

/-- Rows of the call's own, each of which may grow. -/
def OwnVQ (w : World) (base : Nat) (v : Value) (zss : List (List Int)) : Prop := ∃ vs : List Value,
  w.ownsRow base 24 1 v zss.length vs ∧
  (∀ j, j < zss.length → OwnV w base (vs.getD j undef) (zss.getD j [])) ∧
  ∀ i j, i < j → j < zss.length → ∀ k, (vs.getD i undef).ownBlock = some k → (vs.getD j undef).ownBlock ≠ some k
theorem OwnVQ.nil_ (w : World) (base : Nat) : OwnVQ w base (.slice none 0 0) [] := ⟨[], ⟨by simp, .inl ⟨rfl, rfl⟩⟩, fun _ h => absurd h (by simp), fun _ _ _ h => absurd h (by simp)⟩
theorem OwnVQ.form {w : World} {base : Nat} {v : Value} {zss : List (List Int)} (h : OwnVQ w base v zss) : ∃ A c, v = .slice A zss.length c ∧ zss.length ≤ c ∧ Plain A c := by
  obtain ⟨vs, h1, _⟩ := h
  rcases h1.2 with ⟨rfl, h0⟩ | ⟨g, cap, cur, rfl, _, _, hc, _⟩
  · exact ⟨none, 0, by rw [h0], by omega, Plain.nil_⟩
  · exact ⟨_, cap, rfl, hc, Plain.at_ _ _ _⟩
theorem OwnVQ.kept {w w' : World} {base : Nat} {v : Value} {zss : List (List Int)} (h : OwnVQ w base v zss) (hb : ∀ k, base ≤ k → k < w.heap.size → w'.heap[k]? = w.heap[k]?) : OwnVQ w' base v zss := by
  obtain ⟨vs, h1, h2, h3⟩ := h
  exact ⟨vs, row_kept h1 hb, fun j hj => (h2 j hj).keep fun k hk => hb k ((h2 j hj).blockT hk).1 ((h2 j hj).blockT hk).2.1, h3⟩
theorem OwnVQ.block {w : World} {base : Nat} {v : Value} {zss : List (List Int)} (h : OwnVQ w base v zss) : ∀ k, v.ownBlock = some k → base ≤ k := by
  obtain ⟨vs, h1, _⟩ := h
  rcases h1.2 with ⟨rfl, _⟩ | ⟨g, cap, cur, rfl, hg, _⟩
  · intro k hk; simp [Value.ownBlock] at hk
  · intro k hk; simp [Value.ownBlock] at hk; omega
theorem spine_ne {w : World} {base base' n : Nat} {v u : Value} {vs : List Value} {zs : List Int} (h1 : w.ownsRow base 24 1 v n vs) (h2 : OwnV w base' u zs) {k : Nat} (hk : u.ownBlock = some k) : v.ownBlock ≠ some k := by
  intro hv
  obtain ⟨_, _, cur, hc⟩ := h2.blockT hk
  rcases h1.2 with ⟨rfl, _⟩ | ⟨g, cap, cur', rfl, _, hh, _⟩
  · simp [Value.ownBlock] at hv
  · simp [Value.ownBlock] at hv
    subst hv
    rw [hc] at hh
    injection hh with hh
    injection hh with _ ht _
    exact rowsT_ne ht.symm
/-- The rows at rest. -/
theorem OwnVQ.to {w : World} {base : Nat} {v : Value} {zss : List (List Int)} (h : OwnVQ w base v zss) : OwnVR w base v zss := by
  obtain ⟨vs, h1, h2, h3⟩ := h
  have hl : vs.length = zss.length := by have := h1.1; omega
  refine ⟨fun j => match vs.getD j undef with | .slice A _ _ => A | _ => none, fun j => match vs.getD j undef with | .slice _ _ c => c | _ => 0, ?_, fun j hj => ?_, fun i j hij hj hi0 hj0 x y hx hy => ?_⟩
  · have e : vs = rowV (fun j => match vs.getD j undef with | .slice A _ _ => A | _ => none) (fun j => match vs.getD j undef with | .slice _ _ c => c | _ => 0) zss := by
      apply List.ext_getElem
      · simp [rowV, hl]
      · intro j q1 q2
        obtain ⟨A, c, e, _⟩ := (h2 j (by omega)).form
        have e' : vs.getD j undef = vs[j] := by rw [List.getD_eq_getElem?_getD, List.getElem?_eq_getElem q1]; rfl
        simp only [rowV, List.getElem_map, List.getElem_range]
        rw [e, ← e', e]
    rw [← e]; exact h1
  · obtain ⟨A, c, e, hc, hp, ho⟩ := (h2 j hj).form
    dsimp only
    rw [e]
    exact ⟨ho, hc, hp⟩
  · obtain ⟨A, c, e, _⟩ := (h2 i (by omega)).form
    obtain ⟨A', c', e', _⟩ := (h2 j hj).form
    dsimp only at hx hy
    rw [e] at hx
    rw [e'] at hy
    dsimp only at hx hy
    subst hx hy
    intro hb
    exact h3 i j hij hj x.block (by rw [e]; rfl) (by rw [e', hb]; rfl)
theorem OwnVQ.own {w : World} {base : Nat} {v : Value} {zss : List (List Int)} (h : OwnVQ w base v zss) : ∃ A c, v = .slice A zss.length c ∧ zss.length ≤ c ∧ OwnR w base w.heap.size A zss.length zss := h.to.own

theorem vset_getD (vs : List Value) (j i : Nat) (u : Value) (hj : j < vs.length) : (vs.set j u).getD i undef = if i = j then u else vs.getD i undef := by
  simp only [List.getD_eq_getElem?_getD, List.getElem?_set]
  by_cases e : j = i
  · subst e; simp [hj]
  · rw [if_neg e, if_neg (fun q => e q.symm)]
/-- One row, which may grow: its cell, and what is left behind. -/
theorem OwnVQ.grow {w : World} {base : Nat} {v : Value} {zss : List (List Int)} (h : OwnVQ w base v zss) {j : Nat} (hj : j < zss.length) :
    ∃ b cap u, v = .slice (some ⟨b, 0, none⟩) zss.length cap ∧ base ≤ b ∧ b < w.heap.size ∧ w.cell? ⟨b, j, none⟩ = some u ∧ w.frozen? ⟨b, j, none⟩ = false ∧ OwnV w base u (zss.getD j []) ∧
      ∀ w2 u' ys, OwnV w2 base u' ys → (∀ k, k < w.heap.size → u.ownBlock ≠ some k → w2.heap[k]? = w.heap[k]?) → (u'.ownBlock = u.ownBlock ∨ ∀ k, u'.ownBlock = some k → w.heap.size ≤ k) →
        w2.cell? ⟨b, j, none⟩ = some u ∧ w2.frozen? ⟨b, j, none⟩ = false ∧ OwnVQ (w2.setCell ⟨b, j, none⟩ u') base v (zss.set j ys) := by
  obtain ⟨vs, h1, h2, h3⟩ := h
  have hl : vs.length = zss.length := by have := h1.1; omega
  have hk1 := h1
  rcases h1.2 with ⟨_, h0⟩ | ⟨b, cap, cur, rfl, hb, hh, hc1, hc2, hc3, ht⟩
  · omega
  · have hcur : ∀ i, i < zss.length → cur[i]? = some (vs.getD i undef) := fun i hi => by
      have e : (cur.toList.take (zss.length * 1))[i]? = vs[i]? := by rw [ht]
      rw [Nat.mul_one, List.getElem?_take_of_lt hi] at e
      rw [← Array.getElem?_toList, e, List.getD_eq_getElem?_getD, List.getElem?_eq_getElem (by omega)]; rfl
    have hne : (vs.getD j undef).ownBlock ≠ some b := fun e => spine_ne hk1 (h2 j hj) e rfl
    refine ⟨b, cap, vs.getD j undef, rfl, hb, lt_of_block hh, by rw [cell_of_row _ _ _ _ _ _ hh]; exact hcur j hj, by simp [World.frozen?, hh], h2 j hj, fun w2 u' ys ho hkeep hnew => ?_⟩
    have hh2 : w2.heap[b]? = some (.cells cur 24 (0, 0)) := (hkeep b (lt_of_block hh) hne).trans hh
    have hnb : u'.ownBlock ≠ some b := by
      intro e
      obtain ⟨_, _, cc, hcc⟩ := ho.blockT e
      rw [hcc] at hh2
      injection hh2 with q
      injection q with _ ht _
      exact rowsT_ne ht.symm
    refine ⟨by rw [cell_of_row _ _ _ _ _ _ hh2]; exact hcur j hj, by simp [World.frozen?, hh2], vs.set j u', ?_, fun i hi => ?_, fun i i' hii hi' k hk => ?_⟩
    · refine ⟨by simp [hl], .inr ⟨b, cap, cur.setIfInBounds j u', by simp, hb, by simp [World.setCell, Array.getElem?_modify, hh2], by simpa using hc1, hc2, by simpa using hc3, ?_⟩⟩
      rw [List.length_set, Nat.mul_one, Array.toList_setIfInBounds, List.take_set]
      congr 1
      rw [Nat.mul_one] at ht
      exact ht
    · rw [List.length_set] at hi
      rw [vset_getD _ _ _ _ (by omega), set_getD _ _ _ _ hj]
      by_cases e : i = j
      · rw [if_pos e, if_pos e]
        exact ho.keep fun k hk => Below.heap_setCell _ _ _ _ (by show k ≠ b; exact fun q => hnb (q ▸ hk))
      · rw [if_neg e, if_neg e]
        refine (h2 i hi).keep fun k hk => ?_
        have hkb : k ≠ b := fun q => spine_ne hk1 (h2 i hi) hk (by rw [q]; rfl)
        refine (Below.heap_setCell _ _ _ _ hkb).trans (hkeep k ((h2 i hi).blockT hk).2.1 ?_)
        intro q
        rcases Nat.lt_or_ge i j with hlt | hge
        · exact h3 i j hlt hj k hk q
        · exact h3 j i (by omega) hi k q hk
    · rw [List.length_set] at hi'
      rw [vset_getD _ _ _ _ (by omega)] at hk ⊢
      have old : ∀ m, m < zss.length → m ≠ j → ∀ q, (vs.getD m undef).ownBlock = some q → u'.ownBlock ≠ some q := by
        intro m hm hmj q hq hu
        rcases hnew with e | e
        · rw [e] at hu
          rcases Nat.lt_or_ge m j with hlt | hge
          · exact h3 m j hlt hj q hq hu
          · exact h3 j m (by omega) hm q hu hq
        · have := e q hu
          have := ((h2 m hm).blockT hq).2.1
          omega
      by_cases e : i = j
      · rw [if_pos e] at hk
        rw [if_neg (by omega)]
        intro q
        exact old i' hi' (by omega) k q hk
      · rw [if_neg e] at hk
        by_cases e' : i' = j
        · rw [if_pos e']; exact old i (by omega) e k hk
        · rw [if_neg e']; exact h3 i i' hii hi' k hk

/-- 'row = append(row, z)': what the appended slice owns, and where it lies. -/
theorem wpList_pushQ {w : World} {ops : Array Oper} {rest : List Oper} {o : Oper} {a : Act} {Q : Exit → Act → World → Prop} (hgd : o.guard = none) (s x : Operand)
    (ho : o.op = .call { callee := .builtin .append, args := #[s, x], argTypes := #[24, 24] })
    (base : Nat) (v : Value) (zs : List Int) (hs : a.eval s = v) (hown : OwnV w base v zs) (z : Int)
    (hx : a.eval x = .slice (some ⟨w.heap.size, 0, none⟩) 1 1) (hn : zs.length ≤ 1048576) (hbase : base ≤ w.heap.size)
    (h : ∀ v' w', OwnV w' base v' (zs ++ [z]) → Below base w w' → (∀ k, k < w.heap.size → v.ownBlock ≠ some k → w'.heap[k]? = w.heap[k]?) → (v'.ownBlock = v.ownBlock ∨ ∀ k, v'.ownBlock = some k → w.heap.size ≤ k) → wpList Try.prog ops Q rest (a.put o.dst v') w') : wpList Try.prog ops Q (o :: rest) a (w.alloc (.cells #[.int .i64 z] 2)) := by
  obtain ⟨i0, hi0, hz0, hz1, hz2⟩ := info_parts cells_info
  refine wpList_append_own_at _ hgd s x 24 ho base 2 i0 (.int .i64 0) 1 8 Try.underlying24 hi0 hz0 hz1 hz2 rfl (by decide) v zs.length (zs.map (Value.int .i64)) hs (hown.alloc _)
    ⟨w.heap.size, 0, none⟩ 1 1 [.int .i64 z] hx rfl ?_ ?_ ?_ ?_ ?_ ?_
  · intro j u hj
    match j, hj with
    | 0, hj => simp at hj; subst hj; simp [Addr.add]
  · intro u hu; simp at hu; subst hu; rfl
  · unfold maxLen; omega
  · omega
  · simp; omega
  · intro v' w' h1 h2 _ h4
    refine h v' w' ?_ ?_ ?_ ?_
    · unfold OwnV; simpa using h1
    · have hb : Below base w (w.alloc (.cells #[.int .i64 z] 2)) := (Below.refl _ _).alloc hbase _
      exact hb.grown h2 (by simp; omega) hown.block
    · intro k hk hne
      exact (h2.block k (by simp; omega) (fun e => hne e.symm)).trans (Below.heap_alloc w _ k hk)
    · rcases h4 with q | q
      · exact .inl q
      · refine .inr fun k hk => ?_
        rw [hk] at q
        injection q with q
        simp at q
        omega
/-- 'append(out, row)', the row younger than those of out. -/
theorem wpList_pushVQ {w w1 : World} {ops : Array Oper} {rest : List Oper} {o : Oper} {a : Act} {Q : Exit → Act → World → Prop} (hgd : o.guard = none) (s x : Operand)
    (ho : o.op = .call { callee := .builtin .append, args := #[s, x], argTypes := #[34, 34] })
    (base : Nat) (v : Value) (zss : List (List Int)) (hs : a.eval s = v) (h : OwnVQ w base v zss) (hk : ∀ k, base ≤ k → k < w.heap.size → w1.heap[k]? = w.heap[k]?) (hz : w.heap.size ≤ w1.heap.size)
    (u : Value) (ys : List Int) (hu : OwnV w1 w.heap.size u ys) (N : Nat) (hN : w1.heap.size = N) (hx : a.eval x = .slice (some ⟨N, 0, none⟩) 1 1) (hn : zss.length ≤ 1048576) (hbase : base ≤ w.heap.size)
    (hK : ∀ v' w2, OwnVQ w2 base v' (zss ++ [ys]) → Below base w1 w2 → wpList Try.prog ops Q rest (a.put o.dst v') w2) :
    wpList Try.prog ops Q (o :: rest) a (w1.alloc (.cells #[u] 24)) := by
  subst hN
  obtain ⟨i0, hi0, hz0, hz1, hz2⟩ := info_parts rows_info
  have hbl := h.block
  obtain ⟨vs, g1, g2, g3⟩ := h
  have hl : vs.length = zss.length := by have := g1.1; omega
  have g1' := row_kept g1 hk
  have hone := hu.one
  refine wpList_append_own_at _ hgd s x 34 ho base 24 i0 (.slice none 0 0) 1 24 Try.underlying34 hi0 hz0 hz1 hz2 rfl (by decide) v zss.length vs hs (World.ownsRow.alloc g1' _)
    ⟨w1.heap.size, 0, none⟩ 1 1 [u] hx rfl ?_ ?_ ?_ ?_ ?_ ?_
  · intro j x hj
    match j, hj with
    | 0, hj => simp at hj; subst hj; simp [Addr.add]
  · intro x hx; simp at hx; subst hx; exact hone
  · unfold maxLen; omega
  · omega
  · simp; omega
  · intro v' w2 k1 k2 _ _
    have hb1 : Below base w1 (w1.alloc (.cells #[u] 24)) := (Below.refl _ _).alloc (by omega) _
    have hkeep : ∀ {b' : Nat} {y : Value} {zs : List Int}, OwnV w1 b' y zs → OwnV w2 b' y zs := fun {b' y zs} hy => hy.keep fun k q => (k2.block k (by simp; have := (hy.blockT q).2.1; omega) (fun e => spine_ne g1' hy q e.symm)).trans (Below.heap_alloc _ _ _ (hy.blockT q).2.1)
    have hold : ∀ j, j < zss.length → OwnV w1 base (vs.getD j undef) (zss.getD j []) := fun j hj => (g2 j hj).keep fun k q => hk k ((g2 j hj).blockT q).1 ((g2 j hj).blockT q).2.1
    have hgd : ∀ j, (vs ++ [u]).getD j undef = if j < zss.length then vs.getD j undef else if j = zss.length then u else undef := fun j => by
      rw [← hl]
      simp only [List.getD_eq_getElem?_getD]
      by_cases q : j < vs.length
      · rw [List.getElem?_append_left q, if_pos q]
      · rw [if_neg q, List.getElem?_append_right (by omega)]
        by_cases e : j = vs.length
        · subst e; simp
        · rw [if_neg e, List.getElem?_eq_none (by simp; omega)]; rfl
    refine hK v' w2 ⟨vs ++ [u], by rw [List.length_append]; exact k1, fun j hj => ?_, fun i j hij hj k hk1 => ?_⟩ (hb1.grown k2 (by simp; omega) hbl)
    · rw [List.length_append, List.length_singleton] at hj
      rw [hgd, getD_snoc]
      by_cases e : j < zss.length
      · rw [if_pos e, if_pos e]; exact hkeep (hold j e)
      · have e' : j = zss.length := by omega
        rw [if_neg e, if_neg e, if_pos e', if_pos e']; exact hkeep (hu.more hbase)
    · rw [List.length_append, List.length_singleton] at hj
      rw [hgd] at hk1 ⊢
      rw [if_pos (by omega)] at hk1
      by_cases e : j < zss.length
      · rw [if_pos e]; exact g3 i j hij e k hk1
      · rw [if_neg e, if_pos (by omega)]
        intro q
        have := (hu.blockT q).1
        have := ((g2 i (by omega)).blockT hk1).2.1
        omega
end

section
open Go.RowKit
set_option maxRecDepth 100000

theorem run_pushQ {w : World} (base : Nat) {v : Value} {zs : List Int} (hown : OwnV w base v zs) (z : Int) (hn : zs.length ≤ 1048576) (hbase : base ≤ w.heap.size) :
    ∃ v' w', (Builtin.append_ #[24, 24] 24 #[v, .slice (some ⟨w.heap.size, 0, none⟩) 1 1]).run Try.prog (w.alloc (.cells #[.int .i64 z] 2)) = .ok v' w' ∧
      OwnV w' base v' (zs ++ [z]) ∧ Below base w w' ∧ (∀ k, k < w.heap.size → v.ownBlock ≠ some k → w'.heap[k]? = w.heap[k]?) ∧ (v'.ownBlock = v.ownBlock ∨ ∀ k, v'.ownBlock = some k → w.heap.size ≤ k) := by
  obtain ⟨i0, hi0, hz0, hz1, hz2⟩ := info_parts cells_info
  obtain ⟨v', w', hr, h1, h2, _, h4⟩ := run_append_own_at (P := Try.prog) (w.alloc (.cells #[.int .i64 z] 2)) base 24 24 2 i0 (.int .i64 0) 1 8 Try.underlying24 hi0 hz0 hz1 hz2 rfl (by decide) v zs.length (zs.map (Value.int .i64)) (hown.alloc _)
    ⟨w.heap.size, 0, none⟩ 1 1 [.int .i64 z] rfl (cell_one_new _ _ _) (by intro u hu; simp at hu; subst hu; rfl) (by unfold maxLen; omega) (by omega) (by simp; omega)
  refine ⟨v', w', hr, by unfold OwnV; simpa using h1, ?_, ?_, ?_⟩
  · have hb : Below base w (w.alloc (.cells #[.int .i64 z] 2)) := (Below.refl _ _).alloc hbase _
    exact hb.grown h2 (by simp; omega) hown.block
  · intro k hk hne
    exact (h2.block k (by simp; omega) (fun e => hne e.symm)).trans (Below.heap_alloc w _ k hk)
  · rcases h4 with q | q
    · exact .inl q
    · refine .inr fun k hk => ?_
      rw [hk] at q
      injection q with q
      simp at q
      omega
/-- An append whose run is known, as an operation. -/
theorem op_append {P : Program} {w w' : World} {ops : Array Oper} {o : Oper} {a : Act} {K : Act → World → Prop} {Q : Exit → Act → World → Prop} {E : Prop} (hgd : o.guard = none) (s x : Operand) (t : TypeId)
    (ho : o.op = .call { callee := .builtin .append, args := #[s, x], argTypes := #[t, t] }) (v1 v2 v' : Value) (hs : a.eval s = v1) (hx : a.eval x = v2)
    (hr : (Builtin.append_ #[t, t] o.type #[v1, v2]).run P w = .ok v' w') (h : K (a.put o.dst v') w') : if Region.wanted o (yielded ops a.tmps) = true then Oper.wp P o a w K Q else E := by
  rw [if_pos (by simp only [Region.wanted, hgd])]
  unfold Oper.wp execOp
  simp only [ho, resolve, invoke, builtin, Sem.run_bind, Sem.run_pure, Result.andThen_ok, List.map_toArray, List.map_cons, List.map_nil, hs, hx, hr]
  exact h
theorem cells_kept {W W' : World} {row : Option Nat} (hg : W.grownBy W' row) (hr : ∀ r, row = some r → ∃ o : Obj, W.heap[r]? = some o ∧ o.isCells = false) {k : Nat} {cs : Array Value} {t : TypeId} {fr : Nat × Nat} (h : W.heap[k]? = some (.cells cs t fr)) : W'.heap[k]? = some (.cells cs t fr) :=
  (hg.block k (lt_of_block h) (fun e => by
    obtain ⟨o, ho, hc⟩ := hr k e.symm
    rw [h] at ho
    cases ho
    cases hc)).trans h
theorem OwnVQ.cells {w w' : World} {base : Nat} {v : Value} {zss : List (List Int)} (h : OwnVQ w base v zss) (hk : ∀ (k : Nat) (cs : Array Value) (t : TypeId) (fr : Nat × Nat), w.heap[k]? = some (.cells cs t fr) → w'.heap[k]? = some (.cells cs t fr)) : OwnVQ w' base v zss := by
  obtain ⟨vs, h1, h2, h3⟩ := h
  refine ⟨vs, ⟨h1.1, ?_⟩, fun j hj => (h2 j hj).keep fun k hk' => ?_, h3⟩
  · rcases h1.2 with h0 | ⟨g, cap, cur, hv, hg, hh, r⟩
    · exact .inl h0
    · exact .inr ⟨g, cap, cur, hv, hg, hk _ _ _ _ hh, r⟩
  · obtain ⟨_, _, cur, hc⟩ := (h2 j hj).blockT hk'
    rw [hc]; exact hk _ _ _ _ hc
/-- Four rows, none of them there yet. -/
def nil4 : Array Value := #[.slice none 0 0, .slice none 0 0, .slice none 0 0, .slice none 0 0]
theorem make4 (w : World) : (Instr.makeSlice 34 (.int .i64 4) (.int .i64 4)).run Try.prog w = .ok (.slice (some ⟨w.heap.size, 0, none⟩) 4 4) (w.alloc (.cells nil4 24)) := by
  obtain ⟨i0, hi0, hz0, hz1, hz2⟩ := info_parts rows_info
  have hr := run_make (P := Try.prog) w 34 24 i0 (.slice none 0 0) Try.underlying34 hi0 hz0 .i64 .i64 4 4 (by omega) (by omega) (by rw [hz2]; omega) (by omega)
  have e : madeCells #[.slice none 0 0] 4 = nil4 := by kernel_rfl
  rw [← e]
  simpa [hz1, Value.cells] using hr
theorem OwnVQ.nil4 (w : World) {base : Nat} (hb : base ≤ w.heap.size) : OwnVQ (w.alloc (.cells nil4 24)) base (.slice (some ⟨w.heap.size, 0, none⟩) 4 4) [[], [], [], []] := by
  refine ⟨Lib1.nil4.toList, ⟨by simp [Lib1.nil4], .inr ⟨w.heap.size, 4, Lib1.nil4, rfl, hb, heap_alloc_new w _, by simp, by unfold maxLen; omega, by simp [Lib1.nil4], by simp [Lib1.nil4]⟩⟩, fun j hj => ?_, fun i j hij hj k hk => ?_⟩
  · have hj : j < 4 := hj
    rcases (by omega : j = 0 ∨ j = 1 ∨ j = 2 ∨ j = 3) with rfl | rfl | rfl | rfl <;> exact OwnV.nil_ _ _
  · have hj : j < 4 := hj
    rcases (by omega : i = 0 ∨ i = 1 ∨ i = 2 ∨ i = 3) with rfl | rfl | rfl | rfl <;> simp [Lib1.nil4, Value.ownBlock] at hk
end

end Go.Proofs.Yteojdlacdnfgiaa.Lib1
