/- 'rows[i] = append(rows[i], z)' by equations of the run; what stays where something that is no cells turns. -/
import Derived.Test.YtdfmkikngifjmaaGrow5
import Derived.Test.YtdfmkikngifjmaaRound
import Derived.Lib.Hide
namespace Go.Proofs.Ytdfmkikngifjmaa.Lib1
open Go.RowKit
set_option maxRecDepth 100000

theorem run_pushQ {w : World} (base : Nat) {v : Value} {zs : List Int} (hown : OwnV w base v zs) (z : Int) (hn : zs.length ≤ 1048576) (hbase : base ≤ w.heap.size) :
    ∃ v' w', (Builtin.append_ #[40, 40] 40 #[v, .slice (some ⟨w.heap.size, 0, none⟩) 1 1]).run Try.prog (w.alloc (.cells #[.int .i64 z] 2)) = .ok v' w' ∧
      OwnV w' base v' (zs ++ [z]) ∧ Below base w w' ∧ (∀ k, k < w.heap.size → v.ownBlock ≠ some k → w'.heap[k]? = w.heap[k]?) ∧ (v'.ownBlock = v.ownBlock ∨ ∀ k, v'.ownBlock = some k → w.heap.size ≤ k) := by
  obtain ⟨i0, hi0, hz0, hz1, hz2⟩ := info_parts cells_info
  obtain ⟨v', w', hr, h1, h2, _, h4⟩ := run_append_own_at (P := Try.prog) (w.alloc (.cells #[.int .i64 z] 2)) base 40 40 2 i0 (.int .i64 0) 1 8 Try.underlying40 hi0 hz0 hz1 hz2 rfl (by decide) v zs.length (zs.map (Value.int .i64)) (hown.alloc _)
    ⟨w.heap.size, 0, none⟩ 1 1 [.int .i64 z] rfl (cell_one_new _ _ _) (by intro u hu; simp at hu; subst hu; rfl) (by unfold maxLen; omega) (by omega) (by simp; omega)
  refine ⟨v', w', hr, by unfold OwnV; simpa using h1, ?_, ?_, ?_⟩
  · have hb : Below base w (w.alloc (.cells #[.int .i64 z] 2)) := (Below.refl _ _).alloc hbase _
    exact hb.grown h2 (by simp; omega) hown.block
  · intro k hk hne
    exact (h2.block k (by simp; omega) (fun e => hne e.symm)).trans (Below.heap_alloc w _ k hk)
  · rcases h4 with q | q
    · exact .inl q
    · refine .inr fun k hk => ?_
      rw [hk] at q
      injection q with q
      simp at q
      omega
/-- An append whose run is known, as an operation. -/
theorem op_append {P : Program} {w w' : World} {ops : Array Oper} {o : Oper} {a : Act} {K : Act → World → Prop} {Q : Exit → Act → World → Prop} {E : Prop} (hgd : o.guard = none) (s x : Operand) (t : TypeId)
    (ho : o.op = .call { callee := .builtin .append, args := #[s, x], argTypes := #[t, t] }) (v1 v2 v' : Value) (hs : a.eval s = v1) (hx : a.eval x = v2)
    (hr : (Builtin.append_ #[t, t] o.type #[v1, v2]).run P w = .ok v' w') (h : K (a.put o.dst v') w') : if Region.wanted o (yielded ops a.tmps) = true then Oper.wp P o a w K Q else E := by
  rw [if_pos (by simp only [Region.wanted, hgd])]
  unfold Oper.wp execOp
  simp only [ho, resolve, invoke, builtin, Sem.run_bind, Sem.run_pure, Result.andThen_ok, List.map_toArray, List.map_cons, List.map_nil, hs, hx, hr]
  exact h
theorem cells_kept {W W' : World} {row : Option Nat} (hg : W.grownBy W' row) (hr : ∀ r, row = some r → ∃ o : Obj, W.heap[r]? = some o ∧ o.isCells = false) {k : Nat} {cs : Array Value} {t : TypeId} {fr : Nat × Nat} (h : W.heap[k]? = some (.cells cs t fr)) : W'.heap[k]? = some (.cells cs t fr) :=
  (hg.block k (lt_of_block h) (fun e => by
    obtain ⟨o, ho, hc⟩ := hr k e.symm
    rw [h] at ho
    cases ho
    cases hc)).trans h
theorem OwnVQ.cells {w w' : World} {base : Nat} {v : Value} {zss : List (List Int)} (h : OwnVQ w base v zss) (hk : ∀ (k : Nat) (cs : Array Value) (t : TypeId) (fr : Nat × Nat), w.heap[k]? = some (.cells cs t fr) → w'.heap[k]? = some (.cells cs t fr)) : OwnVQ w' base v zss := by
  obtain ⟨vs, h1, h2, h3⟩ := h
  refine ⟨vs, ⟨h1.1, ?_⟩, fun j hj => (h2 j hj).keep fun k hk' => ?_, h3⟩
  · rcases h1.2 with h0 | ⟨g, cap, cur, hv, hg, hh, r⟩
    · exact .inl h0
    · exact .inr ⟨g, cap, cur, hv, hg, hk _ _ _ _ hh, r⟩
  · obtain ⟨_, _, cur, hc⟩ := (h2 j hj).blockT hk'
    rw [hc]; exact hk _ _ _ _ hc
/-- Four rows, none of them there yet. -/
def nil4 : Array Value := #[.slice none 0 0, .slice none 0 0, .slice none 0 0, .slice none 0 0]
theorem make4 (w : World) : (Instr.makeSlice 22 (.int .i64 4) (.int .i64 4)).run Try.prog w = .ok (.slice (some ⟨w.heap.size, 0, none⟩) 4 4) (w.alloc (.cells nil4 40)) := by
  obtain ⟨i0, hi0, hz0, hz1, hz2⟩ := info_parts rows_info
  have hr := run_make (P := Try.prog) w 22 40 i0 (.slice none 0 0) Try.underlying22 hi0 hz0 .i64 .i64 4 4 (by omega) (by omega) (by rw [hz2]; omega) (by omega)
  have e : madeCells #[.slice none 0 0] 4 = nil4 := by kernel_rfl
  rw [← e]
  simpa [hz1, Value.cells] using hr
theorem OwnVQ.nil4 (w : World) {base : Nat} (hb : base ≤ w.heap.size) : OwnVQ (w.alloc (.cells nil4 40)) base (.slice (some ⟨w.heap.size, 0, none⟩) 4 4) [[], [], [], []] := by
  refine ⟨Lib1.nil4.toList, ⟨by simp [Lib1.nil4], .inr ⟨w.heap.size, 4, Lib1.nil4, rfl, hb, heap_alloc_new w _, by simp, by unfold maxLen; omega, by simp [Lib1.nil4], by simp [Lib1.nil4]⟩⟩, fun j hj => ?_, fun i j hij hj k hk => ?_⟩
  · have hj : j < 4 := hj
    rcases (by omega : j = 0 ∨ j = 1 ∨ j = 2 ∨ j = 3) with rfl | rfl | rfl | rfl <;> exact OwnV.nil_ _ _
  · have hj : j < 4 := hj
    rcases (by omega : i = 0 ∨ i = 1 ∨ i = 2 ∨ i = 3) with rfl | rfl | rfl | rfl <;> simp [Lib1.nil4, Value.ownBlock] at hk

end Go.Proofs.Ytdfmkikngifjmaa.Lib1
