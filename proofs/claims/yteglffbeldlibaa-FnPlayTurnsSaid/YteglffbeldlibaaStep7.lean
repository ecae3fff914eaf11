/- Steps of a region that draws its order: a store, a concatenation; rows kept. -/
import Derived.Test.YteglffbeldlibaaCall6
import Derived.Laws.AppendOwnNone
import Derived.OwnWalk
namespace Go.Proofs.Yteglffbeldlibaa.Lib1
open Go.RowKit
set_option maxRecDepth 100000

theorem step_of_wp7 {P : Program} {ops : Array Oper} {o : Oper} {a : Act} {w : World} {K : Act → World → Prop} {Q : Exit → Act → World → Prop} {E : Prop} (hg : o.guard = none) (h : o.wp P a w K Q) :
    if Region.wanted o (yielded ops a.tmps) = true then Oper.wp P o a w K Q else E := by
  have hw : Region.wanted o (yielded ops a.tmps) = true := by simp [Region.wanted, hg]
  rw [if_pos hw]; exact h
/-- 'append(out, xs...)' of numbers, in a region that draws; no other block turns. -/
theorem step_cat7 {w : World} {ops : Array Oper} {o : Oper} {a : Act} {K : Act → World → Prop} {Q : Exit → Act → World → Prop} {E : Prop} (hgd : o.guard = none) (s x : Operand)
    (ho : o.op = .call { callee := .builtin .append, args := #[s, x], argTypes := #[27, 27] })
    (base : Nat) (v : Value) (zs : List Int) (hs : a.eval s = v) (hown : OwnV w base v zs) (lo hi : Nat) (A : Option Addr) (m c : Nat) (ys : List Int)
    (hx : a.eval x = .slice A m c) (hnil : A = none → c = 0) (hr : Rd w lo hi A m ys) (hn : zs.length + m ≤ 1048577) (hbase : base ≤ w.heap.size)
    (h : ∀ v' w', OwnV w' base v' (zs ++ ys) → Below base w w' → (∀ k, k < w.heap.size → v.ownBlock ≠ some k → w'.heap[k]? = w.heap[k]?) → K (a.put o.dst v') w') :
    if Region.wanted o (yielded ops a.tmps) = true then Oper.wp Try.prog o a w K Q else E := by
  apply step_of_wp7 hgd
  obtain ⟨i0, hi0, hz0, hz1, hz2⟩ := info_parts cells_info
  have hm := hr.1
  cases A with
  | none =>
    have h0 : m = 0 := by
      rcases Nat.eq_zero_or_pos m with e | e
      · exact e
      · obtain ⟨b, off, e', _⟩ := hr.2 e; cases e'
    subst h0
    have hy : ys = [] := List.eq_nil_of_length_eq_zero hm
    subst hy
    obtain rfl := hnil rfl
    have hrun := run_append_owned_none (P := Try.prog) (w := w) base 27 o.type 2 i0 1 Try.underlying27 hi0 v zs.length (zs.map (Value.int .i64)) hown
    unfold Oper.wp
    simp [execOp, ho, resolve, invoke, builtin, hs, hx, hrun, Result.andThen]
    exact h v w (by simpa using hown) (Below.refl _ _) (fun _ _ _ => rfl)
  | some ad =>
    refine wp_append_own _ s x 27 ho base 2 i0 (.int .i64 0) 1 8 Try.underlying27 hi0 hz0 hz1 hz2 rfl (by decide) v zs.length (zs.map (Value.int .i64)) hs hown
      ad m c (ys.map (Value.int .i64)) hx (by simpa using hm) ?_ ?_ ?_ ?_ hbase ?_
    · intro j u hj
      have hj' : j < ys.length := by
        rcases Nat.lt_or_ge j ys.length with e | e
        · exact e
        · rw [List.getElem?_eq_none (by simpa using e)] at hj; cases hj
      obtain ⟨b, off, e, _, _, hc⟩ := hr.2 (by omega)
      injection e with e
      subst e
      have hplain : (⟨b, off, none⟩ : Addr).add j = ⟨b, off + j, none⟩ := by unfold Addr.add; split <;> simp_all
      rw [hplain, hc j (by omega)]
      simp [List.getElem?_eq_getElem hj'] at hj
      rw [← hj]
      simp [List.getD, List.getElem?_eq_getElem hj']
    · intro u hu
      obtain ⟨q, _, rfl⟩ := List.mem_map.1 hu
      rfl
    · unfold maxLen; omega
    · omega
    · intro v' w' h1 h2 _
      refine h v' w' ?_ ((Below.refl _ _).grown h2 hbase hown.block) (fun k hk hne => h2.block k hk (fun e => hne e.symm))
      unfold OwnV
      rw [List.length_append, List.map_append, hm]
      exact h1
theorem OwnV.lt7 {w : World} {base : Nat} {v : Value} {zs : List Int} (h : OwnV w base v zs) {k : Nat} (hk : v.ownBlock = some k) : k < w.heap.size := by
  rcases h.2 with ⟨rfl, _⟩ | ⟨g, cap, cur, rfl, _, hh, _⟩
  · simp [Value.ownBlock] at hk
  · simp [Value.ownBlock] at hk; subst hk; exact lt_of_block hh
theorem Rd.one7 {w : World} {e : Nat} {x : Int} (h : w.heap[e]? = some (.cells #[.int .i64 x] 2 (0, 0))) : Rd w 0 w.heap.size (some ⟨e, 0, none⟩) 1 [x] :=
  ⟨rfl, fun _ => ⟨e, 0, rfl, Nat.zero_le _, lt_of_block h, fun j hj => by
    have hj0 : j = 0 := by omega
    subst hj0
    rw [cell_of_row w e (0 + 0) _ _ _ h]
    rfl⟩⟩
theorem rowB {B : Nat} (w : World) {g : Nat} (hg : B ≤ g) (cs : Array Value) : Below B w (w.setRow g cs) := ⟨rfl, rfl, rfl, by rw [setRow_size]; exact Nat.le_refl _, fun k hk => setRow_other w g k cs (by omega)⟩
theorem OwnV.far {w : World} {base g : Nat} {v : Value} {zs : List Int} (h : OwnV w base v zs) (w' : World) (cs : Array Value) (hg : g < base) (hw : w = w' := by rfl) : OwnV (w'.setRow g cs) base v zs := by
  subst hw
  refine ⟨h.1, ?_⟩
  rcases h.2 with h0 | ⟨b, cap, cur, hv, hb, hh, r⟩
  · exact .inl h0
  · exact .inr ⟨b, cap, cur, hv, hb, (setRow_other w g b cs (by omega)).trans hh, r⟩
theorem OwnV.one8 (w : World) (x : Int) {base : Nat} (hb : base ≤ w.heap.size) : OwnV (w.alloc (.cells #[.int .i64 x] 2)) base (.slice (some ⟨w.heap.size, 0, none⟩) 1 1) [x] :=
  ⟨by simp, .inr ⟨w.heap.size, 1, #[.int .i64 x], rfl, hb, heap_alloc_new w _, by simp, by unfold maxLen; omega, by simp, by simp⟩⟩
end Go.Proofs.Yteglffbeldlibaa.Lib1
