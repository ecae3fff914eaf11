/- Contracts of the library functions that the program's hands go through, at slices of int64: slices.BinarySearch, slices.Grow of nil, slices.Concat. -/
import Derived.Test.YtgoaikamolcffaaDoorOwn
import Derived.Test.YtgoaikamolcffaaDoorLaw
import Derived.WalkSpells
import Derived.Lib.AppendZerosOnto
import Derived.Laws.AppendOwnNone
namespace Go.Proofs.YtgoaikamolcffaaDoor.Lib1
open Go.RowKit




/-- The place of x in an increasing list. -/
structure Place (zs : List Int) (x : Int) (k : Nat) : Prop where
  le : k ≤ zs.length
  below : ∀ j, j < k → zs.getD j 0 < x
  above : ∀ j, k ≤ j → j < zs.length → x ≤ zs.getD j 0

def RetPlace (zs : List Int) (x : Int) (w : World) (e : Ending) (w' : World) : Prop :=
  ∃ k : Nat, Place zs x k ∧ e = .returned (.tuple #[.int .i64 k, .bool (decide (k < zs.length ∧ zs.getD k 0 = x))]) ∧ w = w'





/-- 'out = append(out, xs...)', out the call's own, xs any slice that reads as ys. -/
theorem wpList_cat {w : World} {ops : Array Oper} {rest : List Oper} {o : Oper} {a : Act} {Q : Exit → Act → World → Prop} (hgd : o.guard = none) (s x : Operand)
    (ho : o.op = .call { callee := .builtin .append, args := #[s, x], argTypes := #[24, 24] })
    (base : Nat) (v : Value) (zs : List Int) (hs : a.eval s = v) (hown : OwnV w base v zs) (lo hi : Nat) (A : Option Addr) (m c : Nat) (ys : List Int)
    (hx : a.eval x = .slice A m c) (hnil : A = none → c = 0) (hr : Rd w lo hi A m ys) (hn : zs.length + m ≤ 1048576) (hbase : base ≤ w.heap.size)
    (h : ∀ v' w', OwnV w' base v' (zs ++ ys) → Below base w w' → wpList Tryd.prog ops Q rest (a.put o.dst v') w') : wpList Tryd.prog ops Q (o :: rest) a w := by
  obtain ⟨i0, hi0, hz0, hz1, hz2⟩ := info_parts cells_info
  have hm := hr.1
  cases A with
  | none =>
    have h0 : m = 0 := by
      rcases Nat.eq_zero_or_pos m with e | e
      · exact e
      · obtain ⟨b, off, e', _⟩ := hr.2 e; cases e'
    subst h0
    have hy : ys = [] := List.eq_nil_of_length_eq_zero hm
    subst hy
    obtain rfl := hnil rfl
    refine wpList_append_own_none hgd s x 24 ho base 2 i0 1 Tryd.underlying24 hi0 v zs.length (zs.map (Value.int .i64)) hs hown hx ?_
    exact h v w (by simpa using hown) (Below.refl _ _)
  | some ad =>
    refine wpList_append_own _ hgd s x 24 ho base 2 i0 (.int .i64 0) 1 8 Tryd.underlying24 hi0 hz0 hz1 hz2 rfl (by decide) v zs.length (zs.map (Value.int .i64)) hs hown
      ad m c (ys.map (Value.int .i64)) hx (by simpa using hm) ?_ ?_ ?_ ?_ hbase ?_
    · intro j u hj
      have hj' : j < ys.length := by
        rcases Nat.lt_or_ge j ys.length with e | e
        · exact e
        · rw [List.getElem?_eq_none (by simpa using e)] at hj; cases hj
      obtain ⟨b, off, e, _, _, hc⟩ := hr.2 (by omega)
      injection e with e
      subst e
      have hplain : (⟨b, off, none⟩ : Addr).add j = ⟨b, off + j, none⟩ := by unfold Addr.add; split <;> simp_all
      rw [hplain, hc j (by omega)]
      simp [List.getElem?_eq_getElem hj'] at hj
      rw [← hj]
      simp [List.getD, List.getElem?_eq_getElem hj']
    · intro u hu
      obtain ⟨q, _, rfl⟩ := List.mem_map.1 hu
      rfl
    · unfold maxLen; omega
    · omega
    · intro v' w' h1 h2 _
      refine h v' w' ?_ ((Below.refl _ _).grown h2 hbase hown.block)
      unfold OwnV
      rw [List.length_append, List.map_append, hm]
      exact h1

/-- The first k parts, one behind the other. -/
def catTo (pz : Nat → List Int) (k : Nat) : List Int := ((List.range k).map pz).flatten
theorem catTo_succ (pz : Nat → List Int) (k : Nat) : catTo pz (k + 1) = catTo pz k ++ pz k := by simp [catTo, List.range_succ]
theorem catTo_le (pz : Nat → List Int) : ∀ {k m : Nat}, k ≤ m → (catTo pz k).length ≤ (catTo pz m).length := by
  intro k m h
  induction h with
  | refl => exact Nat.le_refl _
  | step _ ih => rw [catTo_succ]; simp; omega


end Go.Proofs.YtgoaikamolcffaaDoor.Lib1
