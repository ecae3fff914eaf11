/- Chapter 3: the library's Contains and Clone at hands, and the program's mapEach at hands and cards, over function values taken by contracts. -/
import Derived.Test.YteojdlacdnfgiaaDoorS03o
import Derived.Test.YteojdlacdnfgiaaDoorBase2
import Derived.Laws.MakeOwn
import Derived.WalkSpells
import Derived.Shelf.Abstract
namespace Go.Proofs.YteojdlacdnfgiaaDoor.Lib1
open Go.RowKit
set_option maxRecDepth 100000

/-! ### Index, Contains, Clone -/




/-! ### mapEach -/
theorem make_room64 (n : Nat) (hn : n ≤ 1048576) (w : World) : (Instr.makeSlice 24 (.int .i64 0) (.int .i64 (n : Int))).run Tryd.prog w = .ok (.slice (some ⟨w.heap.size, 0, none⟩) 0 n) (w.alloc (.cells (madeCells #[.int .i64 0] n) 2)) := by
  obtain ⟨i0, hi0, hz0, hz1, hz2⟩ := info_parts cells_info
  have hr := run_make (P := Tryd.prog) w 24 2 i0 (.int .i64 0) Tryd.underlying24 hi0 hz0 .i64 .i64 0 (n : Int) (Int.le_refl _) (by omega) (by rw [hz2]; omega) (by omega)
  simpa [hz1, Value.cells] using hr
theorem OwnV.room (w : World) {base : Nat} (hb : base ≤ w.heap.size) (n : Nat) (hn : n ≤ 1048576) : OwnV (w.alloc (.cells (madeCells #[.int .i64 0] n) 2)) base (.slice (some ⟨w.heap.size, 0, none⟩) 0 n) [] :=
  World.ownsRow_made w _ n hb (by unfold maxLen; omega) (by rw [size_madeCells]; simp)

/-! ### Hands of hands -/
theorem wpList_pushR {w w1 : World} {ops : Array Oper} {rest : List Oper} {o : Oper} {a : Act} {Q : Exit → Act → World → Prop} (hgd : o.guard = none) (s x : Operand)
    (ho : o.op = .call { callee := .builtin .append, args := #[s, x], argTypes := #[33, 33] })
    (base : Nat) (v : Value) (zss : List (List Int)) (hs : a.eval s = v) (h : OwnVR w base v zss) (hk : ∀ k, base ≤ k → k < w.heap.size → w1.heap[k]? = w.heap[k]?) (hz : w.heap.size ≤ w1.heap.size)
    (D : Option Addr) (c : Nat) (ys : List Int) (hr : Own w1 w.heap.size w1.heap.size D ys.length ys) (hc : ys.length ≤ c) (hp : Plain D c)
    (hx : a.eval x = .slice (some ⟨w1.heap.size, 0, none⟩) 1 1) (hn : zss.length ≤ 1048576) (hbase : base ≤ w.heap.size)
    (hK : ∀ v' w2, OwnVR w2 base v' (zss ++ [ys]) → Below base w1 w2 → wpList Tryd.prog ops Q rest (a.put o.dst v') w2) :
    wpList Tryd.prog ops Q (o :: rest) a (w1.alloc (.cells #[.slice D ys.length c] 24)) :=
  wpList_plain hgd fun _ hK' => wp_pushR s x ho base v zss hs h hk hz D c ys hr hc hp hx hn hbase fun v' w2 h1 h2 => hK' _ _ (hK v' w2 h1 h2)
theorem make_roomR (n : Nat) (hn : n ≤ 1048576) (w : World) : (Instr.makeSlice 33 (.int .i64 0) (.int .i64 (n : Int))).run Tryd.prog w = .ok (.slice (some ⟨w.heap.size, 0, none⟩) 0 n) (w.alloc (.cells (madeCells #[.slice none 0 0] n) 24)) := by
  obtain ⟨i0, hi0, hz0, hz1, hz2⟩ := info_parts rows_info
  have hr := run_make (P := Tryd.prog) w 33 24 i0 (.slice none 0 0) Tryd.underlying33 hi0 hz0 .i64 .i64 0 (n : Int) (Int.le_refl _) (by omega) (by rw [hz2]; omega) (by omega)
  simpa [hz1, Value.cells] using hr
theorem OwnVR.room (w : World) {base : Nat} (hb : base ≤ w.heap.size) (n : Nat) (hn : n ≤ 1048576) : OwnVR (w.alloc (.cells (madeCells #[.slice none 0 0] n) 24)) base (.slice (some ⟨w.heap.size, 0, none⟩) 0 n) [] :=
  ⟨fun _ => none, fun _ => 0, World.ownsRow_made w _ n hb (by unfold maxLen; omega) (by rw [size_madeCells]; simp), fun _ h => absurd h (by simp), fun _ _ _ h => absurd h (by simp)⟩
/-- A function hands back rows of the call's own. -/
def RetVR (w : World) (zss : List (List Int)) (e : Ending) (w' : World) : Prop := ∃ v, e = .returned v ∧ OwnVR w' w.heap.size v zss ∧ Below w.heap.size w w'

end Go.Proofs.YteojdlacdnfgiaaDoor.Lib1
