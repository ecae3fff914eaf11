/- Chapter 3: the library's Contains and Clone at hands, and the program's mapEach at hands and cards, over function values taken by contracts. -/
import Derived.Test.YtklboaabcmghcaaS03o
import Derived.Test.YtklboaabcmghcaaBase2
import Derived.Laws.MakeOwn
import Derived.WalkSpells
import Derived.Shelf.Abstract
namespace Go.Proofs.Ytklboaabcmghcaa.Lib1
open Go.RowKit
set_option maxRecDepth 100000

/-! ### Index, Contains, Clone -/
theorem Index64 (A : Option Addr) (n c : Nat) (x : Int) (zs : List Int) (lo hi : Nat) (w : World) (h : Rd w lo hi A n zs) (hn : n ≤ 1048576) :
    Calls Try.prog 96 #[.slice A n c, .int .i64 x] w fun e w' => ∃ r : Int, e = .returned (.int .i64 r) ∧ decide (0 ≤ r) = hasB zs x ∧ w = w' := by
  have hz := h.1
  go_enter Try.func96, Try.ntmps96
  go_wp2
  go_loop [8] (fun i => ∃ k : Nat, k ≤ n ∧ i = .int .i64 k ∧ Hid (∀ j, j < k → zs.getD j 0 ≠ x)) (fun i => n - (intOf i).toNat)
  case atStart => exact ⟨0, Nat.zero_le _, rfl, fun j hj => by omega⟩
  case round =>
    obtain ⟨k, hk, rfl, hno⟩ := hrel
    by_cases hlt : k < n
    · have hkl : (k : Int) < (n : Int) := by omega
      obtain ⟨b, off, rfl, _, _, hc⟩ := h.2 (by omega)
      have hck := hc k hlt
      have hy := Lib.hid (fun e : zs.getD k 0 = x => hasB_yes (zs := zs) (x := x) (k := k) (by omega) e)
      have hn' : Hid (zs.getD k 0 ≠ x → ∀ j, j < k + 1 → zs.getD j 0 ≠ x) := fun q j hj => by
        by_cases e : j = k
        · subst e; exact q
        · exact hno.out j (by omega)
      clear hno hc
      generalize zs.getD k 0 = z at hck hy hn'
      by_cases e : x = z
      · subst e
        have hyt := Lib.hid (hy.out rfl)
        clear hy hn'
        go_wp2
        go_ret
        exact ⟨_, rfl, by rw [hyt.out]; simp, rfl⟩
      · have hxz : (x == z) = false := by simpa using e
        go_wp2
        go_round
        case rel => exact ⟨k + 1, by omega, by go_num, hn'.out (fun q => e q.symm)⟩
        case measure => simp [intOf]; omega
    · obtain rfl : k = n := by omega
      have hf : Hid (hasB zs x = false) := hasB_no (fun j hj => hno.out j (by omega))
      go_wp2
      go_ret
      exact ⟨_, rfl, by rw [hf.out]; rfl, rfl⟩
theorem Contains64 (A : Option Addr) (n c : Nat) (x : Int) (zs : List Int) (lo hi : Nat) (w : World) (h : Rd w lo hi A n zs) (hn : n ≤ 1048576) :
    Calls Try.prog 73 #[.slice A n c, .int .i64 x] w fun e w' => e = .returned (.bool (hasB zs x)) ∧ w = w' := by
  go_enter Try.func73, Try.ntmps73
  go_wp2_with fail
  refine (Index64 A n c x zs lo hi _ h hn).mono ?_
  rintro e w1 ⟨r, rfl, hr, rfl⟩
  go_wp2_with fail
  go_ret
  exact ⟨rfl, rfl⟩



/-! ### mapEach -/
theorem make_room64 (n : Nat) (hn : n ≤ 1048576) (w : World) : (Instr.makeSlice 22 (.int .i64 0) (.int .i64 (n : Int))).run Try.prog w = .ok (.slice (some ⟨w.heap.size, 0, none⟩) 0 n) (w.alloc (.cells (madeCells #[.int .i64 0] n) 2)) := by
  obtain ⟨i0, hi0, hz0, hz1, hz2⟩ := info_parts cells_info
  have hr := run_make (P := Try.prog) w 22 2 i0 (.int .i64 0) Try.underlying22 hi0 hz0 .i64 .i64 0 (n : Int) (Int.le_refl _) (by omega) (by rw [hz2]; omega) (by omega)
  simpa [hz1, Value.cells] using hr
theorem OwnV.room (w : World) {base : Nat} (hb : base ≤ w.heap.size) (n : Nat) (hn : n ≤ 1048576) : OwnV (w.alloc (.cells (madeCells #[.int .i64 0] n) 2)) base (.slice (some ⟨w.heap.size, 0, none⟩) 0 n) [] :=
  World.ownsRow_made w _ n hb (by unfold maxLen; omega) (by rw [size_madeCells]; simp)

/-! ### Hands of hands -/
theorem wpList_pushR {w w1 : World} {ops : Array Oper} {rest : List Oper} {o : Oper} {a : Act} {Q : Exit → Act → World → Prop} (hgd : o.guard = none) (s x : Operand)
    (ho : o.op = .call { callee := .builtin .append, args := #[s, x], argTypes := #[31, 31] })
    (base : Nat) (v : Value) (zss : List (List Int)) (hs : a.eval s = v) (h : OwnVR w base v zss) (hk : ∀ k, base ≤ k → k < w.heap.size → w1.heap[k]? = w.heap[k]?) (hz : w.heap.size ≤ w1.heap.size)
    (D : Option Addr) (c : Nat) (ys : List Int) (hr : Own w1 w.heap.size w1.heap.size D ys.length ys) (hc : ys.length ≤ c) (hp : Plain D c)
    (hx : a.eval x = .slice (some ⟨w1.heap.size, 0, none⟩) 1 1) (hn : zss.length ≤ 1048576) (hbase : base ≤ w.heap.size)
    (hK : ∀ v' w2, OwnVR w2 base v' (zss ++ [ys]) → Below base w1 w2 → wpList Try.prog ops Q rest (a.put o.dst v') w2) :
    wpList Try.prog ops Q (o :: rest) a (w1.alloc (.cells #[.slice D ys.length c] 22)) :=
  wpList_plain hgd fun _ hK' => wp_pushR s x ho base v zss hs h hk hz D c ys hr hc hp hx hn hbase fun v' w2 h1 h2 => hK' _ _ (hK v' w2 h1 h2)
theorem make_roomR (n : Nat) (hn : n ≤ 1048576) (w : World) : (Instr.makeSlice 31 (.int .i64 0) (.int .i64 (n : Int))).run Try.prog w = .ok (.slice (some ⟨w.heap.size, 0, none⟩) 0 n) (w.alloc (.cells (madeCells #[.slice none 0 0] n) 22)) := by
  obtain ⟨i0, hi0, hz0, hz1, hz2⟩ := info_parts rows_info
  have hr := run_make (P := Try.prog) w 31 22 i0 (.slice none 0 0) Try.underlying31 hi0 hz0 .i64 .i64 0 (n : Int) (Int.le_refl _) (by omega) (by rw [hz2]; omega) (by omega)
  simpa [hz1, Value.cells] using hr
theorem OwnVR.room (w : World) {base : Nat} (hb : base ≤ w.heap.size) (n : Nat) (hn : n ≤ 1048576) : OwnVR (w.alloc (.cells (madeCells #[.slice none 0 0] n) 22)) base (.slice (some ⟨w.heap.size, 0, none⟩) 0 n) [] :=
  ⟨fun _ => none, fun _ => 0, World.ownsRow_made w _ n hb (by unfold maxLen; omega) (by rw [size_madeCells]; simp), fun _ h => absurd h (by simp), fun _ _ _ h => absurd h (by simp)⟩
/-- A function hands back rows of the call's own. -/
def RetVR (w : World) (zss : List (List Int)) (e : Ending) (w' : World) : Prop := ∃ v, e = .returned v ∧ OwnVR w' w.heap.size v zss ∧ Below w.heap.size w w'

end Go.Proofs.Ytklboaabcmghcaa.Lib1
