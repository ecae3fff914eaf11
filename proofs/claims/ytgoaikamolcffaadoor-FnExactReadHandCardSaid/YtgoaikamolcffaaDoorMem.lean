/- Words on memory for slices of int64: what a slice reads as, which blocks it owns, what a call may have written. No function of the program. -/
import Derived.Test.YtgoaikamolcffaaDoorRows
import Derived.WalkKit
import Derived.ProofKit
import Derived.OpenShut
import Derived.Below
import Derived.Deep.Draws
import Derived.Laws.Rows
import Derived.Laws.OwnMore
import Derived.Lib.Hide
namespace Go.Proofs.YtgoaikamolcffaaDoor.Lib1
open Go.RowKit

/-- w' is w with new blocks, and with writes to blocks of [lo, hi) alone. -/
structure Chg (w w' : World) (lo hi : Nat) : Prop where
  os : w'.os = w.os
  tape : w'.tape = w.tape
  output : w'.output = w.output
  size : w.heap.size ≤ w'.heap.size
  block : ∀ k, k < w.heap.size → (k < lo ∨ hi ≤ k) → w'.heap[k]? = w.heap[k]?

theorem Chg.refl (w : World) (lo hi : Nat) : Chg w w lo hi := ⟨rfl, rfl, rfl, Nat.le_refl _, fun _ _ _ => rfl⟩
theorem Chg.of_below {w w' : World} (h : Below w.heap.size w w') (lo hi : Nat) : Chg w w' lo hi := ⟨h.os, h.tape, h.output, h.size, fun k hk _ => h.block k hk⟩
theorem Chg.to_below {w w' : World} (h : Chg w w' 0 0) : Below w.heap.size w w' := ⟨h.os, h.tape, h.output, h.size, fun k hk => h.block k hk (.inr (Nat.zero_le _))⟩
theorem Chg.drewN (w : World) (q lo hi : Nat) : Chg w (w.drewN q) lo hi := ⟨rfl, rfl, rfl, Nat.le_refl _, fun _ _ _ => rfl⟩
theorem Chg.alloc_drew (w : World) (o : Obj) (lo hi : Nat) : Chg w (w.alloc o).drew lo hi := Chg.of_below ((Below.refl _ _).alloc (Nat.le_refl _) o).drew _ _
theorem Chg.more {w w' : World} {lo hi lo' hi' : Nat} (h : Chg w w' lo hi) (h1 : lo' ≤ lo) (h2 : hi ≤ hi') : Chg w w' lo' hi' :=
  ⟨h.os, h.tape, h.output, h.size, fun k hk ho => h.block k hk (by omega)⟩
theorem Chg.any {w w' : World} (h : Chg w w' 0 0) (lo hi : Nat) : Chg w w' lo hi :=
  ⟨h.os, h.tape, h.output, h.size, fun k hk _ => h.block k hk (.inr (Nat.zero_le _))⟩
theorem Chg.trans {a b c : World} {lo hi : Nat} (h : Chg a b lo hi) (k : Chg b c lo hi) : Chg a c lo hi :=
  ⟨k.os.trans h.os, k.tape.trans h.tape, k.output.trans h.output, Nat.le_trans h.size k.size, fun i hi ho => (k.block i (Nat.lt_of_lt_of_le hi h.size) ho).trans (h.block i hi ho)⟩
/-- What is written lies above B: below B nothing has turned. -/
theorem Chg.above {B : Nat} {a w w' : World} {lo hi : Nat} (h : Below B a w) (k : Chg w w' lo hi) (hB : B ≤ w.heap.size) (hl : B ≤ lo ∨ hi = 0) : Below B a w' :=
  h.trans ⟨k.os, k.tape, k.output, k.size, fun i hi => k.block i (by omega) (by omega)⟩

theorem lt_of_cell {w : World} {a : Addr} {v : Value} (h : w.cell? a = some v) : a.block < w.heap.size := by
  rcases Nat.lt_or_ge a.block w.heap.size with hlt | hge
  · exact hlt
  · unfold World.cell? at h
    rw [Array.getElem?_eq_none hge] at h
    simp at h
theorem lt_of_block {w : World} {g : Nat} {o : Obj} (h : w.heap[g]? = some o) : g < w.heap.size := by
  rcases Nat.lt_or_ge g w.heap.size with hlt | hge
  · exact hlt
  · rw [Array.getElem?_eq_none hge] at h; cases h

/-- The slice value with address A and length n reads as zs, and lies in a block of [lo, hi). -/
def Rd (w : World) (lo hi : Nat) (A : Option Addr) (n : Nat) (zs : List Int) : Prop :=
  zs.length = n ∧ (0 < n → ∃ b off, A = some ⟨b, off, none⟩ ∧ lo ≤ b ∧ b < hi ∧ ∀ j, j < n → w.cell? ⟨b, off + j, none⟩ = some (.int .i64 (zs.getD j 0)))
/-- .. and begins an unfrozen block of its own. -/
def Own (w : World) (lo hi : Nat) (A : Option Addr) (n : Nat) (zs : List Int) : Prop :=
  zs.length = n ∧ (0 < n → ∃ b cs, A = some ⟨b, 0, none⟩ ∧ lo ≤ b ∧ b < hi ∧ w.heap[b]? = some (.cells cs 2 (0, 0)) ∧ ∀ j, j < n → cs[j]? = some (.int .i64 (zs.getD j 0)))

section
variable {w w' : World} {lo hi : Nat} {A : Option Addr} {n : Nat} {zs : List Int}
theorem Rd.none_ : Rd w lo hi A 0 [] := ⟨rfl, fun h => absurd h (by omega)⟩
theorem Own.none_ : Own w lo hi A 0 [] := ⟨rfl, fun h => absurd h (by omega)⟩
theorem Own.rd (h : Own w lo hi A n zs) : Rd w lo hi A n zs :=
  ⟨h.1, fun hn => by
    obtain ⟨b, cs, e, h1, h2, hb, hc⟩ := h.2 hn
    exact ⟨b, 0, e, h1, h2, fun j hj => by rw [Nat.zero_add, cell_of_row w b j cs _ _ hb]; exact hc j hj⟩⟩
theorem Rd.chg {l h : Nat} (r : Rd w lo hi A n zs) (c : Chg w w' l h) (hd : hi ≤ l ∨ h ≤ lo) : Rd w' lo hi A n zs :=
  ⟨r.1, fun hn => by
    obtain ⟨b, off, e, h1, h2, hc⟩ := r.2 hn
    exact ⟨b, off, e, h1, h2, fun j hj => by
      rw [World.cell?_of_block (c.block b (lt_of_cell (hc j hj)) (by omega))]; exact hc j hj⟩⟩
theorem Own.chg {l h : Nat} (r : Own w lo hi A n zs) (c : Chg w w' l h) (hd : hi ≤ l ∨ h ≤ lo) : Own w' lo hi A n zs :=
  ⟨r.1, fun hn => by
    obtain ⟨b, cs, e, h1, h2, hb, hc⟩ := r.2 hn
    exact ⟨b, cs, e, h1, h2, (c.block b (lt_of_block hb) (by omega)).trans hb, hc⟩⟩
theorem Rd.still (r : Rd w lo hi A n zs) (c : Chg w w' 0 0) : Rd w' lo hi A n zs := r.chg c (.inr (Nat.zero_le _))
theorem Own.still (r : Own w lo hi A n zs) (c : Chg w w' 0 0) : Own w' lo hi A n zs := r.chg c (.inr (Nat.zero_le _))
theorem Rd.more {lo' hi' : Nat} (r : Rd w lo hi A n zs) (h1 : lo' ≤ lo) (h2 : hi ≤ hi') : Rd w lo' hi' A n zs :=
  ⟨r.1, fun hn => by obtain ⟨b, off, e, h3, h4, hc⟩ := r.2 hn; exact ⟨b, off, e, by omega, by omega, hc⟩⟩
theorem Own.more {lo' hi' : Nat} (r : Own w lo hi A n zs) (h1 : lo' ≤ lo) (h2 : hi ≤ hi') : Own w lo' hi' A n zs :=
  ⟨r.1, fun hn => by obtain ⟨b, cs, e, h3, h4, hb, hc⟩ := r.2 hn; exact ⟨b, cs, e, by omega, by omega, hb, hc⟩⟩
theorem Rd.drewN (r : Rd w lo hi A n zs) (q : Nat) : Rd (w.drewN q) lo hi A n zs := r.still (Chg.drewN _ _ _ _)
theorem Rd.all (r : Rd w lo hi A n zs) : Rd w 0 w.heap.size A n zs :=
  ⟨r.1, fun hn => by
    obtain ⟨b, off, e, h3, h4, hc⟩ := r.2 hn
    exact ⟨b, off, e, Nat.zero_le _, lt_of_cell (hc 0 hn), hc⟩⟩
end

/-- A row of the call's own, out of the append laws. -/
theorem Own.of_row {w : World} {base : Nat} {A : Option Addr} {n c : Nat} {zs : List Int} (h : w.ownsRow base 2 1 (.slice A n c) n (zs.map (Value.int .i64))) : Own w base w.heap.size A n zs := by
  refine ⟨by have := h.1; simpa using this, fun hn => ?_⟩
  rcases h.2 with ⟨_, h0⟩ | ⟨g, cap, cur, hv, hg, hh, _, _, _, ht⟩
  · omega
  · have hA : A = some ⟨g, 0, none⟩ := by injection hv
    refine ⟨g, cur, hA, hg, lt_of_block hh, hh, fun j hj => ?_⟩
    have hl : zs.length = n := by have := h.1; simpa using this
    have e1 : (zs.map (Value.int .i64))[j]? = some (.int .i64 (zs.getD j 0)) := by
      simp [List.getD, List.getElem?_eq_getElem (show j < zs.length by omega)]
    rw [← ht, List.getElem?_take, if_pos (by omega)] at e1
    simpa using e1

/-- What a law of an argument says of it (the frame's own word 'IsRow'), in these words. -/
theorem Rd.of_arg {w : World} {a : Option Addr} {len cap : Nat} {zs : List Int}
    (h : (a = none ∧ len = 0 ∧ cap = 0 ∧ zs = []) ∨ ∃ x, a = some x ∧ len ≤ cap ∧ cap ≤ maxLen ∧ zs.length = cap ∧ (∀ i, i < zs.length → w.cell? (x.add i) = some (.int .i64 (zs.getD i 0))) ∧ ∀ n ∈ zs, (Lit.int .i64 n).wf = true) :
    Rd w 0 w.heap.size a len (zs.take len) := by
  rcases h with ⟨rfl, rfl, rfl, rfl⟩ | ⟨x, rfl, hl, _, hz, hc, _⟩
  · exact Rd.none_
  · refine ⟨by simp; omega, fun hn => ?_⟩
    obtain ⟨b, off, spot⟩ := x
    have h0 := hc 0 (by omega)
    have hspot : spot = none := by simpa [Addr.add] using World.cell?_spot h0
    subst hspot
    have hplain : ∀ j, (⟨b, off, none⟩ : Addr).add j = ⟨b, off + j, none⟩ := fun j => by unfold Addr.add; split <;> simp_all
    refine ⟨b, off, rfl, Nat.zero_le _, ?_, fun j hj => ?_⟩
    · have := lt_of_cell h0; rwa [hplain] at this
    · have := hc j (by omega)
      rw [hplain] at this
      rw [this]
      simp [List.getD, hj]
theorem wf_of_arg {w : World} {a : Option Addr} {len cap : Nat} {zs : List Int}
    (h : (a = none ∧ len = 0 ∧ cap = 0 ∧ zs = []) ∨ ∃ x, a = some x ∧ len ≤ cap ∧ cap ≤ maxLen ∧ zs.length = cap ∧ (∀ i, i < zs.length → w.cell? (x.add i) = some (.int .i64 (zs.getD i 0))) ∧ ∀ n ∈ zs, (Lit.int .i64 n).wf = true) :
    ∀ n ∈ zs.take len, (Lit.int .i64 n).wf = true := by
  rcases h with ⟨rfl, rfl, rfl, rfl⟩ | ⟨x, rfl, hl, _, hz, hc, hw⟩
  · simp
  · exact fun n hn => hw n (List.mem_of_mem_take hn)

theorem cells_info : (Tryd.prog.info? 2).map (fun i => (i.zero, i.size, i.bytes)) = some (some (.int .i64 0), 1, 8) := by kernel_rfl

/-! ### Small things for walks -/
theorem ret_int {k : IntKind} {a b : Int} (h : a = b) : Ending.returned (.int k a) = .returned (.int k b) := by rw [h]
theorem ret_bool {a b : Bool} (h : a = b) : Ending.returned (.bool a) = .returned (.bool b) := by rw [h]
theorem ret_str {a b : ByteArray} (h : a = b) : Ending.returned (.string a) = .returned (.string b) := by rw [h]
theorem grown_trans {a b c : World} (h : Grown a b) (k : Grown b c) : Grown a c :=
  ⟨World.keptBut_trans h.1 k.1, fun x => (k.2.1 x).trans (h.2.1 x), Nat.le_trans h.2.2 k.2.2⟩
theorem quiet_eq {P : Program} {f : FuncId} {args : Array Value} {w : World} {n : Nat} {v : Value}
    (h : Calls P f args (w.drewN n) fun e w' => e = .returned v ∧ w.drewN n = w') : Calls P f args (w.drewN n) fun e w'' => e = .returned v ∧ ∃ m, w'' = w.drewN m :=
  h.mono fun _ _ ⟨he, hm⟩ => ⟨he, n, hm.symm⟩
theorem quiet_add {P : Program} {f : FuncId} {args : Array Value} {w : World} {a n : Nat} {v : Value}
    (h : Calls P f args (w.drewN (a + n)) fun e w' => e = .returned v ∧ w.drewN (a + n) = w') :
    Calls P f args (w.drewN (a + n)) fun e w'' => e = .returned v ∧ ∃ m, w'' = w.drewN (a + m) :=
  h.mono fun _ _ ⟨he, hm⟩ => ⟨he, n, hm.symm⟩

end Go.Proofs.YtgoaikamolcffaaDoor.Lib1
