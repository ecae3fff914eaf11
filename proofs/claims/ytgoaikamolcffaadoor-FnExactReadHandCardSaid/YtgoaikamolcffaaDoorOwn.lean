/- Words for slices of int64 that a call makes itself by append: what they own, one element appended, what a function hands back. No function of the program. -/
import Derived.Test.YtgoaikamolcffaaDoorMem
import Derived.LoopTactic
import Derived.OwnWalk
import Derived.Laws.AppendOwn
import Derived.Outline
namespace Go.Proofs.YtgoaikamolcffaaDoor.Lib1
open Go.RowKit

section
variable {w w' : World} {lo hi : Nat} {A : Option Addr} {n : Nat} {zs : List Int}
theorem Rd.below {B : Nat} (r : Rd w lo hi A n zs) (c : Below B w w') (hd : hi ≤ B) : Rd w' lo hi A n zs :=
  ⟨r.1, fun hn => by
    obtain ⟨b, off, e, h1, h2, hc⟩ := r.2 hn
    exact ⟨b, off, e, h1, h2, fun j hj => by
      rw [World.cell?_of_block (c.block b (by omega))]; exact hc j hj⟩⟩
end

/-- The slice value v is the call's own (blocks from base on) and holds zs. -/
def OwnV (w : World) (base : Nat) (v : Value) (zs : List Int) : Prop := w.ownsRow base 2 1 v zs.length (zs.map (Value.int .i64))

theorem OwnV.nil_ (w : World) (base : Nat) : OwnV w base (.slice none 0 0) [] := ⟨by simp, .inl ⟨rfl, rfl⟩⟩
theorem OwnV.made (w : World) {base : Nat} (hb : base ≤ w.heap.size) : OwnV (w.alloc (.cells #[] 2)) base (.slice (some ⟨w.heap.size, 0, none⟩) 0 0) [] :=
  ⟨by simp, .inr ⟨w.heap.size, 0, #[], rfl, hb, heap_alloc_new w _, Nat.le_refl _, Nat.zero_le _, by simp, by simp⟩⟩
theorem OwnV.alloc {w : World} {base : Nat} {v : Value} {zs : List Int} (h : OwnV w base v zs) (o : Obj) : OwnV (w.alloc o) base v zs := World.ownsRow.alloc h o
/-- A slice's address: nil, or a plain one. -/
def Plain (A : Option Addr) (c : Nat) : Prop := (A = none ∧ c = 0) ∨ ∃ b off, A = some ⟨b, off, none⟩
theorem Plain.nil_ : Plain none 0 := .inl ⟨rfl, rfl⟩
theorem Plain.at_ (b off c : Nat) : Plain (some ⟨b, off, none⟩) c := .inr ⟨b, off, rfl⟩
theorem OwnV.form {w : World} {base : Nat} {v : Value} {zs : List Int} (h : OwnV w base v zs) : ∃ A c, v = .slice A zs.length c ∧ zs.length ≤ c ∧ Plain A c ∧ Own w base w.heap.size A zs.length zs := by
  rcases h.2 with ⟨rfl, h0⟩ | ⟨g, cap, cur, rfl, _, _, hc, _⟩
  · have : zs = [] := List.eq_nil_of_length_eq_zero h0
    subst this
    exact ⟨none, 0, rfl, Nat.le_refl _, Plain.nil_, Own.none_⟩
  · exact ⟨_, cap, rfl, hc, Plain.at_ _ _ _, Own.of_row (c := cap) h⟩
theorem OwnV.form_at {w : World} {base n : Nat} {v : Value} {zs : List Int} (h : OwnV w base v zs) (hn : zs.length = n) : ∃ A c, v = .slice A n c ∧ n ≤ c ∧ Plain A c ∧ Own w base w.heap.size A n zs := by
  subst hn; exact h.form
theorem OwnV.block {w : World} {base : Nat} {v : Value} {zs : List Int} (h : OwnV w base v zs) : ∀ k, v.ownBlock = some k → base ≤ k := by
  rcases h.2 with ⟨rfl, _⟩ | ⟨g, cap, cur, rfl, hg, _⟩
  · intro k hk; simp [Value.ownBlock] at hk
  · intro k hk; simp [Value.ownBlock] at hk; omega
theorem OwnV.kept {w w' : World} {base : Nat} {v : Value} {zs : List Int} (h : OwnV w base v zs) (hb : Below w.heap.size w w') : OwnV w' base v zs := by
  refine ⟨h.1, ?_⟩
  rcases h.2 with h0 | ⟨g, cap, cur, hv, hg, hh, r⟩
  · exact .inl h0
  · exact .inr ⟨g, cap, cur, hv, hg, (hb.block g (lt_of_block hh)).trans hh, r⟩

/-- 'out = append(out, z)', out the call's own: the one element lies in a new block of its own. -/
theorem wpList_push {w : World} {ops : Array Oper} {rest : List Oper} {o : Oper} {a : Act} {Q : Exit → Act → World → Prop} (hgd : o.guard = none) (s x : Operand)
    (ho : o.op = .call { callee := .builtin .append, args := #[s, x], argTypes := #[24, 24] })
    (base : Nat) (v : Value) (zs : List Int) (hs : a.eval s = v) (hown : OwnV w base v zs) (z : Int)
    (hx : a.eval x = .slice (some ⟨w.heap.size, 0, none⟩) 1 1) (hn : zs.length ≤ 1048576) (hbase : base ≤ w.heap.size)
    (h : ∀ v' w', OwnV w' base v' (zs ++ [z]) → Below base w w' → wpList Tryd.prog ops Q rest (a.put o.dst v') w') : wpList Tryd.prog ops Q (o :: rest) a (w.alloc (.cells #[.int .i64 z] 2)) := by
  obtain ⟨i0, hi0, hz0, hz1, hz2⟩ := info_parts cells_info
  refine wpList_append_own _ hgd s x 24 ho base 2 i0 (.int .i64 0) 1 8 Tryd.underlying24 hi0 hz0 hz1 hz2 rfl (by decide) v zs.length (zs.map (Value.int .i64)) hs (hown.alloc _)
    ⟨w.heap.size, 0, none⟩ 1 1 [.int .i64 z] hx rfl ?_ ?_ ?_ ?_ ?_ ?_
  · intro j u hj
    match j, hj with
    | 0, hj => simp at hj; subst hj; simp [Addr.add]
  · intro u hu; simp at hu; subst hu; rfl
  · unfold maxLen; omega
  · omega
  · simp; omega
  · intro v' w' h1 h2 _
    refine h v' w' ?_ ?_
    · unfold OwnV; simpa using h1
    · have hb : Below base w (w.alloc (.cells #[.int .i64 z] 2)) := (Below.refl _ _).alloc hbase _
      exact hb.grown h2 (by simp; omega) hown.block

/-- A function hands back a slice in new memory that holds zs. -/
def RetS (w : World) (zs : List Int) (e : Ending) (w' : World) : Prop :=
  ∃ A c, e = .returned (.slice A zs.length c) ∧ zs.length ≤ c ∧ Plain A c ∧ Own w' w.heap.size w'.heap.size A zs.length zs ∧ Chg w w' 0 0
/-- .. and an int64 beside it. -/
def RetSI (w : World) (zs : List Int) (k : Int) (e : Ending) (w' : World) : Prop :=
  ∃ A c, e = .returned (.tuple #[.slice A zs.length c, .int .i64 k]) ∧ zs.length ≤ c ∧ Plain A c ∧ Own w' w.heap.size w'.heap.size A zs.length zs ∧ Chg w w' 0 0

theorem RetS.of_own {w w' : World} {v : Value} {zs : List Int} (h : OwnV w' w.heap.size v zs) (hb : Below w.heap.size w w') : RetS w zs (.returned v) w' := by
  obtain ⟨A, c, rfl, h1, h2, h3⟩ := h.form
  exact ⟨A, c, rfl, h1, h2, h3, Chg.of_below hb _ _⟩
theorem RetSI.of_own {w w' : World} {v : Value} {zs : List Int} {k : Int} (h : OwnV w' w.heap.size v zs) (hb : Below w.heap.size w w') : RetSI w zs k (.returned (.tuple #[v, .int .i64 k])) w' := by
  obtain ⟨A, c, rfl, h1, h2, h3⟩ := h.form
  exact ⟨A, c, rfl, h1, h2, h3, Chg.of_below hb _ _⟩

/-- A function hands back a slice of the call's own that may grow. -/
def RetV (w : World) (zs : List Int) (e : Ending) (w' : World) : Prop := ∃ v, e = .returned v ∧ OwnV w' w.heap.size v zs ∧ Below w.heap.size w w'
theorem RetS.of_V {w w' : World} {zs : List Int} {e : Ending} (h : RetV w zs e w') : RetS w zs e w' := by
  obtain ⟨v, rfl, h1, h2⟩ := h
  exact RetS.of_own h1 h2
theorem OwnV.more {w : World} {base base' : Nat} {v : Value} {zs : List Int} (h : OwnV w base v zs) (hb : base' ≤ base) : OwnV w base' v zs := by
  refine ⟨h.1, ?_⟩
  rcases h.2 with h0 | ⟨g, cap, cur, hv, hg, r⟩
  · exact .inl h0
  · exact .inr ⟨g, cap, cur, hv, Nat.le_trans hb hg, r⟩
theorem OwnV.chg {w w' : World} {base lo hi : Nat} {v : Value} {zs : List Int} (h : OwnV w base v zs) (c : Chg w w' lo hi) (hd : hi ≤ base) : OwnV w' base v zs := by
  refine ⟨h.1, ?_⟩
  rcases h.2 with h0 | ⟨g, cap, cur, hv, hg, hh, r⟩
  · exact .inl h0
  · exact .inr ⟨g, cap, cur, hv, hg, (c.block g (lt_of_block hh) (by omega)).trans hh, r⟩

/-- The first k elements that pass, and the next one. -/
theorem take_filter_succ (p : Int → Bool) (zs : List Int) (k : Nat) (h : k < zs.length) : (zs.take (k + 1)).filter p = (zs.take k).filter p ++ if p (zs.getD k 0) then [zs.getD k 0] else [] := by
  rw [List.take_succ_eq_append_getElem h, List.filter_append]
  have e : zs.getD k 0 = zs[k] := by simp [List.getD, List.getElem?_eq_getElem h]
  rw [e]
  simp [List.filter_cons]

end Go.Proofs.YtgoaikamolcffaaDoor.Lib1
