/- Chapter 5: the program's DealOfHolders: a range over a function in each round of a plain loop. -/
import Derived.Test.YtdfmkikngifjmaaBackY5
import Derived.Test.YtdfmkikngifjmaaAre5
import Derived.Test.YtdfmkikngifjmaaHlI5
import Derived.Test.YtdfmkikngifjmaaCdI5
namespace Go.Proofs.Ytdfmkikngifjmaa.Lib1
open Go.RowKit Go.Shelf
set_option maxRecDepth 100000
attribute [local go_sem] Oper.semAt_some

/-! ### The marks that the rounds leave among the deferred calls -/
def marksOf (Ds : List Nat) : List Deferred := Ds.map fun D => { target := .collected D, args := #[] }
def MarksIn (B : Nat) (Ds : List Nat) (W : World) : Prop := Ds.Nodup ∧ ∀ D ∈ Ds, B ≤ D ∧ W.heap[D]? = some (.deferred (some []))
theorem leaves_marks {P : Program} {F : Fence} {n : Nat} {fn : Func} {tmps : Array Value} {R : Ending → World → Prop} {B : Nat} : ∀ (Ds : List Nat) (W : World), MarksIn B Ds W →
    (∀ W', (∀ (k : Nat) (cs : Array Value) (t : TypeId) (fr : Nat × Nat), W.heap[k]? = some (.cells cs t fr) → W'.heap[k]? = some (.cells cs t fr)) → Below B W W' → LeavesInM F n P fn tmps R [] .returning W') → LeavesInM F n P fn tmps R (marksOf Ds) .returning W
  | [], W, _, h => h W (fun _ _ _ _ q => q) (Below.refl _ _)
  | D :: Ds, W, ⟨hn, hm⟩, h => by
    obtain ⟨hB, hD⟩ := hm D List.mem_cons_self
    obtain ⟨hn1, hn2⟩ := List.nodup_cons.1 hn
    refine ⟨by simp, .inl ⟨D, _, rfl, run_takeDeferred hD, ?_⟩⟩
    refine leaves_marks Ds _ ⟨hn2, fun E hE => ⟨(hm E (List.mem_cons_of_mem _ hE)).1, (World.putObj_heap_other (fun e => by subst e; exact hn1 hE)).trans (hm E (List.mem_cons_of_mem _ hE)).2⟩⟩ fun W' hk hb => ?_
    refine h W' (fun k cs t fr q => hk _ _ _ _ ((World.putObj_heap_other (fun e => by subst e; rw [hD] at q; cases q)).trans q)) ?_
    have hb1 : Below B W (W.putObj D (.deferred none)) := ⟨rfl, rfl, rfl, by simp, fun k hk => World.putObj_heap_other (by omega)⟩
    exact hb1.trans hb

/-! ### One suit's holders, from the last to the first: lists alone -/
def stepD (q : Nat) (row : List Int) (st : List (List Int)) (x : Nat) : List (List Int) := st.set (row.getD x 0).toNat (st.getD (row.getD x 0).toNat [] ++ [13 * (q : Int) + 12 - (x : Int)])
def foldD (q : Nat) (row : List Int) (st : List (List Int)) (pre : List (Fin row.length)) : List (List Int) := pre.foldl (fun s x => stepD q row s x.val) st
theorem foldD_snoc (q : Nat) (row : List Int) (st : List (List Int)) (pre : List (Fin row.length)) (x : Fin row.length) : foldD q row st (pre ++ [x]) = stepD q row (foldD q row st pre) x.val := by simp [foldD]
theorem stepD_length (q : Nat) (row : List Int) (st : List (List Int)) (x : Nat) : (stepD q row st x).length = st.length := by simp [stepD]
theorem foldD_length (q : Nat) (row : List Int) : ∀ (pre : List (Fin row.length)) (st : List (List Int)), (foldD q row st pre).length = st.length
  | [], _ => rfl
  | x :: pre, st => by
    show (foldD q row (stepD q row st x.val) pre).length = _
    rw [foldD_length q row pre, stepD_length]
theorem foldD_len (q : Nat) (row : List Int) : ∀ (pre : List (Fin row.length)) (st : List (List Int)) (b : Nat), (∀ j, (st.getD j []).length ≤ b) → ∀ j, ((foldD q row st pre).getD j []).length ≤ b + pre.length
  | [], _, _, h => h
  | x :: pre, st, b, h => fun j => by
    have := foldD_len q row pre (stepD q row st x.val) (b + 1) (fun i => by
      unfold stepD
      by_cases hl : (row.getD x.val 0).toNat < st.length
      · rw [set_getD _ _ _ _ hl]
        split
        · rw [List.length_append, List.length_singleton]; have := h (row.getD x.val 0).toNat; omega
        · have := h i; omega
      · rw [List.set_eq_of_length_le (by omega)]; have := h i; omega) j
    show ((foldD q row (stepD q row st x.val) pre).getD j []).length ≤ _
    rw [List.length_cons]; omega
theorem foldD_all {L : List (List Int)} (hL : HL L) {q : Nat} {row : List Int} (hrow : L.getD q [] = row) : ∀ k h, foldD q row (rowsSt L q row.length) (bxTo row k h) = rowsSt L q (row.length - k)
  | 0, _ => rfl
  | k + 1, h => by
    have hx := hL.2.2 q (row.getD (row.length - 1 - k) 0) (by rw [hrow, getD_at _ _ (by omega)]; exact List.getElem_mem _)
    obtain ⟨t, ht⟩ : ∃ t : Nat, row.getD (row.length - 1 - k) 0 = (t : Int) := ⟨(row.getD (row.length - 1 - k) 0).toNat, by omega⟩
    have hs := rowsSt_step L (q := q) (k := row.length - 1 - k) (t := t) (by rw [hrow]; omega) (by omega) (by rw [hrow]; exact ht)
    rw [bxTo, foldD_snoc, foldD_all hL hrow k (by omega)]
    show stepD q row _ (row.length - 1 - k) = _
    unfold stepD
    rw [show row.length - (k + 1) = row.length - 1 - k by omega, hs, show row.length - 1 - k + 1 = row.length - k by omega, ht]
    have e : ((row.length - 1 - k : Nat) : Int) = ((row.length - 1 - k : Nat) : Int) := rfl
    simp
theorem foldD_done {L : List (List Int)} (hL : HL L) {q : Nat} {row : List Int} (hrow : L.getD q [] = row) : foldD q row (rowsSt L q row.length) (bxTo row row.length (Nat.le_refl _)) = rowsSt L (q + 1) (L.getD (q + 1) []).length := by
  rw [foldD_all hL hrow, Nat.sub_self, rowsSt_next]

/-- Between two rounds over a suit's holders. -/
def DhI (w : World) (s q g5 : Nat) (bv : Value) (row : List Int) (st : List (List Int)) (Ds : List Nat) (pre : List (Fin row.length)) (W : World) : Prop :=
  OwnVQ W s (.slice (some ⟨s, 0, none⟩) 4 4) (foldD q row st pre) ∧ BoxAt W (s + 1) (.slice (some ⟨s, 0, none⟩) 4 4) 25 ∧ BoxAt W g5 (.int .i64 (q : Int)) 3 ∧ BoxAt W (g5 + 1) bv 40 ∧ BoxAt W w.heap.size (.slice none 0 0) 25 ∧ MarksIn (w.heap.size + 1) Ds W ∧ Below w.heap.size w W
theorem MarksIn.grown {B C : Nat} {Ds : List Nat} {W W' : World} {row : Option Nat} (h : MarksIn B Ds W) (hg : W.grownBy W' row) (hlt : ∀ D ∈ Ds, D < C) (hr : ∀ r, row = some r → C ≤ r) : MarksIn B Ds W' :=
  ⟨h.1, fun D hD => ⟨(h.2 D hD).1, (hg.block D (lt_of_block (h.2 D hD).2) (fun e => by have := hr D e.symm; have := hlt D hD; omega)).trans (h.2 D hD).2⟩⟩
theorem DhI.own {w : World} {s q g5 B : Nat} {bv : Value} {row : List Int} {st : List (List Int)} {Ds : List Nat} (hB : w.heap.size ≤ B) (hD : ∀ D ∈ Ds, D < B) : OwnFrom B (DhI w s q g5 bv row st Ds) := fun pre A C rw_ h hg hr => by
  have hk := fun (k : Nat) (cs : Array Value) (t : TypeId) (fr : Nat × Nat) (q : A.heap[k]? = some (.cells cs t fr)) => cells_kept hg (fun r e => (hr r e).2) q
  obtain ⟨h1, h2, h3, h3', h4, h5, h6⟩ := h
  exact ⟨h1.cells hk, hk _ _ _ _ h2, hk _ _ _ _ h3, hk _ _ _ _ h3', hk _ _ _ _ h4, h5.grown hg hD (fun r e => (hr r e).1), h6.grown hg h6.size (fun k e => Nat.le_trans hB (hr k e).1)⟩

end Go.Proofs.Ytdfmkikngifjmaa.Lib1
