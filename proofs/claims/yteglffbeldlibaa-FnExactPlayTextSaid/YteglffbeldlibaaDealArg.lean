/- A deal that a law is handed: its value opened to a list of lists. -/
import Derived.Test.YteglffbeldlibaaNests
import Derived.ChangeSame
namespace Go.Proofs.Yteglffbeldlibaa.Lib1
open Go.RowKit Go.ChangeShapes Go.WideShapes Go.Deep
set_option maxRecDepth 100000

/-- The rows that the library's law opens, in these words. -/
theorem RdR.of_rows {w : World} {a : Addr} {len cap base : Nat} {A : Nat → Option Addr} {L C : Nat → Nat} {Z : Nat → List Int} (hl : len ≤ cap) (hm : cap ≤ maxLen)
    (h : ∀ r, r < cap → w.cell? (a.add r) = some (.slice (A r) (L r) (C r)) ∧ L r ≤ C r ∧ C r ≤ maxLen ∧ (Z r).length = C r ∧ (∀ n ∈ Z r, (Lit.int .i64 n).wf = true) ∧ (A r = none → C r = 0) ∧
        ∀ a', A r = some a' → base ≤ a'.block ∧ ∀ c, c < C r → w.cell? (a'.add c) = some (.int .i64 ((Z r).getD c 0))) :
    RdR w 0 w.heap.size (some a) len ((List.range len).map fun r => (Z r).take (L r)) ∧ Lens len ((List.range len).map fun r => (Z r).take (L r)) := by
  have hg : ∀ j, j < len → ((List.range len).map fun r => (Z r).take (L r)).getD j [] = (Z j).take (L j) := fun j hj => by simp [List.getD, hj]
  have hlen : ∀ j, j < len → ((Z j).take (L j)).length = L j := fun j hj => by
    obtain ⟨_, h1, _, h2, _⟩ := h j (by omega)
    simp; omega
  have hrd : ∀ j, j < len → Rd w 0 w.heap.size (A j) (L j) ((Z j).take (L j)) := fun j hj => by
    obtain ⟨_, h1, h2, h3, h4, h5, h6⟩ := h j (by omega)
    cases hA : A j with
    | none =>
      have := h5 hA
      obtain e0 : L j = 0 := by omega
      rw [e0]
      exact Rd.none_
    | some a' => exact Rd.of_arg (cap := C j) (.inr ⟨a', rfl, h1, h2, h3, fun i hi => (h6 a' hA).2 i (by omega), h4⟩)
  refine ⟨⟨by simp, A, C, fun hn => ?_, fun j hj => ?_⟩, by omega, fun j hj => ?_⟩
  · obtain ⟨b, off, spot⟩ := a
    have h0 := (h 0 (by omega)).1
    have hspot : spot = none := by simpa [Addr.add] using World.cell?_spot h0
    subst hspot
    have hplain : ∀ j, (⟨b, off, none⟩ : Addr).add j = ⟨b, off + j, none⟩ := fun j => by unfold Addr.add; split <;> simp_all
    refine ⟨b, off, rfl, Nat.zero_le _, ?_, fun j hj => ?_⟩
    · have := lt_of_cell h0; rwa [hplain] at this
    · have := (h j (by omega)).1
      rw [hplain] at this
      rw [hg j hj, hlen j hj]
      exact this
  · rw [hg j hj, hlen j hj]
    obtain ⟨_, h1, _, _, _, h5, _⟩ := h j (by omega)
    exact ⟨hrd j hj, h1, h5⟩
  · rw [hg j hj, hlen j hj]
    obtain ⟨_, h1, h2, _⟩ := h j (by omega)
    omega

/-- A law's argument that is a deal. -/
theorem open_deal {H : Type} {enc : TypeId × Value → H} {w : World} {held : Bool} {r : Reach} {b0 : Nat} {v : Value} {d : DataW H} {p : List MemPlace} (hv : Value.okWide Try.prog w r b0 57 v) (h : DataW.Trod enc Try.prog w 0 (fun _ => true) held 57 v d p) :
    ∃ A n c zss, v = .agg #[.slice A n c] ∧ RdR w 0 w.heap.size A n zss ∧ Lens n zss := by
  obtain ⟨cs, rfl, hsz⟩ := okWide_struct Try.underlying57 hv
  have hC : Try.prog.cellsOf 57 = 1 := by kernel_rfl
  obtain ⟨fuel, hf⟩ := h
  obtain ⟨y0, n, _, _, h0⟩ := trod_struct1 Try.underlying57 hf
  have hc1 : Try.prog.cellsOf 24 = 1 := by kernel_rfl
  obtain ⟨c0, rfl⟩ : ∃ c0, cs = #[c0] := by
    have : cs.size = 1 := hsz.trans hC
    exact ⟨cs[0], by apply Array.ext <;> simp_all⟩
  have h1 : DataW.trod enc Try.prog w 0 (fun _ => true) held n 24 [c0] = some y0 := by simpa [Value.cells, hc1] using h0
  rcases open_int_rows Try.underlying24 Try.underlying27 Try.underlying2 (by kernel_rfl) (by kernel_rfl) h1 with ⟨e, _⟩ | ⟨a, len, cap, A, L, C, Z, e, _, hl, hm, _, hr⟩
  · obtain rfl : c0 = .slice none 0 0 := by simpa using e
    exact ⟨none, 0, 0, [], rfl, RdR.none_, by unfold maxLen; omega, fun _ h => absurd h (by omega)⟩
  · obtain rfl : c0 = .slice (some a) len cap := by simpa using e
    exact ⟨some a, len, cap, _, rfl, RdR.of_rows hl hm hr⟩

end Go.Proofs.Yteglffbeldlibaa.Lib1
