/- Chapter 5: the program's HolderLists. -/
import Derived.Test.YteojdlacdnfgiaaFold5
import Derived.Test.YteojdlacdnfgiaaGrows5
import Derived.Test.YteojdlacdnfgiaaMadeS5
import Derived.Test.YteojdlacdnfgiaaHold5g
namespace Go.Proofs.Yteojdlacdnfgiaa.Lib1
open Go.RowKit Go.Shelf
set_option maxRecDepth 100000
attribute [local go_sem] Oper.semAt_some

theorem OwnV.ne {w : World} {base g : Nat} {v : Value} {zs : List Int} {cs : Array Value} {t : TypeId} {fr : Nat × Nat} (h : OwnV w base v zs) (hg : w.heap[g]? = some (.cells cs t fr)) (ht : t ≠ 2) : v.ownBlock ≠ some g := fun e => by
  obtain ⟨_, _, cur, hc⟩ := h.blockT e
  rw [hg] at hc
  injection hc with hc
  injection hc with _ h2
  exact ht h2
/-- Between two rounds of HolderLists: the lists so far, and what the rounds read. -/
def HlI {m : Nat} (w : World) (g s : Nat) (R : Array Value) (pre : List (Fin m × Int)) (W : World) : Prop :=
  OwnVQ W s (.slice (some ⟨s, 0, none⟩) 4 4) (foldH pre) ∧ BoxAt W (s + 1) (.slice (some ⟨s, 0, none⟩) 4 4) 34 ∧ W.heap[g]? = some (.cells R 97 (0, 0)) ∧ BoxAt W (s + 1 + 1) (.slice (some ⟨g, 0, none⟩) 52 52) 24 ∧ Below w.heap.size w W
theorem HlI.own {m : Nat} {w : World} {g s B : Nat} {R : Array Value} (hB : w.heap.size ≤ B) : OwnFrom B (HlI (m := m) w g s R) := fun pre A C row h hg hr => by
  have hk := fun (k : Nat) (cs : Array Value) (t : TypeId) (fr : Nat × Nat) (q : A.heap[k]? = some (.cells cs t fr)) => cells_kept hg (fun r e => (hr r e).2) q
  obtain ⟨h1, h2, h3, h4, h5⟩ := h
  exact ⟨h1.cells hk, hk _ _ _ _ h2, hk _ _ _ _ h3, hk _ _ _ _ h4, h5.grown hg h5.size (fun k e => Nat.le_trans hB (hr k e).1)⟩


end Go.Proofs.Yteojdlacdnfgiaa.Lib1
