/- Chapter 5: the model's l05Group, GroupsOf, EquivalentCards. (Written by wip/gen5g.py.) Chapter 5: the model's EquivalentCards and GroupsOf. -/
import Derived.Test.YteojdlacdnfgiaaHold5g
import Derived.Deep.QuietTactic
import Derived.Deep.RegionHeld3
import Derived.BigQuiet
namespace Go.Proofs.Yteojdlacdnfgiaa.Lib1

section
open Go.RowKit
set_option maxRecDepth 100000


end

section
open Go.RowKit
set_option maxRecDepth 100000

theorem RetSI.of_eq {w w' : World} {zs zs' : List Int} {k k' : Int} {e : Ending} (h1 : zs' = zs) (h2 : k' = k) (h : RetSI w zs k e w') : RetSI w zs' k' e w' := by subst h1; subst h2; exact h

theorem firsts_len (G : Int → List Int) : ∀ l : List Int, (firstsF G l).length ≤ l.length
  | [] => Nat.le_refl _
  | x :: l => by have := firsts_len G l; rw [firstsF, List.length_append]; split <;> simp <;> omega
theorem OwnVQ.made (w : World) {base : Nat} (hb : base ≤ w.heap.size) : OwnVQ (w.alloc (.cells #[] 24)) base (.slice (some ⟨w.heap.size, 0, none⟩) 0 0) [] :=
  ⟨[], ⟨by simp, .inr ⟨w.heap.size, 0, #[], rfl, hb, heap_alloc_new w _, Nat.le_refl _, Nat.zero_le _, by simp, by simp⟩⟩, fun _ h => absurd h (by simp), fun _ _ _ h => absurd h (by simp)⟩
theorem OwnVQ.still {w w' : World} {base : Nat} {v : Value} {zss : List (List Int)} (h : OwnVQ w base v zss) (c : Chg w w' 0 0) : OwnVQ w' base v zss := h.kept fun k _ hk => c.block k hk (.inr (Nat.zero_le _))
theorem grpF_pos (h : Int → Int) (c : Int) : 0 < (grpF h c).length := by unfold grpF; simp; omega


end

end Go.Proofs.Yteojdlacdnfgiaa.Lib1
