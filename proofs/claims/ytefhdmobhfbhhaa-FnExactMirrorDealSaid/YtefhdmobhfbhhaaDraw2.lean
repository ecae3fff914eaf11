/- Contracts of the draws of chapter 2: a hand with many high cards, a hand's text that may be damaged. -/
import Derived.Test.YtefhdmobhfbhhaaDraws
import Derived.Test.YtefhdmobhfbhhaaTwo
import Derived.Deep.RegionWith
import Derived.Deep.DeepFit
import Derived.WalkSpells
namespace Go.Proofs.Ytefhdmobhfbhhaa.Lib1
open Go.RowKit
set_option maxRecDepth 100000


/-- A list is drawn. -/
def DrewS (w : World) (e : Ending) (w' : World) : Prop :=
  ∃ A c zs, e = .returned (.slice A zs.length c) ∧ zs.length ≤ 15 ∧ zs.length ≤ c ∧ Plain A c ∧ Own w' w.heap.size w'.heap.size A zs.length zs ∧ Below w.heap.size w w'




/-- A string is drawn. -/
def DrewStr (g m : Nat) (w : World) (e : Ending) (w' : World) : Prop := ∃ u : ByteArray, e = .returned (.string u) ∧ u.size ≤ m ∧ Src w' g ∧ Chg w w' g (g + 1)

/-- The six texts that a damaged text may get. -/
def six : Array Value := #[.string ⟨#[46]⟩, .string ⟨#[65]⟩, .string ⟨#[50]⟩, .string ⟨#[32]⟩, .string ⟨#[120]⟩, .string ⟨#[84]⟩]
theorem six_at (r : Int) (h0 : 0 ≤ r) (h1 : r < 6) : ∃ u : ByteArray, u.size = 1 ∧ six[r.toNat]? = some (.string u) := by
  have hr : r = 0 ∨ r = 1 ∨ r = 2 ∨ r = 3 ∨ r = 4 ∨ r = 5 := by omega
  rcases hr with rfl | rfl | rfl | rfl | rfl | rfl
  · exact ⟨_, rfl, rfl⟩
  · exact ⟨_, rfl, rfl⟩
  · exact ⟨_, rfl, rfl⟩
  · exact ⟨_, rfl, rfl⟩
  · exact ⟨_, rfl, rfl⟩
  · exact ⟨_, rfl, rfl⟩
def Next6 (w : World) (g : Nat) (e : Ending) (w' : World) : Prop :=
  ∃ (r : Int) (u : ByteArray), e = .returned (.int .i64 r) ∧ 0 ≤ r ∧ r < 6 ∧ Hid (u.size = 1) ∧ w'.cell? ⟨w.heap.size, r.toNat, none⟩ = some (.string u) ∧ Src w' g ∧ Chg w w' g (g + 1)
theorem next_six {w : World} {g : Nat} (h : Src w g) :
    Calls Try.prog 47 #[.pointer (some ⟨g, 0, none⟩), .int .i64 6] (w.alloc (.cells six 9)).drew (Next6 w g) := by
  have hc : Chg w (w.alloc (.cells six 9)).drew 0 0 := Chg.alloc_drew _ _ _ _
  refine (l01Next g 6 _ (h.still hc) (by omega)).mono ?_
  rintro e w' ⟨r, rfl, ⟨r0, r1⟩, s, c⟩
  have r2 := r1 (by omega)
  have hg := h.lt
  have hsz : w.heap.size < (w.alloc (.cells six 9)).drew.heap.size := by show _ < (w.heap.push _).size; simp
  have hb := c.block w.heap.size hsz (by omega)
  have hbk : w'.heap[w.heap.size]? = some (.cells six 9 (0, 0)) := hb.trans (heap_alloc_new w _)
  obtain ⟨u, hu, hz⟩ := six_at r r0 r2
  exact ⟨r, u, rfl, r0, r2, hu, by rw [cell_of_row w' _ _ _ _ _ hbk]; exact hz, s, (hc.any _ _).trans c⟩



end Go.Proofs.Ytefhdmobhfbhhaa.Lib1
