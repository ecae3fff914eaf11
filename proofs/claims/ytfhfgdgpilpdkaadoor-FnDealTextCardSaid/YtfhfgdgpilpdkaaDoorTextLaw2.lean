/- The law FnHandText: a hand is recovered from its text, and an accepted text is the text of its hand; from contracts of the program's functions. -/
import Derived.Test.YtfhfgdgpilpdkaaDoorLaw2
import Derived.Test.YtfhfgdgpilpdkaaDoorDraws
namespace Go.Proofs.YtfhfgdgpilpdkaaDoor.Lib1
open Go.RowKit
set_option maxRecDepth 100000

theorem handText_no {zs : List Int} (h : handB zs = false) : handText zs = [] := by simp [handText, h]
theorem handText_le (zs : List Int) : (handText zs).length ≤ 64 := by
  cases h : handB zs
  · rw [handText_no h]; simp
  · have e : handText zs = textH zs := by simp [handText, h]
    rw [e, textH_length h]
    have := (hand_bounds h).1
    omega
theorem readV_le (l : List UInt8) : (readV l).length ≤ 64 := by
  cases h : readB l
  · rw [read_no h]; simp
  · obtain ⟨e, _⟩ := text_read h
    cases hh : handB (readV l)
    · rw [handText_no hh] at e
      subst e
      revert hh h
      decide
    · have := (hand_bounds hh).1
      omega

/-- The cell of the library's variable MaxLen holds some int (strings.Split comes by it). -/
def KM (w : World) : Prop := ∃ m, w.cell? ⟨0, 0, none⟩ = some (.int .i64 m)
theorem KM.below {w w' : World} (h : KM w) (b : Below w.heap.size w w') : KM w' := by -- of variable 0
  obtain ⟨m, hm⟩ := h
  exact ⟨m, by rw [World.cell?_of_block (b.block _ (lt_of_cell hm))]; exact hm⟩
/-- What is asked of the program's ReadHand. -/
def ImplRM (f : Nat) : Prop := -- with variable 0
  ∀ (s : ByteArray) (w : World), s.size ≤ 1048576 → KM w → Calls Tryd.prog f #[.string s] w (RetSB w (readV s.data.toList) (readB s.data.toList))


end Go.Proofs.YtfhfgdgpilpdkaaDoor.Lib1
