/- What a world must hold where the library's Cut, Index and Fields are called: the variable MaxLen any number, the two tables of white space what the program lays. The wrap of a law whose row lists these tables. -/
import Derived.Test.YtnkbcmkngghnoaaDoorRows
import Derived.Test.YtnkbcmkngghnoaaDoorBase1
import Derived.Test.YtnkbcmkngghnoaaDoorShelfF
import Derived.Handed
import Derived.HandedShaped
import Derived.Shelf.Vars
import Derived.Lib.LaidU8
import Derived.MakeChecks
namespace Go.Proofs.YtnkbcmkngghnoaaDoor.Lib1
open Go.RowKit
set_option maxRecDepth 100000

def EnvR (w : World) : Prop :=
  (∃ m, w.cell? ⟨1, 0, none⟩ = some (.int .i64 m)) ∧ Go.Lib.TabIs Tryd.prog w "strings.asciiSpace" .u8 Go.Lib.asciiSpaceTab ∧ Go.Lib.WhiteTab 2 w
theorem EnvR.below {w w' : World} (h : EnvR w) (b : Below w.heap.size w w') : EnvR w' := by
  obtain ⟨⟨m, hm⟩, ht, hw⟩ := h
  refine ⟨⟨m, by rw [World.cell?_of_block (b.block _ (lt_of_cell hm))]; exact hm⟩, ?_, WhiteTab_below hw b⟩
  have hgn : Tryd.prog.globalNamed "strings.asciiSpace" = some 0 := by kernel_rfl
  unfold Go.Lib.TabIs World.var? at ht ⊢
  rw [hgn] at ht ⊢
  simp only [Option.bind_some] at ht ⊢
  have hlt : 0 < w.heap.size := by
    rcases Nat.lt_or_ge 0 w.heap.size with h' | h'
    · exact h'
    · rw [Array.getElem?_eq_none h'] at ht; cases ht
  rw [b.block _ hlt]
  exact ht
theorem EnvR.still {w w' : World} (h : EnvR w) (c : Chg w w' 0 0) : EnvR w' := h.below c.to_below

theorem env_of {w : World} (h : w.ShapedOpen Tryd.prog) (h6 : Go.Lib.VarReads Tryd.prog w "unicode.White_Space" Rows.laid_unicode_White_Space) (h0 : Go.Lib.VarReads Tryd.prog w "strings.asciiSpace" Rows.laid_strings_asciiSpace) : EnvR w := by
  refine ⟨cell_of_shapedOpen_int (t := 3) (zero := #[.int .i64 0]) h (of_decide_eq_true (by kernel_rfl)) (by kernel_rfl) rfl (by kernel_rfl) (by kernel_rfl) Tryd.underlying3, ?_, ?_⟩
  · obtain ⟨g, t, cs, fuel, p, hg, hty, hvar, hd⟩ := h0
    obtain rfl : g = 0 := Option.some.inj (hg.symm.trans (by kernel_rfl))
    obtain rfl : t = 89 := Option.some.inj (hty.symm.trans (by kernel_rfl))
    have e : (Rows.laid_strings_asciiSpace : DataW Unit) = Go.Lib.tabData .u8 Go.Lib.asciiSpaceTab := by kernel_rfl
    rw [e] at hd
    unfold Go.Lib.TabIs
    rw [hvar, ← Go.Lib.cells_of_tab Tryd.underlying89 Tryd.underlying5 (by kernel_rfl) (by kernel_rfl) hd]
  · have e : (Rows.laid_unicode_White_Space : DataW Unit) = Go.Lib.whiteData := by kernel_rfl
    rw [e] at h6
    exact whiteTab_of_reads Tryd.lays199 ⟨by kernel_rfl, by kernel_rfl, by kernel_rfl, by kernel_rfl, by kernel_rfl, by kernel_rfl, by kernel_rfl, by kernel_rfl⟩ h6

/-- The wrap: the walk is handed the world's shape and what the row lists. -/
theorem lift_laidX {H : Type} {enc : TypeId × Value → H} {a : Assume} {C : Checked} {os : Os} {f : FuncId} {fn : Func} {s : ChangeSpec} {conds : List PathCond} {apart fresh handsOn again : Bool} {l : List (String × DataW Unit)}
    (hpl : ∀ w, laidMetH C.prog l w → laidMet C.prog l w)
    (own : ownKnob C.prog.godebug = none) (started : os.Started) (noInit : C.prog.inits.idxOf? f = none) (hfn : C.prog.funcs[f]? = some fn)
    (witness : ∃ (w : World) (tape : Tape) (i : Input), w.os = os ∧ (w.forCall tape i).Shaped C.prog ∧ i.vars = [] ∧ Input.okWide C.prog (w.forCall tape i) .any w.heap.size f i ∧
      ((s.pre enc C.prog fn conds apart (w.forCall tape i).memory i.args ∧ laidMetH C.prog l (w.forCall tape i).memory) ∧ sizedMet enc C.prog fn (OpenSpec.ofChange s) apart (w.forCall tape i).memory i.args) ∧ a.holds C.prog (lone (Frame.enter C.prog f i.args .normal) [] (w.forCall tape i)))
    (walked : ∀ (W : World) (base : Nat) (args : Array Value) (ds gs : List (DataW H)) (before : List MemPlace),
      (∀ (j : Nat) t v, fn.params[j]? = some t → args[j]? = some v → Value.okWide C.prog W .any base t v) →
      DataW.Whole enc C.prog fn.params.toList s.vars apart W args.toList ds gs before → W.ShapedOpen C.prog → laidMet C.prog l W →
      Calls C.prog f args W fun e W' => ∃ v, e = .returned v ∧ s.post enc C.prog fn apart fresh handsOn again W args v W') :
    ReturnsInHanded a C os f .any (fun w args => (s.pre enc C.prog fn conds apart w args ∧ laidMetH C.prog l w) ∧ sizedMet enc C.prog fn (OpenSpec.ofChange s) apart w args) (s.post enc C.prog fn apart fresh handsOn again) := by
  refine returnsInHanded_of_calls own started noInit witness ?_
  intro w tape i _ shape _ ok pre _
  obtain ⟨_, _, _, g, hg, _, _, _, _, vals⟩ := ok
  obtain rfl : g = fn := Option.some.inj (hg.symm.trans hfn)
  obtain ⟨⟨⟨ds, gs, before, whole, _⟩, hx⟩, _⟩ := pre
  refine (walked (w.forCall tape i) w.heap.size i.args ds gs before vals (DataW.Whole.of_heap (by rfl) whole) shape (laidMet.of_heap (by rfl) (hpl _ hx))).mono fun e W' ⟨v, he, hp⟩ => ?_
  subst he
  exact ChangeSpec.post_blind hp
end Go.Proofs.YtnkbcmkngghnoaaDoor.Lib1
