/-
  DERIVED. GIVEN WITH THE SEED: THE CARDS: each row of YtgoaikamolcffaaDoorRows.lean that lists a variable, with what it lists TIED to the program's text (the seventh form; the later family's looks); each row that meets fmt, with fmt's text TOLD by the authors' own Lean function (tested against real Go, not proved from fmt's source: count such statements apart). THE CARD IS WHAT COUNTS. Prove the row's statement (the work); the ties are given (YtgoaikamolcffaaDoorTie.lean); close each card by the builder's one call (the guide's Derived/Test/ToyasCard.lean, 'card_holds'). Laid BY PROGRAM, IN A SANDBOX (cutbox-door.mjs). By AI agents, Wed Nov 11 2026. No macro, syntax, notation, axiom, sorry.
-/
import Derived.Test.YtgoaikamolcffaaDoorRows
import GoSem.ClaimSeven
namespace Go.Proofs.YtgoaikamolcffaaDoor
namespace Rows

/-- THE TIED CARD OF 'laws.FnHandText'. -/
def fnHandTextCard : Claim7 := { stood := { row := fnHandTextRow, standIns := [], harness := (true, "6db125040fc18d37cea069702cb42024b7ebc03c20d3a5d96b0fe38ed74f62a4"), looks := false }, kinds := [], alts := [], laidByText := true, laidKinds := [.data, .pinned], laidTests := true, laidLooks := .later }
def FnHandTextCardSaid : Prop := Claim7.holds Tryd.pinned (.plain (OpenSpec.ofChange fnHandTextSpec)) fnHandTextCard

/-- THE TIED CARD OF 'laws.FnExactReadHand'. -/
def fnExactReadHandCard : Claim7 := { stood := { row := fnExactReadHandRow, standIns := [], harness := (true, "6db125040fc18d37cea069702cb42024b7ebc03c20d3a5d96b0fe38ed74f62a4"), looks := false }, kinds := [], alts := [], laidByText := true, laidKinds := [.data, .pinned], laidTests := true, laidLooks := .later }
def FnExactReadHandCardSaid : Prop := Claim7.holds Tryd.pinned (.plain (OpenSpec.ofChange fnExactReadHandSpec)) fnExactReadHandCard

/-- THE SECOND FORM's CARD OF 'laws.FnHandText'. -/
def fnHandTextUptoCard : Claim7 := { stood := { row := fnHandTextUptoRow, standIns := [], harness := (true, "6db125040fc18d37cea069702cb42024b7ebc03c20d3a5d96b0fe38ed74f62a4"), looks := false }, kinds := [], alts := [], laidByText := true, laidKinds := [.data, .pinned], laidTests := true, laidLooks := .later }
def FnHandTextUptoCardSaid : Prop := Claim7.holds Tryd.pinned (.plain (OpenSpec.upto fnHandTextSpec)) fnHandTextUptoCard

/-- THE SECOND FORM's CARD OF 'laws.FnExactReadHand'. -/
def fnExactReadHandUptoCard : Claim7 := { stood := { row := fnExactReadHandUptoRow, standIns := [], harness := (true, "6db125040fc18d37cea069702cb42024b7ebc03c20d3a5d96b0fe38ed74f62a4"), looks := false }, kinds := [], alts := [], laidByText := true, laidKinds := [.data, .pinned], laidTests := true, laidLooks := .later }
def FnExactReadHandUptoCardSaid : Prop := Claim7.holds Tryd.pinned (.plain (OpenSpec.upto fnExactReadHandSpec)) fnExactReadHandUptoCard
end Rows
end Go.Proofs.YtgoaikamolcffaaDoor
