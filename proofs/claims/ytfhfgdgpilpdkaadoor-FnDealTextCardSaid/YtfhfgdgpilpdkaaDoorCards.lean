/-
  DERIVED. GIVEN WITH THE SEED: THE CARDS: each row of YtfhfgdgpilpdkaaDoorRows.lean that lists a variable, with what it lists TIED to the program's text (the seventh form; the later family's looks); each row that meets fmt, with fmt's text TOLD by the authors' own Lean function (tested against real Go, not proved from fmt's source: count such statements apart). THE CARD IS WHAT COUNTS. Prove the row's statement (the work); the ties are given (YtfhfgdgpilpdkaaDoorTie.lean); close each card by the builder's one call (the guide's Derived/Test/ToyasCard.lean, 'card_holds'). Laid BY PROGRAM, IN A SANDBOX (cutbox-door.mjs). By AI agents, Wed Nov 11 2026. No macro, syntax, notation, axiom, sorry.
-/
import Derived.Test.YtfhfgdgpilpdkaaDoorRows
import GoSem.ClaimSeven
namespace Go.Proofs.YtfhfgdgpilpdkaaDoor
namespace Rows

/-- THE TIED CARD OF 'laws.FnDealText'. -/
def fnDealTextCard : Claim7 := { stood := { row := fnDealTextRow, standIns := [], harness := (true, "9c586bf4d7b5a22fdc63f28164c8a1a74cdbad7fdb63dc6c1f42b80cbb56be30"), looks := false }, kinds := [], alts := [], laidByText := true, laidKinds := [.data, .pinned], laidTests := true, laidLooks := .later }
def FnDealTextCardSaid : Prop := Claim7.holds Tryd.pinned (.plain (OpenSpec.ofChange fnDealTextSpec)) fnDealTextCard

/-- THE TIED CARD OF 'laws.FnExactReadDeal'. -/
def fnExactReadDealCard : Claim7 := { stood := { row := fnExactReadDealRow, standIns := [], harness := (true, "9c586bf4d7b5a22fdc63f28164c8a1a74cdbad7fdb63dc6c1f42b80cbb56be30"), looks := false }, kinds := [], alts := [], laidByText := true, laidKinds := [.data, .pinned], laidTests := true, laidLooks := .later }
def FnExactReadDealCardSaid : Prop := Claim7.holds Tryd.pinned (.plain (OpenSpec.ofChange fnExactReadDealSpec)) fnExactReadDealCard

/-- THE SECOND FORM's CARD OF 'laws.FnDealText'. -/
def fnDealTextUptoCard : Claim7 := { stood := { row := fnDealTextUptoRow, standIns := [], harness := (true, "9c586bf4d7b5a22fdc63f28164c8a1a74cdbad7fdb63dc6c1f42b80cbb56be30"), looks := false }, kinds := [], alts := [], laidByText := true, laidKinds := [.data, .pinned], laidTests := true, laidLooks := .later }
def FnDealTextUptoCardSaid : Prop := Claim7.holds Tryd.pinned (.plain (OpenSpec.upto fnDealTextSpec)) fnDealTextUptoCard

/-- THE SECOND FORM's CARD OF 'laws.FnExactReadDeal'. -/
def fnExactReadDealUptoCard : Claim7 := { stood := { row := fnExactReadDealUptoRow, standIns := [], harness := (true, "9c586bf4d7b5a22fdc63f28164c8a1a74cdbad7fdb63dc6c1f42b80cbb56be30"), looks := false }, kinds := [], alts := [], laidByText := true, laidKinds := [.data, .pinned], laidTests := true, laidLooks := .later }
def FnExactReadDealUptoCardSaid : Prop := Claim7.holds Tryd.pinned (.plain (OpenSpec.upto fnExactReadDealSpec)) fnExactReadDealUptoCard
end Rows
end Go.Proofs.YtfhfgdgpilpdkaaDoor
