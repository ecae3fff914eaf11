/-
  DERIVED. GIVEN WITH THE SEED: THE CARDS: each row of YteojdlacdnfgiaaDoorRows.lean that lists a variable, with what it lists TIED to the program's text (the seventh form; the later family's looks); each row that meets fmt, with fmt's text TOLD by the authors' own Lean function (tested against real Go, not proved from fmt's source: count such statements apart). THE CARD IS WHAT COUNTS. Prove the row's statement (the work); the ties are given (YteojdlacdnfgiaaDoorTie.lean); close each card by the builder's one call (the guide's Derived/Test/ToyasCard.lean, 'card_holds'). Laid BY PROGRAM, IN A SANDBOX (cutbox-door.mjs). By AI agents, Wed Nov 11 2026. No macro, syntax, notation, axiom, sorry.
-/
import Derived.Test.YteojdlacdnfgiaaDoorRows
import GoSem.ClaimSeven
namespace Go.Proofs.YteojdlacdnfgiaaDoor
namespace Rows

/-- THE TIED CARD OF 'laws.FnHandText'. -/
def fnHandTextCard : Claim7 := { stood := { row := fnHandTextRow, standIns := [], harness := (true, "c016882be0a4fc1c0788e703ec2f2182cdad5b44ed457259c2163e00be7cfcb1"), looks := false }, kinds := [], alts := [], laidByText := true, laidKinds := [.data, .pinned], laidTests := true, laidLooks := .later }
def FnHandTextCardSaid : Prop := Claim7.holds Tryd.pinned (.plain (OpenSpec.ofChange fnHandTextSpec)) fnHandTextCard

/-- THE TIED CARD OF 'laws.FnDealText'. -/
def fnDealTextCard : Claim7 := { stood := { row := fnDealTextRow, standIns := [], harness := (true, "c016882be0a4fc1c0788e703ec2f2182cdad5b44ed457259c2163e00be7cfcb1"), looks := false }, kinds := [], alts := [], laidByText := true, laidKinds := [.data, .pinned], laidTests := true, laidLooks := .later }
def FnDealTextCardSaid : Prop := Claim7.holds Tryd.pinned (.plain (OpenSpec.ofChange fnDealTextSpec)) fnDealTextCard

/-- THE TIED CARD OF 'laws.FnExactReadHand'. -/
def fnExactReadHandCard : Claim7 := { stood := { row := fnExactReadHandRow, standIns := [], harness := (true, "c016882be0a4fc1c0788e703ec2f2182cdad5b44ed457259c2163e00be7cfcb1"), looks := false }, kinds := [], alts := [], laidByText := true, laidKinds := [.data, .pinned], laidTests := true, laidLooks := .later }
def FnExactReadHandCardSaid : Prop := Claim7.holds Tryd.pinned (.plain (OpenSpec.ofChange fnExactReadHandSpec)) fnExactReadHandCard

/-- THE TIED CARD OF 'laws.FnExactReadDeal'. -/
def fnExactReadDealCard : Claim7 := { stood := { row := fnExactReadDealRow, standIns := [], harness := (true, "c016882be0a4fc1c0788e703ec2f2182cdad5b44ed457259c2163e00be7cfcb1"), looks := false }, kinds := [], alts := [], laidByText := true, laidKinds := [.data, .pinned], laidTests := true, laidLooks := .later }
def FnExactReadDealCardSaid : Prop := Claim7.holds Tryd.pinned (.plain (OpenSpec.ofChange fnExactReadDealSpec)) fnExactReadDealCard

/-- THE SECOND FORM's CARD OF 'laws.FnHandText'. -/
def fnHandTextUptoCard : Claim7 := { stood := { row := fnHandTextUptoRow, standIns := [], harness := (true, "c016882be0a4fc1c0788e703ec2f2182cdad5b44ed457259c2163e00be7cfcb1"), looks := false }, kinds := [], alts := [], laidByText := true, laidKinds := [.data, .pinned], laidTests := true, laidLooks := .later }
def FnHandTextUptoCardSaid : Prop := Claim7.holds Tryd.pinned (.plain (OpenSpec.upto fnHandTextSpec)) fnHandTextUptoCard

/-- THE SECOND FORM's CARD OF 'laws.FnDealText'. -/
def fnDealTextUptoCard : Claim7 := { stood := { row := fnDealTextUptoRow, standIns := [], harness := (true, "c016882be0a4fc1c0788e703ec2f2182cdad5b44ed457259c2163e00be7cfcb1"), looks := false }, kinds := [], alts := [], laidByText := true, laidKinds := [.data, .pinned], laidTests := true, laidLooks := .later }
def FnDealTextUptoCardSaid : Prop := Claim7.holds Tryd.pinned (.plain (OpenSpec.upto fnDealTextSpec)) fnDealTextUptoCard

/-- THE SECOND FORM's CARD OF 'laws.FnExactReadHand'. -/
def fnExactReadHandUptoCard : Claim7 := { stood := { row := fnExactReadHandUptoRow, standIns := [], harness := (true, "c016882be0a4fc1c0788e703ec2f2182cdad5b44ed457259c2163e00be7cfcb1"), looks := false }, kinds := [], alts := [], laidByText := true, laidKinds := [.data, .pinned], laidTests := true, laidLooks := .later }
def FnExactReadHandUptoCardSaid : Prop := Claim7.holds Tryd.pinned (.plain (OpenSpec.upto fnExactReadHandSpec)) fnExactReadHandUptoCard

/-- THE SECOND FORM's CARD OF 'laws.FnExactReadDeal'. -/
def fnExactReadDealUptoCard : Claim7 := { stood := { row := fnExactReadDealUptoRow, standIns := [], harness := (true, "c016882be0a4fc1c0788e703ec2f2182cdad5b44ed457259c2163e00be7cfcb1"), looks := false }, kinds := [], alts := [], laidByText := true, laidKinds := [.data, .pinned], laidTests := true, laidLooks := .later }
def FnExactReadDealUptoCardSaid : Prop := Claim7.holds Tryd.pinned (.plain (OpenSpec.upto fnExactReadDealSpec)) fnExactReadDealUptoCard
end Rows
end Go.Proofs.YteojdlacdnfgiaaDoor
