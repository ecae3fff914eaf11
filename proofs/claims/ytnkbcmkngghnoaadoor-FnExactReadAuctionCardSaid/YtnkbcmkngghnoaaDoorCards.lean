/-
  DERIVED. GIVEN WITH THE SEED: THE CARDS: each row of YtnkbcmkngghnoaaDoorRows.lean that lists a variable, with what it lists TIED to the program's text (the seventh form; the later family's looks); each row that meets fmt, with fmt's text TOLD by the authors' own Lean function (tested against real Go, not proved from fmt's source: count such statements apart). THE CARD IS WHAT COUNTS. Prove the row's statement (the work); the ties are given (YtnkbcmkngghnoaaDoorTie.lean); close each card by the builder's one call (the guide's Derived/Test/ToyasCard.lean, 'card_holds'). Laid BY PROGRAM, IN A SANDBOX (cutbox-door.mjs). By AI agents, Wed Nov 11 2026. No macro, syntax, notation, axiom, sorry.
-/
import Derived.Test.YtnkbcmkngghnoaaDoorRows
import GoSem.ClaimSeven
namespace Go.Proofs.YtnkbcmkngghnoaaDoor
namespace Rows

/-- THE TIED CARD OF 'laws.FnAuctionText'. -/
def fnAuctionTextCard : Claim7 := { stood := { row := fnAuctionTextRow, standIns := [], harness := (true, "23b10a397c71aafe9afe8f610ce9bd3fb384da5e2c1c69c9c5eb03dd251193e6"), looks := false }, kinds := [], alts := [], laidByText := true, laidKinds := [.data, .data, .data, .listed, .data], laidTests := true, laidLooks := .later }
def FnAuctionTextCardSaid : Prop := Claim7.holds Tryd.pinned (.plain (OpenSpec.ofChange fnAuctionTextSpec)) fnAuctionTextCard

/-- THE TIED CARD OF 'laws.FnExactContractText'. -/
def fnExactContractTextCard : Claim7 := { stood := { row := fnExactContractTextRow, standIns := [], harness := (true, "23b10a397c71aafe9afe8f610ce9bd3fb384da5e2c1c69c9c5eb03dd251193e6"), looks := false }, kinds := [], alts := [], laidByText := true, laidKinds := [.data, .data, .data], laidTests := true, laidLooks := .later }
def FnExactContractTextCardSaid : Prop := Claim7.holds Tryd.pinned (.plain (OpenSpec.ofChange fnExactContractTextSpec)) fnExactContractTextCard

/-- THE TIED CARD OF 'laws.FnExactAuctionText'. -/
def fnExactAuctionTextCard : Claim7 := { stood := { row := fnExactAuctionTextRow, standIns := [], harness := (true, "23b10a397c71aafe9afe8f610ce9bd3fb384da5e2c1c69c9c5eb03dd251193e6"), looks := false }, kinds := [], alts := [], laidByText := true, laidKinds := [.data, .data, .data], laidTests := true, laidLooks := .later }
def FnExactAuctionTextCardSaid : Prop := Claim7.holds Tryd.pinned (.plain (OpenSpec.ofChange fnExactAuctionTextSpec)) fnExactAuctionTextCard

/-- THE TIED CARD OF 'laws.FnExactReadAuction'. -/
def fnExactReadAuctionCard : Claim7 := { stood := { row := fnExactReadAuctionRow, standIns := [], harness := (true, "23b10a397c71aafe9afe8f610ce9bd3fb384da5e2c1c69c9c5eb03dd251193e6"), looks := false }, kinds := [], alts := [], laidByText := true, laidKinds := [.data, .data, .data, .listed, .data], laidTests := true, laidLooks := .later }
def FnExactReadAuctionCardSaid : Prop := Claim7.holds Tryd.pinned (.plain (OpenSpec.ofChange fnExactReadAuctionSpec)) fnExactReadAuctionCard

/-- THE SECOND FORM's CARD OF 'laws.FnAuctionText'. -/
def fnAuctionTextUptoCard : Claim7 := { stood := { row := fnAuctionTextUptoRow, standIns := [], harness := (true, "23b10a397c71aafe9afe8f610ce9bd3fb384da5e2c1c69c9c5eb03dd251193e6"), looks := false }, kinds := [], alts := [], laidByText := true, laidKinds := [.data, .data, .data, .listed, .data], laidTests := true, laidLooks := .later }
def FnAuctionTextUptoCardSaid : Prop := Claim7.holds Tryd.pinned (.plain (OpenSpec.upto fnAuctionTextSpec)) fnAuctionTextUptoCard

/-- THE SECOND FORM's CARD OF 'laws.FnExactContractText'. -/
def fnExactContractTextUptoCard : Claim7 := { stood := { row := fnExactContractTextUptoRow, standIns := [], harness := (true, "23b10a397c71aafe9afe8f610ce9bd3fb384da5e2c1c69c9c5eb03dd251193e6"), looks := false }, kinds := [], alts := [], laidByText := true, laidKinds := [.data, .data, .data], laidTests := true, laidLooks := .later }
def FnExactContractTextUptoCardSaid : Prop := Claim7.holds Tryd.pinned (.plain (OpenSpec.upto fnExactContractTextSpec)) fnExactContractTextUptoCard

/-- THE SECOND FORM's CARD OF 'laws.FnExactAuctionText'. -/
def fnExactAuctionTextUptoCard : Claim7 := { stood := { row := fnExactAuctionTextUptoRow, standIns := [], harness := (true, "23b10a397c71aafe9afe8f610ce9bd3fb384da5e2c1c69c9c5eb03dd251193e6"), looks := false }, kinds := [], alts := [], laidByText := true, laidKinds := [.data, .data, .data], laidTests := true, laidLooks := .later }
def FnExactAuctionTextUptoCardSaid : Prop := Claim7.holds Tryd.pinned (.plain (OpenSpec.upto fnExactAuctionTextSpec)) fnExactAuctionTextUptoCard

/-- THE SECOND FORM's CARD OF 'laws.FnExactReadAuction'. -/
def fnExactReadAuctionUptoCard : Claim7 := { stood := { row := fnExactReadAuctionUptoRow, standIns := [], harness := (true, "23b10a397c71aafe9afe8f610ce9bd3fb384da5e2c1c69c9c5eb03dd251193e6"), looks := false }, kinds := [], alts := [], laidByText := true, laidKinds := [.data, .data, .data, .listed, .data], laidTests := true, laidLooks := .later }
def FnExactReadAuctionUptoCardSaid : Prop := Claim7.holds Tryd.pinned (.plain (OpenSpec.upto fnExactReadAuctionSpec)) fnExactReadAuctionUptoCard
end Rows
end Go.Proofs.YtnkbcmkngghnoaaDoor
