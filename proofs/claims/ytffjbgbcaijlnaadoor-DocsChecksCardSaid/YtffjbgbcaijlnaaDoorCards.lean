/-
  DERIVED. GIVEN WITH THE SEED: THE CARDS: each row of YtffjbgbcaijlnaaDoorRows.lean that lists a variable, with what it lists TIED to the program's text (the seventh form; the later family's looks); each row that meets fmt, with fmt's text TOLD by the authors' own Lean function (tested against real Go, not proved from fmt's source: count such statements apart). THE CARD IS WHAT COUNTS. Prove the row's statement (the work); the ties are given (YtffjbgbcaijlnaaDoorTie.lean); close each card by the builder's one call (the guide's Derived/Test/ToyasCard.lean, 'card_holds'). Laid BY PROGRAM, IN A SANDBOX (cutbox-door.mjs). By AI agents, Wed Nov 11 2026. No macro, syntax, notation, axiom, sorry.
-/
import Derived.Test.YtffjbgbcaijlnaaDoorRows
import GoSem.ClaimSeven
namespace Go.Proofs.YtffjbgbcaijlnaaDoor
namespace Rows

/-- THE TIED CARD OF 'scholialaw12.DocsChecks'. -/
def docsChecksCard : Claim7 := { stood := { row := docsChecksRow, standIns := [], harness := (true, "09a3c64d16096a65c73f2e360ee4de6151c744b6fc90269c4e6092435b0e6250"), looks := false }, kinds := [], alts := [], laidByText := true, laidKinds := [.data], laidTests := true, laidLooks := .later }
def DocsChecksCardSaid : Prop := Claim7.holds Tryd.pinned (.plain (OpenSpec.ofChange docsChecksSpec)) docsChecksCard

/-- THE TIED CARD OF 'scholialaw12.DocsApplies'. -/
def docsAppliesCard : Claim7 := { stood := { row := docsAppliesRow, standIns := [], harness := (true, "09a3c64d16096a65c73f2e360ee4de6151c744b6fc90269c4e6092435b0e6250"), looks := false }, kinds := [], alts := [], laidByText := true, laidKinds := [.data], laidTests := true, laidLooks := .later }
def DocsAppliesCardSaid : Prop := Claim7.holds Tryd.pinned (.plain (OpenSpec.ofChange docsAppliesSpec)) docsAppliesCard

/-- THE TIED CARD OF 'scholialaw13.PastEvents'. -/
def pastEventsCard : Claim7 := { stood := { row := pastEventsRow, standIns := [], harness := (true, "09a3c64d16096a65c73f2e360ee4de6151c744b6fc90269c4e6092435b0e6250"), looks := false }, kinds := [], alts := [], laidByText := true, laidKinds := [.data], laidTests := true, laidLooks := .later }
def PastEventsCardSaid : Prop := Claim7.holds Tryd.pinned (.plain (OpenSpec.ofChange pastEventsSpec)) pastEventsCard

/-- THE SECOND FORM's CARD OF 'scholialaw12.DocsChecks'. -/
def docsChecksUptoCard : Claim7 := { stood := { row := docsChecksUptoRow, standIns := [], harness := (true, "09a3c64d16096a65c73f2e360ee4de6151c744b6fc90269c4e6092435b0e6250"), looks := false }, kinds := [], alts := [], laidByText := true, laidKinds := [.data], laidTests := true, laidLooks := .later }
def DocsChecksUptoCardSaid : Prop := Claim7.holds Tryd.pinned (.plain (OpenSpec.upto docsChecksSpec)) docsChecksUptoCard

/-- THE SECOND FORM's CARD OF 'scholialaw12.DocsApplies'. -/
def docsAppliesUptoCard : Claim7 := { stood := { row := docsAppliesUptoRow, standIns := [], harness := (true, "09a3c64d16096a65c73f2e360ee4de6151c744b6fc90269c4e6092435b0e6250"), looks := false }, kinds := [], alts := [], laidByText := true, laidKinds := [.data], laidTests := true, laidLooks := .later }
def DocsAppliesUptoCardSaid : Prop := Claim7.holds Tryd.pinned (.plain (OpenSpec.upto docsAppliesSpec)) docsAppliesUptoCard

/-- THE SECOND FORM's CARD OF 'scholialaw13.PastEvents'. -/
def pastEventsUptoCard : Claim7 := { stood := { row := pastEventsUptoRow, standIns := [], harness := (true, "09a3c64d16096a65c73f2e360ee4de6151c744b6fc90269c4e6092435b0e6250"), looks := false }, kinds := [], alts := [], laidByText := true, laidKinds := [.data], laidTests := true, laidLooks := .later }
def PastEventsUptoCardSaid : Prop := Claim7.holds Tryd.pinned (.plain (OpenSpec.upto pastEventsSpec)) pastEventsUptoCard
end Rows
end Go.Proofs.YtffjbgbcaijlnaaDoor
