/-
  DERIVED. GIVEN WITH THE SEED: THE CARDS: each row of YtijmijokgenflaaGreatDoorRows.lean that lists a variable, with what it lists TIED to the program's text (the seventh form; the later family's looks); each row that meets fmt, with fmt's text TOLD by the authors' own Lean function (tested against real Go, not proved from fmt's source: count such statements apart). THE CARD IS WHAT COUNTS. Prove the row's statement (the work); the ties are given (YtijmijokgenflaaGreatDoorTie.lean); close each card by the builder's one call (the guide's Derived/Test/ToyasCard.lean, 'card_holds'). Laid BY PROGRAM, IN A SANDBOX (cutbox-door.mjs). By AI agents, Wed Nov 11 2026. No macro, syntax, notation, axiom, sorry.
-/
import Derived.Test.YtijmijokgenflaaGreatDoorRows
import GoSem.ClaimSeven
namespace Go.Proofs.YtijmijokgenflaaGreatDoor
namespace Rows

/-- THE TIED CARD OF 'scholialaw12.DocsReads'. -/
def docsReadsCard : Claim7 := { stood := { row := docsReadsRow, standIns := [], harness := (true, "f33b98647ddbcaf006bfe7ebc27a458a53b3c95187459467523a53654f2df466"), looks := false }, kinds := [], alts := [], laidByText := true, laidKinds := [.data], laidTests := true, laidLooks := .later }
def DocsReadsCardSaid : Prop := Claim7.holds Tryz.pinned (.plain (OpenSpec.ofChange docsReadsSpec)) docsReadsCard

/-- THE SECOND FORM's CARD OF 'scholialaw12.DocsReads'. -/
def docsReadsUptoCard : Claim7 := { stood := { row := docsReadsUptoRow, standIns := [], harness := (true, "f33b98647ddbcaf006bfe7ebc27a458a53b3c95187459467523a53654f2df466"), looks := false }, kinds := [], alts := [], laidByText := true, laidKinds := [.data], laidTests := true, laidLooks := .later }
def DocsReadsUptoCardSaid : Prop := Claim7.holds Tryz.pinned (.plain (OpenSpec.upto docsReadsSpec)) docsReadsUptoCard
end Rows
end Go.Proofs.YtijmijokgenflaaGreatDoor
