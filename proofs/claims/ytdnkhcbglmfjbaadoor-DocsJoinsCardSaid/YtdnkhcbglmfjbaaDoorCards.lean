/-
  DERIVED. GIVEN WITH THE SEED: THE CARDS: each row of YtdnkhcbglmfjbaaDoorRows.lean that lists a variable, with what it lists TIED to the program's text (the seventh form; the later family's looks); each row that meets fmt, with fmt's text TOLD by the authors' own Lean function (tested against real Go, not proved from fmt's source: count such statements apart). THE CARD IS WHAT COUNTS. Prove the row's statement (the work); the ties are given (YtdnkhcbglmfjbaaDoorTie.lean); close each card by the builder's one call (the guide's Derived/Test/ToyasCard.lean, 'card_holds'). Laid BY PROGRAM, IN A SANDBOX (cutbox-door.mjs). By AI agents, Wed Nov 11 2026. No macro, syntax, notation, axiom, sorry.
-/
import Derived.Test.YtdnkhcbglmfjbaaDoorRows
import GoSem.ClaimSeven
namespace Go.Proofs.YtdnkhcbglmfjbaaDoor
namespace Rows

/-- THE TIED CARD OF 'scholialaw12.DocsJoins'. -/
def docsJoinsCard : Claim7 := { stood := { row := docsJoinsRow, standIns := [], harness := (true, "d9715076eaa0a849b2e0e8aa283867a3d878de811a76f3c741e7285707e9980e"), looks := false }, kinds := [], alts := [], laidByText := true, laidKinds := [.data], laidTests := true, laidLooks := .later }
def DocsJoinsCardSaid : Prop := Claim7.holds Tryd.pinned (.plain (OpenSpec.ofChange docsJoinsSpec)) docsJoinsCard

/-- THE SECOND FORM's CARD OF 'scholialaw12.DocsJoins'. -/
def docsJoinsUptoCard : Claim7 := { stood := { row := docsJoinsUptoRow, standIns := [], harness := (true, "d9715076eaa0a849b2e0e8aa283867a3d878de811a76f3c741e7285707e9980e"), looks := false }, kinds := [], alts := [], laidByText := true, laidKinds := [.data], laidTests := true, laidLooks := .later }
def DocsJoinsUptoCardSaid : Prop := Claim7.holds Tryd.pinned (.plain (OpenSpec.upto docsJoinsSpec)) docsJoinsUptoCard
end Rows
end Go.Proofs.YtdnkhcbglmfjbaaDoor
