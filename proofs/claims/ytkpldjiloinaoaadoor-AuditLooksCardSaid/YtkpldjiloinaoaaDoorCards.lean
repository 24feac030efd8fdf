/-
  DERIVED. GIVEN WITH THE SEED: THE CARDS: each row of YtkpldjiloinaoaaDoorRows.lean that lists a variable, with what it lists TIED to the program's text (the seventh form; the later family's looks); each row that meets fmt, with fmt's text TOLD by the authors' own Lean function (tested against real Go, not proved from fmt's source: count such statements apart). THE CARD IS WHAT COUNTS. Prove the row's statement (the work); the ties are given (YtkpldjiloinaoaaDoorTie.lean); close each card by the builder's one call (the guide's Derived/Test/ToyasCard.lean, 'card_holds'). Laid BY PROGRAM, IN A SANDBOX (cutbox-door.mjs). By AI agents, Wed Nov 11 2026. No macro, syntax, notation, axiom, sorry.
-/
import Derived.Test.YtkpldjiloinaoaaDoorRows
import GoSem.ClaimSeven
namespace Go.Proofs.YtkpldjiloinaoaaDoor
namespace Rows

/-- THE TIED CARD OF 'scholialaw36.AuditLooks'. -/
def auditLooksCard : Claim7 := { stood := { row := auditLooksRow, standIns := [], harness := (true, "bf90cc96475339754d641474e0c5083aba8a39f43c2e3ff92e1e7770e81ca138"), looks := false }, kinds := [], alts := [], laidByText := true, laidKinds := [.data, .data, .data, .data, .data], laidTests := true, laidLooks := .later }
def AuditLooksCardSaid : Prop := Claim7.holds Tryd.pinned (.plain (OpenSpec.ofChange auditLooksSpec)) auditLooksCard

/-- THE SECOND FORM's CARD OF 'scholialaw36.AuditLooks'. -/
def auditLooksUptoCard : Claim7 := { stood := { row := auditLooksUptoRow, standIns := [], harness := (true, "bf90cc96475339754d641474e0c5083aba8a39f43c2e3ff92e1e7770e81ca138"), looks := false }, kinds := [], alts := [], laidByText := true, laidKinds := [.data, .data, .data, .data, .data], laidTests := true, laidLooks := .later }
def AuditLooksUptoCardSaid : Prop := Claim7.holds Tryd.pinned (.plain (OpenSpec.upto auditLooksSpec)) auditLooksUptoCard
end Rows
end Go.Proofs.YtkpldjiloinaoaaDoor
