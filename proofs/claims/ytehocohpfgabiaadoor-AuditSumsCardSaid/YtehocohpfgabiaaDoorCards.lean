/-
  DERIVED. GIVEN WITH THE SEED: THE CARDS: each row of YtehocohpfgabiaaDoorRows.lean that lists a variable, with what it lists TIED to the program's text (the seventh form; the later family's looks); each row that meets fmt, with fmt's text TOLD by the authors' own Lean function (tested against real Go, not proved from fmt's source: count such statements apart). THE CARD IS WHAT COUNTS. Prove the row's statement (the work); the ties are given (YtehocohpfgabiaaDoorTie.lean); close each card by the builder's one call (the guide's Derived/Test/ToyasCard.lean, 'card_holds'). Laid BY PROGRAM, IN A SANDBOX (cutbox-door.mjs). By AI agents, Wed Nov 11 2026. No macro, syntax, notation, axiom, sorry.
-/
import Derived.Test.YtehocohpfgabiaaDoorRows
import GoSem.ClaimSeven
namespace Go.Proofs.YtehocohpfgabiaaDoor
namespace Rows

/-- THE TIED CARD OF 'scholialaw36.AuditSums'. -/
def auditSumsCard : Claim7 := { stood := { row := auditSumsRow, standIns := [], harness := (true, "cf437a435ef50ec652cddc22d58ef5610924a74a33c582f42da9756d124020d1"), looks := false }, kinds := [], alts := [], laidByText := true, laidKinds := [.data, .data, .data, .data, .data], laidTests := true, laidLooks := .later }
def AuditSumsCardSaid : Prop := Claim7.holds Tryd.pinned (.plain (OpenSpec.ofChange auditSumsSpec)) auditSumsCard

/-- THE SECOND FORM's CARD OF 'scholialaw36.AuditSums'. -/
def auditSumsUptoCard : Claim7 := { stood := { row := auditSumsUptoRow, standIns := [], harness := (true, "cf437a435ef50ec652cddc22d58ef5610924a74a33c582f42da9756d124020d1"), looks := false }, kinds := [], alts := [], laidByText := true, laidKinds := [.data, .data, .data, .data, .data], laidTests := true, laidLooks := .later }
def AuditSumsUptoCardSaid : Prop := Claim7.holds Tryd.pinned (.plain (OpenSpec.upto auditSumsSpec)) auditSumsUptoCard
end Rows
end Go.Proofs.YtehocohpfgabiaaDoor
