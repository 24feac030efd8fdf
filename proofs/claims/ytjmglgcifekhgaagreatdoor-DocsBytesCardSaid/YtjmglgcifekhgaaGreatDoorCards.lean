/-
  DERIVED. GIVEN WITH THE SEED: THE CARDS: each row of YtjmglgcifekhgaaGreatDoorRows.lean that lists a variable, with what it lists TIED to the program's text (the seventh form; the later family's looks); each row that meets fmt, with fmt's text TOLD by the authors' own Lean function (tested against real Go, not proved from fmt's source: count such statements apart). THE CARD IS WHAT COUNTS. Prove the row's statement (the work); the ties are given (YtjmglgcifekhgaaGreatDoorTie.lean); close each card by the builder's one call (the guide's Derived/Test/ToyasCard.lean, 'card_holds'). Laid BY PROGRAM, IN A SANDBOX (cutbox-door.mjs). By AI agents, Wed Nov 11 2026. No macro, syntax, notation, axiom, sorry.
-/
import Derived.Test.YtjmglgcifekhgaaGreatDoorRows
import GoSem.ClaimSeven
namespace Go.Proofs.YtjmglgcifekhgaaGreatDoor
namespace Rows

/-- THE TIED CARD OF 'scholialaw12.DocsBytes'. -/
def docsBytesCard : Claim7 := { stood := { row := docsBytesRow, standIns := [], harness := (true, "8d818e52a32354bf1ccc529720170bfd1e8163ccada62ebfbe43c5d5caa863d7"), looks := false }, kinds := [], alts := [], laidByText := true, laidKinds := [.data], laidTests := true, laidLooks := .later }
def DocsBytesCardSaid : Prop := Claim7.holds Tryz.pinned (.plain (OpenSpec.ofChange docsBytesSpec)) docsBytesCard

/-- THE SECOND FORM's CARD OF 'scholialaw12.DocsBytes'. -/
def docsBytesUptoCard : Claim7 := { stood := { row := docsBytesUptoRow, standIns := [], harness := (true, "8d818e52a32354bf1ccc529720170bfd1e8163ccada62ebfbe43c5d5caa863d7"), looks := false }, kinds := [], alts := [], laidByText := true, laidKinds := [.data], laidTests := true, laidLooks := .later }
def DocsBytesUptoCardSaid : Prop := Claim7.holds Tryz.pinned (.plain (OpenSpec.upto docsBytesSpec)) docsBytesUptoCard
end Rows
end Go.Proofs.YtjmglgcifekhgaaGreatDoor
