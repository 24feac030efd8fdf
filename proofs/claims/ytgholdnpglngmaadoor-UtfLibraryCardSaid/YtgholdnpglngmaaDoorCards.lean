/-
  DERIVED. GIVEN WITH THE SEED: THE CARDS: each row of YtgholdnpglngmaaDoorRows.lean that lists a variable, with what it lists TIED to the program's text (the seventh form; the later family's looks); each row that meets fmt, with fmt's text TOLD by the authors' own Lean function (tested against real Go, not proved from fmt's source: count such statements apart). THE CARD IS WHAT COUNTS. Prove the row's statement (the work); the ties are given (YtgholdnpglngmaaDoorTie.lean); close each card by the builder's one call (the guide's Derived/Test/ToyasCard.lean, 'card_holds'). Laid BY PROGRAM, IN A SANDBOX (cutbox-door.mjs). By AI agents, Wed Nov 11 2026. No macro, syntax, notation, axiom, sorry.
-/
import Derived.Test.YtgholdnpglngmaaDoorRows
import GoSem.ClaimSeven
namespace Go.Proofs.YtgholdnpglngmaaDoor
namespace Rows

/-- THE TIED CARD OF 'scholialaw03.UtfLibrary'. -/
def utfLibraryCard : Claim7 := { stood := { row := utfLibraryRow, standIns := [], harness := (true, "d417b47675bcca0cc6dd70e3ff67c505eb20f7afbb18e8a286e374233a4fff42"), looks := false }, kinds := [], alts := [], laidByText := true, laidKinds := [.data, .data, .pinned], laidTests := true, laidLooks := .later }
def UtfLibraryCardSaid : Prop := Claim7.holds Tryd.pinned (.plain (OpenSpec.ofChange utfLibrarySpec)) utfLibraryCard

/-- THE SECOND FORM's CARD OF 'scholialaw03.UtfLibrary'. -/
def utfLibraryUptoCard : Claim7 := { stood := { row := utfLibraryUptoRow, standIns := [], harness := (true, "d417b47675bcca0cc6dd70e3ff67c505eb20f7afbb18e8a286e374233a4fff42"), looks := false }, kinds := [], alts := [], laidByText := true, laidKinds := [.data, .data, .pinned], laidTests := true, laidLooks := .later }
def UtfLibraryUptoCardSaid : Prop := Claim7.holds Tryd.pinned (.plain (OpenSpec.upto utfLibrarySpec)) utfLibraryUptoCard
end Rows
end Go.Proofs.YtgholdnpglngmaaDoor
