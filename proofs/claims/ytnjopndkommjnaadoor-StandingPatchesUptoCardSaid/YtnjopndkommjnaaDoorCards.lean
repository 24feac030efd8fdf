/-
  DERIVED. GIVEN WITH THE SEED: THE CARDS: each row of YtnjopndkommjnaaDoorRows.lean that lists a variable, with what it lists TIED to the program's text (the seventh form; the later family's looks); each row that meets fmt, with fmt's text TOLD by the authors' own Lean function (tested against real Go, not proved from fmt's source: count such statements apart). THE CARD IS WHAT COUNTS. Prove the row's statement (the work); the ties are given (YtnjopndkommjnaaDoorTie.lean); close each card by the builder's one call (the guide's Derived/Test/ToyasCard.lean, 'card_holds'). Laid BY PROGRAM, IN A SANDBOX (cutbox-door.mjs). By AI agents, Wed Nov 11 2026. No macro, syntax, notation, axiom, sorry.
-/
import Derived.Test.YtnjopndkommjnaaDoorRows
import GoSem.ClaimSeven
namespace Go.Proofs.YtnjopndkommjnaaDoor
namespace Rows

/-- THE TIED CARD OF 'scholialaw34.StandingDiffs'. -/
def standingDiffsCard : Claim7 := { stood := { row := standingDiffsRow, standIns := [], harness := (true, "c1cbaa95533353ce823f1922c169f13263e648d20ef7218390e374a62679fa71"), looks := false }, kinds := [], alts := [], laidByText := true, laidKinds := [.data, .data, .data], laidTests := true, laidLooks := .later }
def StandingDiffsCardSaid : Prop := Claim7.holds Tryd.pinned (.plain (OpenSpec.ofChange standingDiffsSpec)) standingDiffsCard

/-- THE TIED CARD OF 'scholialaw34.StandingPatches'. -/
def standingPatchesCard : Claim7 := { stood := { row := standingPatchesRow, standIns := [], harness := (true, "c1cbaa95533353ce823f1922c169f13263e648d20ef7218390e374a62679fa71"), looks := false }, kinds := [], alts := [], laidByText := true, laidKinds := [.data, .data, .data], laidTests := true, laidLooks := .later }
def StandingPatchesCardSaid : Prop := Claim7.holds Tryd.pinned (.plain (OpenSpec.ofChange standingPatchesSpec)) standingPatchesCard

/-- THE TIED CARD OF 'scholialaw34.StandingBack'. -/
def standingBackCard : Claim7 := { stood := { row := standingBackRow, standIns := [], harness := (true, "c1cbaa95533353ce823f1922c169f13263e648d20ef7218390e374a62679fa71"), looks := false }, kinds := [], alts := [], laidByText := true, laidKinds := [.data, .data, .data], laidTests := true, laidLooks := .later }
def StandingBackCardSaid : Prop := Claim7.holds Tryd.pinned (.plain (OpenSpec.ofChange standingBackSpec)) standingBackCard

/-- THE TIED CARD OF 'scholialaw34.StandingThen'. -/
def standingThenCard : Claim7 := { stood := { row := standingThenRow, standIns := [], harness := (true, "c1cbaa95533353ce823f1922c169f13263e648d20ef7218390e374a62679fa71"), looks := false }, kinds := [], alts := [], laidByText := true, laidKinds := [.data, .data, .data], laidTests := true, laidLooks := .later }
def StandingThenCardSaid : Prop := Claim7.holds Tryd.pinned (.plain (OpenSpec.ofChange standingThenSpec)) standingThenCard

/-- THE SECOND FORM's CARD OF 'scholialaw34.StandingDiffs'. -/
def standingDiffsUptoCard : Claim7 := { stood := { row := standingDiffsUptoRow, standIns := [], harness := (true, "c1cbaa95533353ce823f1922c169f13263e648d20ef7218390e374a62679fa71"), looks := false }, kinds := [], alts := [], laidByText := true, laidKinds := [.data, .data, .data], laidTests := true, laidLooks := .later }
def StandingDiffsUptoCardSaid : Prop := Claim7.holds Tryd.pinned (.plain (OpenSpec.upto standingDiffsSpec)) standingDiffsUptoCard

/-- THE SECOND FORM's CARD OF 'scholialaw34.StandingPatches'. -/
def standingPatchesUptoCard : Claim7 := { stood := { row := standingPatchesUptoRow, standIns := [], harness := (true, "c1cbaa95533353ce823f1922c169f13263e648d20ef7218390e374a62679fa71"), looks := false }, kinds := [], alts := [], laidByText := true, laidKinds := [.data, .data, .data], laidTests := true, laidLooks := .later }
def StandingPatchesUptoCardSaid : Prop := Claim7.holds Tryd.pinned (.plain (OpenSpec.upto standingPatchesSpec)) standingPatchesUptoCard

/-- THE SECOND FORM's CARD OF 'scholialaw34.StandingBack'. -/
def standingBackUptoCard : Claim7 := { stood := { row := standingBackUptoRow, standIns := [], harness := (true, "c1cbaa95533353ce823f1922c169f13263e648d20ef7218390e374a62679fa71"), looks := false }, kinds := [], alts := [], laidByText := true, laidKinds := [.data, .data, .data], laidTests := true, laidLooks := .later }
def StandingBackUptoCardSaid : Prop := Claim7.holds Tryd.pinned (.plain (OpenSpec.upto standingBackSpec)) standingBackUptoCard

/-- THE SECOND FORM's CARD OF 'scholialaw34.StandingThen'. -/
def standingThenUptoCard : Claim7 := { stood := { row := standingThenUptoRow, standIns := [], harness := (true, "c1cbaa95533353ce823f1922c169f13263e648d20ef7218390e374a62679fa71"), looks := false }, kinds := [], alts := [], laidByText := true, laidKinds := [.data, .data, .data], laidTests := true, laidLooks := .later }
def StandingThenUptoCardSaid : Prop := Claim7.holds Tryd.pinned (.plain (OpenSpec.upto standingThenSpec)) standingThenUptoCard
end Rows
end Go.Proofs.YtnjopndkommjnaaDoor
