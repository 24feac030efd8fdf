/-
  DERIVED. GIVEN WITH THE SEED: THE CARDS: each row of YtjmglgcifekhgaaDoorRows.lean that lists a variable, with what it lists TIED to the program's text (the seventh form; the later family's looks); each row that meets fmt, with fmt's text TOLD by the authors' own Lean function (tested against real Go, not proved from fmt's source: count such statements apart). THE CARD IS WHAT COUNTS. Prove the row's statement (the work); the ties are given (YtjmglgcifekhgaaDoorTie.lean); close each card by the builder's one call (the guide's Derived/Test/ToyasCard.lean, 'card_holds'). Laid BY PROGRAM, IN A SANDBOX (cutbox-door.mjs). By AI agents, Wed Nov 11 2026. No macro, syntax, notation, axiom, sorry.
-/
import Derived.Test.YtjmglgcifekhgaaDoorRows
import GoSem.ClaimSeven
namespace Go.Proofs.YtjmglgcifekhgaaDoor
namespace Rows

/-- THE TIED CARD OF 'scholialaw12.DocsApplies'. -/
def docsAppliesCard : Claim7 := { stood := { row := docsAppliesRow, standIns := [], harness := (true, "b0c4333e1be8c9f656d01f54d8d20bc3e9d4fe41d2d0b1d60998f57a3b9ef7bf"), looks := false }, kinds := [], alts := [], laidByText := true, laidKinds := [.data], laidTests := true, laidLooks := .later }
def DocsAppliesCardSaid : Prop := Claim7.holds Tryd.pinned (.plain (OpenSpec.ofChange docsAppliesSpec)) docsAppliesCard

/-- THE TIED CARD OF 'scholialaw12.DocsBack'. -/
def docsBackCard : Claim7 := { stood := { row := docsBackRow, standIns := [], harness := (true, "b0c4333e1be8c9f656d01f54d8d20bc3e9d4fe41d2d0b1d60998f57a3b9ef7bf"), looks := false }, kinds := [], alts := [], laidByText := true, laidKinds := [.data], laidTests := true, laidLooks := .later }
def DocsBackCardSaid : Prop := Claim7.holds Tryd.pinned (.plain (OpenSpec.ofChange docsBackSpec)) docsBackCard

/-- THE SECOND FORM's CARD OF 'scholialaw12.DocsApplies'. -/
def docsAppliesUptoCard : Claim7 := { stood := { row := docsAppliesUptoRow, standIns := [], harness := (true, "b0c4333e1be8c9f656d01f54d8d20bc3e9d4fe41d2d0b1d60998f57a3b9ef7bf"), looks := false }, kinds := [], alts := [], laidByText := true, laidKinds := [.data], laidTests := true, laidLooks := .later }
def DocsAppliesUptoCardSaid : Prop := Claim7.holds Tryd.pinned (.plain (OpenSpec.upto docsAppliesSpec)) docsAppliesUptoCard

/-- THE SECOND FORM's CARD OF 'scholialaw12.DocsBack'. -/
def docsBackUptoCard : Claim7 := { stood := { row := docsBackUptoRow, standIns := [], harness := (true, "b0c4333e1be8c9f656d01f54d8d20bc3e9d4fe41d2d0b1d60998f57a3b9ef7bf"), looks := false }, kinds := [], alts := [], laidByText := true, laidKinds := [.data], laidTests := true, laidLooks := .later }
def DocsBackUptoCardSaid : Prop := Claim7.holds Tryd.pinned (.plain (OpenSpec.upto docsBackSpec)) docsBackUptoCard
end Rows
end Go.Proofs.YtjmglgcifekhgaaDoor
