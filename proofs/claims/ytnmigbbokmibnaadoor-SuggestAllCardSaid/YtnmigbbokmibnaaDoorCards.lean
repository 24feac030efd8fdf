/-
  DERIVED. GIVEN WITH THE SEED: THE CARDS: each row of YtnmigbbokmibnaaDoorRows.lean that lists a variable, with what it lists TIED to the program's text (the seventh form; the later family's looks); each row that meets fmt, with fmt's text TOLD by the authors' own Lean function (tested against real Go, not proved from fmt's source: count such statements apart). THE CARD IS WHAT COUNTS. Prove the row's statement (the work); the ties are given (YtnmigbbokmibnaaDoorTie.lean); close each card by the builder's one call (the guide's Derived/Test/ToyasCard.lean, 'card_holds'). Laid BY PROGRAM, IN A SANDBOX (cutbox-door.mjs). By AI agents, Wed Nov 11 2026. No macro, syntax, notation, axiom, sorry.
-/
import Derived.Test.YtnmigbbokmibnaaDoorRows
import GoSem.ClaimSeven
namespace Go.Proofs.YtnmigbbokmibnaaDoor
namespace Rows

/-- THE TIED CARD OF 'scholialaw32.SuggestWords'. -/
def suggestWordsCard : Claim7 := { stood := { row := suggestWordsRow, standIns := [], harness := (true, "84f1b066cf6b217c18fed9acab217a44879953248abc470c76096bf9eba84678"), looks := false }, kinds := [], alts := [], laidByText := true, laidKinds := [.data], laidTests := true, laidLooks := .later }
def SuggestWordsCardSaid : Prop := Claim7.holds Tryd.pinned (.plain (OpenSpec.ofChange suggestWordsSpec)) suggestWordsCard

/-- THE TIED CARD OF 'scholialaw32.SuggestAll'. -/
def suggestAllCard : Claim7 := { stood := { row := suggestAllRow, standIns := [], harness := (true, "84f1b066cf6b217c18fed9acab217a44879953248abc470c76096bf9eba84678"), looks := false }, kinds := [], alts := [], laidByText := true, laidKinds := [.data], laidTests := true, laidLooks := .later }
def SuggestAllCardSaid : Prop := Claim7.holds Tryd.pinned (.plain (OpenSpec.ofChange suggestAllSpec)) suggestAllCard

/-- THE SECOND FORM's CARD OF 'scholialaw32.SuggestWords'. -/
def suggestWordsUptoCard : Claim7 := { stood := { row := suggestWordsUptoRow, standIns := [], harness := (true, "84f1b066cf6b217c18fed9acab217a44879953248abc470c76096bf9eba84678"), looks := false }, kinds := [], alts := [], laidByText := true, laidKinds := [.data], laidTests := true, laidLooks := .later }
def SuggestWordsUptoCardSaid : Prop := Claim7.holds Tryd.pinned (.plain (OpenSpec.upto suggestWordsSpec)) suggestWordsUptoCard

/-- THE SECOND FORM's CARD OF 'scholialaw32.SuggestAll'. -/
def suggestAllUptoCard : Claim7 := { stood := { row := suggestAllUptoRow, standIns := [], harness := (true, "84f1b066cf6b217c18fed9acab217a44879953248abc470c76096bf9eba84678"), looks := false }, kinds := [], alts := [], laidByText := true, laidKinds := [.data], laidTests := true, laidLooks := .later }
def SuggestAllUptoCardSaid : Prop := Claim7.holds Tryd.pinned (.plain (OpenSpec.upto suggestAllSpec)) suggestAllUptoCard
end Rows
end Go.Proofs.YtnmigbbokmibnaaDoor
