/-
  DERIVED. GIVEN WITH THE SEED: THE CARDS: each row of YtnlechjpiphmiaaDoorRows.lean that lists a variable, with what it lists TIED to the program's text (the seventh form; the later family's looks); each row that meets fmt, with fmt's text TOLD by the authors' own Lean function (tested against real Go, not proved from fmt's source: count such statements apart). THE CARD IS WHAT COUNTS. Prove the row's statement (the work); the ties are given (YtnlechjpiphmiaaDoorTie.lean); close each card by the builder's one call (the guide's Derived/Test/ToyasCard.lean, 'card_holds'). Laid BY PROGRAM, IN A SANDBOX (cutbox-door.mjs). By AI agents, Wed Nov 11 2026. No macro, syntax, notation, axiom, sorry.
-/
import Derived.Test.YtnlechjpiphmiaaDoorRows
import GoSem.ClaimSeven
namespace Go.Proofs.YtnlechjpiphmiaaDoor
namespace Rows

/-- THE TIED CARD OF 'scholialaw32.SuggestWords'. -/
def suggestWordsCard : Claim7 := { stood := { row := suggestWordsRow, standIns := [], harness := (true, "4ae9acf7cbc3afe310746de6fcbe00c74f037f9a8dc4168c27549a8789110ce3"), looks := false }, kinds := [], alts := [], laidByText := true, laidKinds := [.data], laidTests := true, laidLooks := .later }
def SuggestWordsCardSaid : Prop := Claim7.holds Tryd.pinned (.plain (OpenSpec.ofChange suggestWordsSpec)) suggestWordsCard

/-- THE TIED CARD OF 'scholialaw32.SuggestWay'. -/
def suggestWayCard : Claim7 := { stood := { row := suggestWayRow, standIns := [], harness := (true, "4ae9acf7cbc3afe310746de6fcbe00c74f037f9a8dc4168c27549a8789110ce3"), looks := false }, kinds := [], alts := [], laidByText := true, laidKinds := [.data], laidTests := true, laidLooks := .later }
def SuggestWayCardSaid : Prop := Claim7.holds Tryd.pinned (.plain (OpenSpec.ofChange suggestWaySpec)) suggestWayCard

/-- THE TIED CARD OF 'scholialaw32.SuggestAll'. -/
def suggestAllCard : Claim7 := { stood := { row := suggestAllRow, standIns := [], harness := (true, "4ae9acf7cbc3afe310746de6fcbe00c74f037f9a8dc4168c27549a8789110ce3"), looks := false }, kinds := [], alts := [], laidByText := true, laidKinds := [.data], laidTests := true, laidLooks := .later }
def SuggestAllCardSaid : Prop := Claim7.holds Tryd.pinned (.plain (OpenSpec.ofChange suggestAllSpec)) suggestAllCard

/-- THE TIED CARD OF 'scholialaw32.SuggestNobody'. -/
def suggestNobodyCard : Claim7 := { stood := { row := suggestNobodyRow, standIns := [], harness := (true, "4ae9acf7cbc3afe310746de6fcbe00c74f037f9a8dc4168c27549a8789110ce3"), looks := false }, kinds := [], alts := [], laidByText := true, laidKinds := [.data], laidTests := true, laidLooks := .later }
def SuggestNobodyCardSaid : Prop := Claim7.holds Tryd.pinned (.plain (OpenSpec.ofChange suggestNobodySpec)) suggestNobodyCard

/-- THE SECOND FORM's CARD OF 'scholialaw32.SuggestWords'. -/
def suggestWordsUptoCard : Claim7 := { stood := { row := suggestWordsUptoRow, standIns := [], harness := (true, "4ae9acf7cbc3afe310746de6fcbe00c74f037f9a8dc4168c27549a8789110ce3"), looks := false }, kinds := [], alts := [], laidByText := true, laidKinds := [.data], laidTests := true, laidLooks := .later }
def SuggestWordsUptoCardSaid : Prop := Claim7.holds Tryd.pinned (.plain (OpenSpec.upto suggestWordsSpec)) suggestWordsUptoCard

/-- THE SECOND FORM's CARD OF 'scholialaw32.SuggestWay'. -/
def suggestWayUptoCard : Claim7 := { stood := { row := suggestWayUptoRow, standIns := [], harness := (true, "4ae9acf7cbc3afe310746de6fcbe00c74f037f9a8dc4168c27549a8789110ce3"), looks := false }, kinds := [], alts := [], laidByText := true, laidKinds := [.data], laidTests := true, laidLooks := .later }
def SuggestWayUptoCardSaid : Prop := Claim7.holds Tryd.pinned (.plain (OpenSpec.upto suggestWaySpec)) suggestWayUptoCard

/-- THE SECOND FORM's CARD OF 'scholialaw32.SuggestAll'. -/
def suggestAllUptoCard : Claim7 := { stood := { row := suggestAllUptoRow, standIns := [], harness := (true, "4ae9acf7cbc3afe310746de6fcbe00c74f037f9a8dc4168c27549a8789110ce3"), looks := false }, kinds := [], alts := [], laidByText := true, laidKinds := [.data], laidTests := true, laidLooks := .later }
def SuggestAllUptoCardSaid : Prop := Claim7.holds Tryd.pinned (.plain (OpenSpec.upto suggestAllSpec)) suggestAllUptoCard

/-- THE SECOND FORM's CARD OF 'scholialaw32.SuggestNobody'. -/
def suggestNobodyUptoCard : Claim7 := { stood := { row := suggestNobodyUptoRow, standIns := [], harness := (true, "4ae9acf7cbc3afe310746de6fcbe00c74f037f9a8dc4168c27549a8789110ce3"), looks := false }, kinds := [], alts := [], laidByText := true, laidKinds := [.data], laidTests := true, laidLooks := .later }
def SuggestNobodyUptoCardSaid : Prop := Claim7.holds Tryd.pinned (.plain (OpenSpec.upto suggestNobodySpec)) suggestNobodyUptoCard
end Rows
end Go.Proofs.YtnlechjpiphmiaaDoor
