/-
  DERIVED. GIVEN WITH THE SEED: THE CARDS: each row of YtgdjkddljnjckaaDoorRows.lean that lists a variable, with what it lists TIED to the program's text (the seventh form; the later family's looks); each row that meets fmt, with fmt's text TOLD by the authors' own Lean function (tested against real Go, not proved from fmt's source: count such statements apart). THE CARD IS WHAT COUNTS. Prove the row's statement (the work); the ties are given (YtgdjkddljnjckaaDoorTie.lean); close each card by the builder's one call (the guide's Derived/Test/ToyasCard.lean, 'card_holds'). Laid BY PROGRAM, IN A SANDBOX (cutbox-door.mjs). By AI agents, Wed Nov 11 2026. No macro, syntax, notation, axiom, sorry.
-/
import Derived.Test.YtgdjkddljnjckaaDoorRows
import GoSem.ClaimSeven
namespace Go.Proofs.YtgdjkddljnjckaaDoor
namespace Rows

/-- THE TIED CARD OF 'scholialaw16.StemWords'. -/
def stemWordsCard : Claim7 := { stood := { row := stemWordsRow, standIns := [], harness := (true, "3e2f23b5a3148bbff98a78676db5dc4be1b245f71c9d85f9465b21561d0472f0"), looks := false }, kinds := [], alts := [], laidByText := true, laidKinds := [.data], laidTests := true, laidLooks := .later }
def StemWordsCardSaid : Prop := Claim7.holds Tryd.pinned (.plain (OpenSpec.ofChange stemWordsSpec)) stemWordsCard

/-- THE TIED CARD OF 'scholialaw16.StemShort'. -/
def stemShortCard : Claim7 := { stood := { row := stemShortRow, standIns := [], harness := (true, "3e2f23b5a3148bbff98a78676db5dc4be1b245f71c9d85f9465b21561d0472f0"), looks := false }, kinds := [], alts := [], laidByText := true, laidKinds := [.data], laidTests := true, laidLooks := .later }
def StemShortCardSaid : Prop := Claim7.holds Tryd.pinned (.plain (OpenSpec.ofChange stemShortSpec)) stemShortCard

/-- THE TIED CARD OF 'scholialaw16.StemOthers'. -/
def stemOthersCard : Claim7 := { stood := { row := stemOthersRow, standIns := [], harness := (true, "3e2f23b5a3148bbff98a78676db5dc4be1b245f71c9d85f9465b21561d0472f0"), looks := false }, kinds := [], alts := [], laidByText := true, laidKinds := [.data], laidTests := true, laidLooks := .later }
def StemOthersCardSaid : Prop := Claim7.holds Tryd.pinned (.plain (OpenSpec.ofChange stemOthersSpec)) stemOthersCard

/-- THE SECOND FORM's CARD OF 'scholialaw16.StemWords'. -/
def stemWordsUptoCard : Claim7 := { stood := { row := stemWordsUptoRow, standIns := [], harness := (true, "3e2f23b5a3148bbff98a78676db5dc4be1b245f71c9d85f9465b21561d0472f0"), looks := false }, kinds := [], alts := [], laidByText := true, laidKinds := [.data], laidTests := true, laidLooks := .later }
def StemWordsUptoCardSaid : Prop := Claim7.holds Tryd.pinned (.plain (OpenSpec.upto stemWordsSpec)) stemWordsUptoCard

/-- THE SECOND FORM's CARD OF 'scholialaw16.StemShort'. -/
def stemShortUptoCard : Claim7 := { stood := { row := stemShortUptoRow, standIns := [], harness := (true, "3e2f23b5a3148bbff98a78676db5dc4be1b245f71c9d85f9465b21561d0472f0"), looks := false }, kinds := [], alts := [], laidByText := true, laidKinds := [.data], laidTests := true, laidLooks := .later }
def StemShortUptoCardSaid : Prop := Claim7.holds Tryd.pinned (.plain (OpenSpec.upto stemShortSpec)) stemShortUptoCard

/-- THE SECOND FORM's CARD OF 'scholialaw16.StemOthers'. -/
def stemOthersUptoCard : Claim7 := { stood := { row := stemOthersUptoRow, standIns := [], harness := (true, "3e2f23b5a3148bbff98a78676db5dc4be1b245f71c9d85f9465b21561d0472f0"), looks := false }, kinds := [], alts := [], laidByText := true, laidKinds := [.data], laidTests := true, laidLooks := .later }
def StemOthersUptoCardSaid : Prop := Claim7.holds Tryd.pinned (.plain (OpenSpec.upto stemOthersSpec)) stemOthersUptoCard
end Rows
end Go.Proofs.YtgdjkddljnjckaaDoor
