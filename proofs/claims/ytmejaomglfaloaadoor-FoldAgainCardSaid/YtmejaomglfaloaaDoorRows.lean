/-
  NARROWER THAN 'FOR EVERY INPUT', by the rows' own cells (each row's printed sentence says how): UtfNext: laid · UtfTexts: laid · UtfLibrary: laid · UtfBack: laid · UtfCuts: laid · FoldSigns: laid · FoldTexts: laid · FoldOnce: laid · FoldAgain: laid.
  DERIVED. THE GIVEN ROWS OF THIS SEAT. 9 by the template 'for every input the law returns true; each argument reads behind the call as it read before'; 0 by the template 'total and deterministic' (their statements: YtmejaomglfaloaaDoorTotals.lean).
  GIVEN WITH THE SEED: the statements are not yours to turn. If you find one false, say at which input.
  Laid BY PROGRAM, IN A SANDBOX (cutbox-rows.mjs): the forced cells as the released guide's own fill.sh prints them over the translation 759d72642a5fea06… (all of the seat's roots in one cut). By AI agents, Wed Nov 11 2026. No macro, syntax, notation, axiom, sorry.
-/
import Derived.Test.YtmejaomglfaloaaDoorChecked
import GoSem.PinnedTables
import GoSem.Claim
import GoSem.ClaimJoined
import GoSem.ClaimMapViews
import Derived.JoinedTies
import Derived.KernelRfl
namespace Go.Proofs.YtmejaomglfaloaaDoor
/- THE CELL 'sum', in the pinned program and in every row, IS THE sha256 OF THE DUMP (.gsa) THAT YtmejaomglfaloaaDoorProg.lean LOADS. Nothing in Lean hashes anything: it is a label: what it is worth is what the hold of that sum in a sandbox is worth. -/
noncomputable def Tryd.pinned : Pinned := { name := "ytmejaomglfaloaadoor", sum := "759d72642a5fea06023657711c3792946c993012e371bc4e5edc5cd960cf487e", checked := Tryd.checked }
namespace Rows
def none {H : Type} : Left H := { results := [], args := [] }

/- WHAT THE LISTED PACKAGE-LEVEL VARIABLES READ AS WHEN THE CALL BEGINS. Each datum BY PROGRAM (the guide's laid-datum.mjs) off the statement by which the dump's own 'gosem.cut.vars' lays the variable. In a bare row this is a premise. The card (YtmejaomglfaloaaDoorCards.lean) ties it to the program's text. -/
def laid_scholia_utf_shapes {H : Type} : DataW H := .agg [.agg [.lit (.int .i64 127), .lit (.int .i64 0), .lit (.int .i64 0)], .agg [.lit (.int .i64 2047), .lit (.int .i64 192), .lit (.int .i64 1)], .agg [.lit (.int .i64 65535), .lit (.int .i64 224), .lit (.int .i64 2)], .agg [.lit (.int .i64 1114111), .lit (.int .i64 240), .lit (.int .i64 3)]]
def laid_unicode_utf8_acceptRanges {H : Type} : DataW H := .agg [.agg [.lit (.int .u8 128), .lit (.int .u8 191)], .agg [.lit (.int .u8 160), .lit (.int .u8 191)], .agg [.lit (.int .u8 128), .lit (.int .u8 159)], .agg [.lit (.int .u8 144), .lit (.int .u8 191)], .agg [.lit (.int .u8 128), .lit (.int .u8 143)], .agg [.lit (.int .u8 0), .lit (.int .u8 0)], .agg [.lit (.int .u8 0), .lit (.int .u8 0)], .agg [.lit (.int .u8 0), .lit (.int .u8 0)], .agg [.lit (.int .u8 0), .lit (.int .u8 0)], .agg [.lit (.int .u8 0), .lit (.int .u8 0)], .agg [.lit (.int .u8 0), .lit (.int .u8 0)], .agg [.lit (.int .u8 0), .lit (.int .u8 0)], .agg [.lit (.int .u8 0), .lit (.int .u8 0)], .agg [.lit (.int .u8 0), .lit (.int .u8 0)], .agg [.lit (.int .u8 0), .lit (.int .u8 0)], .agg [.lit (.int .u8 0), .lit (.int .u8 0)]]
/-- One of Go's own tables, pinned by name: the form's constant. -/
def laid_unicode_utf8_first : DataW Unit := Go.Pinned.utf8First
def laid_scholia_fold_great {H : Type} : DataW H := .slice [.agg [.lit (.int .i64 65), .lit (.int .i64 90), .lit (.int .i64 1), .lit (.int .i64 32)], .agg [.lit (.int .i64 192), .lit (.int .i64 214), .lit (.int .i64 1), .lit (.int .i64 32)], .agg [.lit (.int .i64 216), .lit (.int .i64 222), .lit (.int .i64 1), .lit (.int .i64 32)], .agg [.lit (.int .i64 256), .lit (.int .i64 302), .lit (.int .i64 2), .lit (.int .i64 1)], .agg [.lit (.int .i64 306), .lit (.int .i64 310), .lit (.int .i64 2), .lit (.int .i64 1)], .agg [.lit (.int .i64 313), .lit (.int .i64 327), .lit (.int .i64 2), .lit (.int .i64 1)], .agg [.lit (.int .i64 330), .lit (.int .i64 374), .lit (.int .i64 2), .lit (.int .i64 1)], .agg [.lit (.int .i64 377), .lit (.int .i64 381), .lit (.int .i64 2), .lit (.int .i64 1)], .agg [.lit (.int .i64 913), .lit (.int .i64 929), .lit (.int .i64 1), .lit (.int .i64 32)], .agg [.lit (.int .i64 931), .lit (.int .i64 937), .lit (.int .i64 1), .lit (.int .i64 32)], .agg [.lit (.int .i64 1024), .lit (.int .i64 1039), .lit (.int .i64 1), .lit (.int .i64 80)], .agg [.lit (.int .i64 1040), .lit (.int .i64 1071), .lit (.int .i64 1), .lit (.int .i64 32)], .agg [.lit (.int .i64 1120), .lit (.int .i64 1152), .lit (.int .i64 2), .lit (.int .i64 1)]] []
def laid_scholia_fold_letters {H : Type} : DataW H := .slice [.agg [.lit (.int .i64 65), .lit (.int .i64 90)], .agg [.lit (.int .i64 97), .lit (.int .i64 122)], .agg [.lit (.int .i64 192), .lit (.int .i64 214)], .agg [.lit (.int .i64 216), .lit (.int .i64 246)], .agg [.lit (.int .i64 248), .lit (.int .i64 591)], .agg [.lit (.int .i64 880), .lit (.int .i64 893)], .agg [.lit (.int .i64 895), .lit (.int .i64 902)], .agg [.lit (.int .i64 904), .lit (.int .i64 1327)]] []

/-- 'scholialaw03.UtfNext': WHATEVER THE INPUT: true; the input reads as it did. -/
def utfNextSpec : ChangeSpec := { name := "utfNext", fn := fun _ => fun
  | [d1, d2, d3, d4] => { results := [.lit (.bool true)], args := [d1, d2, d3, d4] }
  | _ => none }
def utfNextRow : OpenClaim := { program := "ytmejaomglfaloaadoor", sum := "759d72642a5fea06023657711c3792946c993012e371bc4e5edc5cd960cf487e", func := "scholia/scholialaw03.UtfNext", spec := "utfNext", named := ["scholia/utf.shapes"], apart := false, laid := [("scholia/utf.shapes", laid_scholia_utf_shapes)] }
def UtfNextSaid : Prop := utfNextRow.holds Tryd.pinned (OpenSpec.ofChange utfNextSpec)

/-- ITS FALSE NEIGHBOUR: 'it returns false'. Refute it at one input. -/
def utfNextWrong : ChangeSpec := { name := "utfNext", fn := fun _ => fun
  | [d1, d2, d3, d4] => { results := [.lit (.bool false)], args := [d1, d2, d3, d4] }
  | _ => none }
def UtfNextWrongFalsely : Prop := utfNextRow.holds Tryd.pinned (OpenSpec.ofChange utfNextWrong)

/-- 'scholialaw03.UtfTexts': WHATEVER THE INPUT: true; the input reads as it did. -/
def utfTextsSpec : ChangeSpec := { name := "utfTexts", fn := fun _ => fun
  | [d1, d2] => { results := [.lit (.bool true)], args := [d1, d2] }
  | _ => none }
def utfTextsRow : OpenClaim := { program := "ytmejaomglfaloaadoor", sum := "759d72642a5fea06023657711c3792946c993012e371bc4e5edc5cd960cf487e", func := "scholia/scholialaw03.UtfTexts", spec := "utfTexts", named := ["scholia/utf.shapes"], apart := false, laid := [("scholia/utf.shapes", laid_scholia_utf_shapes)] }
def UtfTextsSaid : Prop := utfTextsRow.holds Tryd.pinned (OpenSpec.ofChange utfTextsSpec)

/-- ITS FALSE NEIGHBOUR: 'it returns false'. Refute it at one input. -/
def utfTextsWrong : ChangeSpec := { name := "utfTexts", fn := fun _ => fun
  | [d1, d2] => { results := [.lit (.bool false)], args := [d1, d2] }
  | _ => none }
def UtfTextsWrongFalsely : Prop := utfTextsRow.holds Tryd.pinned (OpenSpec.ofChange utfTextsWrong)

/-- 'scholialaw03.UtfLibrary': WHATEVER THE INPUT: true; the input reads as it did. -/
def utfLibrarySpec : ChangeSpec := { name := "utfLibrary", fn := fun _ => fun
  | [d] => { results := [.lit (.bool true)], args := [d] }
  | _ => none }
def utfLibraryRow : OpenClaim := { program := "ytmejaomglfaloaadoor", sum := "759d72642a5fea06023657711c3792946c993012e371bc4e5edc5cd960cf487e", func := "scholia/scholialaw03.UtfLibrary", spec := "utfLibrary", named := ["scholia/utf.shapes", "unicode/utf8.first", "unicode/utf8.acceptRanges"], apart := false, laid := [("unicode/utf8.acceptRanges", laid_unicode_utf8_acceptRanges), ("scholia/utf.shapes", laid_scholia_utf_shapes), ("unicode/utf8.first", laid_unicode_utf8_first)] }
def UtfLibrarySaid : Prop := utfLibraryRow.holds Tryd.pinned (OpenSpec.ofChange utfLibrarySpec)

/-- ITS FALSE NEIGHBOUR: 'it returns false'. Refute it at one input. -/
def utfLibraryWrong : ChangeSpec := { name := "utfLibrary", fn := fun _ => fun
  | [d] => { results := [.lit (.bool false)], args := [d] }
  | _ => none }
def UtfLibraryWrongFalsely : Prop := utfLibraryRow.holds Tryd.pinned (OpenSpec.ofChange utfLibraryWrong)

/-- 'scholialaw03.UtfBack': WHATEVER THE INPUT: true; the input reads as it did. -/
def utfBackSpec : ChangeSpec := { name := "utfBack", fn := fun _ => fun
  | [d1, d2] => { results := [.lit (.bool true)], args := [d1, d2] }
  | _ => none }
def utfBackRow : OpenClaim := { program := "ytmejaomglfaloaadoor", sum := "759d72642a5fea06023657711c3792946c993012e371bc4e5edc5cd960cf487e", func := "scholia/scholialaw03.UtfBack", spec := "utfBack", named := ["scholia/utf.shapes"], apart := false, laid := [("scholia/utf.shapes", laid_scholia_utf_shapes)] }
def UtfBackSaid : Prop := utfBackRow.holds Tryd.pinned (OpenSpec.ofChange utfBackSpec)

/-- ITS FALSE NEIGHBOUR: 'it returns false'. Refute it at one input. -/
def utfBackWrong : ChangeSpec := { name := "utfBack", fn := fun _ => fun
  | [d1, d2] => { results := [.lit (.bool false)], args := [d1, d2] }
  | _ => none }
def UtfBackWrongFalsely : Prop := utfBackRow.holds Tryd.pinned (OpenSpec.ofChange utfBackWrong)

/-- 'scholialaw03.UtfCuts': WHATEVER THE INPUT: true; the input reads as it did. -/
def utfCutsSpec : ChangeSpec := { name := "utfCuts", fn := fun _ => fun
  | [d1, d2] => { results := [.lit (.bool true)], args := [d1, d2] }
  | _ => none }
def utfCutsRow : OpenClaim := { program := "ytmejaomglfaloaadoor", sum := "759d72642a5fea06023657711c3792946c993012e371bc4e5edc5cd960cf487e", func := "scholia/scholialaw03.UtfCuts", spec := "utfCuts", named := ["scholia/utf.shapes"], apart := false, laid := [("scholia/utf.shapes", laid_scholia_utf_shapes)] }
def UtfCutsSaid : Prop := utfCutsRow.holds Tryd.pinned (OpenSpec.ofChange utfCutsSpec)

/-- ITS FALSE NEIGHBOUR: 'it returns false'. Refute it at one input. -/
def utfCutsWrong : ChangeSpec := { name := "utfCuts", fn := fun _ => fun
  | [d1, d2] => { results := [.lit (.bool false)], args := [d1, d2] }
  | _ => none }
def UtfCutsWrongFalsely : Prop := utfCutsRow.holds Tryd.pinned (OpenSpec.ofChange utfCutsWrong)

/-- 'scholialaw04.FoldSigns': WHATEVER THE INPUT: true; the input reads as it did. -/
def foldSignsSpec : ChangeSpec := { name := "foldSigns", fn := fun _ => fun
  | [d] => { results := [.lit (.bool true)], args := [d] }
  | _ => none }
def foldSignsRow : OpenClaim := { program := "ytmejaomglfaloaadoor", sum := "759d72642a5fea06023657711c3792946c993012e371bc4e5edc5cd960cf487e", func := "scholia/scholialaw04.FoldSigns", spec := "foldSigns", named := ["scholia/fold.great", "scholia/fold.letters", "scholia/utf.shapes"], apart := false, laid := [("scholia/utf.shapes", laid_scholia_utf_shapes), ("scholia/fold.great", laid_scholia_fold_great), ("scholia/fold.letters", laid_scholia_fold_letters)] }
def FoldSignsSaid : Prop := foldSignsRow.holds Tryd.pinned (OpenSpec.ofChange foldSignsSpec)

/-- ITS FALSE NEIGHBOUR: 'it returns false'. Refute it at one input. -/
def foldSignsWrong : ChangeSpec := { name := "foldSigns", fn := fun _ => fun
  | [d] => { results := [.lit (.bool false)], args := [d] }
  | _ => none }
def FoldSignsWrongFalsely : Prop := foldSignsRow.holds Tryd.pinned (OpenSpec.ofChange foldSignsWrong)

/-- 'scholialaw04.FoldTexts': WHATEVER THE INPUT: true; the input reads as it did. -/
def foldTextsSpec : ChangeSpec := { name := "foldTexts", fn := fun _ => fun
  | [d] => { results := [.lit (.bool true)], args := [d] }
  | _ => none }
def foldTextsRow : OpenClaim := { program := "ytmejaomglfaloaadoor", sum := "759d72642a5fea06023657711c3792946c993012e371bc4e5edc5cd960cf487e", func := "scholia/scholialaw04.FoldTexts", spec := "foldTexts", named := ["scholia/utf.shapes", "scholia/fold.great", "scholia/fold.letters"], apart := false, laid := [("scholia/utf.shapes", laid_scholia_utf_shapes), ("scholia/fold.great", laid_scholia_fold_great), ("scholia/fold.letters", laid_scholia_fold_letters)] }
def FoldTextsSaid : Prop := foldTextsRow.holds Tryd.pinned (OpenSpec.ofChange foldTextsSpec)

/-- ITS FALSE NEIGHBOUR: 'it returns false'. Refute it at one input. -/
def foldTextsWrong : ChangeSpec := { name := "foldTexts", fn := fun _ => fun
  | [d] => { results := [.lit (.bool false)], args := [d] }
  | _ => none }
def FoldTextsWrongFalsely : Prop := foldTextsRow.holds Tryd.pinned (OpenSpec.ofChange foldTextsWrong)

/-- 'scholialaw04.FoldOnce': WHATEVER THE INPUT: true; the input reads as it did. -/
def foldOnceSpec : ChangeSpec := { name := "foldOnce", fn := fun _ => fun
  | [d] => { results := [.lit (.bool true)], args := [d] }
  | _ => none }
def foldOnceRow : OpenClaim := { program := "ytmejaomglfaloaadoor", sum := "759d72642a5fea06023657711c3792946c993012e371bc4e5edc5cd960cf487e", func := "scholia/scholialaw04.FoldOnce", spec := "foldOnce", named := ["scholia/fold.great", "scholia/fold.letters", "scholia/utf.shapes"], apart := false, laid := [("scholia/utf.shapes", laid_scholia_utf_shapes), ("scholia/fold.great", laid_scholia_fold_great), ("scholia/fold.letters", laid_scholia_fold_letters)] }
def FoldOnceSaid : Prop := foldOnceRow.holds Tryd.pinned (OpenSpec.ofChange foldOnceSpec)

/-- ITS FALSE NEIGHBOUR: 'it returns false'. Refute it at one input. -/
def foldOnceWrong : ChangeSpec := { name := "foldOnce", fn := fun _ => fun
  | [d] => { results := [.lit (.bool false)], args := [d] }
  | _ => none }
def FoldOnceWrongFalsely : Prop := foldOnceRow.holds Tryd.pinned (OpenSpec.ofChange foldOnceWrong)

/-- 'scholialaw04.FoldAgain': WHATEVER THE INPUT: true; the input reads as it did. -/
def foldAgainSpec : ChangeSpec := { name := "foldAgain", fn := fun _ => fun
  | [d] => { results := [.lit (.bool true)], args := [d] }
  | _ => none }
def foldAgainRow : OpenClaim := { program := "ytmejaomglfaloaadoor", sum := "759d72642a5fea06023657711c3792946c993012e371bc4e5edc5cd960cf487e", func := "scholia/scholialaw04.FoldAgain", spec := "foldAgain", named := ["scholia/utf.shapes", "scholia/fold.great", "scholia/fold.letters"], apart := false, laid := [("scholia/utf.shapes", laid_scholia_utf_shapes), ("scholia/fold.great", laid_scholia_fold_great), ("scholia/fold.letters", laid_scholia_fold_letters)] }
def FoldAgainSaid : Prop := foldAgainRow.holds Tryd.pinned (OpenSpec.ofChange foldAgainSpec)

/-- ITS FALSE NEIGHBOUR: 'it returns false'. Refute it at one input. -/
def foldAgainWrong : ChangeSpec := { name := "foldAgain", fn := fun _ => fun
  | [d] => { results := [.lit (.bool false)], args := [d] }
  | _ => none }
def FoldAgainWrongFalsely : Prop := foldAgainRow.holds Tryd.pinned (OpenSpec.ofChange foldAgainWrong)

/- THE SECOND FORM. 'bulk': how many values and letters a reading holds, each counted each time it is reached (what is shared counts as often as it is met; a slice's spare places count too). A statement '..UptoSaid' is the law's where the arguments, and the package variables that the reading takes, are together of bulk at most 1048576: NARROWER than '..Said'. Prove '..Said' where nothing that the law and all that it calls make is longer than what came in: it says more and counts as full. Else prove '..UptoSaid'. A law counts once. -/
mutual
def uptoBulk {H : Type} : DataW H → Nat
  | .lit (.string bytes) => bytes.length + 1
  | .lit _ => 1
  | .nil => 1
  | .ptr d => uptoBulk d + 1
  | .slice elems spare => uptoBulkAll elems + uptoBulkAll spare + 1
  | .agg parts => uptoBulkAll parts + 1
  | .iface _ d => uptoBulk d + 1
  | .map entries => uptoBulkEntries entries + 1
  | .held _ => 1
def uptoBulkAll {H : Type} : List (DataW H) → Nat
  | [] => 0
  | d :: r => uptoBulk d + uptoBulkAll r
def uptoBulkEntries {H : Type} : List (Lit × DataW H) → Nat
  | [] => 0
  | x :: r => uptoBulkEntry x + uptoBulkEntries r
def uptoBulkEntry {H : Type} : Lit × DataW H → Nat
  | (.string bytes, d) => bytes.length + uptoBulk d + 1
  | (_, d) => uptoBulk d + 1
 end
def uptoSmall : (H : Type) → List (DataW H) → Bool := fun _ ds => decide (uptoBulkAll ds ≤ 1048576)
def OpenSpec.upto (s : _root_.Go.ChangeSpec) : _root_.Go.OpenSpec := { _root_.Go.OpenSpec.ofChange s with cond := some uptoSmall }

/-- 'scholialaw03.UtfNext', WHERE WHAT IT READS IS OF BULK AT MOST 1048576: true; the input reads as it did. -/
def utfNextUptoRow : OpenClaim := { program := "ytmejaomglfaloaadoor", sum := "759d72642a5fea06023657711c3792946c993012e371bc4e5edc5cd960cf487e", func := "scholia/scholialaw03.UtfNext", spec := "utfNext", named := ["scholia/utf.shapes"], apart := false, laid := [("scholia/utf.shapes", laid_scholia_utf_shapes)], narrowed := true }
def UtfNextUptoSaid : Prop := utfNextUptoRow.holds Tryd.pinned (OpenSpec.upto utfNextSpec)

/-- 'scholialaw03.UtfTexts', WHERE WHAT IT READS IS OF BULK AT MOST 1048576: true; the input reads as it did. -/
def utfTextsUptoRow : OpenClaim := { program := "ytmejaomglfaloaadoor", sum := "759d72642a5fea06023657711c3792946c993012e371bc4e5edc5cd960cf487e", func := "scholia/scholialaw03.UtfTexts", spec := "utfTexts", named := ["scholia/utf.shapes"], apart := false, laid := [("scholia/utf.shapes", laid_scholia_utf_shapes)], narrowed := true }
def UtfTextsUptoSaid : Prop := utfTextsUptoRow.holds Tryd.pinned (OpenSpec.upto utfTextsSpec)

/-- 'scholialaw03.UtfLibrary', WHERE WHAT IT READS IS OF BULK AT MOST 1048576: true; the input reads as it did. -/
def utfLibraryUptoRow : OpenClaim := { program := "ytmejaomglfaloaadoor", sum := "759d72642a5fea06023657711c3792946c993012e371bc4e5edc5cd960cf487e", func := "scholia/scholialaw03.UtfLibrary", spec := "utfLibrary", named := ["scholia/utf.shapes", "unicode/utf8.first", "unicode/utf8.acceptRanges"], apart := false, laid := [("unicode/utf8.acceptRanges", laid_unicode_utf8_acceptRanges), ("scholia/utf.shapes", laid_scholia_utf_shapes), ("unicode/utf8.first", laid_unicode_utf8_first)], narrowed := true }
def UtfLibraryUptoSaid : Prop := utfLibraryUptoRow.holds Tryd.pinned (OpenSpec.upto utfLibrarySpec)

/-- 'scholialaw03.UtfBack', WHERE WHAT IT READS IS OF BULK AT MOST 1048576: true; the input reads as it did. -/
def utfBackUptoRow : OpenClaim := { program := "ytmejaomglfaloaadoor", sum := "759d72642a5fea06023657711c3792946c993012e371bc4e5edc5cd960cf487e", func := "scholia/scholialaw03.UtfBack", spec := "utfBack", named := ["scholia/utf.shapes"], apart := false, laid := [("scholia/utf.shapes", laid_scholia_utf_shapes)], narrowed := true }
def UtfBackUptoSaid : Prop := utfBackUptoRow.holds Tryd.pinned (OpenSpec.upto utfBackSpec)

/-- 'scholialaw03.UtfCuts', WHERE WHAT IT READS IS OF BULK AT MOST 1048576: true; the input reads as it did. -/
def utfCutsUptoRow : OpenClaim := { program := "ytmejaomglfaloaadoor", sum := "759d72642a5fea06023657711c3792946c993012e371bc4e5edc5cd960cf487e", func := "scholia/scholialaw03.UtfCuts", spec := "utfCuts", named := ["scholia/utf.shapes"], apart := false, laid := [("scholia/utf.shapes", laid_scholia_utf_shapes)], narrowed := true }
def UtfCutsUptoSaid : Prop := utfCutsUptoRow.holds Tryd.pinned (OpenSpec.upto utfCutsSpec)

/-- 'scholialaw04.FoldSigns', WHERE WHAT IT READS IS OF BULK AT MOST 1048576: true; the input reads as it did. -/
def foldSignsUptoRow : OpenClaim := { program := "ytmejaomglfaloaadoor", sum := "759d72642a5fea06023657711c3792946c993012e371bc4e5edc5cd960cf487e", func := "scholia/scholialaw04.FoldSigns", spec := "foldSigns", named := ["scholia/fold.great", "scholia/fold.letters", "scholia/utf.shapes"], apart := false, laid := [("scholia/utf.shapes", laid_scholia_utf_shapes), ("scholia/fold.great", laid_scholia_fold_great), ("scholia/fold.letters", laid_scholia_fold_letters)], narrowed := true }
def FoldSignsUptoSaid : Prop := foldSignsUptoRow.holds Tryd.pinned (OpenSpec.upto foldSignsSpec)

/-- 'scholialaw04.FoldTexts', WHERE WHAT IT READS IS OF BULK AT MOST 1048576: true; the input reads as it did. -/
def foldTextsUptoRow : OpenClaim := { program := "ytmejaomglfaloaadoor", sum := "759d72642a5fea06023657711c3792946c993012e371bc4e5edc5cd960cf487e", func := "scholia/scholialaw04.FoldTexts", spec := "foldTexts", named := ["scholia/utf.shapes", "scholia/fold.great", "scholia/fold.letters"], apart := false, laid := [("scholia/utf.shapes", laid_scholia_utf_shapes), ("scholia/fold.great", laid_scholia_fold_great), ("scholia/fold.letters", laid_scholia_fold_letters)], narrowed := true }
def FoldTextsUptoSaid : Prop := foldTextsUptoRow.holds Tryd.pinned (OpenSpec.upto foldTextsSpec)

/-- 'scholialaw04.FoldOnce', WHERE WHAT IT READS IS OF BULK AT MOST 1048576: true; the input reads as it did. -/
def foldOnceUptoRow : OpenClaim := { program := "ytmejaomglfaloaadoor", sum := "759d72642a5fea06023657711c3792946c993012e371bc4e5edc5cd960cf487e", func := "scholia/scholialaw04.FoldOnce", spec := "foldOnce", named := ["scholia/fold.great", "scholia/fold.letters", "scholia/utf.shapes"], apart := false, laid := [("scholia/utf.shapes", laid_scholia_utf_shapes), ("scholia/fold.great", laid_scholia_fold_great), ("scholia/fold.letters", laid_scholia_fold_letters)], narrowed := true }
def FoldOnceUptoSaid : Prop := foldOnceUptoRow.holds Tryd.pinned (OpenSpec.upto foldOnceSpec)

/-- 'scholialaw04.FoldAgain', WHERE WHAT IT READS IS OF BULK AT MOST 1048576: true; the input reads as it did. -/
def foldAgainUptoRow : OpenClaim := { program := "ytmejaomglfaloaadoor", sum := "759d72642a5fea06023657711c3792946c993012e371bc4e5edc5cd960cf487e", func := "scholia/scholialaw04.FoldAgain", spec := "foldAgain", named := ["scholia/utf.shapes", "scholia/fold.great", "scholia/fold.letters"], apart := false, laid := [("scholia/utf.shapes", laid_scholia_utf_shapes), ("scholia/fold.great", laid_scholia_fold_great), ("scholia/fold.letters", laid_scholia_fold_letters)], narrowed := true }
def FoldAgainUptoSaid : Prop := foldAgainUptoRow.holds Tryd.pinned (OpenSpec.upto foldAgainSpec)

end Rows
end Go.Proofs.YtmejaomglfaloaaDoor
