/-
  NARROWER THAN 'FOR EVERY INPUT', by the rows' own cells (each row's printed sentence says how): TokenWords: laid · TokenMarks: laid · TokenAll: laid · TokenParts: laid.
  DERIVED. THE GIVEN ROWS OF THIS SEAT. 4 by the template 'for every input the law returns true; each argument reads behind the call as it read before'; 0 by the template 'total and deterministic' (their statements: YtldfomggeleolaaDoorTotals.lean).
  GIVEN WITH THE SEED: the statements are not yours to turn. If you find one false, say at which input.
  Laid BY PROGRAM, IN A SANDBOX (cutbox-rows.mjs): the forced cells as the released guide's own fill.sh prints them over the translation f88cca8fb7ac221b… (all of the seat's roots in one cut). By AI agents, Wed Nov 11 2026. No macro, syntax, notation, axiom, sorry.
-/
import Derived.Test.YtldfomggeleolaaDoorChecked
import GoSem.Claim
import GoSem.ClaimJoined
import GoSem.ClaimMapViews
import Derived.JoinedTies
import Derived.KernelRfl
namespace Go.Proofs.YtldfomggeleolaaDoor
/- THE CELL 'sum', in the pinned program and in every row, IS THE sha256 OF THE DUMP (.gsa) THAT YtldfomggeleolaaDoorProg.lean LOADS. Nothing in Lean hashes anything: it is a label: what it is worth is what the hold of that sum in a sandbox is worth. -/
noncomputable def Tryd.pinned : Pinned := { name := "ytldfomggeleolaadoor", sum := "f88cca8fb7ac221b2c26cc59a009d107f15ebe7865d81b0891b74df4182068b1", checked := Tryd.checked }
namespace Rows
def none {H : Type} : Left H := { results := [], args := [] }

/- WHAT THE LISTED PACKAGE-LEVEL VARIABLES READ AS WHEN THE CALL BEGINS. Each datum BY PROGRAM (the guide's laid-datum.mjs) off the statement by which the dump's own 'gosem.cut.vars' lays the variable. In a bare row this is a premise. The card (YtldfomggeleolaaDoorCards.lean) ties it to the program's text. -/
def laid_scholia_utf_shapes {H : Type} : DataW H := .agg [.agg [.lit (.int .i64 127), .lit (.int .i64 0), .lit (.int .i64 0)], .agg [.lit (.int .i64 2047), .lit (.int .i64 192), .lit (.int .i64 1)], .agg [.lit (.int .i64 65535), .lit (.int .i64 224), .lit (.int .i64 2)], .agg [.lit (.int .i64 1114111), .lit (.int .i64 240), .lit (.int .i64 3)]]
def laid_scholia_fold_great {H : Type} : DataW H := .slice [.agg [.lit (.int .i64 65), .lit (.int .i64 90), .lit (.int .i64 1), .lit (.int .i64 32)], .agg [.lit (.int .i64 192), .lit (.int .i64 214), .lit (.int .i64 1), .lit (.int .i64 32)], .agg [.lit (.int .i64 216), .lit (.int .i64 222), .lit (.int .i64 1), .lit (.int .i64 32)], .agg [.lit (.int .i64 256), .lit (.int .i64 302), .lit (.int .i64 2), .lit (.int .i64 1)], .agg [.lit (.int .i64 306), .lit (.int .i64 310), .lit (.int .i64 2), .lit (.int .i64 1)], .agg [.lit (.int .i64 313), .lit (.int .i64 327), .lit (.int .i64 2), .lit (.int .i64 1)], .agg [.lit (.int .i64 330), .lit (.int .i64 374), .lit (.int .i64 2), .lit (.int .i64 1)], .agg [.lit (.int .i64 377), .lit (.int .i64 381), .lit (.int .i64 2), .lit (.int .i64 1)], .agg [.lit (.int .i64 913), .lit (.int .i64 929), .lit (.int .i64 1), .lit (.int .i64 32)], .agg [.lit (.int .i64 931), .lit (.int .i64 937), .lit (.int .i64 1), .lit (.int .i64 32)], .agg [.lit (.int .i64 1024), .lit (.int .i64 1039), .lit (.int .i64 1), .lit (.int .i64 80)], .agg [.lit (.int .i64 1040), .lit (.int .i64 1071), .lit (.int .i64 1), .lit (.int .i64 32)], .agg [.lit (.int .i64 1120), .lit (.int .i64 1152), .lit (.int .i64 2), .lit (.int .i64 1)]] []
def laid_scholia_fold_letters {H : Type} : DataW H := .slice [.agg [.lit (.int .i64 65), .lit (.int .i64 90)], .agg [.lit (.int .i64 97), .lit (.int .i64 122)], .agg [.lit (.int .i64 192), .lit (.int .i64 214)], .agg [.lit (.int .i64 216), .lit (.int .i64 246)], .agg [.lit (.int .i64 248), .lit (.int .i64 591)], .agg [.lit (.int .i64 880), .lit (.int .i64 893)], .agg [.lit (.int .i64 895), .lit (.int .i64 902)], .agg [.lit (.int .i64 904), .lit (.int .i64 1327)]] []

/-- 'scholialaw15.TokenWords': WHATEVER THE INPUT: true; the input reads as it did. -/
def tokenWordsSpec : ChangeSpec := { name := "tokenWords", fn := fun _ => fun
  | [d] => { results := [.lit (.bool true)], args := [d] }
  | _ => none }
def tokenWordsRow : OpenClaim := { program := "ytldfomggeleolaadoor", sum := "f88cca8fb7ac221b2c26cc59a009d107f15ebe7865d81b0891b74df4182068b1", func := "scholia/scholialaw15.TokenWords", spec := "tokenWords", unfollowed := true, recurses := true, named := ["scholia/utf.shapes", "scholia/fold.letters", "scholia/fold.great"], apart := false, laid := [("scholia/utf.shapes", laid_scholia_utf_shapes), ("scholia/fold.great", laid_scholia_fold_great), ("scholia/fold.letters", laid_scholia_fold_letters)] }
def TokenWordsSaid : Prop := tokenWordsRow.holds Tryd.pinned (OpenSpec.ofChange tokenWordsSpec)

/-- ITS FALSE NEIGHBOUR: 'it returns false'. Refute it at one input. -/
def tokenWordsWrong : ChangeSpec := { name := "tokenWords", fn := fun _ => fun
  | [d] => { results := [.lit (.bool false)], args := [d] }
  | _ => none }
def TokenWordsWrongFalsely : Prop := tokenWordsRow.holds Tryd.pinned (OpenSpec.ofChange tokenWordsWrong)

/-- 'scholialaw15.TokenMarks': WHATEVER THE INPUT: true; the input reads as it did. -/
def tokenMarksSpec : ChangeSpec := { name := "tokenMarks", fn := fun _ => fun
  | [d1, d2, d3, d4] => { results := [.lit (.bool true)], args := [d1, d2, d3, d4] }
  | _ => none }
def tokenMarksRow : OpenClaim := { program := "ytldfomggeleolaadoor", sum := "f88cca8fb7ac221b2c26cc59a009d107f15ebe7865d81b0891b74df4182068b1", func := "scholia/scholialaw15.TokenMarks", spec := "tokenMarks", inPlace := ["internal/abi.NoEscape"], unfollowed := true, recurses := true, named := ["scholia/utf.shapes", "scholia/fold.letters", "scholia/fold.great"], apart := false, laid := [("scholia/utf.shapes", laid_scholia_utf_shapes), ("scholia/fold.great", laid_scholia_fold_great), ("scholia/fold.letters", laid_scholia_fold_letters)] }
def TokenMarksSaid : Prop := tokenMarksRow.holds Tryd.pinned (OpenSpec.ofChange tokenMarksSpec)

/-- ITS FALSE NEIGHBOUR: 'it returns false'. Refute it at one input. -/
def tokenMarksWrong : ChangeSpec := { name := "tokenMarks", fn := fun _ => fun
  | [d1, d2, d3, d4] => { results := [.lit (.bool false)], args := [d1, d2, d3, d4] }
  | _ => none }
def TokenMarksWrongFalsely : Prop := tokenMarksRow.holds Tryd.pinned (OpenSpec.ofChange tokenMarksWrong)

/-- 'scholialaw15.TokenAll': WHATEVER THE INPUT: true; the input reads as it did. -/
def tokenAllSpec : ChangeSpec := { name := "tokenAll", fn := fun _ => fun
  | [d] => { results := [.lit (.bool true)], args := [d] }
  | _ => none }
def tokenAllRow : OpenClaim := { program := "ytldfomggeleolaadoor", sum := "f88cca8fb7ac221b2c26cc59a009d107f15ebe7865d81b0891b74df4182068b1", func := "scholia/scholialaw15.TokenAll", spec := "tokenAll", unfollowed := true, recurses := true, named := ["scholia/utf.shapes", "scholia/fold.letters", "scholia/fold.great"], apart := false, laid := [("scholia/utf.shapes", laid_scholia_utf_shapes), ("scholia/fold.great", laid_scholia_fold_great), ("scholia/fold.letters", laid_scholia_fold_letters)] }
def TokenAllSaid : Prop := tokenAllRow.holds Tryd.pinned (OpenSpec.ofChange tokenAllSpec)

/-- ITS FALSE NEIGHBOUR: 'it returns false'. Refute it at one input. -/
def tokenAllWrong : ChangeSpec := { name := "tokenAll", fn := fun _ => fun
  | [d] => { results := [.lit (.bool false)], args := [d] }
  | _ => none }
def TokenAllWrongFalsely : Prop := tokenAllRow.holds Tryd.pinned (OpenSpec.ofChange tokenAllWrong)

/-- 'scholialaw15.TokenParts': WHATEVER THE INPUT: true; the input reads as it did. -/
def tokenPartsSpec : ChangeSpec := { name := "tokenParts", fn := fun _ => fun
  | [d1, d2] => { results := [.lit (.bool true)], args := [d1, d2] }
  | _ => none }
def tokenPartsRow : OpenClaim := { program := "ytldfomggeleolaadoor", sum := "f88cca8fb7ac221b2c26cc59a009d107f15ebe7865d81b0891b74df4182068b1", func := "scholia/scholialaw15.TokenParts", spec := "tokenParts", unfollowed := true, recurses := true, named := ["scholia/utf.shapes", "scholia/fold.letters", "scholia/fold.great"], apart := false, laid := [("scholia/utf.shapes", laid_scholia_utf_shapes), ("scholia/fold.great", laid_scholia_fold_great), ("scholia/fold.letters", laid_scholia_fold_letters)] }
def TokenPartsSaid : Prop := tokenPartsRow.holds Tryd.pinned (OpenSpec.ofChange tokenPartsSpec)

/-- ITS FALSE NEIGHBOUR: 'it returns false'. Refute it at one input. -/
def tokenPartsWrong : ChangeSpec := { name := "tokenParts", fn := fun _ => fun
  | [d1, d2] => { results := [.lit (.bool false)], args := [d1, d2] }
  | _ => none }
def TokenPartsWrongFalsely : Prop := tokenPartsRow.holds Tryd.pinned (OpenSpec.ofChange tokenPartsWrong)

/- THE SECOND FORM. 'bulk': how many values and letters a reading holds, each counted each time it is reached (what is shared counts as often as it is met; a slice's spare places count too). A statement '..UptoSaid' is the law's where the arguments, and the package variables that the reading takes, are together of bulk at most 1048576: NARROWER than '..Said'. Prove '..Said' where nothing that the law and all that it calls make is longer than what came in: it says more and counts as full. Else prove '..UptoSaid'. A law counts once. -/
mutual
def uptoBulk {H : Type} : DataW H → Nat
  | .lit (.string bytes) => bytes.length + 1
  | .lit _ => 1
  | .nil => 1
  | .ptr d => uptoBulk d + 1
  | .slice elems spare => uptoBulkAll elems + uptoBulkAll spare + 1
  | .agg parts => uptoBulkAll parts + 1
  | .iface _ d => uptoBulk d + 1
  | .map entries => uptoBulkEntries entries + 1
  | .held _ => 1
def uptoBulkAll {H : Type} : List (DataW H) → Nat
  | [] => 0
  | d :: r => uptoBulk d + uptoBulkAll r
def uptoBulkEntries {H : Type} : List (Lit × DataW H) → Nat
  | [] => 0
  | x :: r => uptoBulkEntry x + uptoBulkEntries r
def uptoBulkEntry {H : Type} : Lit × DataW H → Nat
  | (.string bytes, d) => bytes.length + uptoBulk d + 1
  | (_, d) => uptoBulk d + 1
 end
def uptoSmall : (H : Type) → List (DataW H) → Bool := fun _ ds => decide (uptoBulkAll ds ≤ 1048576)
def OpenSpec.upto (s : _root_.Go.ChangeSpec) : _root_.Go.OpenSpec := { _root_.Go.OpenSpec.ofChange s with cond := some uptoSmall }

/-- 'scholialaw15.TokenWords', WHERE WHAT IT READS IS OF BULK AT MOST 1048576: true; the input reads as it did. -/
def tokenWordsUptoRow : OpenClaim := { program := "ytldfomggeleolaadoor", sum := "f88cca8fb7ac221b2c26cc59a009d107f15ebe7865d81b0891b74df4182068b1", func := "scholia/scholialaw15.TokenWords", spec := "tokenWords", unfollowed := true, recurses := true, named := ["scholia/utf.shapes", "scholia/fold.letters", "scholia/fold.great"], apart := false, laid := [("scholia/utf.shapes", laid_scholia_utf_shapes), ("scholia/fold.great", laid_scholia_fold_great), ("scholia/fold.letters", laid_scholia_fold_letters)], narrowed := true }
def TokenWordsUptoSaid : Prop := tokenWordsUptoRow.holds Tryd.pinned (OpenSpec.upto tokenWordsSpec)

/-- 'scholialaw15.TokenMarks', WHERE WHAT IT READS IS OF BULK AT MOST 1048576: true; the input reads as it did. -/
def tokenMarksUptoRow : OpenClaim := { program := "ytldfomggeleolaadoor", sum := "f88cca8fb7ac221b2c26cc59a009d107f15ebe7865d81b0891b74df4182068b1", func := "scholia/scholialaw15.TokenMarks", spec := "tokenMarks", inPlace := ["internal/abi.NoEscape"], unfollowed := true, recurses := true, named := ["scholia/utf.shapes", "scholia/fold.letters", "scholia/fold.great"], apart := false, laid := [("scholia/utf.shapes", laid_scholia_utf_shapes), ("scholia/fold.great", laid_scholia_fold_great), ("scholia/fold.letters", laid_scholia_fold_letters)], narrowed := true }
def TokenMarksUptoSaid : Prop := tokenMarksUptoRow.holds Tryd.pinned (OpenSpec.upto tokenMarksSpec)

/-- 'scholialaw15.TokenAll', WHERE WHAT IT READS IS OF BULK AT MOST 1048576: true; the input reads as it did. -/
def tokenAllUptoRow : OpenClaim := { program := "ytldfomggeleolaadoor", sum := "f88cca8fb7ac221b2c26cc59a009d107f15ebe7865d81b0891b74df4182068b1", func := "scholia/scholialaw15.TokenAll", spec := "tokenAll", unfollowed := true, recurses := true, named := ["scholia/utf.shapes", "scholia/fold.letters", "scholia/fold.great"], apart := false, laid := [("scholia/utf.shapes", laid_scholia_utf_shapes), ("scholia/fold.great", laid_scholia_fold_great), ("scholia/fold.letters", laid_scholia_fold_letters)], narrowed := true }
def TokenAllUptoSaid : Prop := tokenAllUptoRow.holds Tryd.pinned (OpenSpec.upto tokenAllSpec)

/-- 'scholialaw15.TokenParts', WHERE WHAT IT READS IS OF BULK AT MOST 1048576: true; the input reads as it did. -/
def tokenPartsUptoRow : OpenClaim := { program := "ytldfomggeleolaadoor", sum := "f88cca8fb7ac221b2c26cc59a009d107f15ebe7865d81b0891b74df4182068b1", func := "scholia/scholialaw15.TokenParts", spec := "tokenParts", unfollowed := true, recurses := true, named := ["scholia/utf.shapes", "scholia/fold.letters", "scholia/fold.great"], apart := false, laid := [("scholia/utf.shapes", laid_scholia_utf_shapes), ("scholia/fold.great", laid_scholia_fold_great), ("scholia/fold.letters", laid_scholia_fold_letters)], narrowed := true }
def TokenPartsUptoSaid : Prop := tokenPartsUptoRow.holds Tryd.pinned (OpenSpec.upto tokenPartsSpec)

end Rows
end Go.Proofs.YtldfomggeleolaaDoor
