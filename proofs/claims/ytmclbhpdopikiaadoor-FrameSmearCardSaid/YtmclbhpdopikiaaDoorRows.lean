/-
  NARROWER THAN 'FOR EVERY INPUT', by the rows' own cells (each row's printed sentence says how): FrameSums: laid · FrameOpens: laid · FrameBack: laid · FrameTurned: laid · FrameSmear: laid.
  DERIVED. THE GIVEN ROWS OF THIS SEAT. 5 by the template 'for every input the law returns true; each argument reads behind the call as it read before'; 0 by the template 'total and deterministic' (their statements: YtmclbhpdopikiaaDoorTotals.lean).
  GIVEN WITH THE SEED: the statements are not yours to turn. If you find one false, say at which input.
  Laid BY PROGRAM, IN A SANDBOX (cutbox-rows.mjs): the forced cells as the released guide's own fill.sh prints them over the translation 621458c32f73efcd… (all of the seat's roots in one cut). By AI agents, Wed Nov 11 2026. No macro, syntax, notation, axiom, sorry.
-/
import Derived.Test.YtmclbhpdopikiaaDoorChecked
import GoSem.Claim
import GoSem.ClaimJoined
import GoSem.ClaimMapViews
import Derived.JoinedTies
import Derived.KernelRfl
namespace Go.Proofs.YtmclbhpdopikiaaDoor
/- THE CELL 'sum', in the pinned program and in every row, IS THE sha256 OF THE DUMP (.gsa) THAT YtmclbhpdopikiaaDoorProg.lean LOADS. Nothing in Lean hashes anything: it is a label: what it is worth is what the hold of that sum in a sandbox is worth. -/
noncomputable def Tryd.pinned : Pinned := { name := "ytmclbhpdopikiaadoor", sum := "621458c32f73efcd5b4f0605b70f04e26dca31e178aa0fb246bfdc3501d98dd4", checked := Tryd.checked }
namespace Rows
def none {H : Type} : Left H := { results := [], args := [] }

/- WHAT THE LISTED PACKAGE-LEVEL VARIABLES READ AS WHEN THE CALL BEGINS. Each datum BY PROGRAM (the guide's laid-datum.mjs) off the statement by which the dump's own 'gosem.cut.vars' lays the variable. In a bare row this is a premise. The card (YtmclbhpdopikiaaDoorCards.lean) ties it to the program's text. -/
def laid_scholia_frame_left {H : Type} : DataW H := .agg [.lit (.int .u32 1996959894), .lit (.int .u32 3993919788), .lit (.int .u32 124634137), .lit (.int .u32 249268274), .lit (.int .u32 498536548), .lit (.int .u32 997073096), .lit (.int .u32 1994146192), .lit (.int .u32 3988292384)]

/-- 'scholialaw02.FrameSums': WHATEVER THE INPUT: true; the input reads as it did. -/
def frameSumsSpec : ChangeSpec := { name := "frameSums", fn := fun _ => fun
  | [d] => { results := [.lit (.bool true)], args := [d] }
  | _ => none }
def frameSumsRow : OpenClaim := { program := "ytmclbhpdopikiaadoor", sum := "621458c32f73efcd5b4f0605b70f04e26dca31e178aa0fb246bfdc3501d98dd4", func := "scholia/scholialaw02.FrameSums", spec := "frameSums", named := ["scholia/frame.left"], apart := false, laid := [("scholia/frame.left", laid_scholia_frame_left)] }
def FrameSumsSaid : Prop := frameSumsRow.holds Tryd.pinned (OpenSpec.ofChange frameSumsSpec)

/-- ITS FALSE NEIGHBOUR: 'it returns false'. Refute it at one input. -/
def frameSumsWrong : ChangeSpec := { name := "frameSums", fn := fun _ => fun
  | [d] => { results := [.lit (.bool false)], args := [d] }
  | _ => none }
def FrameSumsWrongFalsely : Prop := frameSumsRow.holds Tryd.pinned (OpenSpec.ofChange frameSumsWrong)

/-- 'scholialaw02.FrameOpens': WHATEVER THE INPUT: true; the input reads as it did. -/
def frameOpensSpec : ChangeSpec := { name := "frameOpens", fn := fun _ => fun
  | [d] => { results := [.lit (.bool true)], args := [d] }
  | _ => none }
def frameOpensRow : OpenClaim := { program := "ytmclbhpdopikiaadoor", sum := "621458c32f73efcd5b4f0605b70f04e26dca31e178aa0fb246bfdc3501d98dd4", func := "scholia/scholialaw02.FrameOpens", spec := "frameOpens", named := ["scholia/frame.left"], apart := false, laid := [("scholia/frame.left", laid_scholia_frame_left)] }
def FrameOpensSaid : Prop := frameOpensRow.holds Tryd.pinned (OpenSpec.ofChange frameOpensSpec)

/-- ITS FALSE NEIGHBOUR: 'it returns false'. Refute it at one input. -/
def frameOpensWrong : ChangeSpec := { name := "frameOpens", fn := fun _ => fun
  | [d] => { results := [.lit (.bool false)], args := [d] }
  | _ => none }
def FrameOpensWrongFalsely : Prop := frameOpensRow.holds Tryd.pinned (OpenSpec.ofChange frameOpensWrong)

/-- 'scholialaw02.FrameBack': WHATEVER THE INPUT: true; the input reads as it did. -/
def frameBackSpec : ChangeSpec := { name := "frameBack", fn := fun _ => fun
  | [d] => { results := [.lit (.bool true)], args := [d] }
  | _ => none }
def frameBackRow : OpenClaim := { program := "ytmclbhpdopikiaadoor", sum := "621458c32f73efcd5b4f0605b70f04e26dca31e178aa0fb246bfdc3501d98dd4", func := "scholia/scholialaw02.FrameBack", spec := "frameBack", named := ["scholia/frame.left"], apart := false, laid := [("scholia/frame.left", laid_scholia_frame_left)] }
def FrameBackSaid : Prop := frameBackRow.holds Tryd.pinned (OpenSpec.ofChange frameBackSpec)

/-- ITS FALSE NEIGHBOUR: 'it returns false'. Refute it at one input. -/
def frameBackWrong : ChangeSpec := { name := "frameBack", fn := fun _ => fun
  | [d] => { results := [.lit (.bool false)], args := [d] }
  | _ => none }
def FrameBackWrongFalsely : Prop := frameBackRow.holds Tryd.pinned (OpenSpec.ofChange frameBackWrong)

/-- 'scholialaw02.FrameTurned': WHATEVER THE INPUT: true; the input reads as it did. -/
def frameTurnedSpec : ChangeSpec := { name := "frameTurned", fn := fun _ => fun
  | [d1, d2, d3] => { results := [.lit (.bool true)], args := [d1, d2, d3] }
  | _ => none }
def frameTurnedRow : OpenClaim := { program := "ytmclbhpdopikiaadoor", sum := "621458c32f73efcd5b4f0605b70f04e26dca31e178aa0fb246bfdc3501d98dd4", func := "scholia/scholialaw02.FrameTurned", spec := "frameTurned", named := ["scholia/frame.left"], apart := false, laid := [("scholia/frame.left", laid_scholia_frame_left)] }
def FrameTurnedSaid : Prop := frameTurnedRow.holds Tryd.pinned (OpenSpec.ofChange frameTurnedSpec)

/-- ITS FALSE NEIGHBOUR: 'it returns false'. Refute it at one input. -/
def frameTurnedWrong : ChangeSpec := { name := "frameTurned", fn := fun _ => fun
  | [d1, d2, d3] => { results := [.lit (.bool false)], args := [d1, d2, d3] }
  | _ => none }
def FrameTurnedWrongFalsely : Prop := frameTurnedRow.holds Tryd.pinned (OpenSpec.ofChange frameTurnedWrong)

/-- 'scholialaw02.FrameSmear': WHATEVER THE INPUT: true; the input reads as it did. -/
def frameSmearSpec : ChangeSpec := { name := "frameSmear", fn := fun _ => fun
  | [d1, d2, d3, d4] => { results := [.lit (.bool true)], args := [d1, d2, d3, d4] }
  | _ => none }
def frameSmearRow : OpenClaim := { program := "ytmclbhpdopikiaadoor", sum := "621458c32f73efcd5b4f0605b70f04e26dca31e178aa0fb246bfdc3501d98dd4", func := "scholia/scholialaw02.FrameSmear", spec := "frameSmear", named := ["scholia/frame.left"], apart := false, laid := [("scholia/frame.left", laid_scholia_frame_left)] }
def FrameSmearSaid : Prop := frameSmearRow.holds Tryd.pinned (OpenSpec.ofChange frameSmearSpec)

/-- ITS FALSE NEIGHBOUR: 'it returns false'. Refute it at one input. -/
def frameSmearWrong : ChangeSpec := { name := "frameSmear", fn := fun _ => fun
  | [d1, d2, d3, d4] => { results := [.lit (.bool false)], args := [d1, d2, d3, d4] }
  | _ => none }
def FrameSmearWrongFalsely : Prop := frameSmearRow.holds Tryd.pinned (OpenSpec.ofChange frameSmearWrong)

/- THE SECOND FORM. 'bulk': how many values and letters a reading holds, each counted each time it is reached (what is shared counts as often as it is met; a slice's spare places count too). A statement '..UptoSaid' is the law's where the arguments, and the package variables that the reading takes, are together of bulk at most 1048576: NARROWER than '..Said'. Prove '..Said' where nothing that the law and all that it calls make is longer than what came in: it says more and counts as full. Else prove '..UptoSaid'. A law counts once. -/
mutual
def uptoBulk {H : Type} : DataW H → Nat
  | .lit (.string bytes) => bytes.length + 1
  | .lit _ => 1
  | .nil => 1
  | .ptr d => uptoBulk d + 1
  | .slice elems spare => uptoBulkAll elems + uptoBulkAll spare + 1
  | .agg parts => uptoBulkAll parts + 1
  | .iface _ d => uptoBulk d + 1
  | .map entries => uptoBulkEntries entries + 1
  | .held _ => 1
def uptoBulkAll {H : Type} : List (DataW H) → Nat
  | [] => 0
  | d :: r => uptoBulk d + uptoBulkAll r
def uptoBulkEntries {H : Type} : List (Lit × DataW H) → Nat
  | [] => 0
  | x :: r => uptoBulkEntry x + uptoBulkEntries r
def uptoBulkEntry {H : Type} : Lit × DataW H → Nat
  | (.string bytes, d) => bytes.length + uptoBulk d + 1
  | (_, d) => uptoBulk d + 1
 end
def uptoSmall : (H : Type) → List (DataW H) → Bool := fun _ ds => decide (uptoBulkAll ds ≤ 1048576)
def OpenSpec.upto (s : _root_.Go.ChangeSpec) : _root_.Go.OpenSpec := { _root_.Go.OpenSpec.ofChange s with cond := some uptoSmall }

/-- 'scholialaw02.FrameSums', WHERE WHAT IT READS IS OF BULK AT MOST 1048576: true; the input reads as it did. -/
def frameSumsUptoRow : OpenClaim := { program := "ytmclbhpdopikiaadoor", sum := "621458c32f73efcd5b4f0605b70f04e26dca31e178aa0fb246bfdc3501d98dd4", func := "scholia/scholialaw02.FrameSums", spec := "frameSums", named := ["scholia/frame.left"], apart := false, laid := [("scholia/frame.left", laid_scholia_frame_left)], narrowed := true }
def FrameSumsUptoSaid : Prop := frameSumsUptoRow.holds Tryd.pinned (OpenSpec.upto frameSumsSpec)

/-- 'scholialaw02.FrameOpens', WHERE WHAT IT READS IS OF BULK AT MOST 1048576: true; the input reads as it did. -/
def frameOpensUptoRow : OpenClaim := { program := "ytmclbhpdopikiaadoor", sum := "621458c32f73efcd5b4f0605b70f04e26dca31e178aa0fb246bfdc3501d98dd4", func := "scholia/scholialaw02.FrameOpens", spec := "frameOpens", named := ["scholia/frame.left"], apart := false, laid := [("scholia/frame.left", laid_scholia_frame_left)], narrowed := true }
def FrameOpensUptoSaid : Prop := frameOpensUptoRow.holds Tryd.pinned (OpenSpec.upto frameOpensSpec)

/-- 'scholialaw02.FrameBack', WHERE WHAT IT READS IS OF BULK AT MOST 1048576: true; the input reads as it did. -/
def frameBackUptoRow : OpenClaim := { program := "ytmclbhpdopikiaadoor", sum := "621458c32f73efcd5b4f0605b70f04e26dca31e178aa0fb246bfdc3501d98dd4", func := "scholia/scholialaw02.FrameBack", spec := "frameBack", named := ["scholia/frame.left"], apart := false, laid := [("scholia/frame.left", laid_scholia_frame_left)], narrowed := true }
def FrameBackUptoSaid : Prop := frameBackUptoRow.holds Tryd.pinned (OpenSpec.upto frameBackSpec)

/-- 'scholialaw02.FrameTurned', WHERE WHAT IT READS IS OF BULK AT MOST 1048576: true; the input reads as it did. -/
def frameTurnedUptoRow : OpenClaim := { program := "ytmclbhpdopikiaadoor", sum := "621458c32f73efcd5b4f0605b70f04e26dca31e178aa0fb246bfdc3501d98dd4", func := "scholia/scholialaw02.FrameTurned", spec := "frameTurned", named := ["scholia/frame.left"], apart := false, laid := [("scholia/frame.left", laid_scholia_frame_left)], narrowed := true }
def FrameTurnedUptoSaid : Prop := frameTurnedUptoRow.holds Tryd.pinned (OpenSpec.upto frameTurnedSpec)

/-- 'scholialaw02.FrameSmear', WHERE WHAT IT READS IS OF BULK AT MOST 1048576: true; the input reads as it did. -/
def frameSmearUptoRow : OpenClaim := { program := "ytmclbhpdopikiaadoor", sum := "621458c32f73efcd5b4f0605b70f04e26dca31e178aa0fb246bfdc3501d98dd4", func := "scholia/scholialaw02.FrameSmear", spec := "frameSmear", named := ["scholia/frame.left"], apart := false, laid := [("scholia/frame.left", laid_scholia_frame_left)], narrowed := true }
def FrameSmearUptoSaid : Prop := frameSmearUptoRow.holds Tryd.pinned (OpenSpec.upto frameSmearSpec)

end Rows
end Go.Proofs.YtmclbhpdopikiaaDoor
