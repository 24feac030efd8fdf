/- The statement AuditLooks, proved for every input that its row reads: part 52 of 54. -/
import Derived.Test.YtkpldjiloinaoaaDoorPackAuditLooks51
import Derived.Test.YtkpldjiloinaoaaDoorPackAuditLooks42
import Derived.Lib.LaidTab
/- All words, and the powers of ten, out of what the rows list. -/
namespace Go.Proofs.YtkpldjiloinaoaaDoor
open Go Go.ChangeShapes Go.WideShapes Go.ChangeAt Go.RowKit

theorem wordsA_of {W : World} {l : List (String × DataW Unit)} (h : laidMet Tryd.prog l W) (hm : ("scholia/audit.words", Rows.laid_scholia_audit_words) ∈ l) : WordsA W := by
  obtain ⟨ps, hv, _⟩ := h
  obtain ⟨g, t, cs, fuel, p, h1, h2, h3, h4⟩ := laid_mem hv hm
  obtain rfl := Option.some.inj (gWords.symm.trans h1)
  obtain rfl := Option.some.inj (gWordsType.symm.trans h2)
  intro i hi
  have h5 := str_array (zs := wordLits) Tryd.underlying79 Tryd.underlying9 (by kernel_rfl) h4 i hi
  rw [World.var?_cell gWords h3, ← Array.getElem?_toList, h5]
  match i, hi with
  | 0, _ => rfl
  | 1, _ => rfl
  | 2, _ => rfl
  | 3, _ => rfl
  | 4, _ => rfl
  | 5, _ => rfl
  | 6, _ => rfl
  | 7, _ => rfl
  | 8, _ => rfl
theorem gPow : Tryd.prog.globalNamed "internal/strconv.uint64pow10" = some 1 := by kernel_rfl
theorem gPowType : (Tryd.prog.globals[1]?).map (·.type) = some 105 := by kernel_rfl
theorem powData : (Rows.laid_internal_strconv_uint64pow10 : DataW Unit) = Lib.tabData .u64 Lib.pow10Tab := rfl
theorem pow_of {W : World} {l : List (String × DataW Unit)} (h : laidMet Tryd.prog l W) (hm : ("internal/strconv.uint64pow10", Rows.laid_internal_strconv_uint64pow10) ∈ l) : Pow W := by
  obtain ⟨ps, hv, _⟩ := h
  obtain ⟨g, t, cs, fuel, p, h1, h2, h3, h4⟩ := laid_mem hv hm
  obtain rfl := Option.some.inj (gPow.symm.trans h1)
  obtain rfl := Option.some.inj (gPowType.symm.trans h2)
  rw [powData] at h4
  unfold Pow Lib.TabIs
  have e := Lib.cells_of_tab Tryd.underlying105 Tryd.underlying92 (by kernel_rfl) (by kernel_rfl) h4
  rw [h3, ← e]
theorem aud_of2 {W : World} (h : laidMetH Tryd.prog [("math/bits.deBruijn32tab", Rows.laid_math_bits_deBruijn32tab), ("math/bits.deBruijn64tab", Rows.laid_math_bits_deBruijn64tab), ("internal/strconv.uint64pow10", Rows.laid_internal_strconv_uint64pow10), ("scholia/utf.shapes", Rows.laid_scholia_utf_shapes), ("scholia/audit.words", Rows.laid_scholia_audit_words)] W) : Shapes W ∧ Words W ∧ WordsA W ∧ Pow W :=
  ⟨shapes_of h (by simp), words_of h (by simp), wordsA_of h (by simp), pow_of h (by simp)⟩
end Go.Proofs.YtkpldjiloinaoaaDoor
