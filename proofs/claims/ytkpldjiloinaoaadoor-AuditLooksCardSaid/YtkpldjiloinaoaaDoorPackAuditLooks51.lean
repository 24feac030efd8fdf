/- The statement AuditLooks, proved for every input that its row reads: part 51 of 54. -/
import Derived.Test.YtkpldjiloinaoaaDoorPackAuditLooks50
import Derived.Test.YtkpldjiloinaoaaDoorPackAuditLooks35
/- The five tables out of what the rows list; a world that holds them. -/
namespace Go.Proofs.YtkpldjiloinaoaaDoor
open Go Go.ChangeShapes Go.WideShapes Go.ChangeAt Go.RowKit

section
variable {H : Type} {enc : TypeId × Value → H} {P : Program} {w : World} {base : Nat} {sp : Nat → Bool} {held : Bool} {fuel n : Nat} {t u : TypeId} {cs : List Value} {p : List MemPlace}
theorem str_array (hu : P.underlying u = some (.array n t)) (ht : P.underlying t = some .string) (hct : P.cellsOf t = 1) {zs : List Lit}
    (h : DataW.trod enc P w base sp held fuel u cs = some (.agg (zs.map fun z => .lit z), p)) (i : Nat) (hi : i < zs.length) : cs[i]? = some (zs[i]).value := by
  obtain ⟨xs, k, _, hx, _, hxn, hxi⟩ := DataW.trod_array hu h
  simp only [Prod.mk.injEq, DataW.agg.injEq] at hx
  obtain ⟨hx, _⟩ := hx
  have hlen : xs.length = zs.length := by
    have := congrArg List.length hx
    simpa using this.symm
  have h1 := hxi i (by omega)
  rw [hct, Nat.mul_one] at h1
  have hxs : xs[i]? = some (xs[i]'(by omega)) := List.getElem?_eq_getElem (by omega)
  rw [hxs] at h1
  have hzi : zs[i]? = some (zs[i]'(by omega)) := List.getElem?_eq_getElem (by omega)
  have hlit : (xs[i]'(by omega)).1 = DataW.lit (zs[i]'(by omega)) := by
    have := congrArg (·[i]?) hx
    simp only [List.getElem?_map, hxs, hzi, Option.map_some] at this
    exact (Option.some.inj this).symm
  obtain ⟨z, hc, hxz, _⟩ := DataW.trod_string ht h1
  have h2 : cs[i]? = some (.string z) := by
    have := congrArg (·[0]?) hc
    simpa [List.getElem?_take, List.getElem?_drop] using this
  rw [hxz] at hlit
  simp only [DataW.lit.injEq] at hlit
  rw [h2, ← hlit]; rfl
end
def wordLits : List Lit := [.string [63], .string [115, 116, 97, 116, 101], .string [101, 118, 101, 110, 116], .string [117, 110, 107, 110, 111, 119, 110], .string [111, 114, 100, 101, 114], .string [103, 111, 110, 101], .string [108, 105, 118, 101], .string [102, 108, 111, 111, 114], .string [116, 119, 105, 99, 101]]
theorem gWords : Tryd.prog.globalNamed "scholia/audit.words" = some 0 := by kernel_rfl
theorem gWordsType : (Tryd.prog.globals[0]?).map (·.type) = some 79 := by kernel_rfl
theorem words_of {W : World} {l : List (String × DataW Unit)} (h : laidMet Tryd.prog l W) (hm : ("scholia/audit.words", Rows.laid_scholia_audit_words) ∈ l) : Words W := by
  obtain ⟨ps, hv, _⟩ := h
  obtain ⟨g, t, cs, fuel, p, h1, h2, h3, h4⟩ := laid_mem hv hm
  obtain rfl := Option.some.inj (gWords.symm.trans h1)
  obtain rfl := Option.some.inj (gWordsType.symm.trans h2)
  have h5 := str_array (zs := wordLits) Tryd.underlying79 Tryd.underlying9 (by kernel_rfl) h4 3 (by decide)
  unfold Words
  rw [World.var?_cell gWords h3, ← Array.getElem?_toList]
  exact h5
/-- what a table's cells are -/
def litV : DataW Unit → Value
  | .lit z => z.value
  | _ => undef
def tabV : DataW Unit → Array Value
  | .agg l => (l.map litV).toArray
  | _ => #[]
noncomputable def withTab (W : World) (g : Nat) (cs : Array Value) : World :=
  { W with heap := W.heap.modify g fun
      | .cells _ t frozen => .cells cs t frozen
      | o => o }
theorem aud_of {W : World} (h : laidMetH Tryd.prog [("math/bits.deBruijn32tab", Rows.laid_math_bits_deBruijn32tab), ("math/bits.deBruijn64tab", Rows.laid_math_bits_deBruijn64tab), ("internal/strconv.uint64pow10", Rows.laid_internal_strconv_uint64pow10), ("scholia/utf.shapes", Rows.laid_scholia_utf_shapes), ("scholia/audit.words", Rows.laid_scholia_audit_words)] W) : Shapes W ∧ Words W :=
  ⟨shapes_of h (by simp), words_of h (by simp)⟩
noncomputable def audWorld (os : Os) : World :=
  withTab (withTab (withTab (withTab (withTab (World.holding Tryd.prog os ⟨#[], #[], []⟩) 2 ((shapeRows.flatten).map (Value.int .i64)).toArray) 0 (tabV Rows.laid_scholia_audit_words)) 1 (tabV Rows.laid_internal_strconv_uint64pow10)) 3 (tabV Rows.laid_math_bits_deBruijn32tab)) 4 (tabV Rows.laid_math_bits_deBruijn64tab)
theorem aud_met (os : Os) (args : Array Value) : laidMet Tryd.prog [("math/bits.deBruijn32tab", Rows.laid_math_bits_deBruijn32tab), ("math/bits.deBruijn64tab", Rows.laid_math_bits_deBruijn64tab), ("internal/strconv.uint64pow10", Rows.laid_internal_strconv_uint64pow10), ("scholia/utf.shapes", Rows.laid_scholia_utf_shapes), ("scholia/audit.words", Rows.laid_scholia_audit_words)] ((audWorld os).forCall (fun _ _ => 0) ⟨#[], args, []⟩).memory :=
  laidMet_of_run' 8 (by kernel_rfl) (by kernel_rfl)
end Go.Proofs.YtkpldjiloinaoaaDoor
