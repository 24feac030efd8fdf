/- What is heard, as it came in; Note of whatever is heard. -/
import Derived.Test.YtoelpeodepkaaaaStAwake
import Derived.Test.YtoelpeodepkaaaaVecRows
import Derived.Test.YtoelpeodepkaaaaGen
namespace Go.Proofs.Ytoelpeodepkaaaa
open Go Go.RowKit
set_option linter.unusedVariables false

/-- the rows behind one more thing that is heard -/
def jn (R : Nat → Nat → Int) (n : Nat) (r : Int) (F : Nat → Int) : Nat → Nat → Int := if 0 ≤ r ∧ r < n then joinAt R r.toNat F else R
theorem jn_in (R : Nat → Nat → Int) (n : Nat) (r : Int) (F : Nat → Int) (h : 0 ≤ r ∧ r < n) : jn R n r F = joinAt R r.toNat F := if_pos h
theorem jn_out (R : Nat → Nat → Int) (n : Nat) (r : Int) (F : Nat → Int) (h : ¬ (0 ≤ r ∧ r < n)) : jn R n r F = R := if_neg h
theorem jn_ge (R : Nat → Nat → Int) (n : Nat) (r : Int) (F : Nat → Int) (i j : Nat) : R i j ≤ jn R n r F i j := by
  unfold jn joinAt rset
  split
  · by_cases e : i = r.toNat
    · subst e; simp; omega
    · simp [e]
  · omega
theorem stb_mono {R R' : Nat → Nat → Int} (h : ∀ i j, R i j ≤ R' i j) (n j : Nat) : stb R n j ≤ stb R' n j := by
  induction n with
  | zero => exact h 0 j
  | succ n ih => have := h n j; simp only [stb]; omega
theorem stb_le (R : Nat → Nat → Int) (n k j : Nat) (hk : k < n) : stb R n j ≤ R k j := by
  induction n with
  | zero => omega
  | succ n ih =>
    simp only [stb]
    by_cases e : k = n
    · subst e; omega
    · have := ih (by omega); omega
/-- the matrix behind one more thing that is heard -/
def NotedAny (w : World) (a G n : Nat) (R : Nat → Nat → Int) (b : Bool) (e : Ending) (w' : World) : Prop := e = .returned (.bool b) ∧ Mx w' a G n R ∧ w.grownBy w' (some G)
theorem note_any (a G n : Nat) (R : Nat → Nat → Int) (r : Int) (F : Nat → Int) (w : World) (h : Mx w a G n R) (b : Bool) (hb : b = decide (0 ≤ r ∧ r < n)) :
    Calls Try.prog 14 #[.pointer (some ⟨a, 0, none⟩), .int .i64 r, .agg (vf F)] w (NotedAny w a G n (jn R n r F) b) := by
  subst hb
  by_cases hr : 0 ≤ r ∧ r < n
  · obtain ⟨i, rfl⟩ : ∃ i : Nat, r = (i : Int) := ⟨r.toNat, by omega⟩
    rw [jn_in _ _ _ _ hr, Int.toNat_natCast]
    exact (note_in a G n R i F w h (by omega)).mono fun e w' ⟨h1, h2, h3⟩ => ⟨by rw [h1, decide_eq_true hr], h2, h3⟩
  · rw [jn_out _ _ _ _ hr]
    exact (note_out (some ⟨a, 0, none⟩) n r F w (lasts_later h.sized) hr).mono fun e w' ⟨h1, h2⟩ => ⟨by rw [h1, decide_eq_false hr], h.later h2, grown_of_below h2⟩

/-- the cells of a thing that is heard -/
def hcs (r : Int) (F : Nat → Int) : Array Value := (Value.int .i64 r :: (vf F).toList).toArray
theorem hcs_size (r : Int) (F : Nat → Int) : (hcs r F).size = 65 := by simp [hcs, vf_size]
theorem hcs_one (r : Int) (F : Nat → Int) : ∀ v ∈ (hcs r F).toList, v.oneCell' = true := by
  intro v hv
  simp only [hcs, List.mem_cons] at hv
  rcases hv with rfl | hv
  · rfl
  · exact vl_one F v hv
theorem zeroH (w : World) : (zeroValue 42).run Try.prog w = .ok (.agg (hcs 0 fun _ => 0)) w := by
  unfold hcs; rw [vf_zero]; kernel_rfl
theorem sizeH (r : Int) (F : Nat → Int) : (Try.prog.info? 42).map (·.size) = some (hcs r F).size := by rw [hcs_size]; kernel_rfl
theorem sizeHl (r : Int) (F : Nat → Int) : (Try.prog.info? 42).map (·.size) = some (hcs r F).toList.length := by rw [Array.length_toList]; exact sizeH r F
/-- things heard that came in -/
structure CameH (w : World) (p : Option Addr) (n c : Nat) (r : Nat → Int) (F : Nat → Nat → Int) : Prop where
  le : n ≤ c
  max : c ≤ maxLen
  nil : p = none → n = 0 ∧ c = 0
  wide : ∀ i, i < n → (-9223372036854775808 ≤ r i ∧ r i ≤ 9223372036854775807)
  lies : 0 < n → ∃ b o, p = some ⟨b, o, none⟩ ∧ ∀ i, i < n → w.rangeAt b (o + i * 65) (hcs (r i) (F i)).toList
theorem CameR.heard {w : World} {p : Option Addr} {n c : Nat} {E : Nat → List Value} (h : CameR w p n c 65 IsHeard E) : ∃ r F, CameH w p n c r F := by
  have each : ∀ i, ∃ q : Int × (Nat → Int), i < n → E i = (hcs q.1 q.2).toList ∧ (-9223372036854775808 ≤ q.1 ∧ q.1 ≤ 9223372036854775807) := by
    intro i
    by_cases hi : i < n
    · obtain ⟨r, F, e, hw, _⟩ := (h.each i hi).1
      exact ⟨(r, F), fun _ => ⟨e, hw⟩⟩
    · exact ⟨(0, fun _ => 0), fun h => absurd h hi⟩
  obtain ⟨q, hq⟩ := Classical.axiomOfChoice each
  refine ⟨fun i => (q i).1, fun i => (q i).2, h.le, h.max, h.nil, fun i hi => (hq i hi).2, fun h0 => ?_⟩
  obtain ⟨b, o, rfl, hc⟩ := h.lies h0
  exact ⟨b, o, rfl, fun i hi => by rw [← (hq i hi).1]; exact hc i hi⟩
theorem CameH.later {w w' : World} {p : Option Addr} {n c : Nat} {r : Nat → Int} {F : Nat → Nat → Int} (h : CameH w p n c r F) (hb : Below w.heap.size w w') : CameH w' p n c r F :=
  ⟨h.le, h.max, h.nil, h.wide, fun h0 => by
    obtain ⟨b, o, rfl, hc⟩ := h.lies h0
    exact ⟨b, o, rfl, fun i hi => range_below (hc i hi) hb⟩⟩
/-- a variable of what is heard -/
theorem heard_var {w : World} {g : Nat} {r : Int} {F : Nat → Int} {ty : TypeId} (h : w.heap[g]? = some (.cells (hcs r F) ty (0, 0))) : w.cell? ⟨g, 0, none⟩ = some (.int .i64 r) ∧ w.rangeAt g 1 (vf F).toList := by
  refine ⟨by rw [cell_of_row _ g 0 _ _ _ h]; rfl, fun j v hv => ?_⟩
  rw [cell_of_row _ g (1 + j) _ _ _ h]
  simp only [hcs, List.getElem?_toArray, Nat.add_comm 1 j, List.getElem?_cons_succ]
  exact hv
end Go.Proofs.Ytoelpeodepkaaaa
