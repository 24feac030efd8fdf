/- The document's rows by texts: Below, Put, Cut. -/
import Derived.Test.YtiadljcfcncbkaaTabSPut
import Derived.Test.YtiadljcfcncbkaaPairs
namespace Go.Proofs.Ytiadljcfcncbkaa
open Go Go.RowKit
set_option linter.unusedVariables false

abbrev rowD : ByteArray × Int := (ByteArray.empty, 0)
def rowE (r : ByteArray × Int) : Value × Value := (.string r.1, .int .i64 r.2)
def rowsE (l : Tb.Rows ByteArray) : List (Value × Value) := l.map rowE
theorem rowsE_len (l : Tb.Rows ByteArray) : (rowsE l).length = l.length := by simp [rowsE]
theorem rowsE_append (a b : Tb.Rows ByteArray) : rowsE (a ++ b) = rowsE a ++ rowsE b := by simp [rowsE]
def LiesR (w : World) (p : Option Addr) (l : Tb.Rows ByteArray) : Prop :=
  l ≠ [] → ∃ b o, p = some ⟨b, o, none⟩ ∧ ∀ i, i < l.length → w.cell? ⟨b, o + i * 2, none⟩ = some (.string (l.getD i rowD).1) ∧ w.cell? ⟨b, o + i * 2 + 1, none⟩ = some (.int .i64 (l.getD i rowD).2)
theorem LiesR.nil (w : World) (p : Option Addr) : LiesR w p [] := fun h => absurd rfl h
theorem LiesR.at {w : World} {p : Option Addr} {l : Tb.Rows ByteArray} (h : LiesR w p l) (h0 : 0 < l.length) :
    ∃ b o, p = some ⟨b, o, none⟩ ∧ b < w.heap.size ∧ ∀ i, i < l.length → w.cell? ⟨b, o + i * 2, none⟩ = some (.string (l.getD i rowD).1) ∧ w.cell? ⟨b, o + i * 2 + 1, none⟩ = some (.int .i64 (l.getD i rowD).2) := by
  obtain ⟨b, o, rfl, hc⟩ := h (by intro e; subst e; simp at h0)
  exact ⟨b, o, rfl, World.block_lt_of_cell? w _ (hc 0 h0).1, hc⟩
theorem LiesR.below {w w' : World} {p : Option Addr} {l : Tb.Rows ByteArray} (h : LiesR w p l) (hb : Below w.heap.size w w') : LiesR w' p l := by
  intro h0
  obtain ⟨b, o, rfl, hc⟩ := h h0
  refine ⟨b, o, rfl, fun i hi => ?_⟩
  obtain ⟨h1, h2⟩ := hc i hi
  have hlt := World.block_lt_of_cell? w _ h1
  rw [hb.cell (p := ⟨b, o + i * 2, none⟩) hlt, hb.cell (p := ⟨b, o + i * 2 + 1, none⟩) hlt]
  exact ⟨h1, h2⟩
theorem own_liesR {w : World} {B : Nat} {e : TypeId} {v : Value} {n : Nat} {l : Tb.Rows ByteArray} (h : w.ownsRow B e 2 v n (pc (rowsE l))) :
    n = l.length ∧ ∃ p cap, v = .slice p l.length cap ∧ l.length ≤ cap ∧ LiesR w p l := by
  obtain ⟨h1, p, cap, h2, h3, h4, h5⟩ := own_pc h
  rw [rowsE_len] at h1 h2 h3
  refine ⟨h1, p, cap, h2, h3, fun h0 => ?_⟩
  cases p with
  | none => exact absurd (h4 rfl).1 (by simpa [rowsE] using h0)
  | some a =>
    obtain ⟨g, rfl, _, _, hc⟩ := h5 a rfl
    refine ⟨g, 0, rfl, fun i hi => ?_⟩
    have := hc i (by rw [rowsE_len]; exact hi)
    simp only [rowsE, List.getElem_map, rowE] at this
    simpa [List.getD, List.getElem?_eq_getElem hi, Nat.zero_add] using this
set_option maxHeartbeats 2000000
set_option maxRecDepth 100000
/-- is a key there? -/
def isR (l : Tb.Rows ByteArray) (x : ByteArray) : Bool := l.any fun r => r.1.toList == x.toList
theorem isR_iff (l : Tb.Rows ByteArray) (x : ByteArray) : isR l x = true ↔ x ∈ kS l := by
  unfold isR kS
  rw [List.any_eq_true, List.mem_map]
  constructor
  · rintro ⟨r, hr, h⟩
    have h' : r.1.toList = x.toList := by simpa using h
    rw [Lib.toList_data, Lib.toList_data] at h'
    exact ⟨r, hr, ByteArray.ext (Array.toList_inj.1 h')⟩
  · rintro ⟨r, hr, rfl⟩
    exact ⟨r, hr, by simp⟩
theorem take_next (l : Tb.Rows ByteArray) (j : Nat) (h : j < l.length) : l.take (j + 1) = l.take j ++ [l.getD j rowD] := by
  rw [List.take_add_one, List.getElem?_eq_getElem h]; simp [List.getD, List.getElem?_eq_getElem h]
theorem refBelow_is (p : Option Addr) (c : Nat) (l : Tb.Rows ByteArray) (x : ByteArray) (w : World) (hl : LiesR w p l) (hn : l.length ≤ 1000) (hlc : l.length ≤ c) :
    Calls Try.prog 9 #[.slice p l.length c, .string x] w fun e w' => e = .returned (.tuple #[.int .i64 (l.countP (fun r => ltB r.1 x) : Nat), .bool (isR l x)]) ∧ Below w.heap.size w w' := by
  have CL := Lib.hid hl
  clear hl
  go_enter Try.func9, Try.ntmps9
  go_wp2_with fail
  go_loopw [6, 7, 12] (fun n t i wr => ∃ (j nn : Nat) (tt : Bool), j ≤ l.length ∧ i = .int .i64 j ∧ n = .int .i64 nn ∧ t = .bool tt ∧ nn = (l.take j).countP (fun r => ltB r.1 x) ∧ nn ≤ j ∧ tt = isR (l.take j) x ∧ Below w.heap.size w wr) (fun _ _ i _ => l.length - (intOf i).toNat)
  case atStart => exact ⟨0, 0, false, Nat.zero_le _, rfl, rfl, rfl, rfl, Nat.le_refl _, rfl, Below.refl _ _⟩
  case round =>
    obtain ⟨j, nn, tt, hj, rfl, rfl, rfl, hnn, hnj, htt, hb⟩ := hrel
    have BB := Lib.hid hb; have HN := Lib.hid hnn; have HT := Lib.hid htt
    clear hb hnn htt
    by_cases hjl : j < l.length
    · obtain ⟨b1, o1, rfl, _, q1⟩ := (CL.out.below BB.out).at (by omega)
      obtain ⟨r1, r2⟩ := q1 j hjl
      have hjl' : (j : Int) < l.length := by omega
      have TK := Lib.hid (take_next l j hjl)
      clear q1
      generalize l.getD j rowD = r at r1 r2 TK
      obtain ⟨X, Y⟩ := r
      simp only at r1 r2
      have HB := Lib.hid ((BB.out.alloc (by have := BB.out.size; omega) (.cells #[.string X, .int .i64 Y] 37)))
      have HN2 : ∀ b, Op.bytesLess X.toList x.toList = b → (nn + if b then 1 else 0) = (l.take (j + 1)).countP (fun r => ltB r.1 x) := by
        rintro _ rfl
        rw [TK.out, List.countP_append, HN.out]
        simp [ltB, List.countP_cons]
      have HT2 : (tt || (X.toList == x.toList)) = isR (l.take (j + 1)) x := by
        rw [TK.out, HT.out]; simp [isR]
      clear BB HN HT TK
      cases hX : Op.bytesLess X.toList x.toList with
      | true =>
        have HN3 := Lib.hid (HN2 true hX)
        have HT3 := Lib.hid HT2
        clear HN2 HT2
        cases tt with
        | true =>
          go_wp2_with fail
          go_roundw
          case rel => exact ⟨j + 1, nn + 1, true, by omega, by go_num, by go_num, rfl, HN3.out, by omega, HT3.out, HB.out⟩
          case measure => simp [intOf]; omega
        | false =>
          go_wp2_with fail
          go_roundw
          case rel => exact ⟨j + 1, nn + 1, _, by omega, by go_num, by go_num, rfl, HN3.out, by omega, HT3.out, HB.out⟩
          case measure => simp [intOf]; omega
      | false =>
        have HN3 := Lib.hid (HN2 false hX)
        have HT3 := Lib.hid HT2
        clear HN2 HT2
        cases tt with
        | true =>
          go_wp2_with fail
          go_roundw
          case rel => exact ⟨j + 1, nn, true, by omega, by go_num, rfl, rfl, HN3.out, by omega, HT3.out, HB.out⟩
          case measure => simp [intOf]; omega
        | false =>
          go_wp2_with fail
          go_roundw
          case rel => exact ⟨j + 1, nn, _, by omega, by go_num, rfl, rfl, HN3.out, by omega, HT3.out, HB.out⟩
          case measure => simp [intOf]; omega
    · obtain rfl : j = l.length := by omega
      rw [List.take_length] at HN HT
      have hjl' : ¬ ((l.length : Nat) : Int) < l.length := by omega
      go_wp2_with fail
      refine bodyPost_ret (results_tmp2 rfl _ _ _) rfl ⟨?_, BB.out⟩
      rw [← HN.out, ← HT.out]
      rfl
end Go.Proofs.Ytiadljcfcncbkaa
