/- The document's Cut of rows by texts. -/
import Derived.Test.YtiadljcfcncbkaaTabRefPut
namespace Go.Proofs.Ytiadljcfcncbkaa
open Go Go.RowKit
set_option linter.unusedVariables false
set_option maxHeartbeats 2000000
set_option maxRecDepth 1000000

def keepR (x : ByteArray) (r : ByteArray × Int) : Bool := !(r.1.toList == x.toList)
theorem keepR_other (x : ByteArray) : keepR x = Tb.other ltB x := by
  funext r
  rw [Bool.eq_iff_iff, Tb.other_iff lin_B]
  unfold keepR
  constructor
  · intro h e
    rw [e] at h
    simp at h
  · intro h
    cases hc : (r.1.toList == x.toList) with
    | false => rfl
    | true =>
      have hc' : r.1.toList = x.toList := by simpa using hc
      rw [Lib.toList_data, Lib.toList_data] at hc'
      exact absurd (ByteArray.ext (Array.toList_inj.1 hc')) h
theorem refCut_is (p : Option Addr) (c : Nat) (l : Tb.Rows ByteArray) (x : ByteArray) (w : World) (hl : LiesR w p l) (hn : l.length ≤ 1000) (hlc : l.length ≤ c) :
    Calls Try.prog 15 #[.slice p l.length c, .string x] w fun e w' => ∃ v, e = .returned v ∧ w'.ownsRow w.heap.size 37 2 v (l.filter (Tb.other ltB x)).length (pc (rowsE (l.filter (Tb.other ltB x)))) ∧ Below w.heap.size w w' := by
  rw [← keepR_other]
  have CL := Lib.hid hl
  clear hl
  go_enter Try.func15, Try.ntmps15
  go_wp2_with fail
  go_loopw [5, 10] (fun v i wr => ∃ (j : Nat) (o : Tb.Rows ByteArray), j ≤ l.length ∧ i = .int .i64 j ∧ o = (l.take j).filter (keepR x) ∧ o.length ≤ j ∧ wr.ownsRow w.heap.size 37 2 v o.length (pc (rowsE o)) ∧ Below w.heap.size w wr) (fun _ i _ => l.length - (intOf i).toNat)
  case atStart => exact ⟨0, [], Nat.zero_le _, rfl, rfl, Nat.le_refl _, ⟨rfl, .inl ⟨rfl, rfl⟩⟩, Below.refl _ _⟩
  case round =>
    obtain ⟨j, o, hj, rfl, ho, hoj, hown, hb⟩ := hrel
    have BB := Lib.hid hb; have HO := Lib.hid ho; have OW := Lib.hid hown
    clear hb ho hown
    by_cases hjl : j < l.length
    · obtain ⟨b1, o1, rfl, _, q1⟩ := (CL.out.below BB.out).at (by omega)
      obtain ⟨r1, r2⟩ := q1 j hjl
      have hjl' : (j : Int) < l.length := by omega
      have TK := Lib.hid (take_next l j hjl)
      clear q1
      generalize l.getD j rowD = r at r1 r2 TK
      obtain ⟨X, Y⟩ := r
      simp only at r1 r2
      have HB := BB.out.alloc (by have := BB.out.size; omega) (.cells #[.string X, .int .i64 Y] 37)
      have HOW := OW.out.alloc (.cells #[.string X, .int .i64 Y] 37)
      have hz := BB.out.size
      have hz2 : w.heap.size ≤ (wr.alloc (.cells #[.string X, .int .i64 Y] 37)).heap.size := by simp; omega
      have HBH := Lib.hid HB; have HOH := Lib.hid HOW
      clear HB HOW BB OW
      have HF : ∀ b, (X.toList == x.toList) = b → (l.take (j + 1)).filter (keepR x) = if b then o else o ++ [(X, Y)] := by
        rintro _ rfl
        rw [TK.out, List.filter_append, HO.out]
        cases hb : (X.toList == x.toList) <;> simp [List.filter_cons, keepR, hb]
      cases hX : (X.toList == x.toList) with
      | true =>
        have HF2 := Lib.hid (HF true hX)
        clear HF TK HO
        go_wp2_with fail
        go_roundw
        case rel => exact ⟨j + 1, o, by omega, by go_num, by rw [HF2.out]; rfl, by omega, HOH.out, HBH.out⟩
        case measure => simp [intOf]; omega
      | false =>
        have HF2 := Lib.hid (HF false hX)
        clear HF TK HO
        go_wp2_with (at_builtin; refine wpList_pair rowP2 _ rfl _ _ rfl w.heap.size o.length (rowsE o) u5 rfl HOH.out (.string X) (.int .i64 Y) rfl rfl (by rw [World.size_alloc]; rfl) (by omega) (by unfold maxLen; omega) hz2 ?_)
        intro v2 w2 ho2 hb2 _
        have O2 := Lib.hid (show w2.ownsRow w.heap.size 37 2 v2 (o ++ [(X, Y)]).length (pc (rowsE (o ++ [(X, Y)]))) by rw [List.length_append, rowsE_append]; exact ho2)
        have B2 := Lib.hid (HBH.out.trans (hb2.mono (Nat.le_refl _)))
        clear ho2 hb2 HOH HBH
        go_wp2_with fail
        go_roundw
        case rel => exact ⟨j + 1, o ++ [(X, Y)], by omega, by go_num, by rw [HF2.out]; rfl, by simp; omega, O2.out, B2.out⟩
        case measure => simp [intOf]; omega
    · obtain rfl : j = l.length := by omega
      rw [List.take_length] at HO
      have hjl' : ¬ ((l.length : Nat) : Int) < l.length := by omega
      go_wp2_with fail
      go_ret
      rw [← HO.out]
      exact ⟨_, rfl, OW.out, BB.out⟩
end Go.Proofs.Ytiadljcfcncbkaa
