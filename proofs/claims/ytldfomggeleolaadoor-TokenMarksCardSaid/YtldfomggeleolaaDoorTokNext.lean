/- token's skip and next. -/
import Derived.Test.YtldfomggeleolaaDoorTokPlain
import Derived.Test.YtldfomggeleolaaDoorFoldLaid
namespace Go.Proofs.YtldfomggeleolaaDoor
open Go Go.RowKit
set_option linter.unusedVariables false

set_option maxHeartbeats 1000000 in
theorem skip_is (s : ByteArray) (p0 : Nat) (b : Bool) (w : World) (hs : s.size ≤ 100000) (hp0 : p0 ≤ s.size) (hT : Tables w) :
    Calls Tryd.prog 37 #[.string s, .int .i64 p0, .bool b] w (fun e w' => e = .returned (.int .i64 (Tok.sk s b p0 : Nat)) ∧ Below w.heap.size w w') := by
  obtain ⟨R, hR⟩ : ∃ R, R = Tok.sk s b p0 := ⟨_, rfl⟩
  rw [← hR]
  have HR := Lib.hid hR; have HT := Lib.hid hT
  clear hR hT
  go_enter Tryd.func37, Tryd.ntmps37
  go_wp2
  go_loopw [1] (fun i wr => ∃ p : Nat, i = .int .i64 p ∧ p ≤ s.size ∧ R = Tok.sk s b p ∧ Below w.heap.size w wr) (fun i _ => s.size - (intOf i).toNat)
  case atStart => exact ⟨p0, rfl, hp0, HR.out, Below.refl _ _⟩
  case round =>
    obtain ⟨p, rfl, hp, hr, hb⟩ := hrel
    have RR := Lib.hid hr; have B := Lib.hid hb
    have TW := Lib.hid (HT.out.below hb)
    clear hr hb
    by_cases hlt : p < s.size
    · have hlt' : (p : Int) < s.size := by omega
      have NX := Lib.hid (next_in s p wr hlt (by omega) TW.out.shapes)
      have hst := Utf.nx_step s p hlt
      have hsm := Utf.nx_small s p
      have hwf : (Lit.int .i64 (Utf.nx s p).1).wf = true := by simp [Lit.wf, IntKind.min, IntKind.max, IntKind.bits, IntKind.signed]; omega
      have WX := Lib.hid (word_any (Utf.nx s p).1 wr hwf TW.out.letters)
      have hv : word (Utf.nx s p).1 = Tok.wd s p := rfl
      rw [hv] at WX
      by_cases hwb : Tok.wd s p = b
      · have hg := RR.out.trans (Tok.sk_go hlt hwb)
        have HG := Lib.hid hg
        clear hg hv hwf
        rw [hwb] at WX
        clear hwb
        generalize Utf.nx s p = xm at hst hsm NX WX HG
        obtain ⟨x, m⟩ := xm
        simp only at hst hsm HG
        obtain ⟨m1, m2, m3⟩ := hst
        go_wp2_with fail
        refine NX.out.mono ?_
        rintro e w' ⟨rfl, rfl⟩
        go_wp2_with fail
        refine WX.out.mono ?_
        rintro e w1 ⟨rfl, hb1⟩
        have B1 := Lib.hid (thenBelow B.out hb1)
        clear NX WX hb1
        go_wp2
        go_roundw
        case rel => exact ⟨p + m, by go_num, by omega, HG.out, B1.out⟩
        case measure => simp [intOf]; omega
      · have hg := RR.out.trans (Tok.sk_no hwb)
        have HG := Lib.hid hg
        obtain rfl : b = !(Tok.wd s p) := by revert hwb; cases Tok.wd s p <;> cases b <;> simp
        clear hg hv hwf hwb RR HR
        generalize Tok.wd s p = v at WX
        generalize Utf.nx s p = xm at hst hsm NX WX
        obtain ⟨x, m⟩ := xm
        simp only at hst hsm
        obtain ⟨m1, m2, m3⟩ := hst
        go_wp2_with fail
        refine NX.out.mono ?_
        rintro e w' ⟨rfl, rfl⟩
        go_wp2_with fail
        refine WX.out.mono ?_
        rintro e w1 ⟨rfl, hb1⟩
        have B1 := Lib.hid (thenBelow B.out hb1)
        clear NX WX hb1
        go_wp2
        go_ret
        exact ⟨by rw [HG.out]; rfl, B1.out⟩
    · have hlt' : ¬ (p : Int) < s.size := by omega
      have HE := Lib.hid (RR.out.trans (Tok.sk_end (b := b) (by omega)))
      clear RR
      go_wp2
      go_ret
      exact ⟨by rw [HE.out]; rfl, B.out⟩

theorem set_cells {w : World} {g : Nat} {cs : Array Value} {t : TypeId} {m : Nat × Nat} (h : w.heap[g]? = some (.cells cs t m)) (j : Nat) (v : Value) : (w.setCell ⟨g, j, none⟩ v).heap[g]? = some (.cells (cs.setIfInBounds j v) t m) := by
  obtain ⟨hlt, hk⟩ := Array.getElem?_eq_some_iff.1 h
  show (w.heap.modify g _)[g]? = _
  rw [Array.getElem?_eq_getElem (by rw [Array.size_modify]; exact hlt), Array.getElem_modify_self, hk]
  rfl
/-- a span, as a value -/
def spv (x : Nat × Nat) : Value := .agg #[.int .i64 (x.1 : Int), .int .i64 (x.2 : Int)]
def RetV (w : World) (v : Value) (e : Ending) (w' : World) : Prop := e = .returned v ∧ Below w.heap.size w w'

set_option maxHeartbeats 1000000 in
theorem tokNext_is (s : ByteArray) (p : Nat) (w : World) (hs : s.size ≤ 100000) (hp : p ≤ s.size) (hT : Tables w) :
    Calls Tryd.prog 25 #[.string s, .int .i64 p] w (RetV w (spv (Tok.sk s false p, Tok.sk s true (Tok.sk s false p)))) := by
  have H1 := Lib.hid (fun w h => skip_is s p false w hs hp h)
  have hq := (Tok.sk_le (s := s) (b := false) hp).2
  have H2 := Lib.hid (fun w h => skip_is s (Tok.sk s false p) true w hs hq h)
  have HT := Lib.hid hT
  clear hT
  generalize Tok.sk s true (Tok.sk s false p) = r at H2 ⊢
  generalize Tok.sk s false p = q at H1 H2 ⊢
  go_enter Tryd.func25, Tryd.ntmps25
  go_wp2_with fail
  have hb0 := (Below.refl w.heap.size w).alloc (Nat.le_refl _) (.cells #[.int .i64 0, .int .i64 0] 31)
  refine (H1.out _ (HT.out.below hb0)).mono ?_
  rintro e w1 ⟨rfl, hb1⟩
  have B1 := Lib.hid (hb0.trans (hb1.mono hb0.size))
  have T1 := Lib.hid (HT.out.below B1.out)
  have C0 := Lib.hid (heap_alloc_new w (.cells #[.int .i64 0, .int .i64 0] 31))
  clear hb0
  go_wp2_with fail
  refine (H2.out _ T1.out).mono ?_
  rintro e w2 ⟨rfl, hb2⟩
  have B2 := Lib.hid (thenBelow B1.out hb2)
  have C2 : w2.heap[w.heap.size]? = some (.cells #[.int .i64 0, .int .i64 0] 31 (0, 0)) :=
    (hb2.block _ (Nat.lt_of_lt_of_le (by simp) hb1.size)).trans ((hb1.block _ (by simp)).trans C0.out)
  have c0 := (cell_of_row w2 w.heap.size 0 _ _ _ C2).trans (show _ = some (.int .i64 0) from rfl)
  have c1 := (cell_of_row w2 w.heap.size 1 _ _ _ C2).trans (show _ = some (.int .i64 0) from rfl)
  have f0 := frozen_of_row w2 w.heap.size 0 _ _ C2
  have f1 := frozen_of_row w2 w.heap.size 1 _ _ C2
  clear hb1 hb2 H1 H2 C0
  go_wp2
  have C3 := set_cells (set_cells C2 0 (.int .i64 (q : Int))) 1 (.int .i64 (r : Int))
  have B3 := (B2.out.setCell (p := ⟨w.heap.size, 0, none⟩) (Nat.le_refl _) (.int .i64 (q : Int))).setCell (p := ⟨w.heap.size, 1, none⟩) (Nat.le_refl _) (.int .i64 (r : Int))
  clear c0 c1 f0 f1 C2
  generalize (w2.setCell ⟨w.heap.size, 0, none⟩ (.int .i64 (q : Int))).setCell ⟨w.heap.size, 1, none⟩ (.int .i64 (r : Int)) = w3 at C3 B3 ⊢
  exact bodyPost_ret (v := spv (q, r)) (results_cell_row rfl _ w3 w.heap.size _ _ (0, 0) _ rfl C3 Tryd.underlying31 rfl (by kernel_rfl)) rfl ⟨rfl, B3⟩
end Go.Proofs.YtldfomggeleolaaDoor
