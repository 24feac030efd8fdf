/- One box of texts poured into another one. -/
import Derived.Test.YtlojmngolgonlaaBoxIsS
namespace Go.Proofs.Ytlojmngolgonlaa
open Go Go.RowKit Go.Conc

def PourTo (B a1 C1 cap1 a2 C2 cap2 : Nat) (gs1 gs2 : List Nat) (n : Nat) (w : World) (e : Ending) (w' : World) : Prop :=
  e = .returned (.int .i64 (n : Int)) ∧ Bx w' a1 C1 cap1 (gs1.drop n) ∧ Bx w' a2 C2 cap2 (gs2 ++ gs1.take n) ∧ Below B w w' ∧ ∀ (b o : Nat) (v : Value), w.cell? ⟨b, o, none⟩ = some v → w'.cell? ⟨b, o, none⟩ = some v

set_option maxHeartbeats 2000000 in
set_option maxRecDepth 100000 in
theorem pourS (B a1 C1 cap1 a2 C2 cap2 : Nat) (gs1 gs2 : List Nat) (w : World) (h1 : Bx w a1 C1 cap1 gs1) (h2 : Bx w a2 C2 cap2 gs2) (hne : C1 ≠ C2) (hB1 : B ≤ C1) (hB2 : B ≤ C2) (hBw : B ≤ w.heap.size) (hc1 : cap1 ≤ 4096) (hc2 : cap2 ≤ 4096) (n : Nat) (hn : n = min gs1.length (cap2 - gs2.length)) :
    Calls Try.prog 19 #[.pointer (some ⟨a1, 0, none⟩), .pointer (some ⟨a2, 0, none⟩)] w (PourTo B a1 C1 cap1 a2 C2 cap2 gs1 gs2 n w) := by
  have L1 := Lib.hid (lineS_is a1 _ w h1.line)
  have L2 := Lib.hid (lineS_is a2 _ w h2.line)
  have LN := Lib.hid (lenS a1 C1 cap1 gs1 w h1)
  have RM := Lib.hid (roomS a2 C2 cap2 gs2 w h2 hc2)
  have hle1 := h1.le; have hle2 := h2.le
  have hq := fun (w : World) => run_eql_chan (P := Try.prog) w Try.underlying68 (some C1) (some C2)
  have hb : ((some C1 : Option Nat) == some C2) = false := by simp [hne]
  simp only [hb] at hq
  have H1 := Lib.hid h1; have H2 := Lib.hid h2
  have hN1 : n ≤ gs1.length := by omega
  have hN2 : n ≤ cap2 - gs2.length := by omega
  have hRM : cap2 - gs2.length + gs2.length = cap2 := by omega
  have key : gs1.length ≤ cap2 - gs2.length ∧ gs1.length ≤ n ∨ ¬ gs1.length ≤ cap2 - gs2.length ∧ cap2 - gs2.length ≤ n := by omega
  have HNE := Lib.hid hne
  clear h1 h2 hb hne hn
  generalize cap2 - gs2.length = room at RM hN2 key hRM
  have HRM := Lib.hid hRM
  clear hRM
  have BWW : Hid (B ≤ w.heap.size) := hBw
  rcases key with ⟨k1, k2⟩ | ⟨k1, k2⟩
  all_goals
    go_enter Try.func19, Try.ntmps19
    go_wp2_with fail
    refine L1.out.mono ?_
    rintro e w' ⟨rfl, rfl⟩
    go_wp2_with fail
    refine L2.out.mono ?_
    rintro e w' ⟨rfl, rfl⟩
    go_wp2_with fail
    refine LN.out.mono ?_
    rintro e w' ⟨rfl, rfl⟩
    go_wp2_with fail
    refine RM.out.mono ?_
    rintro e w' ⟨rfl, rfl⟩
    go_wp2
    go_loopw [17] (fun i wr => ∃ k : Nat, k ≤ n ∧ i = .int .i64 k ∧ Bx wr a1 C1 cap1 (gs1.drop k) ∧ Bx wr a2 C2 cap2 (gs2 ++ gs1.take k) ∧ Below B w wr ∧ ∀ (b o : Nat) (v : Value), w.cell? ⟨b, o, none⟩ = some v → wr.cell? ⟨b, o, none⟩ = some v) (fun i _ => n - (intOf i).toNat)
    case atStart => exact ⟨0, Nat.zero_le _, rfl, by simpa using H1.out, by simpa using H2.out, Below.refl _ _, fun _ _ _ h => h⟩
    case round =>
      obtain ⟨k, hk, rfl, hx1, hx2, hbl, hcs⟩ := hrel
      have X1 := Lib.hid hx1; have X2 := Lib.hid hx2; have BW := Lib.hid hbl; have CS := Lib.hid hcs
      have hz := hbl.size
      clear hx1 hx2 hbl hcs
      by_cases hlt : k < n
      · have hlt1 : (k : Int) < gs1.length := by omega
        have hlt2 : (k : Int) < room := by omega
        have hkl : k < gs1.length := by omega
        have hd : gs1.drop k = gs1.getD k 0 :: gs1.drop (k + 1) := rot_cut gs1 k hkl
        have ht : gs1.take k ++ [gs1.getD k 0] = gs1.take (k + 1) := take_next gs1 0 k hkl
        have T := Lib.hid (takeS_yes a1 C1 cap1 (gs1.drop (k + 1)) (gs1.getD k 0) wr (by have := X1.out; rwa [hd] at this))
        have HT := Lib.hid ht
        have HL : Hid ((gs2 ++ gs1.take k).length < cap2) := by
          show (gs2 ++ gs1.take k).length < cap2
          have := HRM.out
          rw [List.length_append, List.length_take]; omega
        clear hd ht
        generalize gs1.getD k 0 = g at T HT
        go_wp2_with fail
        refine T.out.mono ?_
        rintro e w3 ⟨rfl, hb3, hg3⟩
        have Y1 := Lib.hid hb3
        have Y2 : Hid (Bx w3 a2 C2 cap2 (gs2 ++ gs1.take k)) := X2.out.kept hg3 (fun e => HNE.out (Option.some.inj e).symm) (fun e => X1.out.ne X2.out.line (Option.some.inj e))
        have W3 : Hid (Below B w w3) := BW.out.grown hg3 (by have := BWW.out; omega) (fun j hj => by have := Option.some.inj hj; omega)
        have C3 : Hid (∀ (b o : Nat) (v : Value), w.cell? ⟨b, o, none⟩ = some v → w3.cell? ⟨b, o, none⟩ = some v) := fun b o v h => X1.out.cell hg3 (CS.out b o v h)
        have P := Lib.hid (putS_yes a2 C2 cap2 (gs2 ++ gs1.take k) g w3 Y2.out HL.out)
        have hz3 := W3.out.size
        clear hb3 hg3 T
        go_wp2_with fail
        refine P.out.mono ?_
        rintro e w4 ⟨rfl, hb4, hg4⟩
        have Z2 : Hid (Bx w4 a2 C2 cap2 (gs2 ++ gs1.take (k + 1))) := by rw [← HT.out, ← List.append_assoc]; exact hb4
        have Z1 : Hid (Bx w4 a1 C1 cap1 (gs1.drop (k + 1))) := Y1.out.kept hg4 (fun e => HNE.out (Option.some.inj e)) (fun e => Y2.out.ne Y1.out.line (Option.some.inj e))
        have W4 : Hid (Below B w w4) := W3.out.grown hg4 (by have := BWW.out; omega) (fun j hj => by have := Option.some.inj hj; omega)
        have C4 : Hid (∀ (b o : Nat) (v : Value), w.cell? ⟨b, o, none⟩ = some v → w4.cell? ⟨b, o, none⟩ = some v) := fun b o v h => Y2.out.cell hg4 (C3.out b o v h)
        clear hb4 hg4 P
        go_wp2
        go_roundw
        case rel => exact ⟨k + 1, by omega, by go_num, Z1.out, Z2.out, W4.out, C4.out⟩
        case measure => simp [intOf]; omega
      · obtain rfl : k = n := by omega
        have hv : (gs1.length : Int) = k ∨ (room : Int) = k := by omega
        have E : Hid (∀ v : Int, v = k → PourTo B a1 C1 cap1 a2 C2 cap2 gs1 gs2 k w (.returned (.int .i64 v)) wr) := fun v hv => ⟨by rw [hv], X1.out, X2.out, BW.out, CS.out⟩
        clear hv
        first
        | have hlt1 : ¬ (k : Int) < gs1.length := by omega
        | have hlt1 : ¬ (k : Int) < room := by omega
        go_wp2
        go_ret
        exact E.out _ (by omega)
end Go.Proofs.Ytlojmngolgonlaa
