/- standing.Then: two lots of changes as one. -/
import Derived.Test.YtnjopndkommjnaaDoorStdPatch
import Derived.Test.YtnjopndkommjnaaDoorStdDiff
namespace Go.Proofs.YtnjopndkommjnaaDoor
open Go Go.RowKit
set_option linter.unusedVariables false
set_option maxRecDepth 1000000

def thenH (old : List Ht) (A D : List Chg) : Option (List Chg) := match patchH old A with
  | none => none
  | some m => match patchH m D with
    | none => none
    | some z => some (diffL old z)
def RetThen (w : World) (R : Option (List Chg)) (e : Ending) (w' : World) : Prop := match R with
  | none => e = .returned (.tuple #[.slice none 0 0, .int .i64 1]) ∧ Below w.heap.size w w'
  | some S => ∃ v, e = .returned (.tuple #[v, .int .i64 0]) ∧ w'.ownsRow w.heap.size 30 3 v S.length (ccl S) ∧ Below w.heap.size w w'
theorem patchN_len : ∀ (D : List Chg) (l r : List Ht), patchN l D = some r → r.length ≤ l.length + D.length
  | [], l, r, h => by
    unfold patchN at h
    injection h with h
    rw [h]; exact Nat.le_refl _
  | c :: D, l, r, h => by
    rw [patchN] at h
    split at h
    · have h1 := patchN_len D _ r h
      have h2 := stepN_len l c
      rw [List.length_cons]; omega
    · cases h
theorem patchH_len {l : List Ht} {D : List Chg} {r : List Ht} (h : patchH l D = some r) : r.length ≤ l.length + D.length := by
  unfold patchH at h
  cases e : patchN l D with
  | none => rw [e] at h; cases h
  | some m =>
    rw [e] at h
    injection h with h
    rw [← h, (sortH_perm m).length_eq]
    exact patchN_len D l m e
set_option maxHeartbeats 4000000 in
theorem then_is (p q1 q2 : Option Addr) (c d1 d2 : Nat) (old : List Ht) (A D : List Chg) (w : World) (h : HtsAt w p old) (hn : old.length ≤ 40) (h1 : ChgsAt w q1 A) (hn1 : A.length ≤ 100) (h2 : ChgsAt w q2 D) (hn2 : D.length ≤ 100) :
    Calls Tryd.prog 19 #[.slice p old.length c, .slice q1 A.length d1, .slice q2 D.length d2] w (RetThen w (thenH old A D)) := by
  have HO := Lib.hid h; have HB := Lib.hid h2
  have P1 := Lib.hid (patch_is p q1 c d1 old A w h (by omega) h1 (by omega))
  have PL := Lib.hid (fun r => @patchH_len old A r)
  clear h h1 h2
  unfold thenH
  generalize patchH old A = R1 at P1 PL ⊢
  cases R1 with
  | none =>
    dsimp only
    go_enter Tryd.func19, Tryd.ntmps19
    go_wp2_with fail
    refine P1.out.mono ?_
    rintro e w1 ⟨rfl, b1⟩
    have B1 := Lib.hid b1
    clear P1 b1
    dsimp only
    go_wp2
    go_ret2
    exact ⟨rfl, B1.out⟩
  | some m =>
    have hm := PL.out m rfl
    dsimp only
    have P2 := Lib.hid (fun (V : World) (pv : Option Addr) (cv : Nat) (hV : HtsAt V pv m) (hV2 : ChgsAt V q2 D) => patch_is pv q2 cv d2 m D V hV (by omega) hV2 (by omega))
    have PL2 := Lib.hid (fun r => @patchH_len m D r)
    generalize patchH m D = R2 at P2 PL2 ⊢
    go_enter Tryd.func19, Tryd.ntmps19
    go_wp2_with fail
    refine P1.out.mono ?_
    rintro e w1 ⟨v1, rfl, o1, b1⟩
    have B1 := Lib.hid b1
    obtain ⟨p1, c1, rfl, _, M1, _⟩ := own_atH o1
    have P2 := Lib.hid (P2.out w1 p1 c1 M1 (HB.out.below b1))
    clear P1 b1 o1 M1
    dsimp only
    cases R2 with
    | none =>
      go_wp2_with fail
      refine P2.out.mono ?_
      rintro e w2 ⟨rfl, b2⟩
      have B2 := Lib.hid (thenBelow B1.out b2)
      clear P2 b2
      dsimp only
      go_wp2
      go_ret2
      exact ⟨rfl, B2.out⟩
    | some z =>
      have hz := PL2.out z rfl
      go_wp2_with fail
      refine P2.out.mono ?_
      rintro e w2 ⟨v2, rfl, o2, b2⟩
      have B2 := Lib.hid (thenBelow B1.out b2)
      obtain ⟨p2, c2, rfl, _, M2, _⟩ := own_atH o2
      have DI := Lib.hid (diff_is p p2 c c2 old z w2 (HO.out.below B2.out) (by omega) M2 (by omega))
      clear P2 b2 o2 M2
      dsimp only
      go_wp2_with fail
      refine DI.out.mono ?_
      rintro e w3 ⟨v3, rfl, o3, b3⟩
      have B3 := Lib.hid (thenBelow B2.out b3)
      have O3 := Lib.hid (own_base o3 B2.out.size)
      clear DI o3 b3
      dsimp only
      go_wp2
      go_ret2
      exact ⟨v3, rfl, O3.out, B3.out⟩
end Go.Proofs.YtnjopndkommjnaaDoor
