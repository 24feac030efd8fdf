/- The statement StandingPatches, proved for every input that its row reads: part 52 of 54. -/
import Derived.Test.YtnjopndkommjnaaDoorPackStandingPatches35
import Derived.Test.YtnjopndkommjnaaDoorStdFew
import Derived.Test.YtnjopndkommjnaaDoorPackStandingPatches43
import Derived.Test.YtnjopndkommjnaaDoorPackStandingPatches46
import Derived.Test.YtnjopndkommjnaaDoorPackStandingPatches47
import Derived.Test.YtnjopndkommjnaaDoorPackStandingPatches51
/- The walk of StandingPatches. -/
namespace Go.Proofs.YtnjopndkommjnaaDoor
open Go Go.RowKit
set_option linter.unusedVariables false
set_option maxRecDepth 1000000

theorem patchN_len2 : ∀ (D : List Chg) (l r : List Ht), patchN l D = some r → r.length ≤ l.length + D.length
  | [], l, r, h => by
    unfold patchN at h
    injection h with h
    rw [h]; exact Nat.le_refl _
  | c :: D, l, r, h => by
    rw [patchN] at h
    split at h
    · have h1 := patchN_len2 D _ r h
      have h2 := stepN_len l c
      rw [List.length_cons]; omega
    · cases h
theorem patchH_len2 {l : List Ht} {D : List Chg} {r : List Ht} (h : patchH l D = some r) : r.length ≤ l.length + D.length := by
  unfold patchH at h
  cases e : patchN l D with
  | none => rw [e] at h; cases h
  | some m =>
    rw [e] at h
    injection h with h
    rw [← h, (sortH_perm m).length_eq]
    exact patchN_len2 D l m e
theorem textL_len (m : Nat) : ∀ (l : List Chg), (∀ x ∈ l, OkChg x) → (∀ x ∈ l, x.hit.id.size ≤ m) → (textL l).length ≤ l.length * (m + 23)
  | [], _, _ => by simp [textL]
  | x :: l, ho, hm => by
    have ih := textL_len m l (fun y hy => ho y (by simp [hy])) (fun y hy => hm y (by simp [hy]))
    have h1 : (lineL x).length ≤ m + 23 := by
      unfold lineL
      split
      · simp
      · rw [Array.length_toList]
        show (lineB x).size ≤ _
        have hk : (markB x.kind).size ≤ 1 := by
          unfold markB
          split
          · exact Nat.le_refl _
          · split
            · exact Nat.le_refl _
            · split
              · exact Nat.le_refl _
              · exact Nat.zero_le _
        have h2 := hm x (by simp)
        have h3 := itoB_size x.hit.score (ho x (by simp)).2.1 (ho x (by simp)).2.2
        rw [lineB_size, numB_is]
        omega
    unfold textL at ih ⊢
    rw [List.flatMap_cons, List.length_append, List.length_cons, Nat.add_mul]
    omega
theorem few_one (G : Nat) (p : Option Addr) (n c : Nat) (w : World) (h0 : w.cell? ⟨G, 0, none⟩ = some (.slice p n c)) :
    Calls Tryd.prog 7 #[.slice (some ⟨G, 0, none⟩) 1 1] w fun e w' => e = .returned (.bool (decide (n ≤ 40))) ∧ w = w' := by
  have := few_is G [(p, n, c)] w (fun i hi => by
    match i, hi with
    | 0, _ => exact h0) (by simp)
  simpa [fewB] using this
set_option maxHeartbeats 8000000 in
theorem standingPatches_walk (p : Option Addr) (c : Nat) (old : List Ht) (q : Option Addr) (d : Nat) (l : List Chg) (w : World) (h1 : HtsAt w p old) (n1 : old.length ≤ c) (h2 : ChgsAt w q l) (n2 : l.length ≤ d) (ho : ∀ x ∈ l, OkChg x) (hb : ∀ x ∈ l, x.hit.id.size ≤ 1048576) (hP : Pow w) :
    Calls Tryd.prog 4 #[.slice p old.length c, .slice q l.length d] w (RetBool w true) := by
  have H1 := Lib.hid h1; have H2 := Lib.hid h2; have HP := Lib.hid hP
  have OK := Lib.hid (fun x (hx : x ∈ l) => (ho x hx).2)
  have TL := Lib.hid (textL_len 1048576 l ho hb)
  clear h1 h2 hP n1 n2 ho hb
  go_enter Tryd.func4, Tryd.ntmps4
  have b1 := below_alloc w (.cells #[.slice p old.length c] 22)
  have k1 := heap_alloc_new w (.cells #[.slice p old.length c] 22)
  have FW := Lib.hid (few_one w.heap.size p old.length c _ (cell_of_row _ w.heap.size 0 _ _ _ k1))
  have B1 := Lib.hid b1
  clear b1 k1
  have AW : Hid (∀ V : World, Below w.heap.size w V → Calls Tryd.prog 8 #[] V (RetBool V true)) := Lib.hid fun V hV => awake34_is V (HP.out.later hV)
  go_wp2_with fail
  refine FW.out.mono ?_
  rintro e w1 ⟨rfl, rfl⟩
  clear FW
  dsimp only
  generalize w.alloc (.cells #[.slice p old.length c] 22) = w1 at B1 ⊢
  by_cases hf : old.length ≤ 40
  · rw [decide_eq_true hf]
    by_cases h4 : l.length ≤ 40
    · have h4' : ¬ ((40 : Int) < (l.length : Int)) := by omega
      have PA := Lib.hid (patch_is p q c d old l w1 (H1.out.below B1.out) (by omega) (H2.out.below B1.out) (by omega))
      have RA := Lib.hid (fun (V : World) (hV : Below w.heap.size w V) => refPatch_is p q c d old l V (H1.out.below hV) (by omega) (H2.out.below hV) (by omega))
      have ht : (textL l).length ≤ 140737488355328 := by have := TL.out; omega
      have TX := Lib.hid (fun (V : World) (hV : Below w.heap.size w V) => text_is q d l V (H2.out.below hV) (by omega) OK.out ht (HP.out.later hV))
      have RX := Lib.hid (fun (V : World) (hV : Below w.heap.size w V) => refText34_is q d l V (H2.out.below hV) (by omega) OK.out ht)
      have PL := Lib.hid (fun r => @patchH_len2 old l r)
      clear ht TL
      generalize patchH old l = R at PA RA PL
      generalize (⟨(textL l).toArray⟩ : ByteArray) = T at TX RX
      have hT : (T.toList == T.toList) = true := by simp
      cases R with
      | none =>
        go_wp2_with fail
        refine PA.out.mono ?_
        rintro e w2 ⟨rfl, b2⟩
        have B2 := Lib.hid (thenBelow B1.out b2)
        clear PA b2
        dsimp only
        go_wp2_with fail
        refine (RA.out _ B2.out).mono ?_
        rintro e w3 ⟨rfl, b3⟩
        have B3 := Lib.hid (thenBelow B2.out b3)
        have EQ : Hid (Calls Tryd.prog 16 #[.slice none 0 0, .slice none 0 0] w3 (RetBool w3 true)) := Lib.hid (equalH_is none none 0 0 [] w3 ⟨fun q => absurd rfl q, fun _ => rfl⟩ ⟨fun q => absurd rfl q, fun _ => rfl⟩ (by simp))
        clear RA b3
        dsimp only
        go_wp2_with fail
        refine EQ.out.mono ?_
        rintro e w4 ⟨rfl, b4⟩
        have B4 := Lib.hid (thenBelow B3.out b4)
        clear EQ b4
        dsimp only
        go_wp2_with fail
        refine (TX.out _ B4.out).mono ?_
        rintro e w5 ⟨rfl, b5⟩
        have B5 := Lib.hid (thenBelow B4.out b5)
        clear b5
        dsimp only
        go_wp2_with fail
        refine (RX.out _ B5.out).mono ?_
        rintro e w6 ⟨rfl, b6⟩
        have B6 := Lib.hid (thenBelow B5.out b6)
        clear b6
        dsimp only
        go_wp2_with fail
        refine (AW.out _ B6.out).mono ?_
        rintro e w7 ⟨rfl, b7⟩
        have B7 := Lib.hid (thenBelow B6.out b7)
        clear AW b7
        dsimp only
        go_wp2
        go_ret
        exact ⟨rfl, B7.out⟩
      | some S =>
        have hS := PL.out S rfl
        go_wp2_with fail
        refine PA.out.mono ?_
        rintro e w2 ⟨v2, rfl, o2, b2⟩
        have B2 := Lib.hid (thenBelow B1.out b2)
        obtain ⟨p2, c2, rfl, _, M2, _⟩ := own_atH o2
        have M2 := Lib.hid M2
        clear PA b2 o2
        dsimp only
        go_wp2_with fail
        refine (RA.out _ B2.out).mono ?_
        rintro e w3 ⟨v3, rfl, o3, b3⟩
        have B3 := Lib.hid (thenBelow B2.out b3)
        obtain ⟨p3, c3, rfl, _, M3, _⟩ := own_atH o3
        have EQ := Lib.hid (equalH_is p2 p3 c2 c3 S w3 (M2.out.below b3) M3 (by omega))
        clear RA b3 o3 M3 M2
        dsimp only
        go_wp2_with fail
        refine EQ.out.mono ?_
        rintro e w4 ⟨rfl, b4⟩
        have B4 := Lib.hid (thenBelow B3.out b4)
        clear EQ b4
        dsimp only
        go_wp2_with fail
        refine (TX.out _ B4.out).mono ?_
        rintro e w5 ⟨rfl, b5⟩
        have B5 := Lib.hid (thenBelow B4.out b5)
        clear b5
        dsimp only
        go_wp2_with fail
        refine (RX.out _ B5.out).mono ?_
        rintro e w6 ⟨rfl, b6⟩
        have B6 := Lib.hid (thenBelow B5.out b6)
        clear b6
        dsimp only
        go_wp2_with fail
        refine (AW.out _ B6.out).mono ?_
        rintro e w7 ⟨rfl, b7⟩
        have B7 := Lib.hid (thenBelow B6.out b7)
        clear AW b7
        dsimp only
        go_wp2
        go_ret
        exact ⟨rfl, B7.out⟩
    · have h4' : (40 : Int) < (l.length : Int) := by omega
      go_wp2_with fail
      refine (AW.out _ B1.out).mono ?_
      rintro e w7 ⟨rfl, b7⟩
      have B7 := Lib.hid (thenBelow B1.out b7)
      clear AW b7
      dsimp only
      go_wp2
      go_ret
      exact ⟨rfl, B7.out⟩
  · rw [decide_eq_false hf]
    go_wp2_with fail
    refine (AW.out _ B1.out).mono ?_
    rintro e w7 ⟨rfl, b7⟩
    have B7 := Lib.hid (thenBelow B1.out b7)
    clear AW b7
    dsimp only
    go_wp2
    go_ret
    exact ⟨rfl, B7.out⟩
end Go.Proofs.YtnjopndkommjnaaDoor
