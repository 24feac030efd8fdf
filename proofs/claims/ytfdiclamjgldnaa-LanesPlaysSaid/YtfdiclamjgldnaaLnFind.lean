/- Lanes: find. -/
import Derived.Test.YtfdiclamjgldnaaLnWay
import Derived.Test.YtfdiclamjgldnaaBoxPullP
import Derived.Test.YtfdiclamjgldnaaRgMore
namespace Go.Proofs.Ytfdiclamjgldnaa
open Go Go.RowKit Go.Conc
set_option linter.unusedVariables false

theorem updW_self (D : Wy → Wd) (k : Wy) : updW D k (D k) = D := by
  funext x; unfold updW; split
  · next h => rw [h]
  · rfl
/-- a way's box was walked round: nothing is another one -/
theorem Ls.round {w w' : World} {B A M c : Nat} {es : List Went} {D : Wy → Wd} {S L : Int} (h : Ls w B A M c es D S L) {e : Went} (he : e ∈ es) (hb : Bx w' e.2.1 (D e.1).C 40 (D e.1).gs) (hv : Vals encP w' (D e.1).gs (mptrs (D e.1).ms)) (hg : w.grownBy w' (some (D e.1).C)) : Ls w' B A M c es D S L := by
  obtain ⟨s, r, hc⟩ := (h.way e he).box.chan
  have hr : ∀ k, some (D e.1).C = some k → Off w k := fun k q => by obtain rfl := Option.some.inj q; exact off_chan hc
  have := h.box_to he (D e.1) rfl hg ⟨hb, hv, (h.way e he).msgs.kept hg hr (fun m hm q => by
    obtain ⟨_, v, hv, _⟩ := (h.way e he).msgs.ge m hm
    rw [Option.some.inj q, hc] at hv; cases hv), (h.way e he).bC⟩ (fun m hm => .inl hm) (h.ndM e he)
  rwa [updW_self] at this
theorem Ls.under {w w' : World} {B A M c : Nat} {es : List Went} {D : Wy → Wd} {S L : Int} (h : Ls w B A M c es D S L) {e : Went} (he : e ∈ es) (hg : w.grownBy w' (some (D e.1).C)) : Bel B w w' := by
  obtain ⟨s, r, hc⟩ := (h.way e he).box.chan
  exact Bel.of_grown ((h.way e he).box.under hg (h.way e he).bC (Nat.le_trans h.bA (Nat.le_of_lt h.ltA))) hg (fun cur ty m q => by rw [hc] at q; cases q)
def FoundTo (w : World) (B A M c : Nat) (es : List Went) (D : Wy → Wd) (S L : Int) (a m : Nat) (e : Ending) (w' : World) : Prop :=
  e = .returned (.tuple #[.pointer (some ⟨a, 0, none⟩), .pointer (some ⟨m, 0, none⟩), .int .i64 0]) ∧ Ls w' B A M c es D S L ∧ Bel B w w'
set_option maxHeartbeats 1000000 in
theorem find_is (B A M c : Nat) (es : List Went) (D : Wy → Wd) (S L : Int) (w : World) (h : Ls w B A M c es D S L) (f t : Int) (a b : Nat) (hd : ((f, t), a, b) ∈ es) (k : Nat) (hk : k < (D (f, t)).xs.length) :
    Calls Try.prog 31 #[.pointer (some ⟨A, 0, none⟩), .int .i64 f, .int .i64 t, .int .i64 (k : Int)] w (FoundTo w B A M c es D S L a ((D (f, t)).ms.getD k 0)) := by
  have W := Lib.hid (way_is B A M c es D S L w h f t a b hd)
  have hy := h.way _ hd
  have hlg : (D (f, t)).gs.length = (D (f, t)).xs.length := hy.len
  have hle : (D (f, t)).gs.length ≤ 40 := hy.box.le
  have hln := lenP a (D (f, t)).C 40 (D (f, t)).gs w hy.box
  rw [hy.len] at hln
  have LN := Lib.hid hln
  have LI := Lib.hid (fun V (hb : Below w.heap.size w V) => listP a (D (f, t)).C 40 (D (f, t)).gs (mptrs (D (f, t)).ms) V (hy.box.below hb) (hy.vals.below hb) (by omega))
  have R : Hid (∀ V V', Below w.heap.size w V → Bx V' a (D (f, t)).C 40 (D (f, t)).gs → Vals encP V' (D (f, t)).gs (mptrs (D (f, t)).ms) → V.grownBy V' (some (D (f, t)).C) → FoundTo w B A M c es D S L a ((D (f, t)).ms.getD k 0) (.returned (.tuple #[.pointer (some ⟨a, 0, none⟩), .pointer (some ⟨(D (f, t)).ms.getD k 0, 0, none⟩), .int .i64 0])) V') := by
    intro V V' hb h1 h2 h3
    have hV := h.below hb
    exact ⟨rfl, hV.round (e := ((f, t), a, b)) hd h1 h2 h3, (Bel.of_below hb (Nat.le_trans h.bA (Nat.le_of_lt h.ltA))).trans (hV.under (e := ((f, t), a, b)) hd h3)⟩
  have hlm : (D (f, t)).ms.length = (D (f, t)).xs.length := hy.lenM
  have G : Hid (∀ (V : World) v, V.ownsRow w.drew.heap.size 54 1 v (mptrs (D (f, t)).ms).length ((mptrs (D (f, t)).ms).map encP) → ∃ g cap, v = .slice (some ⟨g, 0, none⟩) (D (f, t)).xs.length cap ∧ V.cell? ⟨g, k, none⟩ = some (.pointer (some ⟨(D (f, t)).ms.getD k 0, 0, none⟩))) := by
    intro V v ho
    have hml : (mptrs (D (f, t)).ms).length = (D (f, t)).xs.length := by rw [mptrs_len]; exact hlm
    obtain ⟨g, cap, rfl, _, _⟩ := ownV_some ho (by omega)
    refine ⟨g, cap, by rw [hml], ?_⟩
    rw [ho.cellAt k (by omega)]
    have hkm : k < (D (f, t)).ms.length := by omega
    simp [mptrs, encP, List.getD, List.getElem?_eq_getElem hkm]
  have hki : (k : Int) < ((D (f, t)).xs.length : Int) := by omega
  have hx : (D (f, t)).xs.length ≤ 40 := by omega
  clear h hy hln hlm hlg hle hd
  generalize (D (f, t)).ms.getD k 0 = m at R G
  generalize (D (f, t)).xs.length = n at LN G hk hki hx
  go_enter Try.func31, Try.ntmps31
  go_wp2_with fail
  refine W.out.mono ?_
  rintro e w' ⟨rfl, rfl⟩
  go_wp2_with fail
  refine LN.out.mono ?_
  rintro e w' ⟨rfl, rfl⟩
  go_wp2
  refine rg_calm (m := 9) (S := fun _ => True) (by kernel_rfl) rfl ?_
  refine rgd_pure 0 (some 26) rfl rfl (.pointer (some ⟨a, 0, none⟩)) (by kernel_rfl) (by kernel_rfl) (by kernel_rfl) (fun _ _ _ _ h => h) (by kernel_rfl) (fun _ => by kernel_rfl) trivial ?_
  refine rgd_pure 1 (some 27) rfl rfl (.pointer (some ⟨a, 0, none⟩)) (by kernel_rfl) (by kernel_rfl) (by kernel_rfl) (fun _ _ _ _ h => h) (by kernel_rfl) (fun _ => by kernel_rfl) trivial ?_
  refine rgd_pure 3 (some 29) rfl rfl (.int .i64 (k : Int)) (by kernel_rfl) (by kernel_rfl) (by kernel_rfl) (fun _ _ _ _ h => h) (by kernel_rfl) (fun _ => by kernel_rfl) trivial ?_
  refine rgd_call 2 (some 28) (by kernel_rfl) rfl rfl (by kernel_rfl) 39 #[.pointer (some ⟨a, 0, none⟩)] (by kernel_rfl) (LI.out _ (Below.refl _ _).drew) ?_
  rintro e w1 ⟨v, rfl, ho, hb, hv, hg⟩
  obtain ⟨g, cap, rfl, hc⟩ := G.out _ _ ho
  have E := Lib.hid (R.out _ _ (Below.refl _ _).drew hb hv hg)
  clear ho hb hv hg
  refine ⟨_, rfl, trivial, ?_⟩
  refine rgd_pure 6 (some 8) rfl rfl (.pointer (some ⟨a, 0, none⟩)) (by kernel_rfl) (by kernel_rfl) (by kernel_rfl) (fun _ _ _ _ h => h) (by kernel_rfl) (fun _ => by kernel_rfl) trivial ?_
  refine rgd_index 4 (some 30) rfl rfl (by kernel_rfl) (by kernel_rfl) (by kernel_rfl) (fun _ _ _ _ h => h) (by kernel_rfl) 80 _ _ rfl (by kernel_rfl) (fun w => by kernel_rfl) g 0 n cap k (by kernel_rfl) (by kernel_rfl) hk trivial ?_
  rw [Nat.zero_add]
  refine rgd_run 5 (some 31) (by kernel_rfl) rfl rfl (by kernel_rfl) (.pointer (some ⟨m, 0, none⟩)) w1 (exec_load1 _ _ rfl Try.underlying54 rfl _ _ (by kernel_rfl) hc) trivial ?_
  refine rgd_pure 7 (some 9) rfl rfl (.pointer (some ⟨m, 0, none⟩)) (by kernel_rfl) (by kernel_rfl) (by kernel_rfl) (fun _ _ _ _ h => h) (by kernel_rfl) (fun _ => by kernel_rfl) trivial ?_
  refine rgd_pure 8 (some 10) rfl rfl (.int .i64 0) (by kernel_rfl) (by kernel_rfl) (by kernel_rfl) (fun _ _ _ _ h => h) (by kernel_rfl) (fun _ => by kernel_rfl) trivial ?_
  rename_i Q1 hK1
  refine wpAnyH_done (by kernel_rfl) (hK1 _ _ ?_) _
  simp only [Act.put, List.setIfInBounds_toArray, List.set_cons_zero, List.set_cons_succ]
  go_wp2
  go_ret3
  exact E.out

/-- find where way answers nil -/
theorem find_no (q : Option Addr) (f t k : Int) (w : World) (hw : Calls Try.prog 27 #[.pointer q, .int .i64 f, .int .i64 t] w fun e w' => e = .returned (.pointer none) ∧ w = w') :
    Calls Try.prog 31 #[.pointer q, .int .i64 f, .int .i64 t, .int .i64 k] w fun e w' => e = .returned (.tuple #[.pointer none, .pointer none, .int .i64 15]) ∧ w = w' := by
  have W := Lib.hid hw
  clear hw
  go_enter Try.func31, Try.ntmps31
  go_wp2_with fail
  refine W.out.mono ?_
  rintro e w' ⟨rfl, rfl⟩
  go_wp2
  go_ret3
  exact ⟨rfl, rfl⟩
theorem find_out (B A M c : Nat) (es : List Went) (D : Wy → Wd) (S L : Int) (w : World) (h : Ls w B A M c es D S L) (f t : Int) (a b : Nat) (hd : ((f, t), a, b) ∈ es) (k : Int) (hk : k < 0 ∨ (D (f, t)).xs.length ≤ k) :
    Calls Try.prog 31 #[.pointer (some ⟨A, 0, none⟩), .int .i64 f, .int .i64 t, .int .i64 k] w fun e w' => e = .returned (.tuple #[.pointer none, .pointer none, .int .i64 10]) ∧ w = w' := by
  have W := Lib.hid (way_is B A M c es D S L w h f t a b hd)
  have hy := h.way _ hd
  have hln := lenP a (D (f, t)).C 40 (D (f, t)).gs w hy.box
  rw [hy.len] at hln
  have LN := Lib.hid hln
  have hk' : k < 0 ∨ ¬ k < 0 ∧ ((D (f, t)).xs.length : Int) ≤ k := by omega
  clear h hy hln hd hk
  generalize (D (f, t)).xs.length = n at LN hk'
  rcases hk' with hk | ⟨hk, hk2⟩
  · go_enter Try.func31, Try.ntmps31
    go_wp2_with fail
    refine W.out.mono ?_
    rintro e w' ⟨rfl, rfl⟩
    go_wp2
    go_ret3
    exact ⟨rfl, rfl⟩
  · go_enter Try.func31, Try.ntmps31
    go_wp2_with fail
    refine W.out.mono ?_
    rintro e w' ⟨rfl, rfl⟩
    go_wp2_with fail
    refine LN.out.mono ?_
    rintro e w' ⟨rfl, rfl⟩
    go_wp2
    go_ret3
    exact ⟨rfl, rfl⟩
end Go.Proofs.Ytfdiclamjgldnaa
