/- The program's device: Write that is refused; any state in which page 3 lasts. (genpgown.py writes it) -/
import Derived.Test.YtfgjcgonlpbdbaaPgWr2
import Derived.Test.YtfgjcgonlpbdbaaPgCrash
namespace Go.Proofs.Ytfgjcgonlpbdbaa
open Go Go.RowKit
set_option linter.unusedVariables false

set_option maxHeartbeats 4000000 in
set_option maxRecDepth 100000 in
theorem write_arg (D P M n : Nat) (pg : Nat → List UInt8) (dead : Bool) (fuse : Int) (i : Int) (bp : Option Addr) (bc : Nat) (bs : List UInt8) (w : World) (h : Dk w D P M n pg dead fuse) (bad : i < 0 ∨ (n : Int) ≤ i ∨ 128 < bs.length) :
    Calls Try.prog 14 #[.pointer (some ⟨D, 0, none⟩), .int .i64 i, .slice bp bs.length bc] w fun e w' => e = .returned (.int .i64 1) ∧ w = w' := by
  have MD := Lib.hid (made_is _ n w h.sized h.pos.1)
  by_cases hi : 0 ≤ i ∧ i < n
  · have WI := Lib.hid (within_is _ n i w h.sized true (by simp; omega))
    have hlen : (bs.length : Int) > 128 := by omega
    clear h bad
    go_enter Try.func14, Try.ntmps14
    go_wp2_with fail
    refine MD.out.mono ?_
    rintro e w' ⟨rfl, rfl⟩
    go_wp2_with fail
    refine WI.out.mono ?_
    rintro e w' ⟨rfl, rfl⟩
    go_wp2
    exact bodyPost_ret (v := .int .i64 1) (by kernel_rfl) (by kernel_rfl) ⟨rfl, rfl⟩
  · have WI := Lib.hid (within_is _ n i w h.sized false (by simp; omega))
    clear h bad
    go_enter Try.func14, Try.ntmps14
    go_wp2_with fail
    refine MD.out.mono ?_
    rintro e w' ⟨rfl, rfl⟩
    go_wp2_with fail
    refine WI.out.mono ?_
    rintro e w' ⟨rfl, rfl⟩
    go_wp2
    exact bodyPost_ret (v := .int .i64 1) (by kernel_rfl) (by kernel_rfl) ⟨rfl, rfl⟩
set_option maxHeartbeats 4000000 in
set_option maxRecDepth 100000 in
theorem write_dead (T D P M n : Nat) (pg : Nat → List UInt8) (dead : Bool) (fuse : Int) (i : Nat) (bp : Option Addr) (bc : Nat) (bs : List UInt8) (w : World) (h : Dk w D P M n pg dead fuse) (had : actD dead fuse = true) (hi : i < n) (hlen : bs.length ≤ 128) (hT : T ≤ D) (hTw : T ≤ w.heap.size) :
    Calls Try.prog 14 #[.pointer (some ⟨D, 0, none⟩), .int .i64 (i : Int), .slice bp bs.length bc] w fun e w' => e = .returned (.int .i64 9) ∧ Dk w' D P M n pg true (actF dead fuse) ∧ w.grownBy w' (some D) := by
  have MD := Lib.hid (made_is _ n w h.sized h.pos.1)
  have WI := Lib.hid (within_is _ n i w h.sized true (by simp; omega))
  have AC := act_all D P M n pg dead fuse w h
  unfold Acted at AC
  rw [had] at AC
  simp only [if_true] at AC
  generalize actF dead fuse = f1 at AC ⊢
  have ACT := Lib.hid AC
  have hl3 : ¬ (bs.length : Int) > 128 := by omega
  clear h AC had
  go_enter Try.func14, Try.ntmps14
  go_wp2_with fail
  refine MD.out.mono ?_
  rintro e w' ⟨rfl, rfl⟩
  go_wp2_with fail
  refine WI.out.mono ?_
  rintro e w' ⟨rfl, rfl⟩
  go_wp2_with fail
  refine ACT.out.mono ?_
  rintro e w2 ⟨rfl, hd2, hg2⟩
  have D2 := Lib.hid hd2; have G2 := Lib.hid hg2
  clear hd2 hg2 ACT MD WI
  go_wp2
  exact bodyPost_ret (v := .int .i64 9) (by kernel_rfl) (by kernel_rfl) ⟨rfl, D2.out, G2.out⟩
/-- a device of which page 3 has these bytes, and is not loose -/
def PX (w : World) (D P M n : Nat) (b3 : List UInt8) : Prop :=
  ∃ (pg old : Nat → List UInt8) (lo : List (Nat × Nat)) (c : Nat) (dead : Bool) (fuse : Int), Dk w D P M n pg dead fuse ∧ Was w M n old lo c ∧ pg 3 = b3 ∧ ∀ e ∈ lo, e.1 ≠ 3
def PWent (W : World) (D P M n : Nat) (b3 : List UInt8) (e : Ending) (w' : World) : Prop := (∃ v : Int, e = .returned (.int .i64 v)) ∧ PX w' D P M n b3 ∧ Below W.heap.size W w'
theorem PX.below {w w' : World} {D P M n : Nat} {b3 : List UInt8} (h : PX w D P M n b3) (hb : Below w.heap.size w w') : PX w' D P M n b3 := by
  obtain ⟨pg, old, lo, c, dead, fuse, h1, h2, h3⟩ := h
  exact ⟨pg, old, lo, c, dead, fuse, h1.below hb, h2.below hb, h3⟩
section
variable (D P M n : Nat) (b3 : List UInt8) (W w : World) (h : PX w D P M n b3) (hb : Below W.heap.size W w) (hT : W.heap.size ≤ D ∧ W.heap.size ≤ P ∧ W.heap.size ≤ M)
include h hb hT
theorem write_any (i : Int) (h3 : i ≠ 3) (bp : Option Addr) (bc : Nat) (bs : List UInt8) (hl : Lies W bp bs) (hp : ∀ x o, bp = some ⟨x, o, none⟩ → x < W.heap.size) :
    Calls Try.prog 14 #[.pointer (some ⟨D, 0, none⟩), .int .i64 i, .slice bp bs.length bc] w (PWent W D P M n b3) := by
  obtain ⟨pg, old, lo, c, dead, fuse, h1, h2, hp3, hlo⟩ := h
  by_cases bad : i < 0 ∨ (n : Int) ≤ i ∨ 128 < bs.length
  · refine (write_arg D P M n pg dead fuse i bp bc bs w h1 bad).mono ?_
    rintro e w' ⟨rfl, rfl⟩
    exact ⟨⟨_, rfl⟩, ⟨pg, old, lo, c, dead, fuse, h1, h2, hp3, hlo⟩, hb⟩
  · obtain ⟨k, rfl⟩ : ∃ k : Nat, i = k := ⟨i.toNat, by omega⟩
    have hk3 : k ≠ 3 := by omega
    cases hd : actD dead fuse with
    | true =>
      refine (write_dead W.heap.size D P M n pg dead fuse k bp bc bs w h1 hd (by omega) (by omega) hT.1 hb.size).mono ?_
      rintro e w' ⟨rfl, h4, h5⟩
      have hMD : some M ≠ some D := fun e => h1.ne.2.1 (Option.some.inj e).symm
      exact ⟨⟨_, rfl⟩, ⟨pg, old, lo, c, _, _, h4, h2.at (h5.block M h2.mlt hMD), hp3, hlo⟩, hb.grown h5 hb.size (fun k hk => by cases hk; exact hT.1)⟩
    | false =>
      have hl2 : Lies w bp bs := by
        intro h0
        obtain ⟨x, o, e, hc⟩ := hl h0
        exact ⟨x, o, e, fun j hj => by rw [World.cell?_of_block (hb.block x (hp x o e))]; exact hc j hj⟩
      refine (write_go0 W.heap.size D P M n pg old lo c dead fuse k bp bc bs w h1 h2 hd (by omega) hl2 (fun x o e q => ?_) (by omega) hT hb.size).mono ?_
      · have := hp x o e; have := Option.some.inj q; omega
      · rintro e w' ⟨rfl, h4, h5, h6⟩
        refine ⟨⟨_, rfl⟩, ⟨_, _, _, _, _, _, h4, h5, ?_, ?_⟩, hb.trans h6⟩
        · unfold upd
          rw [if_neg (by omega)]
          exact hp3
        · unfold loW
          intro e he
          split at he
          · exact hlo e he
          · rcases List.mem_append.1 he with he | he
            · exact hlo e he
            · rw [List.mem_singleton.1 he]; exact hk3
theorem sync_any : Calls Try.prog 17 #[.pointer (some ⟨D, 0, none⟩)] w (PWent W D P M n b3) := by
  obtain ⟨pg, old, lo, c, dead, fuse, h1, h2, hp3, hlo⟩ := h
  refine (sync_all W.heap.size D P M n pg old lo c dead fuse w h1 h2 ⟨hT.2.2, hT.1⟩ hb.size).mono ?_
  rintro e w' ⟨rfl, h4, h5, h6⟩
  refine ⟨⟨_, rfl⟩, ⟨_, _, _, _, _, _, h4, h5, hp3, ?_⟩, hb.trans h6⟩
  intro e he
  split at he
  · exact hlo e he
  · simp at he
theorem fuse_any (k : Int) (hk : -9223372036854775808 ≤ k ∧ k ≤ 9223372036854775807) : Calls Try.prog 19 #[.pointer (some ⟨D, 0, none⟩), .int .i64 k] w (PWent W D P M n b3) := by
  obtain ⟨pg, old, lo, c, dead, fuse, h1, h2, hp3, hlo⟩ := h
  have hMD : some M ≠ some D := fun e => h1.ne.2.1 (Option.some.inj e).symm
  refine (fuse_is D P M n pg dead fuse k hk w h1).mono ?_
  rintro e w' ⟨rfl, h4, h5⟩
  exact ⟨⟨_, rfl⟩, ⟨pg, old, lo, c, _, _, h4, h2.at (h5.block M h2.mlt hMD), hp3, hlo⟩, hb.grown h5 hb.size (fun k hk => by cases hk; exact hT.1)⟩
def PCrashed (W : World) (D P M n : Nat) (b3 : List UInt8) (e : Ending) (w' : World) : Prop := e = .returned (.int .i64 0) ∧ (∃ pg c, Dk w' D P M n pg false (-1) ∧ w'.heap[M]? = some (.map (ents []).toArray c) ∧ pg 3 = b3) ∧ PX w' D P M n b3 ∧ Below W.heap.size W w'
theorem crash_any (q : Option Addr) (kc : Nat) (ks : List Int) (torn cut : Int) (hk : LiesI W q ks) (hkl : ks.length ≤ 140737488355328) :
    Calls Try.prog 15 #[.pointer (some ⟨D, 0, none⟩), .slice q ks.length kc, .int .i64 torn, .int .i64 cut] w (PCrashed W D P M n b3) := by
  obtain ⟨pg, old, lo, c, dead, fuse, h1, h2, hp3, hlo⟩ := h
  refine (crash_is D P M n c pg old lo dead fuse q kc ks torn cut W w h1 h2 hb hk hkl hT.1 hT.2.1 hT.2.2).mono ?_
  rintro e w' ⟨rfl, h4, h5, h6⟩
  have e3 : pgC pg old torn cut (delK torn ks lo) 3 = b3 := by
    unfold pgC
    rw [if_neg]
    · exact hp3
    · rintro ⟨e, he, q⟩
      exact hlo e ((mem_delK torn ks lo e).1 he).1 q
  exact ⟨rfl, ⟨_, _, h4, h5, e3⟩, ⟨_, old, [], c, _, _, h4, Was.nil h5, e3, fun e he => by simp at he⟩, h6⟩
end
end Go.Proofs.Ytfgjcgonlpbdbaa
