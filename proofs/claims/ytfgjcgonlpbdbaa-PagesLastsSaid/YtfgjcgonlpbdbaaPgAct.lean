/- Any act of a device's power; Sync, Fuse, Dead of any device. -/
import Derived.Test.YtfgjcgonlpbdbaaPgCrash
namespace Go.Proofs.Ytfgjcgonlpbdbaa
open Go Go.RowKit
set_option linter.unusedVariables false

/-- is it dead behind an act? -/
def actD (dead : Bool) (fuse : Int) : Bool := dead || decide (fuse = 0)
def actF (dead : Bool) (fuse : Int) : Int := if dead = false ∧ 0 < fuse then fuse - 1 else fuse
theorem d_setOne {w : World} {D P n M : Nat} {dead : Bool} {fuse : Int} (h : w.heap[D]? = some (dObj dead fuse P n M)) (b : Bool) : (w.setCell ⟨D, 0, none⟩ (.bool b)).heap[D]? = some (dObj b fuse P n M) := by
  unfold dObj at h
  rw [heap_setCell_same w D 0 _ _ (.bool b) h]
  rfl
theorem d_setTwo {w : World} {D P n M : Nat} {dead : Bool} {fuse : Int} (h : w.heap[D]? = some (dObj dead fuse P n M)) (f : Int) : (w.setCell ⟨D, 1, none⟩ (.int .i64 f)).heap[D]? = some (dObj dead f P n M) := by
  unfold dObj at h
  rw [heap_setCell_same w D 1 _ _ (.int .i64 f) h]
  rfl
theorem grown_one (w : World) (D j : Nat) (v : Value) : w.grownBy (w.setCell ⟨D, j, none⟩ v) (some D) :=
  ⟨rfl, rfl, rfl, by simp [World.setCell], fun k _ hne => Below.heap_setCell _ _ _ _ (fun e => hne (by rw [e]))⟩
/-- a device whose own cells alone were turned -/
theorem Dk.turned {w w' : World} {D P M n : Nat} {pg : Nat → List UInt8} {dead dead' : Bool} {fuse fuse' : Int} (h : Dk w D P M n pg dead fuse) (hg : w.grownBy w' (some D)) (ho : w'.heap[D]? = some (dObj dead' fuse' P n M)) (hf : -9223372036854775808 ≤ fuse' ∧ fuse' ≤ 9223372036854775807) : Dk w' D P M n pg dead' fuse' := by
  have hne : some P ≠ some D := fun e => h.ne.1 (Option.some.inj e).symm
  have hP : w'.heap[P]? = w.heap[P]? := hg.block P h.plt hne
  have hz : ∀ j, w'.frozen? ⟨P, j, none⟩ = w.frozen? ⟨P, j, none⟩ := fun j => by unfold World.frozen?; rw [show w'.heap[(⟨P, j, none⟩ : Addr).block]? = w.heap[(⟨P, j, none⟩ : Addr).block]? from hP]
  have hc : ∀ j, w'.cell? ⟨P, j, none⟩ = w.cell? ⟨P, j, none⟩ := fun j => by unfold World.cell?; rw [show w'.heap[(⟨P, j, none⟩ : Addr).block]? = w.heap[(⟨P, j, none⟩ : Addr).block]? from hP]
  exact ⟨ho, h.pos, hf, h.len, fun i hi j v hj => (hc _).trans (h.has i hi j v hj), fun j hj => ⟨by rw [hc]; exact (h.may j hj).1, by rw [hz]; exact (h.may j hj).2⟩, h.ne⟩
/-- what an act comes to -/
def Acted (w : World) (D P M n : Nat) (pg : Nat → List UInt8) (dead : Bool) (fuse : Int) (e : Ending) (w' : World) : Prop :=
  e = .returned (.int .i64 (if actD dead fuse = true then 9 else 0)) ∧ Dk w' D P M n pg (actD dead fuse) (actF dead fuse) ∧ w.grownBy w' (some D)
theorem grownP_refl (w : World) (row : Option Nat) : w.grownBy w row := ⟨rfl, rfl, rfl, Nat.le_refl _, fun _ _ _ => rfl⟩
theorem act_all (D P M n : Nat) (pg : Nat → List UInt8) (dead : Bool) (fuse : Int) (w : World) (h : Dk w D P M n pg dead fuse) :
    Calls Try.prog 33 #[.pointer (some ⟨D, 0, none⟩)] w (Acted w D P M n pg dead fuse) := by
  have fz := h.fz
  by_cases h0 : fuse = 0
  · subst h0
    obtain ⟨c0, c1, _, _⟩ := d_cells h.obj
    have f0 := d_frozen h.obj 0
    have hd : actD dead 0 = true := by simp [actD]
    have hf : actF dead 0 = 0 := by simp [actF]
    have ho := d_setOne h.obj true
    have R : Hid (Acted w D P M n pg dead 0 (.returned (.int .i64 9)) (w.setCell ⟨D, 0, none⟩ (.bool true))) := by
      show Acted _ _ _ _ _ _ _ _ _ _
      unfold Acted
      rw [hd, hf]
      exact ⟨rfl, h.turned (grown_one _ _ _ _) ho (by omega), grown_one _ _ _ _⟩
    clear h hd hf ho
    go_enter Try.func33, Try.ntmps33
    go_wp2
    exact bodyPost_ret (v := .int .i64 9) (by kernel_rfl) (by kernel_rfl) R.out
  · cases dead with
    | true =>
      refine (act_dead D P M n pg fuse w h h0).mono ?_
      rintro e w' ⟨rfl, rfl⟩
      refine ⟨by simp [actD], ?_, grownP_refl _ _⟩
      have hf : actF true fuse = fuse := by simp [actF]
      rw [hf]
      exact h
    | false =>
      have hd : actD false fuse = false := by simp [actD, h0]
      by_cases h1 : fuse < 0
      · refine (act_free D P M n pg fuse w h h1).mono ?_
        rintro e w' ⟨rfl, rfl⟩
        refine ⟨by simp [hd], ?_, grownP_refl _ _⟩
        have hf : actF false fuse = fuse := by unfold actF; rw [if_neg (by omega)]
        rw [hf, hd]
        exact h
      · obtain ⟨c0, c1, _, _⟩ := d_cells h.obj
        have f1 := d_frozen h.obj 1
        have hf : actF false fuse = fuse - 1 := by unfold actF; rw [if_pos ⟨rfl, by omega⟩]
        have ho := d_setTwo h.obj (fuse - 1)
        have h2 : fuse > 0 := by omega
        have R : Hid (Acted w D P M n pg false fuse (.returned (.int .i64 0)) (w.setCell ⟨D, 1, none⟩ (.int .i64 (fuse - 1)))) := by
          show Acted _ _ _ _ _ _ _ _ _ _
          unfold Acted
          rw [hd, hf]
          exact ⟨rfl, h.turned (grown_one _ _ _ _) ho (by omega), grown_one _ _ _ _⟩
        clear h hd hf ho
        go_enter Try.func33, Try.ntmps33
        go_wp2
        exact bodyPost_ret (v := .int .i64 0) (by kernel_rfl) (by kernel_rfl) R.out
theorem dead_is (D P M n : Nat) (pg : Nat → List UInt8) (dead : Bool) (fuse : Int) (w : World) (h : Dk w D P M n pg dead fuse) :
    Calls Try.prog 20 #[.pointer (some ⟨D, 0, none⟩)] w fun e w' => e = .returned (.bool dead) ∧ w = w' := by
  have MD := Lib.hid (made_is _ n w h.sized h.pos.1)
  obtain ⟨c0, c1, _, _⟩ := d_cells h.obj
  clear h
  cases dead
  all_goals
    go_enter Try.func20, Try.ntmps20
    go_wp2_with fail
    refine MD.out.mono ?_
    rintro e w' ⟨rfl, rfl⟩
    go_wp2
    go_ret
    exact ⟨rfl, rfl⟩
/-- what Fuse comes to -/
def Fused (w : World) (D P M n : Nat) (pg : Nat → List UInt8) (dead : Bool) (fuse k : Int) (e : Ending) (w' : World) : Prop :=
  e = .returned (.int .i64 (if dead = true then 9 else 0)) ∧ Dk w' D P M n pg dead (if dead = true then fuse else k) ∧ w.grownBy w' (some D)
theorem fuse_is (D P M n : Nat) (pg : Nat → List UInt8) (dead : Bool) (fuse k : Int) (hk : -9223372036854775808 ≤ k ∧ k ≤ 9223372036854775807) (w : World) (h : Dk w D P M n pg dead fuse) :
    Calls Try.prog 19 #[.pointer (some ⟨D, 0, none⟩), .int .i64 k] w (Fused w D P M n pg dead fuse k) := by
  have MD := Lib.hid (made_is _ n w h.sized h.pos.1)
  obtain ⟨c0, c1, _, _⟩ := d_cells h.obj
  have f1 := d_frozen h.obj 1
  cases dead with
  | true =>
    have R : Hid (Fused w D P M n pg true fuse k (.returned (.int .i64 9)) w) := ⟨rfl, h, grownP_refl _ _⟩
    clear h
    go_enter Try.func19, Try.ntmps19
    go_wp2_with fail
    refine MD.out.mono ?_
    rintro e w' ⟨rfl, rfl⟩
    go_wp2
    exact bodyPost_ret (v := .int .i64 9) (by kernel_rfl) (by kernel_rfl) R.out
  | false =>
    have R : Hid (Fused w D P M n pg false fuse k (.returned (.int .i64 0)) (w.setCell ⟨D, 1, none⟩ (.int .i64 k))) := ⟨rfl, h.turned (grown_one _ _ _ _) (d_setTwo h.obj k) hk, grown_one _ _ _ _⟩
    clear h
    go_enter Try.func19, Try.ntmps19
    go_wp2_with fail
    refine MD.out.mono ?_
    rintro e w' ⟨rfl, rfl⟩
    go_wp2
    exact bodyPost_ret (v := .int .i64 0) (by kernel_rfl) (by kernel_rfl) R.out
/-- what Sync comes to -/
def SyncTo (T : Nat) (w : World) (D P M n : Nat) (pg old : Nat → List UInt8) (lo : List (Nat × Nat)) (c : Nat) (dead : Bool) (fuse : Int) (e : Ending) (w' : World) : Prop :=
  e = .returned (.int .i64 (if actD dead fuse = true then 9 else 0)) ∧ Dk w' D P M n pg (actD dead fuse) (actF dead fuse) ∧ Was w' M n old (if actD dead fuse = true then lo else []) c ∧ Below T w w'
set_option maxHeartbeats 4000000 in
set_option maxRecDepth 100000 in
theorem sync_all (T D P M n : Nat) (pg old : Nat → List UInt8) (lo : List (Nat × Nat)) (c : Nat) (dead : Bool) (fuse : Int) (w : World) (h : Dk w D P M n pg dead fuse) (hw : Was w M n old lo c) (hT : T ≤ M ∧ T ≤ D) (hTw : T ≤ w.heap.size) :
    Calls Try.prog 17 #[.pointer (some ⟨D, 0, none⟩)] w (SyncTo T w D P M n pg old lo c dead fuse) := by
  have MD := Lib.hid (made_is _ n w h.sized h.pos.1)
  have AC := Lib.hid (act_all D P M n pg dead fuse w h)
  have hDM : some M ≠ some D := fun e => h.ne.2.1 (Option.some.inj e).symm
  have HW := Lib.hid hw
  unfold SyncTo
  unfold Acted at AC
  generalize actD dead fuse = d1 at AC ⊢
  generalize actF dead fuse = f1 at AC ⊢
  clear h hw
  cases d1 with
  | true =>
    simp only [if_true] at AC ⊢
    go_enter Try.func17, Try.ntmps17
    go_wp2_with fail
    refine MD.out.mono ?_
    rintro e w' ⟨rfl, rfl⟩
    clear MD
    go_wp2_with fail
    refine AC.out.mono ?_
    rintro e w1 ⟨rfl, hdk, hg⟩
    have DK := Lib.hid hdk
    have WS := Lib.hid (HW.out.at (hg.block M HW.out.mlt hDM))
    have BW := Lib.hid ((Below.refl T w).grown hg hTw (fun k hk => by cases hk; exact hT.2))
    clear hdk hg AC
    go_wp2
    exact bodyPost_ret (v := .int .i64 9) (by kernel_rfl) (by kernel_rfl) ⟨rfl, DK.out, WS.out, BW.out⟩
  | false =>
    simp only [Bool.false_eq_true, if_false] at AC ⊢
    go_enter Try.func17, Try.ntmps17
    go_wp2_with fail
    refine MD.out.mono ?_
    rintro e w' ⟨rfl, rfl⟩
    clear MD
    go_wp2_with fail
    refine AC.out.mono ?_
    rintro e w1 ⟨rfl, hdk, hg⟩
    have DK := Lib.hid hdk
    have WS := Lib.hid (HW.out.at (hg.block M HW.out.mlt hDM))
    have BW := Lib.hid ((Below.refl T w).grown hg hTw (fun k hk => by cases hk; exact hT.2))
    obtain ⟨c0, c1, c2, c3⟩ := d_cells hdk.obj
    obtain ⟨-, ne1, ne2⟩ := hdk.ne
    clear hdk hg AC
    go_wp2_with fail
    rw [run_clear WS.out.map Try.underlying54 _]
    rw [Result.andThen_ok, Oper.upon_value]
    rename_i hK
    refine hK _ _ ?_
    clear hK
    have DK2 := Lib.hid (DK.out.grown (mapTo_grown w1 M (.map (ents []).toArray c)) (by simp [ne1]) (by simp [ne2]))
    have WS2 : Hid (Was (mapTo w1 M (.map (ents []).toArray c)) M n old [] c) := Was.nil (mapTo_at WS.out.map)
    have BW2 := Lib.hid (BW.out.grown (mapTo_grown w1 M (.map (ents []).toArray c)) (Nat.le_trans hTw BW.out.size) (fun k hk => by cases hk; exact hT.1))
    generalize mapTo w1 M (.map (ents []).toArray c) = w2 at DK2 WS2 BW2 ⊢
    clear c0 c1 c2 c3
    go_wp2
    exact bodyPost_ret (v := .int .i64 0) (by kernel_rfl) (by kernel_rfl) ⟨rfl, DK2.out, WS2.out, BW2.out⟩
end Go.Proofs.Ytfgjcgonlpbdbaa
