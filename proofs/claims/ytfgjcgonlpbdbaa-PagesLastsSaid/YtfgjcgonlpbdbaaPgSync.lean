/- Sync of a device whose power is on. -/
import Derived.Test.YtfgjcgonlpbdbaaPgWrite
namespace Go.Proofs.Ytfgjcgonlpbdbaa
open Go Go.RowKit
set_option linter.unusedVariables false

/-- what Sync comes to -/
def Synced (T : Nat) (w : World) (D P M n : Nat) (pg : Nat → List UInt8) (c : Nat) (e : Ending) (w' : World) : Prop :=
  e = .returned (.int .i64 0) ∧ Dk w' D P M n pg false (-1) ∧ w'.heap[M]? = some (.map (ents []).toArray c) ∧ Below T w w'

set_option maxHeartbeats 4000000 in
set_option maxRecDepth 100000 in
theorem sync_is (T D P M n : Nat) (pg : Nat → List UInt8) (l : List (Int × Value × Nat)) (c : Nat) (w : World) (h : Dk w D P M n pg false (-1)) (hm : w.heap[M]? = some (.map (ents l).toArray c)) (hT : T ≤ M) (hTw : T ≤ w.heap.size) :
    Calls Try.prog 17 #[.pointer (some ⟨D, 0, none⟩)] w (Synced T w D P M n pg c) := by
  have MD := Lib.hid (made_is _ n w h.sized h.pos.1)
  have AC := Lib.hid (act_free D P M n pg (-1) w h (by omega))
  have H := Lib.hid h; have HM := Lib.hid hm
  obtain ⟨c0, c1, c2, c3⟩ := d_cells h.obj
  obtain ⟨-, ne1, ne2⟩ := h.ne
  have SY : Hid (Synced T w D P M n pg c (.returned (.int .i64 0)) (mapTo w M (.map (ents []).toArray c))) := Lib.hid
    ⟨rfl, h.grown (mapTo_grown _ _ _) (by simp [ne1]) (by simp [ne2]), mapTo_at hm, (Below.refl _ _).grown (mapTo_grown _ _ _) hTw (fun k hk => by cases hk; exact hT)⟩
  clear h hm
  go_enter Try.func17, Try.ntmps17
  go_wp2_with fail
  refine MD.out.mono ?_
  rintro e w' ⟨rfl, rfl⟩
  clear MD
  go_wp2_with fail
  refine AC.out.mono ?_
  rintro e w' ⟨rfl, rfl⟩
  clear AC
  go_wp2_with fail
  rw [run_clear HM.out Try.underlying54 _]
  rw [Result.andThen_ok, Oper.upon_value]
  rename_i hK
  refine hK _ _ ?_
  clear hK
  have SY' := SY.out
  generalize mapTo w M (.map (ents []).toArray c) = w1 at SY' ⊢
  clear SY
  go_wp2_with fail
  exact bodyPost_ret (v := .int .i64 0) (by kernel_rfl) (by kernel_rfl) SY'
end Go.Proofs.Ytfgjcgonlpbdbaa
