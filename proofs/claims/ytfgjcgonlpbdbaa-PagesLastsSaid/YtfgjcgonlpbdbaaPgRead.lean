/- Read of a device whose power is on. -/
import Derived.Test.YtfgjcgonlpbdbaaPgSync
import Derived.Test.YtfgjcgonlpbdbaaMemIntsOwn
namespace Go.Proofs.Ytfgjcgonlpbdbaa
open Go Go.RowKit
set_option linter.unusedVariables false

theorem infoU8 : (Try.prog.info? 5).map (fun i => (i.zero, i.size, i.bytes)) = some (some (.int .u8 0), 1, 1) := by kernel_rfl

set_option maxHeartbeats 1000000 in
theorem sclone_any (p : Option Addr) (c : Nat) (l : List UInt8) (w : World) (h : Lies w p l) (hp : p = none → l = []) (hbig : l.length ≤ 140737488355328) :
    Calls Try.prog 32 #[.slice p l.length c] w (RetOwn w 5 l) := by
  have q : ∀ (w : World) (a : Option Addr) (n c n' c' : Nat), (binOp .eql 31 (.slice a n c) (.slice none n' c')).run Try.prog w = .ok (.bool a.isNone) w := fun w a n c n' c' => Lib.run_eql_slice_nil w _ _ a n c n' c' Try.underlying31
  cases p with
  | none =>
    obtain rfl := hp rfl
    go_enter Try.func32, Try.ntmps32
    go_wp2
    go_ret
    exact ⟨_, rfl, World.ownsRow_nil _ _ _ _, Below.refl _ _⟩
  | some a =>
    obtain ⟨i0, hi, hz0, hz1, hz2⟩ := info_parts infoU8
    have H : Hid (∀ j u, (bys l)[j]? = some u → w.cell? (a.add j) = some u) := by
      by_cases h0 : l = []
      · subst h0; intro j u hu; simp [bys] at hu
      · obtain ⟨b, o, e, hc⟩ := h h0
        obtain rfl := Option.some.inj e
        exact Lies.news hc
    clear h hp
    go_enter Try.func32, Try.ntmps32
    go_wp2_with (at_builtin; refine wpList_append_own _ rfl _ _ 31 rfl w.heap.size 5 i0 (.int .u8 0) 1 1 Try.underlying31 hi hz0 hz1 hz2 rfl (by decide) _ _ _ rfl (World.ownsRow_made w #[] 0 (Nat.le_refl _) (Nat.zero_le _) rfl) a l.length c (bys l) rfl ?qc1 ?qc2 ?qc3 ?qc4 ?qc5 ?qc6 ?_)
    case qc1 => simp [bys]
    case qc2 => exact fun j u hj => cell_alloc _ (H.out j u hj)
    case qc3 => exact bys_one l
    case qc4 => unfold maxLen; omega
    case qc5 => omega
    case qc6 => simp
    intro v' w1 hown hgrow hnil
    go_wp2
    go_ret
    exact RetOwn.of_own (by simpa using hown) rfl (((Below.refl _ w).alloc (Nat.le_refl _) _).grown hgrow (by simp) (by intro k hk; simp [Value.ownBlock] at hk; omega))

theorem lies_range {w : World} {b o : Nat} {l : List UInt8} (h : w.rangeAt b o (bys l)) : Lies w (some ⟨b, o, none⟩) l := fun _ =>
  ⟨b, o, rfl, fun i hi => h i _ (by simp [bys, List.getD, hi])⟩
/-- what Read comes to -/
def ReadTo (w : World) (l : List UInt8) (e : Ending) (w' : World) : Prop :=
  ∃ v, e = .returned (.tuple #[v, .int .i64 0]) ∧ w'.ownsRow w.heap.size 5 1 v l.length (bys l) ∧ Below w.heap.size w w'

set_option maxHeartbeats 4000000 in
set_option maxRecDepth 100000 in
theorem read_is (D P M n : Nat) (pg : Nat → List UInt8) (i : Nat) (w : World) (h : Dk w D P M n pg false (-1)) (hi : i < n) :
    Calls Try.prog 12 #[.pointer (some ⟨D, 0, none⟩), .int .i64 i] w (ReadTo w (pg i)) := by
  have MD := Lib.hid (made_is _ n w h.sized h.pos.1)
  have WI := Lib.hid (within_is _ n i w h.sized true (by simp; omega))
  have CL := Lib.hid (sclone_any (some ⟨P, 128 * i, none⟩) 128 (pg i) w (lies_range (h.has i hi)) (by simp) (by rw [h.len i hi]; omega))
  rw [h.len i hi, Nat.mul_comm] at CL
  obtain ⟨c0, c1, c2, c3⟩ := d_cells h.obj
  have H := Lib.hid h
  clear h
  go_enter Try.func12, Try.ntmps12
  go_wp2_with fail
  refine MD.out.mono ?_
  rintro e w' ⟨rfl, rfl⟩
  clear MD
  go_wp2_with fail
  refine WI.out.mono ?_
  rintro e w' ⟨rfl, rfl⟩
  clear WI
  go_wp2_with fail
  refine CL.out.mono ?_
  rintro e w' ⟨v, rfl, ho, hb⟩
  clear CL
  go_wp2_with fail
  exact bodyPost_ret (v := .tuple #[v, .int .i64 0]) (by kernel_rfl) (by kernel_rfl) ⟨v, rfl, ho, hb⟩
end Go.Proofs.Ytfgjcgonlpbdbaa
