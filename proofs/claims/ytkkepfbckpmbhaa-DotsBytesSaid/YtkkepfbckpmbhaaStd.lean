/- Contracts of bytes.Clone and bytes.Equal over this program, by the bytes that lie there. -/
import Derived.Test.YtkkepfbckpmbhaaProg
import Derived.Test.YtkkepfbckpmbhaaMem
namespace Go.Proofs.Ytkkepfbckpmbhaa
open Go Go.RowKit

theorem infoU8 : (Try.prog.info? 5).map (fun i => (i.zero, i.size, i.bytes)) = some (some (.int .u8 0), 1, 1) := by kernel_rfl

theorem isU8 : U8 Try.prog 37 5 := ⟨Try.underlying37, infoU8⟩

set_option maxHeartbeats 1000000 in
/-- bytes.Clone -/
theorem clone_any (p : Option Addr) (c : Nat) (l : List UInt8) (w : World) (h : Lies w p l) (hp : p = none → l = []) (hbig : l.length ≤ 140737488355328) :
    Calls Try.prog 28 #[.slice p l.length c] w (RetBytes w l) := by
  have q : ∀ (w : World) (a : Option Addr) (n c n' c' : Nat), (binOp .eql 37 (.slice a n c) (.slice none n' c')).run Try.prog w = .ok (.bool a.isNone) w := fun w a n c n' c' => Lib.run_eql_slice_nil w _ _ a n c n' c' Try.underlying37
  cases p with
  | none =>
    obtain rfl := hp rfl
    go_enter Try.func28, Try.ntmps28
    go_wp2
    go_ret
    exact ⟨none, 0, rfl, Nat.le_refl _, Nat.zero_le _, fun _ => ⟨rfl, rfl⟩, Lies.nil _ _, Below.refl _ _⟩
  | some a =>
    obtain ⟨i0, hi, hz0, hz1, hz2⟩ := info_parts infoU8
    have H : Hid (∀ j u, (bys l)[j]? = some u → w.cell? (a.add j) = some u) := by
      by_cases h0 : l = []
      · subst h0; intro j u hu; simp [bys] at hu
      · obtain ⟨b, o, e, hc⟩ := h h0
        obtain rfl := Option.some.inj e
        exact Lies.news hc
    clear h hp
    go_enter Try.func28, Try.ntmps28
    go_wp2_with (at_builtin; refine wpList_append_own _ rfl _ _ 37 rfl w.heap.size 5 i0 (.int .u8 0) 1 1 Try.underlying37 hi hz0 hz1 hz2 rfl (by decide) _ _ _ rfl (World.ownsRow_made w #[] 0 (Nat.le_refl _) (Nat.zero_le _) rfl) a l.length c (bys l) rfl ?qc1 ?qc2 ?qc3 ?qc4 ?qc5 ?qc6 ?_)
    case qc1 => simp [bys]
    case qc2 => exact fun j u hj => cell_alloc _ (H.out j u hj)
    case qc3 => exact bys_one l
    case qc4 => unfold maxLen; omega
    case qc5 => omega
    case qc6 => simp
    intro v' w1 hown hgrow hnil
    go_wp2
    go_ret
    exact RetBytes.of_own (by simpa using hown) rfl (((Below.refl _ w).alloc (Nat.le_refl _) _).grown hgrow (by simp) (by intro k hk; simp [Value.ownBlock] at hk; omega))

set_option maxHeartbeats 1000000 in
/-- bytes.Equal -/
theorem equal_any (p1 p2 : Option Addr) (n1 n2 c1 c2 : Nat) (l1 l2 : List UInt8) (w : World) (h1 : Lies w p1 l1) (h2 : Lies w p2 l2) (e1 : n1 = l1.length) (e2 : n2 = l2.length) :
    Calls Try.prog 30 #[.slice p1 n1 c1, .slice p2 n2 c2] w fun e w' => e = .returned (.bool (l1 == l2)) ∧ w = w' := by
  have k1 := h1.convert (P := Try.prog) n1 e1 c1 37 5 9 Try.underlying37 Try.underlying5 Try.underlying9
  have k2 := h2.convert (P := Try.prog) n2 e2 c2 37 5 9 Try.underlying37 Try.underlying5 Try.underlying9
  clear h1 h2 e1 e2
  go_enter Try.func30, Try.ntmps30
  go_wp2
  go_ret
  exact ⟨rfl, rfl⟩
end Go.Proofs.Ytkkepfbckpmbhaa
