/- The statement WireDecodes, proved for every input that its row reads: part 16 of 54. -/
import Derived.Test.YtapmbankpbiglaaGreatDoorPackWireDecodes13
import Derived.Test.YtapmbankpbiglaaGreatDoorMem
import Derived.OneCell
import Derived.Lib.AppendZerosOnto
import Derived.Lib.AppendZeros
import Derived.Lib.SliceRun
/- slices.Grow of nil and slices.Concat of two lists of bytes. -/
namespace Go.Proofs.YtapmbankpbiglaaGreatDoor
open Go Go.RowKit
set_option linter.unusedVariables false

def GrownB (w : World) (e : Ending) (w' : World) : Prop := ∃ v, e = .returned v ∧ w'.ownsRow w.heap.size 5 1 v 0 [] ∧ Below w.heap.size w w'

set_option maxHeartbeats 2000000 in
theorem growB (n : Nat) (w : World) (hn : n ≤ 140737488355328) : Calls Tryz.prog 91 #[.slice none 0 0, .int .i64 (n : Int)] w (GrownB w) := by
  obtain ⟨i0, hi, hz0, hz1, hz2⟩ := info_parts infoU8
  have h1 : ¬ ((n : Int) < 0) := by omega
  have h2 : wrap64 (n : Int) = n := by unfold wrap64; omega
  rcases Nat.eq_zero_or_pos n with rfl | hp
  · go_enter Tryz.func91, Tryz.ntmps91
    go_wp2
    go_ret
    exact ⟨_, rfl, World.ownsRow_nil _ _ _ _, Below.refl _ _⟩
  · have h4 : (0 : Int) < n := by omega
    have h5 : (n : Int) > 0 := h4
    have hold : (Builtin.firstCells i0.size 0 (.slice none 0 0)).run Tryz.prog w.drew = .ok ([] : List Value).toArray w.drew := run_firstCells_none w.drew i0.size 0 0 0
    have hrz : ∀ ty, (Builtin.append_ #[22, 3] ty #[.slice none 0 0, .int .i64 (n : Int)]).run Tryz.prog w =
        .ok (.slice (some ⟨w.heap.size, 0, none⟩) n (grownCap w n 0 5)) (w.drew.alloc (.cells (([] : List Value).toArray ++ Builtin.zeroCells (Value.int .u8 0).cells n ++ Builtin.zeroCells (Value.int .u8 0).cells (grownCap w n 0 5 - n)) 5)) := fun ty => by
      have hf : Builtin.nextslicecap (0 + n) 0 * i0.bytes ≤ 281474976710656 := growslice_fits (by omega) (by rw [hz2]; omega)
      have h := Lib.run_append_grow_zeros w 22 3 ty 5 i0 (.int .u8 0) .i64 .i64 Tryz.underlying22 Tryz.underlying3 hi hz0 none 0 0 [] hold n hp (by rw [hz1]; decide) (by omega) (by omega) (by rw [hz2]; omega) hf
      simpa using h
    have hG : n ≤ grownCap w n 0 5 := grownCap_ge w _ _ _
    have hM : grownCap w n 0 5 ≤ maxLen := grownCap_le_maxLen w n 0 5 (by unfold maxLen; omega)
    have hs : (([] : List Value).toArray ++ Builtin.zeroCells (Value.int .u8 0).cells n ++ Builtin.zeroCells (Value.int .u8 0).cells (grownCap w n 0 5 - n)).size = grownCap w n 0 5 * 1 := by
      simp [Builtin.zeroCells, Value.cells]; omega
    generalize grownCap w n 0 5 = G at hrz hG hM hs
    generalize (([] : List Value).toArray ++ Builtin.zeroCells (Value.int .u8 0).cells n ++ Builtin.zeroCells (Value.int .u8 0).cells (G - n)) = cur at hrz hs
    have OWN : Hid ((w.drew.alloc (.cells cur 5)).ownsRow w.heap.size 5 1 (.slice (some ⟨w.heap.size, 0, none⟩) 0 G) 0 []) := World.ownsRow_made w.drew cur G (Nat.le_refl _) hM hs
    have BEL : Hid (Below w.heap.size w (w.drew.alloc (.cells cur 5))) := (Below.refl _ w).drew.alloc (Nat.le_refl _) _
    have hG2 : (0 : Int) ≤ G := by omega
    have hM2 : G ≤ 9223372036854775807 := by unfold maxLen at hM; omega
    clear hold hs
    go_enter Tryz.func91, Tryz.ntmps91
    go_wp2_with (at_builtin; refine Lib.wpList_append_run _ rfl _ _ _ _ rfl _ _ rfl rfl _ _ (hrz _) ?_)
    all_goals (go_ret; exact ⟨_, rfl, OWN.out, BEL.out⟩)
/-- as many as the first k of two parts have -/
def partB (n m : Nat) : Nat → Nat
  | 0 => 0
  | 1 => n
  | _ => n + m
def partsB (l m : List UInt8) : Nat → List UInt8
  | 0 => []
  | 1 => l
  | _ => l ++ m

set_option maxHeartbeats 4000000 in
set_option maxRecDepth 100000 in
theorem concatB (R c p1c p2c : Nat) (p1 p2 : Option Addr) (l m : List UInt8) (w : World) (h1 : Lies w p1 l) (h2 : Lies w p2 m) (n1 : p1 = none → l = [] ∧ p1c = 0) (n2 : p2 = none → m = [] ∧ p2c = 0) (hlm : l.length + m.length ≤ 140737488355328)
    (hc1 : w.cell? ⟨R, 0, none⟩ = some (.slice p1 l.length p1c)) (hc2 : w.cell? ⟨R, 1, none⟩ = some (.slice p2 m.length p2c)) :
    Calls Tryz.prog 71 #[.slice (some ⟨R, 0, none⟩) 2 2] w (RetOwn w 5 (l ++ m)) := by
  have H1 := Lib.hid h1; have H2 := Lib.hid h2; have N1 := Lib.hid n1; have N2 := Lib.hid n2; have C1 := Lib.hid hc1; have C2 := Lib.hid hc2
  have G := Lib.hid (growB (l.length + m.length) w (by omega))
  have LL := Lib.hid hlm
  have PL : Hid (∀ v w', w'.ownsRow w.heap.size 5 1 v (partB l.length m.length 2) (bys (partsB l m 2)) → Below w.heap.size w w' → RetOwn w 5 (l ++ m) (.returned v) w') := fun v w' ho hb =>
    RetOwn.of_own (n := partB l.length m.length 2) ho rfl hb
  clear h1 h2 n1 n2
  go_enter Tryz.func71, Tryz.ntmps71
  go_wp2
  go_loopw [3, 11] (fun sz i wr => ∃ k : Nat, k ≤ 2 ∧ i = .int .i64 k ∧ sz = .int .i64 (partB l.length m.length k : Nat) ∧ wr = w) (fun _ i _ => 2 - (intOf i).toNat)
  case atStart => exact ⟨0, Nat.zero_le _, rfl, rfl, rfl⟩
  case round =>
    obtain ⟨k, hk, rfl, rfl, hw⟩ := hrel
    subst wr
    rcases (show k = 0 ∨ k = 1 ∨ k = 2 by omega) with rfl | rfl | rfl
    · simp only [partB]
      have a1 : ¬ ((l.length : Int) < 0) := by omega
      have a2 : wrap64 (l.length : Int) = l.length := by unfold wrap64; omega
      go_wp2
      go_roundw
      case rel => exact ⟨1, by omega, by simp, by simp [partB], by simp⟩
      case measure => simp [intOf]
    · simp only [partB]
      have a1 : ¬ ((l.length : Int) + m.length < 0) := by omega
      have a2 : wrap64 ((l.length : Int) + m.length) = (l.length : Int) + m.length := by unfold wrap64; omega
      go_wp2
      go_roundw
      case rel => exact ⟨2, by omega, by simp, by simp [partB], by simp⟩
      case measure => simp [intOf]
    · simp only [partB]
      go_wp2_with fail
      have hsum : (l.length : Int) + m.length = ((l.length + m.length : Nat) : Int) := by omega
      refine (G.out).mono ?_
      rintro e w1 ⟨v, rfl, hown, hb⟩
      have O := Lib.hid hown; have BW := Lib.hid hb
      clear hown hb G hsum
      go_wp2
      go_loopw [6, 27] (fun v i wx => ∃ k : Nat, k ≤ 2 ∧ i = .int .i64 k ∧ wx.ownsRow w.heap.size 5 1 v (partB l.length m.length k) (bys (partsB l m k)) ∧ Below w.heap.size w wx) (fun _ i _ => 2 - (intOf i).toNat)
      case atStart => exact ⟨0, Nat.zero_le _, rfl, O.out, BW.out⟩
      case round =>
        obtain ⟨k, hk, rfl, hown, hb⟩ := hrel
        have O2 := Lib.hid hown; have B2 := Lib.hid hb
        have hz := hb.size
        have c1 := B2.out.cell (p := ⟨R, 0, none⟩) (World.block_lt_of_cell? w _ C1.out)
        have c2 := B2.out.cell (p := ⟨R, 1, none⟩) (World.block_lt_of_cell? w _ C2.out)
        rw [C1.out] at c1; rw [C2.out] at c2
        clear hown hb O BW
        rcases (show k = 0 ∨ k = 1 ∨ k = 2 by omega) with rfl | rfl | rfl
        · go_wp2_with (refine wpList_bytes isU8 _ rfl _ _ rfl w.heap.size _ _ _ rfl O2.out p1 l.length p1c l rfl ((H1.out).mono rfl B2.out) rfl (fun e => by obtain ⟨rfl, h⟩ := N1.out e; exact ⟨rfl, h⟩) (by have := LL.out; simp only [partB]; omega) hz ?_)
          intro v' w2 ho2 hb2
          have O3 := Lib.hid ho2; have B3 := Lib.hid (B2.out.trans hb2)
          clear ho2 hb2
          go_wp2
          go_roundw
          case rel => exact ⟨1, by omega, by simp, by simpa [partB, partsB] using O3.out, B3.out⟩
          case measure => simp [intOf]
        · go_wp2_with (refine wpList_bytes isU8 _ rfl _ _ rfl w.heap.size _ _ _ rfl O2.out p2 m.length p2c m rfl ((H2.out).mono rfl B2.out) rfl (fun e => by obtain ⟨rfl, h⟩ := N2.out e; exact ⟨rfl, h⟩) (by have := LL.out; simp only [partB]; omega) hz ?_)
          intro v' w2 ho2 hb2
          have O3 := Lib.hid ho2; have B3 := Lib.hid (B2.out.trans hb2)
          clear ho2 hb2
          go_wp2
          go_roundw
          case rel => exact ⟨2, by omega, by simp, by simpa [partB, partsB] using O3.out, B3.out⟩
          case measure => simp [intOf]
        · go_wp2
          go_ret
          exact PL.out _ _ O2.out B2.out
end Go.Proofs.YtapmbankpbiglaaGreatDoor
