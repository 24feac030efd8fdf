/- The statement WireEncodes, proved for every input that its row reads: part 34 of 54. -/
import Derived.Test.YtapbeokocfmlpaaDoorMemWide
import Derived.Test.YtapbeokocfmlpaaDoorPackWireEncodes32
import Derived.Test.YtapbeokocfmlpaaDoorPackWireEncodes15
/- A reader that Read made, as far as what it is asked is there: Read, Err, Left, take, number. -/
namespace Go.Proofs.YtapbeokocfmlpaaDoor
open Go Go.RowKit

def Cells (w : World) (b o : Nat) (l : List UInt8) : Prop := ∀ i, i < l.length → w.cell? ⟨b, o + i, none⟩ = some (.int .u8 ((l.getD i 0).toNat : Int))
theorem Cells.lies {w : World} {b o : Nat} {l : List UInt8} (h : Cells w b o l) : Lies w (some ⟨b, o, none⟩) l := fun _ => ⟨b, o, rfl, h⟩
theorem grown_set (w : World) (B : Nat) (u : Value) : w.grownBy (w.setCell ⟨B, 0, none⟩ u) (some B) :=
  ⟨rfl, rfl, rfl, by simp [World.setCell], fun k _ hne => Below.heap_setCell _ _ _ _ (fun e => hne (by rw [e]))⟩
theorem grown_trans {a b c : World} {row : Option Nat} (h : a.grownBy b row) (k : b.grownBy c row) : a.grownBy c row :=
  ⟨k.os.trans h.os, k.tape.trans h.tape, k.output.trans h.output, Nat.le_trans h.size k.size, fun i hi hn => (k.block i (Nat.lt_of_lt_of_le hi h.size) hn).trans (h.block i hi hn)⟩

end Go.Proofs.YtapbeokocfmlpaaDoor
/- A reader that Read made: number, on the bytes of a number. -/
namespace Go.Proofs.YtapbeokocfmlpaaDoor
open Go Go.RowKit

theorem shr_127 (P : Program) (k : Nat) (hk : k ≤ 8) (w : World) : Sem.run P (Op.shift BinOp.shr IntKind.u8 127 IntKind.i64 (k : Int)) w = .ok (.int .u8 ((127 / 2 ^ k : Nat) : Int)) w := by
  unfold Op.shift
  rw [if_neg (by omega)]
  have e2 : min k IntKind.u8.bits = k := by simp [IntKind.bits]; omega
  simp only [Int.toNat_natCast, e2]
  rw [Sem.run_pure]
  have : (127 : Int).fdiv (2 ^ k) = ((127 / 2 ^ k : Nat) : Int) := by
    rw [show ((2 : Int) ^ k) = ((2 ^ k : Nat) : Int) from by simp, Int.fdiv_eq_ediv_of_nonneg _ (Int.natCast_nonneg _)]; simp
  simp only [this]

theorem xor_255 (n : Nat) (h : n < 256) : bits BinOp.xor IntKind.u8 IntKind.u8.max (n : Int) = ((255 - n : Nat) : Int) := by
  have : ∀ n : Fin 256, (255 ^^^ n.val) = 255 - n.val := by decide +kernel
  rw [show IntKind.u8.max = ((255 : Nat) : Int) from rfl, u8_xor_nat _ _ (by omega) h, this ⟨n, h⟩]
theorem Cells.at {w : World} {b o : Nat} {l : List UInt8} (h : Cells w b o l) (i : Nat) (hi : i < l.length) (x : UInt8) (hx : l.getD i 0 = x) : w.cell? ⟨b, o + i, none⟩ = some (.int .u8 (x.toNat : Int)) := by rw [h i hi, hx]

theorem xor_i64_ones (q : Nat) (h : q ≤ 9223372036854775807) : bits BinOp.xor IntKind.i64 (q : Int) (-1) = -1 - (q : Int) := by
  have e1 : (BitVec.ofInt 64 (-1)).toNat = 18446744073709551615 := by decide +kernel
  have e2 : (BitVec.ofInt 64 (q : Int)).toNat = q := by rw [BitVec.ofInt_natCast, BitVec.toNat_ofNat, Nat.mod_eq_of_lt (by omega)]
  have e3 : bits BinOp.xor IntKind.i64 (q : Int) (-1) = IntKind.i64.wrap (((BitVec.ofInt 64 (q : Int) ^^^ BitVec.ofInt 64 (-1)).toNat : Nat) : Int) := rfl
  rw [e3, BitVec.toNat_xor, e1, e2, xor_ones q (by omega), IntKind.wrap_i64]
  omega
theorem xor_i64_zero (q : Nat) (h : q ≤ 9223372036854775807) : bits BinOp.xor IntKind.i64 (q : Int) 0 = (q : Int) := by
  have e1 : (BitVec.ofInt 64 0).toNat = 0 := by decide +kernel
  have e2 : (BitVec.ofInt 64 (q : Int)).toNat = q := by rw [BitVec.ofInt_natCast, BitVec.toNat_ofNat, Nat.mod_eq_of_lt (by omega)]
  have e3 : bits BinOp.xor IntKind.i64 (q : Int) 0 = IntKind.i64.wrap (((BitVec.ofInt 64 (q : Int) ^^^ BitVec.ofInt 64 0).toNat : Nat) : Int) := rfl
  rw [e3, BitVec.toNat_xor, e1, e2, Nat.xor_zero, IntKind.wrap_i64]
  omega
theorem zz_back {n : Int} (h : -9223372036854775808 ≤ n ∧ n ≤ 9223372036854775807) : (n < 0 → zz n % 2 = 1 ∧ n = -1 - ((zz n / 2 : Nat) : Int)) ∧ (0 ≤ n → zz n % 2 = 0 ∧ n = ((zz n / 2 : Nat) : Int)) := by
  unfold zz
  constructor <;> intro h0
  · rw [if_pos h0]; omega
  · rw [if_neg (by omega)]; omega

end Go.Proofs.YtapbeokocfmlpaaDoor
