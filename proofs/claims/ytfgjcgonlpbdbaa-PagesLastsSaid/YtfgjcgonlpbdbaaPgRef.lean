/- The document's device: its pages as texts in lists; Page, act, Fuse, Write, Sync. -/
import Derived.Test.YtfgjcgonlpbdbaaPgWr
import Derived.Deep.AppendLies
namespace Go.Proofs.Ytfgjcgonlpbdbaa
open Go Go.RowKit
set_option linter.unusedVariables false

/-- a page's text -/
def pageS (l : List UInt8) : ByteArray := ⟨(padded l).toArray⟩
def grownS (l : List UInt8) (k : Nat) : ByteArray := ⟨(l ++ List.replicate k 0).toArray⟩
theorem grownS_step (l : List UInt8) (k : Nat) : grownS l k ++ ⟨#[0]⟩ = grownS l (k + 1) := by
  apply ByteArray.ext
  rw [ByteArray.data_append]
  unfold grownS
  show (l ++ List.replicate k 0).toArray ++ #[0] = (l ++ List.replicate (k + 1) 0).toArray
  rw [List.replicate_succ', ← List.append_assoc]
  simp
theorem grownS_size (l : List UInt8) (k : Nat) : (grownS l k).size = l.length + k := by
  show (l ++ List.replicate k 0).toArray.size = _
  simp
set_option maxHeartbeats 1000000 in
set_option maxRecDepth 100000 in
theorem refPage_is (p : Option Addr) (c : Nat) (l : List UInt8) (w : World) (h : Lies w p l) (hn : l.length ≤ 100000) : Calls Try.prog 18 #[.slice p l.length c] w fun e w' => e = .returned (.string (pageS l)) ∧ w = w' := by
  have cv := h.convert l.length rfl c 31 5 9 Try.underlying31 Try.underlying5 Try.underlying9
  have hz : (⟨l.toArray⟩ : ByteArray) = grownS l 0 := by unfold grownS; simp
  rw [hz] at cv
  clear h hz
  obtain ⟨m, hm⟩ : ∃ m : Nat, m = 128 - l.length := ⟨_, rfl⟩
  have hend : pageS l = grownS l m := by unfold pageS padded grownS; rw [hm]
  rw [hend]
  clear hend
  go_enter Try.func18, Try.ntmps18
  go_wp2
  go_loopw [3, 9] (fun s i wr => ∃ k : Nat, k ≤ m ∧ i = .int .i64 k ∧ s = .string (grownS l k) ∧ wr = w) (fun _ i _ => m - (intOf i).toNat)
  case atStart => exact ⟨0, by omega, rfl, rfl, rfl⟩
  case round =>
    obtain ⟨k, hk, rfl, rfl, rfl⟩ := hrel
    have hs := grownS_step l k
    have hz := grownS_size l k
    by_cases hlt : k < m
    · have h1 : (k : Int) < 128 - (l.length : Int) := by omega
      obtain ⟨b, hb⟩ : ∃ b, b = grownS l (k + 1) := ⟨_, rfl⟩
      rw [← hb] at hs
      have HB := Lib.hid hb
      clear hb
      generalize grownS l k = a at hs hz
      go_wp2
      go_roundw
      case rel => exact ⟨k + 1, by omega, by go_num, by rw [HB.out], by simp⟩
      case measure => simp [intOf]; omega
    · have hkm := Lib.hid (show k = m by omega)
      have h1 : ¬ (k : Int) < 128 - (l.length : Int) := by omega
      obtain ⟨a, ha⟩ : ∃ a, a = grownS l k := ⟨_, rfl⟩
      rw [← ha]
      have HA := Lib.hid ha
      clear ha hs hz
      go_wp2
      go_ret
      exact ⟨congrArg (fun s => Ending.returned (Value.string s)) (HA.out.trans (by rw [hkm.out, hm])), rfl⟩

def rdObj (a b d ca cb cd m : Nat) (left : Int) (off : Bool) : Obj := .cells #[.slice (some ⟨a, 0, none⟩) m ca, .slice (some ⟨b, 0, none⟩) m cb, .slice (some ⟨d, 0, none⟩) m cd, .int .i64 left, .bool off] 65 (0, 0)
/-- the document's device at A: what each page has, what it had at the last sync, whether it was written since; its power -/
structure RDk (w : World) (A a b d ca cb cd m : Nat) (now had : Nat → ByteArray) (is : Nat → Bool) (left : Int) (off : Bool) : Prop where
  obj : w.heap[A]? = some (rdObj a b d ca cb cd m left off)
  cn : ∀ i, i < m → w.cell? ⟨a, i, none⟩ = some (.string (now i)) ∧ w.frozen? ⟨a, i, none⟩ = false
  ch : ∀ i, i < m → w.cell? ⟨b, i, none⟩ = some (.string (had i)) ∧ w.frozen? ⟨b, i, none⟩ = false
  cs : ∀ i, i < m → w.cell? ⟨d, i, none⟩ = some (.bool (is i)) ∧ w.frozen? ⟨d, i, none⟩ = false
  ne : A ≠ a ∧ A ≠ b ∧ A ≠ d ∧ a ≠ b ∧ a ≠ d ∧ b ≠ d
  lf : -9223372036854775808 ≤ left ∧ left ≤ 9223372036854775807
  small : m ≤ 4096
section
variable {w w' : World} {A a b d ca cb cd m : Nat} {now had : Nat → ByteArray} {is : Nat → Bool} {left : Int} {off : Bool}
theorem rd_cells (h : w.heap[A]? = some (rdObj a b d ca cb cd m left off)) : w.cell? ⟨A, 0, none⟩ = some (.slice (some ⟨a, 0, none⟩) m ca) ∧ w.cell? ⟨A, 1, none⟩ = some (.slice (some ⟨b, 0, none⟩) m cb) ∧ w.cell? ⟨A, 2, none⟩ = some (.slice (some ⟨d, 0, none⟩) m cd) ∧ w.cell? ⟨A, 3, none⟩ = some (.int .i64 left) ∧ w.cell? ⟨A, 4, none⟩ = some (.bool off) := by
  unfold rdObj at h
  exact ⟨by rw [cell_of_row w A 0 _ _ _ h]; rfl, by rw [cell_of_row w A 1 _ _ _ h]; rfl, by rw [cell_of_row w A 2 _ _ _ h]; rfl, by rw [cell_of_row w A 3 _ _ _ h]; rfl, by rw [cell_of_row w A 4 _ _ _ h]; rfl⟩
theorem rd_frozen (h : w.heap[A]? = some (rdObj a b d ca cb cd m left off)) (i : Nat) : w.frozen? ⟨A, i, none⟩ = false := by
  unfold rdObj at h; exact frozen_of_row w A i _ _ h
theorem RDk.lt (h : RDk w A a b d ca cb cd m now had is left off) : A < w.heap.size := (Array.getElem?_eq_some_iff.1 h.obj).1
/-- a world in which none of its blocks has turned -/
theorem RDk.same (h : RDk w A a b d ca cb cd m now had is left off) (hA : w'.heap[A]? = w.heap[A]?) (ha : ∀ i, i < m → w'.heap[a]? = w.heap[a]?) (hb : ∀ i, i < m → w'.heap[b]? = w.heap[b]?) (hd : ∀ i, i < m → w'.heap[d]? = w.heap[d]?) : RDk w' A a b d ca cb cd m now had is left off := by
  have e : ∀ (x i : Nat), w'.heap[x]? = w.heap[x]? → w'.cell? ⟨x, i, none⟩ = w.cell? ⟨x, i, none⟩ ∧ w'.frozen? ⟨x, i, none⟩ = w.frozen? ⟨x, i, none⟩ := fun x i q => ⟨World.cell?_of_block q, World.frozen?_of_block q⟩
  exact ⟨hA.trans h.obj, fun i hi => by rw [(e a i (ha i hi)).1, (e a i (ha i hi)).2]; exact h.cn i hi, fun i hi => by rw [(e b i (hb i hi)).1, (e b i (hb i hi)).2]; exact h.ch i hi, fun i hi => by rw [(e d i (hd i hi)).1, (e d i (hd i hi)).2]; exact h.cs i hi, h.ne, h.lf, h.small⟩
theorem RDk.alt (h : RDk w A a b d ca cb cd m now had is left off) (i : Nat) (hi : i < m) : a < w.heap.size ∧ b < w.heap.size ∧ d < w.heap.size :=
  ⟨World.block_lt_of_cell? w _ (h.cn i hi).1, World.block_lt_of_cell? w _ (h.ch i hi).1, World.block_lt_of_cell? w _ (h.cs i hi).1⟩
theorem RDk.grown {row : Option Nat} (h : RDk w A a b d ca cb cd m now had is left off) (hg : w.grownBy w' row) (h1 : some A ≠ row) (h2 : some a ≠ row) (h3 : some b ≠ row) (h4 : some d ≠ row) : RDk w' A a b d ca cb cd m now had is left off :=
  h.same (hg.block A h.lt h1) (fun i hi => hg.block a (h.alt i hi).1 h2) (fun i hi => hg.block b (h.alt i hi).2.1 h3) (fun i hi => hg.block d (h.alt i hi).2.2 h4)
theorem RDk.below (h : RDk w A a b d ca cb cd m now had is left off) (hb : Below w.heap.size w w') : RDk w' A a b d ca cb cd m now had is left off :=
  h.same (hb.block A h.lt) (fun i hi => hb.block a (h.alt i hi).1) (fun i hi => hb.block b (h.alt i hi).2.1) (fun i hi => hb.block d (h.alt i hi).2.2)
theorem far_cell (w : World) (x y i j : Nat) (v : Value) (h : x ≠ y) : (w.setCell ⟨x, i, none⟩ v).cell? ⟨y, j, none⟩ = w.cell? ⟨y, j, none⟩ := World.cell?_setCell_far w ⟨x, i, none⟩ ⟨y, j, none⟩ v h
theorem in_cell (w : World) (x i j : Nat) (v u : Value) (hu : w.cell? ⟨x, i, none⟩ = some u) : (w.setCell ⟨x, i, none⟩ v).cell? ⟨x, j, none⟩ = if j = i then some v else w.cell? ⟨x, j, none⟩ := by
  by_cases e : j = i
  · subst e; rw [if_pos rfl]; exact World.cell?_setCell_same w _ v hu
  · rw [if_neg e]; exact World.cell?_setCell_other w _ _ v (fun q => e (by injection q with _ q2 _; exact q2.symm))
theorem far_block (w : World) (x y i : Nat) (v : Value) (h : y ≠ x) : (w.setCell ⟨x, i, none⟩ v).heap[y]? = w.heap[y]? := Below.heap_setCell w ⟨x, i, none⟩ v y (fun e => h e)
def updS (f : Nat → ByteArray) (i : Nat) (s : ByteArray) : Nat → ByteArray := fun j => if j = i then s else f j
def updB (f : Nat → Bool) (i : Nat) (s : Bool) : Nat → Bool := fun j => if j = i then s else f j
theorem RDk.setNow (h : RDk w A a b d ca cb cd m now had is left off) (i : Nat) (hi : i < m) (s : ByteArray) : RDk (w.setCell ⟨a, i, none⟩ (.string s)) A a b d ca cb cd m (updS now i s) had is left off := by
  obtain ⟨n1, n2, n3, n4, n5, n6⟩ := h.ne
  refine ⟨(far_block w a A i _ n1).trans h.obj, fun j hj => ⟨?_, by rw [World.frozen?_setCell]; exact (h.cn j hj).2⟩, fun j hj => ⟨by rw [far_cell w a b i j _ n4]; exact (h.ch j hj).1, by rw [World.frozen?_setCell]; exact (h.ch j hj).2⟩, fun j hj => ⟨by rw [far_cell w a d i j _ n5]; exact (h.cs j hj).1, by rw [World.frozen?_setCell]; exact (h.cs j hj).2⟩, h.ne, h.lf, h.small⟩
  rw [in_cell w a i j _ _ (h.cn i hi).1]
  unfold updS
  by_cases e : j = i
  · rw [if_pos e, if_pos e]
  · rw [if_neg e, if_neg e]; exact (h.cn j hj).1
theorem RDk.setHad (h : RDk w A a b d ca cb cd m now had is left off) (i : Nat) (hi : i < m) (s : ByteArray) : RDk (w.setCell ⟨b, i, none⟩ (.string s)) A a b d ca cb cd m now (updS had i s) is left off := by
  obtain ⟨n1, n2, n3, n4, n5, n6⟩ := h.ne
  refine ⟨(far_block w b A i _ n2).trans h.obj, fun j hj => ⟨by rw [far_cell w b a i j _ n4.symm]; exact (h.cn j hj).1, by rw [World.frozen?_setCell]; exact (h.cn j hj).2⟩, fun j hj => ⟨?_, by rw [World.frozen?_setCell]; exact (h.ch j hj).2⟩, fun j hj => ⟨by rw [far_cell w b d i j _ n6]; exact (h.cs j hj).1, by rw [World.frozen?_setCell]; exact (h.cs j hj).2⟩, h.ne, h.lf, h.small⟩
  rw [in_cell w b i j _ _ (h.ch i hi).1]
  unfold updS
  by_cases e : j = i
  · rw [if_pos e, if_pos e]
  · rw [if_neg e, if_neg e]; exact (h.ch j hj).1
theorem RDk.setIs (h : RDk w A a b d ca cb cd m now had is left off) (i : Nat) (hi : i < m) (s : Bool) : RDk (w.setCell ⟨d, i, none⟩ (.bool s)) A a b d ca cb cd m now had (updB is i s) left off := by
  obtain ⟨n1, n2, n3, n4, n5, n6⟩ := h.ne
  refine ⟨(far_block w d A i _ n3).trans h.obj, fun j hj => ⟨by rw [far_cell w d a i j _ n5.symm]; exact (h.cn j hj).1, by rw [World.frozen?_setCell]; exact (h.cn j hj).2⟩, fun j hj => ⟨by rw [far_cell w d b i j _ n6.symm]; exact (h.ch j hj).1, by rw [World.frozen?_setCell]; exact (h.ch j hj).2⟩, fun j hj => ⟨?_, by rw [World.frozen?_setCell]; exact (h.cs j hj).2⟩, h.ne, h.lf, h.small⟩
  rw [in_cell w d i j _ _ (h.cs i hi).1]
  unfold updB
  by_cases e : j = i
  · rw [if_pos e, if_pos e]
  · rw [if_neg e, if_neg e]; exact (h.cs j hj).1
theorem RDk.setLeft (h : RDk w A a b d ca cb cd m now had is left off) (k : Int) (hk : -9223372036854775808 ≤ k ∧ k ≤ 9223372036854775807) : RDk (w.setCell ⟨A, 3, none⟩ (.int .i64 k)) A a b d ca cb cd m now had is k off := by
  obtain ⟨n1, n2, n3, n4, n5, n6⟩ := h.ne
  have ho := h.obj
  unfold rdObj at ho
  exact ⟨(heap_setCell_same w A 3 _ _ (.int .i64 k) ho).trans rfl, fun j hj => ⟨by rw [far_cell w A a 3 j _ n1]; exact (h.cn j hj).1, by rw [World.frozen?_setCell]; exact (h.cn j hj).2⟩, fun j hj => ⟨by rw [far_cell w A b 3 j _ n2]; exact (h.ch j hj).1, by rw [World.frozen?_setCell]; exact (h.ch j hj).2⟩, fun j hj => ⟨by rw [far_cell w A d 3 j _ n3]; exact (h.cs j hj).1, by rw [World.frozen?_setCell]; exact (h.cs j hj).2⟩, h.ne, hk, h.small⟩
theorem RDk.setOff (h : RDk w A a b d ca cb cd m now had is left off) (k : Bool) : RDk (w.setCell ⟨A, 4, none⟩ (.bool k)) A a b d ca cb cd m now had is left k := by
  obtain ⟨n1, n2, n3, n4, n5, n6⟩ := h.ne
  have ho := h.obj
  unfold rdObj at ho
  exact ⟨(heap_setCell_same w A 4 _ _ (.bool k) ho).trans rfl, fun j hj => ⟨by rw [far_cell w A a 4 j _ n1]; exact (h.cn j hj).1, by rw [World.frozen?_setCell]; exact (h.cn j hj).2⟩, fun j hj => ⟨by rw [far_cell w A b 4 j _ n2]; exact (h.ch j hj).1, by rw [World.frozen?_setCell]; exact (h.ch j hj).2⟩, fun j hj => ⟨by rw [far_cell w A d 4 j _ n3]; exact (h.cs j hj).1, by rw [World.frozen?_setCell]; exact (h.cs j hj).2⟩, h.ne, h.lf, h.small⟩
/-- nothing that was there has turned, but four blocks -/
structure Bes4 (A a b d : Nat) (w0 w : World) : Prop where
  os : w.os = w0.os
  tape : w.tape = w0.tape
  output : w.output = w0.output
  size : w0.heap.size ≤ w.heap.size
  block : ∀ k, k < w0.heap.size → k ≠ A → k ≠ a → k ≠ b → k ≠ d → w.heap[k]? = w0.heap[k]?
theorem Bes4.refl (A a b d : Nat) (w : World) : Bes4 A a b d w w := ⟨rfl, rfl, rfl, Nat.le_refl _, fun _ _ _ _ _ _ => rfl⟩
theorem Bes4.trans {w0 : World} (h : Bes4 A a b d w0 w) (k : Bes4 A a b d w w') : Bes4 A a b d w0 w' :=
  ⟨k.os.trans h.os, k.tape.trans h.tape, k.output.trans h.output, Nat.le_trans h.size k.size, fun i hi h1 h2 h3 h4 => (k.block i (Nat.lt_of_lt_of_le hi h.size) h1 h2 h3 h4).trans (h.block i hi h1 h2 h3 h4)⟩
theorem Bes4.of {w0 : World} (h : Below w0.heap.size w0 w) : Bes4 A a b d w0 w := ⟨h.os, h.tape, h.output, h.size, fun k hk _ _ _ _ => h.block k hk⟩
theorem Bes4.drew {w0 : World} (h : Bes4 A a b d w0 w) : Bes4 A a b d w0 w.drew := h.trans (Bes4.of (Below.refl _ _).drew)
theorem Bes4.setCell {w0 : World} (h : Bes4 A a b d w0 w) {p : Addr} (hp : p.block = A ∨ p.block = a ∨ p.block = b ∨ p.block = d) (u : Value) : Bes4 A a b d w0 (w.setCell p u) :=
  h.trans ⟨rfl, rfl, rfl, by simp [World.setCell], fun k hk h1 h2 h3 h4 => Below.heap_setCell _ _ _ _ (by omega)⟩
/-- of a number up to which none of the four lies -/
theorem Bes4.below {w0 : World} (h : Bes4 A a b d w0 w) {T : Nat} (hT : T ≤ A ∧ T ≤ a ∧ T ≤ b ∧ T ≤ d) (hs : T ≤ w0.heap.size) : Below T w0 w :=
  ⟨h.os, h.tape, h.output, h.size, fun k hk => h.block k (by omega) (by omega) (by omega) (by omega) (by omega)⟩
end
/-- what the document's act comes to -/
def RActed (T : Nat) (w : World) (A a b d ca cb cd m : Nat) (now had : Nat → ByteArray) (is : Nat → Bool) (left : Int) (off : Bool) (e : Ending) (w' : World) : Prop :=
  e = .returned (.int .i64 (if actD off left = true then 9 else 0)) ∧ RDk w' A a b d ca cb cd m now had is (actF off left) (actD off left) ∧ Bes4 A a b d w w'
theorem refAct_all (T A a b d ca cb cd m : Nat) (now had : Nat → ByteArray) (is : Nat → Bool) (left : Int) (off : Bool) (w : World) (h : RDk w A a b d ca cb cd m now had is left off) (hT : T ≤ A) (hTw : T ≤ w.heap.size) :
    Calls Try.prog 38 #[.pointer (some ⟨A, 0, none⟩)] w (RActed T w A a b d ca cb cd m now had is left off) := by
  have lf := h.lf
  obtain ⟨c0, c1, c2, c3, c4⟩ := rd_cells h.obj
  have f3 := rd_frozen h.obj 3
  have f4 := rd_frozen h.obj 4
  by_cases h0 : left = 0
  · subst h0
    have hd : actD off 0 = true := by simp [actD]
    have hf : actF off 0 = 0 := by simp [actF]
    have R : Hid (RActed T w A a b d ca cb cd m now had is 0 off (.returned (.int .i64 9)) (w.setCell ⟨A, 4, none⟩ (.bool true))) := by
      show RActed _ _ _ _ _ _ _ _ _ _ _ _ _ _ _ _ _
      unfold RActed
      rw [hd, hf]
      exact ⟨rfl, h.setOff true, (Bes4.refl A a b d w).setCell (by simp) _⟩
    clear h hd hf
    go_enter Try.func38, Try.ntmps38
    go_wp2
    exact bodyPost_ret (v := .int .i64 9) (by kernel_rfl) (by kernel_rfl) R.out
  · cases off with
    | true =>
      have hd : actD true left = true := by simp [actD]
      have hf : actF true left = left := by simp [actF]
      have R : Hid (RActed T w A a b d ca cb cd m now had is left true (.returned (.int .i64 9)) w) := by
        show RActed _ _ _ _ _ _ _ _ _ _ _ _ _ _ _ _ _
        unfold RActed
        rw [hd, hf]
        exact ⟨rfl, h, Bes4.refl A a b d w⟩
      clear h hd hf
      go_enter Try.func38, Try.ntmps38
      go_wp2
      exact bodyPost_ret (v := .int .i64 9) (by kernel_rfl) (by kernel_rfl) R.out
    | false =>
      have hd : actD false left = false := by simp [actD, h0]
      by_cases h1 : left > 0
      · have hf : actF false left = left - 1 := by unfold actF; rw [if_pos ⟨rfl, by omega⟩]
        have R : Hid (RActed T w A a b d ca cb cd m now had is left false (.returned (.int .i64 0)) (w.setCell ⟨A, 3, none⟩ (.int .i64 (left - 1)))) := by
          show RActed _ _ _ _ _ _ _ _ _ _ _ _ _ _ _ _ _
          unfold RActed
          rw [hd, hf]
          exact ⟨rfl, h.setLeft (left - 1) (by omega), (Bes4.refl A a b d w).setCell (by simp) _⟩
        clear h hd hf
        go_enter Try.func38, Try.ntmps38
        go_wp2
        exact bodyPost_ret (v := .int .i64 0) (by kernel_rfl) (by kernel_rfl) R.out
      · have hf : actF false left = left := by unfold actF; rw [if_neg (by omega)]
        have R : Hid (RActed T w A a b d ca cb cd m now had is left false (.returned (.int .i64 0)) w) := by
          show RActed _ _ _ _ _ _ _ _ _ _ _ _ _ _ _ _ _
          unfold RActed
          rw [hd, hf]
          exact ⟨rfl, h, Bes4.refl A a b d w⟩
        clear h hd hf
        go_enter Try.func38, Try.ntmps38
        go_wp2
        exact bodyPost_ret (v := .int .i64 0) (by kernel_rfl) (by kernel_rfl) R.out
/-- what the document's Fuse comes to -/
def RFused (T : Nat) (w : World) (A a b d ca cb cd m : Nat) (now had : Nat → ByteArray) (is : Nat → Bool) (left : Int) (off : Bool) (k : Int) (e : Ending) (w' : World) : Prop :=
  e = .returned (.int .i64 (if off = true then 9 else 0)) ∧ RDk w' A a b d ca cb cd m now had is (if off = true then left else max k (-1)) off ∧ Bes4 A a b d w w'
theorem refFuse_is (T A a b d ca cb cd m : Nat) (now had : Nat → ByteArray) (is : Nat → Bool) (left : Int) (off : Bool) (k : Int) (hk : -9223372036854775808 ≤ k ∧ k ≤ 9223372036854775807) (w : World) (h : RDk w A a b d ca cb cd m now had is left off) (hT : T ≤ A) (hTw : T ≤ w.heap.size) :
    Calls Try.prog 26 #[.pointer (some ⟨A, 0, none⟩), .int .i64 k] w (RFused T w A a b d ca cb cd m now had is left off k) := by
  obtain ⟨c0, c1, c2, c3, c4⟩ := rd_cells h.obj
  have f3 := rd_frozen h.obj 3
  cases off with
  | true =>
    have R : Hid (RFused T w A a b d ca cb cd m now had is left true k (.returned (.int .i64 9)) w) := ⟨rfl, h, Bes4.refl A a b d w⟩
    clear h
    go_enter Try.func26, Try.ntmps26
    go_wp2
    exact bodyPost_ret (v := .int .i64 9) (by kernel_rfl) (by kernel_rfl) R.out
  | false =>
    by_cases h1 : k < -1
    · have e : max k (-1) = -1 := by omega
      have R : Hid (RFused T w A a b d ca cb cd m now had is left false k (.returned (.int .i64 0)) (w.setCell ⟨A, 3, none⟩ (.int .i64 (-1)))) := by
        show RFused _ _ _ _ _ _ _ _ _ _ _ _ _ _ _ _ _ _
        unfold RFused
        rw [e]
        exact ⟨rfl, h.setLeft (-1) (by omega), (Bes4.refl A a b d w).setCell (by simp) _⟩
      clear h e
      go_enter Try.func26, Try.ntmps26
      go_wp2
      exact bodyPost_ret (v := .int .i64 0) (by kernel_rfl) (by kernel_rfl) R.out
    · have e : max k (-1) = k := by omega
      have R : Hid (RFused T w A a b d ca cb cd m now had is left false k (.returned (.int .i64 0)) (w.setCell ⟨A, 3, none⟩ (.int .i64 k))) := by
        show RFused _ _ _ _ _ _ _ _ _ _ _ _ _ _ _ _ _ _
        unfold RFused
        rw [e]
        exact ⟨rfl, h.setLeft k hk, (Bes4.refl A a b d w).setCell (by simp) _⟩
      clear h e
      go_enter Try.func26, Try.ntmps26
      go_wp2
      exact bodyPost_ret (v := .int .i64 0) (by kernel_rfl) (by kernel_rfl) R.out
end Go.Proofs.Ytfgjcgonlpbdbaa
