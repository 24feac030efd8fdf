/- A reader that Read made, as far as what it is asked is there: Read, Err, Left, take, number. -/
import Derived.Test.YtffjbgbcaijlnaaDoorMemWide
import Derived.Test.YtffjbgbcaijlnaaDoorCoderLive
namespace Go.Proofs.YtffjbgbcaijlnaaDoor
open Go Go.RowKit

def Cells (w : World) (b o : Nat) (l : List UInt8) : Prop := ∀ i, i < l.length → w.cell? ⟨b, o + i, none⟩ = some (.int .u8 ((l.getD i 0).toNat : Int))
theorem Cells.lies {w : World} {b o : Nat} {l : List UInt8} (h : Cells w b o l) : Lies w (some ⟨b, o, none⟩) l := fun _ => ⟨b, o, rfl, h⟩
def inObj (v : Value) : Obj := .cells #[v, .int .i64 0, .bool true] 82 (0, 0)
/-- the reader at block B has the bytes l left -/
def Rd (w : World) (B : Nat) (l : List UInt8) : Prop :=
  ∃ b o c, w.heap[B]? = some (inObj (.slice (some ⟨b, o, none⟩) l.length c)) ∧ Cells w b o l ∧ l.length ≤ c ∧ b < B
theorem in_cells {w : World} {B : Nat} {v : Value} (h : w.heap[B]? = some (inObj v)) : w.cell? ⟨B, 0, none⟩ = some v ∧ w.cell? ⟨B, 1, none⟩ = some (.int .i64 0) ∧ w.cell? ⟨B, 2, none⟩ = some (.bool true) ∧ w.frozen? ⟨B, 0, none⟩ = false := by
  unfold inObj at h
  exact ⟨by rw [cell_of_row w B 0 _ _ _ h]; rfl, by rw [cell_of_row w B 1 _ _ _ h]; rfl, by rw [cell_of_row w B 2 _ _ _ h]; rfl, frozen_of_row w B 0 _ _ h⟩
theorem in_set {w : World} {B : Nat} {v : Value} (u : Value) (h : w.heap[B]? = some (inObj v)) : (w.setCell ⟨B, 0, none⟩ u).heap[B]? = some (inObj u) := by
  unfold inObj at h ⊢
  rw [heap_setCell_same w B 0 _ _ u h]
  rfl
theorem grown_set (w : World) (B : Nat) (u : Value) : w.grownBy (w.setCell ⟨B, 0, none⟩ u) (some B) :=
  ⟨rfl, rfl, rfl, by simp [World.setCell], fun k _ hne => Below.heap_setCell _ _ _ _ (fun e => hne (by rw [e]))⟩
theorem cells_set {w : World} {B b o : Nat} {v : Value} {l : List UInt8} (u : Value) (h : w.heap[B]? = some (inObj v)) (hv : ∀ n, v ≠ .int .u8 n) (hc : Cells w b o l) : Cells (w.setCell ⟨B, 0, none⟩ u) b o l := by
  intro i hi
  have h1 := hc i hi
  have hne : b ≠ B := by
    rintro rfl
    unfold inObj at h
    rw [cell_of_row w b (o + i) _ _ _ h] at h1
    generalize o + i = j at h1
    match j, h1 with
    | 0, h1 => simp at h1; exact hv _ h1
    | 1, h1 => simp at h1
    | 2, h1 => simp at h1
    | k + 3, h1 => simp at h1
  rw [World.cell?_of_block (w := w) (Below.heap_setCell w ⟨B, 0, none⟩ u b hne)]
  exact h1
theorem Cells.grown {w w' : World} {B b o : Nat} {v : Value} {l : List UInt8} (hb : w.heap[B]? = some (inObj v)) (hv : ∀ n, v ≠ .int .u8 n) (h : Cells w b o l) (hg : w.grownBy w' (some B)) : Cells w' b o l := by
  intro i hi
  have h1 := h i hi
  have hne : b ≠ B := by
    rintro rfl
    unfold inObj at hb
    rw [cell_of_row w b (o + i) _ _ _ hb] at h1
    generalize o + i = j at h1
    match j, h1 with
    | 0, h1 => simp at h1; exact hv _ h1
    | 1, h1 => simp at h1
    | 2, h1 => simp at h1
    | k + 3, h1 => simp at h1
  exact hg.cell h1 (fun e => hne (Option.some.inj e))
theorem grown_trans {a b c : World} {row : Option Nat} (h : a.grownBy b row) (k : b.grownBy c row) : a.grownBy c row :=
  ⟨k.os.trans h.os, k.tape.trans h.tape, k.output.trans h.output, Nat.le_trans h.size k.size, fun i hi hn => (k.block i (Nat.lt_of_lt_of_le hi h.size) hn).trans (h.block i hi hn)⟩

set_option maxHeartbeats 1000000 in
theorem read_any (p : Option Addr) (c : Nat) (l : List UInt8) (w : World) (h : Given w p c l) (h0 : 0 < l.length) (hn : l.length ≤ 150000000000000) :
    Calls Tryd.prog 21 #[.slice p l.length c] w fun e w' => ∃ B, e = .returned (.pointer (some ⟨B, 0, none⟩)) ∧ w.heap.size ≤ B ∧ Rd w' B l ∧ Below w.heap.size w w' := by
  have H := Lib.hid h; clear h
  go_enter Tryd.func21, Tryd.ntmps21
  go_wp2_with (at_builtin; refine wpList_bytesW isU8 _ rfl _ _ rfl w.heap.size 0 [] _ rfl (World.ownsRow_nil _ _ _ _) p l.length c l rfl H.out.lies rfl (fun e => ⟨by rw [(H.out.none e).1]; rfl, (H.out.none e).2⟩) (by omega) (Nat.le_refl _) ?_)
  intro v w1 hown hb
  have hown1 : w1.ownsRow w.heap.size 5 1 v l.length (bys l) := by simpa using hown
  obtain ⟨g, cap, rfl, _⟩ := own_some hown1 h0
  have hc : Cells w1 g 0 l := fun i hi => by have := (own_cell hown1 i hi).1; simpa using this
  obtain ⟨_, p', c', hv, hle, _, _, _⟩ := own_lies hown1
  have hcap : l.length ≤ cap := by
    simp only [Value.slice.injEq] at hv
    omega
  have HC := Lib.hid hc; have HB := Lib.hid hb
  have HG := Lib.hid (World.block_lt_of_cell? w1 _ (hc 0 h0))
  clear hown hown1 hv hc hb hle
  go_wp2
  go_ret
  refine ⟨w1.heap.size, rfl, HB.out.size, ⟨g, 0, cap, ?_, ?_, hcap, HG.out⟩, HB.out.alloc HB.out.size _⟩
  · exact heap_alloc_new w1 _
  · exact fun i hi => cell_alloc _ (HC.out i hi)

set_option maxHeartbeats 1000000 in
theorem err_live (B : Nat) (l : List UInt8) (w : World) (h : Rd w B l) : Calls Tryd.prog 23 #[.pointer (some ⟨B, 0, none⟩)] w fun e w' => e = .returned (.int .i64 0) ∧ w = w' := by
  obtain ⟨b, o, c, hh, _, _⟩ := h
  obtain ⟨c0, c1, c2, _⟩ := in_cells hh
  clear hh
  go_enter Tryd.func23, Tryd.ntmps23
  go_wp2
  go_ret
  exact ⟨rfl, rfl⟩

set_option maxHeartbeats 1000000 in
theorem left_live (B : Nat) (l : List UInt8) (w : World) (h : Rd w B l) : Calls Tryd.prog 24 #[.pointer (some ⟨B, 0, none⟩)] w fun e w' => e = .returned (.int .i64 l.length) ∧ w = w' := by
  obtain ⟨b, o, c, hh, _, _⟩ := h
  obtain ⟨c0, c1, c2, _⟩ := in_cells hh
  clear hh
  go_enter Tryd.func24, Tryd.ntmps24
  go_wp2
  go_ret
  exact ⟨rfl, rfl⟩

/-- what 'take' comes to -/
def Took (w : World) (B n : Nat) (l : List UInt8) (e : Ending) (w' : World) : Prop :=
  ∃ b o, e = .returned (.slice (some ⟨b, o, none⟩) n n) ∧ Cells w' b o (l.take n) ∧ Rd w' B (l.drop n) ∧ w.grownBy w' (some B)
theorem took {w : World} {B b o c n b' o' c' : Nat} {l : List UInt8} {m : Nat} {e : Ending} (hh : w.heap[B]? = some (inObj (.slice (some ⟨b, o, none⟩) l.length c))) (hc : Cells w b o l) (hm : m = (l.drop n).length)
    (hc' : Cells w b' o' (l.drop n)) (hle : (l.drop n).length ≤ c') (hb' : b' < B) (he : e = .returned (.slice (some ⟨b, o, none⟩) n n)) : Took w B n l e (w.setCell ⟨B, 0, none⟩ (.slice (some ⟨b', o', none⟩) m c')) := by
  subst hm
  refine ⟨b, o, he, ?_, ⟨b', o', c', in_set _ hh, cells_set _ hh (by intro n h; cases h) hc', hle, hb'⟩, grown_set w B _⟩
  refine cells_set _ hh (by intro n h; cases h) ?_
  intro i hi
  simp only [List.length_take] at hi
  rw [hc i (by omega)]
  simp [List.getD, show i < n from by omega]
set_option maxHeartbeats 1000000 in
theorem take_live (B n : Nat) (l : List UInt8) (w : World) (h : Rd w B l) (hn : n ≤ l.length) (hl : l.length ≤ 150000000000000) :
    Calls Tryd.prog 74 #[.pointer (some ⟨B, 0, none⟩), .int .i64 n] w (Took w B n l) := by
  have he := err_live B l w h
  obtain ⟨b, o, c, hh, hc, hlc, hbB⟩ := h
  obtain ⟨c0, c1, c2, f0⟩ := in_cells hh
  have HH := Lib.hid hh; have HC := Lib.hid hc; have BB := Lib.hid hbB
  clear hh hc hbB
  go_enter Tryd.func74, Tryd.ntmps74
  go_wp2_with (go_at_call 23; refine he.mono ?_; rintro e w' ⟨rfl, rfl⟩)
  · rename_i hcn
    go_ret
    refine took HH.out HC.out (by simp) ?_ ?_ BB.out rfl
    · intro i hi; simp at hi; omega
    · simp; omega
  · go_ret
    refine took HH.out HC.out (by simp) ?_ ?_ BB.out rfl
    · intro i hi
      simp only [List.length_drop] at hi
      rw [Nat.add_assoc, HC.out (n + i) (by omega)]
      simp [List.getD]
    · simp; omega
end Go.Proofs.YtffjbgbcaijlnaaDoor
