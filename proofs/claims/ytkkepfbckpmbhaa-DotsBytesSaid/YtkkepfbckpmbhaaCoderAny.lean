/- A reader of any bytes: Read, Err, Left, Fail, take, number, Num, Rising. -/
import Derived.Test.YtkkepfbckpmbhaaCodAny
import Derived.Test.YtkkepfbckpmbhaaCoderRise2
namespace Go.Proofs.Ytkkepfbckpmbhaa
open Go Go.RowKit
set_option linter.unusedVariables false

def endObj (e : Nat) : Obj := .cells #[.slice none 0 0, .int .i64 (e : Int), .bool true] 69 (0, 0)
/-- the reader at B has the bytes and the error of a state -/
def RdA (w : World) (B : Nat) (s : Cod.S) : Prop := (s.2 = 0 ∧ Rd w B s.1) ∨ (s.1 = [] ∧ w.heap[B]? = some (endObj s.2))
theorem RdA.ok {w : World} {B : Nat} {s : Cod.S} (h : RdA w B s) : Cod.Ok s := fun e => by
  rcases h with ⟨h1, _⟩ | ⟨h1, _⟩
  · exact absurd h1 e
  · exact h1
theorem RdA.lt {w : World} {B : Nat} {s : Cod.S} (h : RdA w B s) : B < w.heap.size := by
  rcases h with ⟨_, h⟩ | ⟨_, h⟩
  · exact h.lt
  · exact (Array.getElem?_eq_some_iff.1 h).1
theorem RdA.below {w w' : World} {B : Nat} {s : Cod.S} (h : RdA w B s) (hb : Below w.heap.size w w') : RdA w' B s := by
  have hlt := h.lt
  rcases h with ⟨h1, h⟩ | ⟨h1, h⟩
  · exact .inl ⟨h1, h.below hb⟩
  · exact .inr ⟨h1, (hb.block B hlt).trans h⟩
theorem RdA.under {w w' : World} {B T : Nat} {s : Cod.S} (h : RdA w B s) (hT : B < T) (hb : Below T w w') : RdA w' B s := by
  rcases h with ⟨h1, h⟩ | ⟨h1, h⟩
  · exact .inl ⟨h1, h.under hT hb⟩
  · exact .inr ⟨h1, (hb.block B hT).trans h⟩
theorem end_cells {w : World} {B e : Nat} (h : w.heap[B]? = some (endObj e)) : w.cell? ⟨B, 0, none⟩ = some (.slice none 0 0) ∧ w.cell? ⟨B, 1, none⟩ = some (.int .i64 (e : Int)) ∧ w.cell? ⟨B, 2, none⟩ = some (.bool true) := by
  unfold endObj at h
  exact ⟨by rw [cell_of_row w B 0 _ _ _ h]; rfl, by rw [cell_of_row w B 1 _ _ _ h]; rfl, by rw [cell_of_row w B 2 _ _ _ h]; rfl⟩
theorem end_frozen {w : World} {B e : Nat} (h : w.heap[B]? = some (endObj e)) (i : Nat) : w.frozen? ⟨B, i, none⟩ = false := by
  unfold endObj at h; exact frozen_of_row w B i _ _ h
theorem in_frozen {w : World} {B : Nat} {v : Value} (h : w.heap[B]? = some (inObj v)) (i : Nat) : w.frozen? ⟨B, i, none⟩ = false := by
  unfold inObj at h; exact frozen_of_row w B i _ _ h
set_option maxHeartbeats 1000000 in
theorem err_any (B : Nat) (s : Cod.S) (w : World) (h : RdA w B s) : Calls Try.prog 35 #[.pointer (some ⟨B, 0, none⟩)] w fun e w' => e = .returned (.int .i64 (s.2 : Int)) ∧ w = w' := by
  obtain ⟨l, e⟩ := s
  rcases h with ⟨h1, h⟩ | ⟨h1, h⟩
  · simp only at h1 h
    subst h1
    exact err_live B l w h
  · simp only at h1 h
    obtain ⟨c0, c1, c2⟩ := end_cells h
    clear h
    go_enter Try.func35, Try.ntmps35
    go_wp2
    go_ret
    exact ⟨rfl, rfl⟩
set_option maxHeartbeats 1000000 in
theorem left_any (B : Nat) (s : Cod.S) (w : World) (h : RdA w B s) : Calls Try.prog 36 #[.pointer (some ⟨B, 0, none⟩)] w fun e w' => e = .returned (.int .i64 s.1.length) ∧ w = w' := by
  obtain ⟨l, e⟩ := s
  rcases h with ⟨h1, h⟩ | ⟨h1, h⟩
  · exact left_live B l w h
  · simp only at h1 h
    subst h1
    obtain ⟨c0, c1, c2⟩ := end_cells h
    clear h
    go_enter Try.func36, Try.ntmps36
    go_wp2
    go_ret
    exact ⟨rfl, rfl⟩
/-- Read of any bytes -/
theorem read_all (p : Option Addr) (c : Nat) (l : List UInt8) (w : World) (h : Given w p c l) (hn : l.length ≤ 140737488355328) :
    Calls Try.prog 29 #[.slice p l.length c] w fun e w' => ∃ B, e = .returned (.pointer (some ⟨B, 0, none⟩)) ∧ w.heap.size ≤ B ∧ RdA w' B (l, 0) ∧ Below w.heap.size w w' := by
  by_cases h0 : 0 < l.length
  · exact (read_any p c l w h h0 hn).mono fun e w' ⟨B, h1, h2, h3, h4⟩ => ⟨B, h1, h2, .inl ⟨rfl, h3⟩, h4⟩
  · obtain rfl : l = [] := List.eq_nil_of_length_eq_zero (by omega)
    have H := Lib.hid h; clear h
    go_enter Try.func29, Try.ntmps29
    go_wp2_with (at_builtin; refine wpList_bytes isU8 _ rfl _ _ rfl w.heap.size 0 [] _ rfl (World.ownsRow_nil _ _ _ _) p 0 c [] rfl H.out.lies rfl (fun e => ⟨rfl, (H.out.none e).2⟩) (by simp) (Nat.le_refl _) ?_)
    intro v w1 hown hb
    have hb1 := Lib.hid hb
    have hv : v = .slice none 0 0 ∨ ∃ g cap, v = .slice (some ⟨g, 0, none⟩) 0 cap ∧ g < w1.heap.size := by
      rcases hown.2 with ⟨h1, _⟩ | ⟨g, cap, cur, h1, _, h3, _⟩
      · exact .inl h1
      · exact .inr ⟨g, cap, by simpa using h1, (Array.getElem?_eq_some_iff.1 h3).1⟩
    clear hown hb
    rcases hv with rfl | ⟨g, cap, rfl, hg⟩
    · go_wp2
      go_ret
      refine ⟨w1.heap.size, rfl, hb1.out.size, .inr ⟨rfl, ?_⟩, hb1.out.alloc hb1.out.size _⟩
      exact heap_alloc_new w1 _
    · have HG := Lib.hid hg
      clear hg
      go_wp2
      go_ret
      refine ⟨w1.heap.size, rfl, hb1.out.size, .inl ⟨rfl, g, 0, cap, ?_, fun i hi => by simp at hi, by simp, HG.out⟩, hb1.out.alloc hb1.out.size _⟩
      exact heap_alloc_new w1 _
/-- what reading comes to -/
def GotA (w : World) (B : Nat) (v : Value) (s : Cod.S) (e : Ending) (w' : World) : Prop := e = .returned v ∧ RdA w' B s ∧ w.grownBy w' (some B)
theorem grownA_refl (w : World) (row : Option Nat) : w.grownBy w row := ⟨rfl, rfl, rfl, Nat.le_refl _, fun _ _ _ => rfl⟩
theorem fail_mk {w : World} {B c : Nat} {cs : Array Value} (hs : cs.size = 3) (h2 : cs[2]? = some (.bool true)) (h : w.heap[B]? = some (.cells cs 69 (0, 0))) :
    ((w.setCell ⟨B, 1, none⟩ (.int .i64 (c : Int))).setCell ⟨B, 0, none⟩ (.slice none 0 0)).heap[B]? = some (endObj c) := by
  have h1 := heap_setCell_same w B 1 _ _ (.int .i64 (c : Int)) h
  rw [heap_setCell_same _ B 0 _ _ (.slice none 0 0) h1]
  unfold endObj
  congr 2
  apply Array.ext_getElem?
  intro i
  match i with
  | 0 => simp [hs]
  | 1 => simp [hs]
  | 2 => simpa using h2
  | k + 3 => simp [hs]
theorem fail_grown (w : World) (B c : Nat) : w.grownBy ((w.setCell ⟨B, 1, none⟩ (.int .i64 (c : Int))).setCell ⟨B, 0, none⟩ (.slice none 0 0)) (some B) :=
  ⟨rfl, rfl, rfl, by simp [World.setCell], fun k _ hne => by
    rw [Below.heap_setCell _ _ _ _ (fun e => hne (by rw [e])), Below.heap_setCell _ _ _ _ (fun e => hne (by rw [e]))]⟩
set_option maxHeartbeats 1000000 in
/-- Fail, by an error that is one -/
theorem fail_any (B c : Nat) (s : Cod.S) (w : World) (h : RdA w B s) (hc : 0 < c) :
    Calls Try.prog 74 #[.pointer (some ⟨B, 0, none⟩), .int .i64 (c : Int)] w (GotA w B (.tuple #[]) (Cod.failS c s)) := by
  have E := Lib.hid (err_any B s w h)
  obtain ⟨l, e⟩ := s
  by_cases he : e = 0
  · subst he
    rw [Cod.failS_zero]
    have hc' : ¬ (c : Int) = 0 := by omega
    have F := Lib.hid (fail_grown w B c)
    obtain ⟨M, c0, c1, f0, f1⟩ : Hid (((w.setCell ⟨B, 1, none⟩ (.int .i64 (c : Int))).setCell ⟨B, 0, none⟩ (.slice none 0 0)).heap[B]? = some (endObj c)) ∧ (∃ v, w.cell? ⟨B, 0, none⟩ = some v) ∧ w.cell? ⟨B, 1, none⟩ = some (.int .i64 0) ∧ w.frozen? ⟨B, 0, none⟩ = false ∧ w.frozen? ⟨B, 1, none⟩ = false := by
      rcases h with ⟨_, b, o, cc, hh, _⟩ | ⟨_, hh⟩
      · obtain ⟨c0, c1, c2, _⟩ := in_cells hh
        exact ⟨fail_mk rfl rfl hh, ⟨_, c0⟩, c1, in_frozen hh 0, in_frozen hh 1⟩
      · obtain ⟨c0, c1, c2⟩ := end_cells hh
        exact ⟨fail_mk rfl rfl hh, ⟨_, c0⟩, c1, end_frozen hh 0, end_frozen hh 1⟩
    obtain ⟨v, c0⟩ := c0
    clear h
    simp only at E
    go_enter Try.func74, Try.ntmps74
    go_wp2_with fail
    refine E.out.mono ?_
    rintro e w' ⟨rfl, rfl⟩
    go_wp2
    exact bodyPost_ret (results_none rfl _ _ _) rfl ⟨rfl, .inr ⟨rfl, M.out⟩, F.out⟩
  · rw [show Cod.failS c (l, e) = (l, e) from if_neg he]
    have H := Lib.hid h
    have he' : ¬ (e : Int) = 0 := by omega
    clear h
    simp only at E
    go_enter Try.func74, Try.ntmps74
    go_wp2_with fail
    refine E.out.mono ?_
    rintro e w' ⟨rfl, rfl⟩
    go_wp2
    exact bodyPost_ret (results_none rfl _ _ _) rfl ⟨rfl, H.out, grownA_refl _ _⟩
end Go.Proofs.Ytkkepfbckpmbhaa
