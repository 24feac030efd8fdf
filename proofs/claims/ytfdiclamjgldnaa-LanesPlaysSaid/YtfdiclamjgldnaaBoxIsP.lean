/- A box of *scholia/lanes.message: its state, New, Len, Room, Put, Take. -/
import Derived.Test.YtfdiclamjgldnaaBoxChP
import Derived.Test.YtfdiclamjgldnaaBoxState
import Derived.Conc.LoneSelectN
namespace Go.Proofs.Ytfdiclamjgldnaa
open Go Go.RowKit Go.Conc

theorem bytesPP : ∃ i, Try.prog.info? 78 = some i ∧ i.bytes = 8 := by
  have h : (Try.prog.info? 78).map (·.bytes) = some 8 := by kernel_rfl
  obtain ⟨i, hi, hb⟩ := Option.map_eq_some_iff.1 h
  exact ⟨i, hi, hb⟩
theorem mkChanP (n : Nat) (hn : n ≤ 4096) (x : Int) (hx : x = n) (w : World) : (Instr.makeChan 71 (.int .i64 x)).run Try.prog w = .ok (.chan (some w.heap.size)) (w.alloc (.chan n #[] false 0 0 false)) := by
  obtain ⟨i, hi, hb⟩ := bytesPP
  subst hx
  exact run_makeChan (P := Try.prog) (w := w) Try.underlying71 hi .i64 n (by omega) (by rw [hb]; omega)

set_option maxHeartbeats 1000000 in
theorem newP (n : Int) (cap : Nat) (w : World) (hn : -9223372036854775808 ≤ n ∧ n ≤ 9223372036854775807) (hc : (cap : Int) = min (max n 0) 4096) : Calls Try.prog 19 #[.int .i64 n] w (NewTo w cap) := by
  obtain ⟨n1, n2⟩ := hn
  have hcap : cap ≤ 4096 := by omega
  rcases (show n < 0 ∧ cap = 0 ∨ (0 ≤ n ∧ n ≤ 4096) ∧ n = cap ∨ 4096 < n ∧ cap = 4096 by omega) with ⟨h1, rfl⟩ | ⟨⟨h1, h2⟩, rfl⟩ | ⟨h1, rfl⟩
  · have hmk := mkChanP 0 (by omega) 0 rfl
    clear hc
    go_enter Try.func19, Try.ntmps19
    go_wp2
    go_ret
    exact newTo_mk _ _ (by omega) _
  · have hmk := mkChanP cap hcap cap rfl
    clear hc
    go_enter Try.func19, Try.ntmps19
    go_wp2
    go_ret
    exact newTo_mk _ _ (by omega) _
  · have hmk := mkChanP 4096 (by omega) 4096 rfl
    clear hc
    go_enter Try.func19, Try.ntmps19
    go_wp2
    go_ret
    exact newTo_mk _ _ (by omega) _

theorem chanLenP (w : World) (C cap s r : Nat) (gs : List Nat) (h : w.heap[C]? = some (.chan cap (ptrs gs).toArray false s r false)) (ty : TypeId) : (Builtin.len_ #[71] ty #[.chan (some C)]).run Try.prog w = .ok (.int .i64 (gs.length : Nat)) w := by
  have := run_len_chan (P := Try.prog) 71 ty Try.underlying71 h
  simpa [goInt, ptrs] using this
theorem chanCapP (w : World) (C cap s r : Nat) (gs : List Nat) (h : w.heap[C]? = some (.chan cap (ptrs gs).toArray false s r false)) (ty : TypeId) : (Builtin.cap_ #[71] ty #[.chan (some C)]).run Try.prog w = .ok (.int .i64 (cap : Nat)) w := by
  have := run_cap_chan (P := Try.prog) 71 ty Try.underlying71 h
  simpa [goInt] using this

theorem lenP (a C cap : Nat) (gs : List Nat) (w : World) (h : Bx w a C cap gs) : Calls Try.prog 28 #[.pointer (some ⟨a, 0, none⟩)] w fun e w' => e = .returned (.int .i64 (gs.length : Nat)) ∧ w = w' := by
  obtain ⟨hl, ⟨s, r, hc⟩, _⟩ := h
  have hlen := chanLenP w C cap s r gs hc
  have L := Lib.hid (lineP_is a _ w hl)
  clear hl hc
  go_enter Try.func28, Try.ntmps28
  go_wp2_with fail
  refine L.out.mono ?_
  rintro e w' ⟨rfl, rfl⟩
  go_wp2
  go_ret
  exact ⟨rfl, rfl⟩
theorem putP_yes (a C cap : Nat) (gs : List Nat) (g : Nat) (w : World) (h : Bx w a C cap gs) (hr : gs.length < cap) : Calls Try.prog 37 #[.pointer (some ⟨a, 0, none⟩), .pointer (some ⟨g, 0, none⟩)] w fun e w' => e = .returned (.bool true) ∧ Bx w' a C cap (gs ++ [g]) ∧ w.grownBy w' (some C) := by
  obtain ⟨s, r, hc⟩ := h.chan
  refine (putP_room _ g C cap s r gs w (lineP_is a _ w h.line) hc hr).mono ?_
  rintro e w' ⟨rfl, rfl⟩
  have e1 : ptrs gs ++ [Value.pointer (some ⟨g, 0, none⟩)] = ptrs (gs ++ [g]) := by simp [ptrs]
  rw [e1]
  exact ⟨rfl, h.set (gs ++ [g]) (by simp; omega) _ _, grown_setChan _ _ _ _ _ _⟩
theorem putP_no (a C cap : Nat) (gs : List Nat) (g : Nat) (w : World) (h : Bx w a C cap gs) (hr : cap ≤ gs.length) : Calls Try.prog 37 #[.pointer (some ⟨a, 0, none⟩), .pointer (some ⟨g, 0, none⟩)] w fun e w' => e = .returned (.bool false) ∧ w = w' := by
  obtain ⟨s, r, hc⟩ := h.chan
  exact putP_full _ g C cap s r gs w (lineP_is a _ w h.line) hc hr
theorem takeP_yes (a C cap : Nat) (gs : List Nat) (g : Nat) (w : World) (h : Bx w a C cap (g :: gs)) : Calls Try.prog 44 #[.pointer (some ⟨a, 0, none⟩)] w fun e w' => e = .returned (.pointer (some ⟨g, 0, none⟩)) ∧ Bx w' a C cap gs ∧ w.grownBy w' (some C) := by
  obtain ⟨s, r, hc⟩ := h.chan
  have hle := h.le
  simp only [List.length_cons] at hle
  refine (takeP_some _ g C cap s r gs w (lineP_is a _ w h.line) hc).mono ?_
  rintro e w' ⟨rfl, rfl⟩
  exact ⟨rfl, h.set gs (by omega) _ _, grown_setChan _ _ _ _ _ _⟩
theorem takeP_no (a C cap : Nat) (w : World) (h : Bx w a C cap []) : Calls Try.prog 44 #[.pointer (some ⟨a, 0, none⟩)] w fun e w' => e = .returned (.pointer none) ∧ w = w' := by
  obtain ⟨s, r, hc⟩ := h.chan
  exact takeP_none _ C cap s r w (lineP_is a _ w h.line) hc

def encP (v : (Option Addr)) : Value := .pointer v
theorem openP_none (w : World) : Calls Try.prog 42 #[.pointer none] w fun e w' => e = .returned (.tuple #[encP none, .bool false]) ∧ w = w' := by
  go_enter Try.func42, Try.ntmps42
  go_wp2
  go_ret2
  exact ⟨rfl, rfl⟩
theorem openP_some (g : Nat) (v : (Option Addr)) (w : World) (h : w.cell? ⟨g, 0, none⟩ = some (encP v)) : Calls Try.prog 42 #[.pointer (some ⟨g, 0, none⟩)] w fun e w' => e = .returned (.tuple #[encP v, .bool true]) ∧ w = w' := by
  unfold encP at h ⊢
  go_enter Try.func42, Try.ntmps42
  go_wp2
  go_ret2
  exact ⟨rfl, rfl⟩

set_option maxHeartbeats 1000000 in
theorem PutP_yes (a C cap : Nat) (gs : List Nat) (v : (Option Addr)) (w : World) (h : Bx w a C cap gs) (hr : gs.length < cap) : Calls Try.prog 29 #[.pointer (some ⟨a, 0, none⟩), encP v] w (PutTo w a C cap gs (encP v)) := by
  have P := Lib.hid (putP_yes a C cap gs w.heap.size (w.alloc (.cells #[encP v] 54)) (h.alloc _) hr)
  have hC := h.lt
  have HC := Lib.hid h
  unfold encP at *
  clear h
  go_enter Try.func29, Try.ntmps29
  go_wp2_with fail
  refine P.out.mono ?_
  rintro e w' ⟨rfl, hb, hg⟩
  have R := Lib.hid (putTo_mk (w := w) (v := .pointer v) (ty := 54) HC.out hb hg)
  clear hb hg P
  go_wp2
  go_ret
  exact R.out
theorem PutP_no (a C cap : Nat) (gs : List Nat) (v : (Option Addr)) (w : World) (h : Bx w a C cap gs) (hr : cap ≤ gs.length) : Calls Try.prog 29 #[.pointer (some ⟨a, 0, none⟩), encP v] w fun e w' => e = .returned (.bool false) ∧ Below w.heap.size w w' := by
  have P := Lib.hid (putP_no a C cap gs w.heap.size (w.alloc (.cells #[encP v] 54)) (h.alloc _) hr)
  unfold encP at *
  clear h
  go_enter Try.func29, Try.ntmps29
  go_wp2_with fail
  refine P.out.mono ?_
  rintro e w' ⟨rfl, rfl⟩
  go_wp2
  go_ret
  exact ⟨rfl, (Below.refl _ _).alloc (Nat.le_refl _) _⟩
end Go.Proofs.Ytfdiclamjgldnaa
