/- A box of int: its state, New, Len, Room, Put, Take. -/
import Derived.Test.YtboilelkkiimoaaBoxChI
import Derived.Test.YtboilelkkiimoaaBoxState
import Derived.Conc.LoneSelectN
namespace Go.Proofs.Ytboilelkkiimoaa
open Go Go.RowKit Go.Conc

theorem bytesPI : ∃ i, Try.prog.info? 61 = some i ∧ i.bytes = 8 := by
  have h : (Try.prog.info? 61).map (·.bytes) = some 8 := by kernel_rfl
  obtain ⟨i, hi, hb⟩ := Option.map_eq_some_iff.1 h
  exact ⟨i, hi, hb⟩
theorem mkChanI (n : Nat) (hn : n ≤ 4096) (x : Int) (hx : x = n) (w : World) : (Instr.makeChan 54 (.int .i64 x)).run Try.prog w = .ok (.chan (some w.heap.size)) (w.alloc (.chan n #[] false 0 0 false)) := by
  obtain ⟨i, hi, hb⟩ := bytesPI
  subst hx
  exact run_makeChan (P := Try.prog) (w := w) Try.underlying54 hi .i64 n (by omega) (by rw [hb]; omega)

set_option maxHeartbeats 1000000 in
theorem newI (n : Int) (cap : Nat) (w : World) (hn : -9223372036854775808 ≤ n ∧ n ≤ 9223372036854775807) (hc : (cap : Int) = min (max n 0) 4096) : Calls Try.prog 7 #[.int .i64 n] w (NewTo w cap) := by
  obtain ⟨n1, n2⟩ := hn
  have hcap : cap ≤ 4096 := by omega
  rcases (show n < 0 ∧ cap = 0 ∨ (0 ≤ n ∧ n ≤ 4096) ∧ n = cap ∨ 4096 < n ∧ cap = 4096 by omega) with ⟨h1, rfl⟩ | ⟨⟨h1, h2⟩, rfl⟩ | ⟨h1, rfl⟩
  · have hmk := mkChanI 0 (by omega) 0 rfl
    clear hc
    go_enter Try.func7, Try.ntmps7
    go_wp2
    go_ret
    exact newTo_mk _ _ (by omega) _
  · have hmk := mkChanI cap hcap cap rfl
    clear hc
    go_enter Try.func7, Try.ntmps7
    go_wp2
    go_ret
    exact newTo_mk _ _ (by omega) _
  · have hmk := mkChanI 4096 (by omega) 4096 rfl
    clear hc
    go_enter Try.func7, Try.ntmps7
    go_wp2
    go_ret
    exact newTo_mk _ _ (by omega) _

theorem chanLenI (w : World) (C cap s r : Nat) (gs : List Nat) (h : w.heap[C]? = some (.chan cap (ptrs gs).toArray false s r false)) (ty : TypeId) : (Builtin.len_ #[54] ty #[.chan (some C)]).run Try.prog w = .ok (.int .i64 (gs.length : Nat)) w := by
  have := run_len_chan (P := Try.prog) 54 ty Try.underlying54 h
  simpa [goInt, ptrs] using this
theorem chanCapI (w : World) (C cap s r : Nat) (gs : List Nat) (h : w.heap[C]? = some (.chan cap (ptrs gs).toArray false s r false)) (ty : TypeId) : (Builtin.cap_ #[54] ty #[.chan (some C)]).run Try.prog w = .ok (.int .i64 (cap : Nat)) w := by
  have := run_cap_chan (P := Try.prog) 54 ty Try.underlying54 h
  simpa [goInt] using this

theorem lenI (a C cap : Nat) (gs : List Nat) (w : World) (h : Bx w a C cap gs) : Calls Try.prog 15 #[.pointer (some ⟨a, 0, none⟩)] w fun e w' => e = .returned (.int .i64 (gs.length : Nat)) ∧ w = w' := by
  obtain ⟨hl, ⟨s, r, hc⟩, _⟩ := h
  have hlen := chanLenI w C cap s r gs hc
  have L := Lib.hid (lineI_is a _ w hl)
  clear hl hc
  go_enter Try.func15, Try.ntmps15
  go_wp2_with fail
  refine L.out.mono ?_
  rintro e w' ⟨rfl, rfl⟩
  go_wp2
  go_ret
  exact ⟨rfl, rfl⟩
theorem roomI (a C cap : Nat) (gs : List Nat) (w : World) (h : Bx w a C cap gs) (hcap : cap ≤ 4096) : Calls Try.prog 16 #[.pointer (some ⟨a, 0, none⟩)] w fun e w' => e = .returned (.int .i64 ((cap - gs.length : Nat) : Int)) ∧ w = w' := by
  have LN := Lib.hid (lenI a C cap gs w h)
  obtain ⟨hl, ⟨s, r, hc⟩, hle⟩ := h
  have hlen := chanCapI w C cap s r gs hc
  have L := Lib.hid (lineI_is a _ w hl)
  have e : ((cap - gs.length : Nat) : Int) = (cap : Int) - (gs.length : Int) := by omega
  rw [e]
  clear hl hc e
  go_enter Try.func16, Try.ntmps16
  go_wp2_with fail
  refine L.out.mono ?_
  rintro e w' ⟨rfl, rfl⟩
  go_wp2_with fail
  refine LN.out.mono ?_
  rintro e w' ⟨rfl, rfl⟩
  go_wp2
  go_ret
  exact ⟨rfl, rfl⟩
theorem putI_yes (a C cap : Nat) (gs : List Nat) (g : Nat) (w : World) (h : Bx w a C cap gs) (hr : gs.length < cap) : Calls Try.prog 25 #[.pointer (some ⟨a, 0, none⟩), .pointer (some ⟨g, 0, none⟩)] w fun e w' => e = .returned (.bool true) ∧ Bx w' a C cap (gs ++ [g]) ∧ w.grownBy w' (some C) := by
  obtain ⟨s, r, hc⟩ := h.chan
  refine (putI_room _ g C cap s r gs w (lineI_is a _ w h.line) hc hr).mono ?_
  rintro e w' ⟨rfl, rfl⟩
  have e1 : ptrs gs ++ [Value.pointer (some ⟨g, 0, none⟩)] = ptrs (gs ++ [g]) := by simp [ptrs]
  rw [e1]
  exact ⟨rfl, h.set (gs ++ [g]) (by simp; omega) _ _, grown_setChan _ _ _ _ _ _⟩
theorem putI_no (a C cap : Nat) (gs : List Nat) (g : Nat) (w : World) (h : Bx w a C cap gs) (hr : cap ≤ gs.length) : Calls Try.prog 25 #[.pointer (some ⟨a, 0, none⟩), .pointer (some ⟨g, 0, none⟩)] w fun e w' => e = .returned (.bool false) ∧ w = w' := by
  obtain ⟨s, r, hc⟩ := h.chan
  exact putI_full _ g C cap s r gs w (lineI_is a _ w h.line) hc hr
theorem takeI_yes (a C cap : Nat) (gs : List Nat) (g : Nat) (w : World) (h : Bx w a C cap (g :: gs)) : Calls Try.prog 27 #[.pointer (some ⟨a, 0, none⟩)] w fun e w' => e = .returned (.pointer (some ⟨g, 0, none⟩)) ∧ Bx w' a C cap gs ∧ w.grownBy w' (some C) := by
  obtain ⟨s, r, hc⟩ := h.chan
  have hle := h.le
  simp only [List.length_cons] at hle
  refine (takeI_some _ g C cap s r gs w (lineI_is a _ w h.line) hc).mono ?_
  rintro e w' ⟨rfl, rfl⟩
  exact ⟨rfl, h.set gs (by omega) _ _, grown_setChan _ _ _ _ _ _⟩
theorem takeI_no (a C cap : Nat) (w : World) (h : Bx w a C cap []) : Calls Try.prog 27 #[.pointer (some ⟨a, 0, none⟩)] w fun e w' => e = .returned (.pointer none) ∧ w = w' := by
  obtain ⟨s, r, hc⟩ := h.chan
  exact takeI_none _ C cap s r w (lineI_is a _ w h.line) hc

def encI (v : Int) : Value := .int .i64 v
theorem openI_none (w : World) : Calls Try.prog 26 #[.pointer none] w fun e w' => e = .returned (.tuple #[encI 0, .bool false]) ∧ w = w' := by
  go_enter Try.func26, Try.ntmps26
  go_wp2
  go_ret2
  exact ⟨rfl, rfl⟩
theorem openI_some (g : Nat) (v : Int) (w : World) (h : w.cell? ⟨g, 0, none⟩ = some (encI v)) : Calls Try.prog 26 #[.pointer (some ⟨g, 0, none⟩)] w fun e w' => e = .returned (.tuple #[encI v, .bool true]) ∧ w = w' := by
  unfold encI at h ⊢
  go_enter Try.func26, Try.ntmps26
  go_wp2
  go_ret2
  exact ⟨rfl, rfl⟩

set_option maxHeartbeats 1000000 in
theorem PutI_yes (a C cap : Nat) (gs : List Nat) (v : Int) (w : World) (h : Bx w a C cap gs) (hr : gs.length < cap) : Calls Try.prog 8 #[.pointer (some ⟨a, 0, none⟩), encI v] w (PutTo w a C cap gs (encI v)) := by
  have P := Lib.hid (putI_yes a C cap gs w.heap.size (w.alloc (.cells #[encI v] 3)) (h.alloc _) hr)
  have hC := h.lt
  have HC := Lib.hid h
  unfold encI at *
  clear h
  go_enter Try.func8, Try.ntmps8
  go_wp2_with fail
  refine P.out.mono ?_
  rintro e w' ⟨rfl, hb, hg⟩
  have R := Lib.hid (putTo_mk (w := w) (v := .int .i64 v) (ty := 3) HC.out hb hg)
  clear hb hg P
  go_wp2
  go_ret
  exact R.out
theorem PutI_no (a C cap : Nat) (gs : List Nat) (v : Int) (w : World) (h : Bx w a C cap gs) (hr : cap ≤ gs.length) : Calls Try.prog 8 #[.pointer (some ⟨a, 0, none⟩), encI v] w fun e w' => e = .returned (.bool false) ∧ Below w.heap.size w w' := by
  have P := Lib.hid (putI_no a C cap gs w.heap.size (w.alloc (.cells #[encI v] 3)) (h.alloc _) hr)
  unfold encI at *
  clear h
  go_enter Try.func8, Try.ntmps8
  go_wp2_with fail
  refine P.out.mono ?_
  rintro e w' ⟨rfl, rfl⟩
  go_wp2
  go_ret
  exact ⟨rfl, (Below.refl _ _).alloc (Nat.le_refl _) _⟩
theorem TakeI_yes (a C cap : Nat) (gs : List Nat) (g : Nat) (v : Int) (w : World) (h : Bx w a C cap (g :: gs)) (hv : w.cell? ⟨g, 0, none⟩ = some (encI v)) :
    Calls Try.prog 9 #[.pointer (some ⟨a, 0, none⟩)] w fun e w' => e = .returned (.tuple #[encI v, .bool true]) ∧ Bx w' a C cap gs ∧ w.grownBy w' (some C) := by
  have P := Lib.hid (takeI_yes a C cap gs g w h)
  have HC := Lib.hid h; have HV := Lib.hid hv
  have O := Lib.hid (openI_some g v)
  unfold encI at *
  clear h hv
  go_enter Try.func9, Try.ntmps9
  go_wp2_with fail
  refine P.out.mono ?_
  rintro e w' ⟨rfl, hb, hg⟩
  have O2 := Lib.hid (O.out w' (HC.out.cell hg HV.out))
  have HB := Lib.hid hb; have HG := Lib.hid hg
  clear hb hg P O
  go_wp2_with fail
  refine O2.out.mono ?_
  rintro e w2 ⟨rfl, rfl⟩
  go_wp2
  go_ret2
  exact ⟨rfl, HB.out, HG.out⟩
theorem TakeI_no (a C cap : Nat) (w : World) (h : Bx w a C cap []) :
    Calls Try.prog 9 #[.pointer (some ⟨a, 0, none⟩)] w fun e w' => e = .returned (.tuple #[encI 0, .bool false]) ∧ w = w' := by
  have P := Lib.hid (takeI_no a C cap w h)
  have O2 := Lib.hid (openI_none w)
  unfold encI at *
  clear h
  go_enter Try.func9, Try.ntmps9
  go_wp2_with fail
  refine P.out.mono ?_
  rintro e w' ⟨rfl, rfl⟩
  go_wp2_with fail
  refine O2.out.mono ?_
  rintro e w2 ⟨rfl, rfl⟩
  go_wp2
  go_ret2
  exact ⟨rfl, rfl⟩
end Go.Proofs.Ytboilelkkiimoaa
