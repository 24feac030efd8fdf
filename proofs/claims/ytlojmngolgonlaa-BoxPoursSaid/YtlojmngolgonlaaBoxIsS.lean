/- A box of string: its state, New, Len, Room, Put, Take. -/
import Derived.Test.YtlojmngolgonlaaBoxChS
import Derived.Test.YtlojmngolgonlaaBoxState
import Derived.Conc.LoneSelectN
namespace Go.Proofs.Ytlojmngolgonlaa
open Go Go.RowKit Go.Conc

theorem bytesPS : ∃ i, Try.prog.info? 71 = some i ∧ i.bytes = 8 := by
  have h : (Try.prog.info? 71).map (·.bytes) = some 8 := by kernel_rfl
  obtain ⟨i, hi, hb⟩ := Option.map_eq_some_iff.1 h
  exact ⟨i, hi, hb⟩
theorem mkChanS (n : Nat) (hn : n ≤ 4096) (x : Int) (hx : x = n) (w : World) : (Instr.makeChan 68 (.int .i64 x)).run Try.prog w = .ok (.chan (some w.heap.size)) (w.alloc (.chan n #[] false 0 0 false)) := by
  obtain ⟨i, hi, hb⟩ := bytesPS
  subst hx
  exact run_makeChan (P := Try.prog) (w := w) Try.underlying68 hi .i64 n (by omega) (by rw [hb]; omega)

set_option maxHeartbeats 1000000 in
theorem newS (n : Int) (cap : Nat) (w : World) (hn : -9223372036854775808 ≤ n ∧ n ≤ 9223372036854775807) (hc : (cap : Int) = min (max n 0) 4096) : Calls Try.prog 32 #[.int .i64 n] w (NewTo w cap) := by
  obtain ⟨n1, n2⟩ := hn
  have hcap : cap ≤ 4096 := by omega
  rcases (show n < 0 ∧ cap = 0 ∨ (0 ≤ n ∧ n ≤ 4096) ∧ n = cap ∨ 4096 < n ∧ cap = 4096 by omega) with ⟨h1, rfl⟩ | ⟨⟨h1, h2⟩, rfl⟩ | ⟨h1, rfl⟩
  · have hmk := mkChanS 0 (by omega) 0 rfl
    clear hc
    go_enter Try.func32, Try.ntmps32
    go_wp2
    go_ret
    exact newTo_mk _ _ (by omega) _
  · have hmk := mkChanS cap hcap cap rfl
    clear hc
    go_enter Try.func32, Try.ntmps32
    go_wp2
    go_ret
    exact newTo_mk _ _ (by omega) _
  · have hmk := mkChanS 4096 (by omega) 4096 rfl
    clear hc
    go_enter Try.func32, Try.ntmps32
    go_wp2
    go_ret
    exact newTo_mk _ _ (by omega) _

theorem chanLenS (w : World) (C cap s r : Nat) (gs : List Nat) (h : w.heap[C]? = some (.chan cap (ptrs gs).toArray false s r false)) (ty : TypeId) : (Builtin.len_ #[68] ty #[.chan (some C)]).run Try.prog w = .ok (.int .i64 (gs.length : Nat)) w := by
  have := run_len_chan (P := Try.prog) 68 ty Try.underlying68 h
  simpa [goInt, ptrs] using this
theorem chanCapS (w : World) (C cap s r : Nat) (gs : List Nat) (h : w.heap[C]? = some (.chan cap (ptrs gs).toArray false s r false)) (ty : TypeId) : (Builtin.cap_ #[68] ty #[.chan (some C)]).run Try.prog w = .ok (.int .i64 (cap : Nat)) w := by
  have := run_cap_chan (P := Try.prog) 68 ty Try.underlying68 h
  simpa [goInt] using this

theorem lenS (a C cap : Nat) (gs : List Nat) (w : World) (h : Bx w a C cap gs) : Calls Try.prog 35 #[.pointer (some ⟨a, 0, none⟩)] w fun e w' => e = .returned (.int .i64 (gs.length : Nat)) ∧ w = w' := by
  obtain ⟨hl, ⟨s, r, hc⟩, _⟩ := h
  have hlen := chanLenS w C cap s r gs hc
  have L := Lib.hid (lineS_is a _ w hl)
  clear hl hc
  go_enter Try.func35, Try.ntmps35
  go_wp2_with fail
  refine L.out.mono ?_
  rintro e w' ⟨rfl, rfl⟩
  go_wp2
  go_ret
  exact ⟨rfl, rfl⟩
theorem roomS (a C cap : Nat) (gs : List Nat) (w : World) (h : Bx w a C cap gs) (hcap : cap ≤ 4096) : Calls Try.prog 36 #[.pointer (some ⟨a, 0, none⟩)] w fun e w' => e = .returned (.int .i64 ((cap - gs.length : Nat) : Int)) ∧ w = w' := by
  have LN := Lib.hid (lenS a C cap gs w h)
  obtain ⟨hl, ⟨s, r, hc⟩, hle⟩ := h
  have hlen := chanCapS w C cap s r gs hc
  have L := Lib.hid (lineS_is a _ w hl)
  have e : ((cap - gs.length : Nat) : Int) = (cap : Int) - (gs.length : Int) := by omega
  rw [e]
  clear hl hc e
  go_enter Try.func36, Try.ntmps36
  go_wp2_with fail
  refine L.out.mono ?_
  rintro e w' ⟨rfl, rfl⟩
  go_wp2_with fail
  refine LN.out.mono ?_
  rintro e w' ⟨rfl, rfl⟩
  go_wp2
  go_ret
  exact ⟨rfl, rfl⟩
theorem putS_yes (a C cap : Nat) (gs : List Nat) (g : Nat) (w : World) (h : Bx w a C cap gs) (hr : gs.length < cap) : Calls Try.prog 37 #[.pointer (some ⟨a, 0, none⟩), .pointer (some ⟨g, 0, none⟩)] w fun e w' => e = .returned (.bool true) ∧ Bx w' a C cap (gs ++ [g]) ∧ w.grownBy w' (some C) := by
  obtain ⟨s, r, hc⟩ := h.chan
  refine (putS_room _ g C cap s r gs w (lineS_is a _ w h.line) hc hr).mono ?_
  rintro e w' ⟨rfl, rfl⟩
  have e1 : ptrs gs ++ [Value.pointer (some ⟨g, 0, none⟩)] = ptrs (gs ++ [g]) := by simp [ptrs]
  rw [e1]
  exact ⟨rfl, h.set (gs ++ [g]) (by simp; omega) _ _, grown_setChan _ _ _ _ _ _⟩
theorem putS_no (a C cap : Nat) (gs : List Nat) (g : Nat) (w : World) (h : Bx w a C cap gs) (hr : cap ≤ gs.length) : Calls Try.prog 37 #[.pointer (some ⟨a, 0, none⟩), .pointer (some ⟨g, 0, none⟩)] w fun e w' => e = .returned (.bool false) ∧ w = w' := by
  obtain ⟨s, r, hc⟩ := h.chan
  exact putS_full _ g C cap s r gs w (lineS_is a _ w h.line) hc hr
theorem takeS_yes (a C cap : Nat) (gs : List Nat) (g : Nat) (w : World) (h : Bx w a C cap (g :: gs)) : Calls Try.prog 38 #[.pointer (some ⟨a, 0, none⟩)] w fun e w' => e = .returned (.pointer (some ⟨g, 0, none⟩)) ∧ Bx w' a C cap gs ∧ w.grownBy w' (some C) := by
  obtain ⟨s, r, hc⟩ := h.chan
  have hle := h.le
  simp only [List.length_cons] at hle
  refine (takeS_some _ g C cap s r gs w (lineS_is a _ w h.line) hc).mono ?_
  rintro e w' ⟨rfl, rfl⟩
  exact ⟨rfl, h.set gs (by omega) _ _, grown_setChan _ _ _ _ _ _⟩
theorem takeS_no (a C cap : Nat) (w : World) (h : Bx w a C cap []) : Calls Try.prog 38 #[.pointer (some ⟨a, 0, none⟩)] w fun e w' => e = .returned (.pointer none) ∧ w = w' := by
  obtain ⟨s, r, hc⟩ := h.chan
  exact takeS_none _ C cap s r w (lineS_is a _ w h.line) hc

def encS (v : ByteArray) : Value := .string v
theorem openS_none (w : World) : Calls Try.prog 43 #[.pointer none] w fun e w' => e = .returned (.tuple #[encS ByteArray.empty, .bool false]) ∧ w = w' := by
  go_enter Try.func43, Try.ntmps43
  go_wp2
  go_ret2
  exact ⟨rfl, rfl⟩
theorem openS_some (g : Nat) (v : ByteArray) (w : World) (h : w.cell? ⟨g, 0, none⟩ = some (encS v)) : Calls Try.prog 43 #[.pointer (some ⟨g, 0, none⟩)] w fun e w' => e = .returned (.tuple #[encS v, .bool true]) ∧ w = w' := by
  unfold encS at h ⊢
  go_enter Try.func43, Try.ntmps43
  go_wp2
  go_ret2
  exact ⟨rfl, rfl⟩

set_option maxHeartbeats 1000000 in
theorem PutS_yes (a C cap : Nat) (gs : List Nat) (v : ByteArray) (w : World) (h : Bx w a C cap gs) (hr : gs.length < cap) : Calls Try.prog 33 #[.pointer (some ⟨a, 0, none⟩), encS v] w (PutTo w a C cap gs (encS v)) := by
  have P := Lib.hid (putS_yes a C cap gs w.heap.size (w.alloc (.cells #[encS v] 9)) (h.alloc _) hr)
  have hC := h.lt
  have HC := Lib.hid h
  unfold encS at *
  clear h
  go_enter Try.func33, Try.ntmps33
  go_wp2_with fail
  refine P.out.mono ?_
  rintro e w' ⟨rfl, hb, hg⟩
  have R := Lib.hid (putTo_mk (w := w) (v := .string v) (ty := 9) HC.out hb hg)
  clear hb hg P
  go_wp2
  go_ret
  exact R.out
theorem PutS_no (a C cap : Nat) (gs : List Nat) (v : ByteArray) (w : World) (h : Bx w a C cap gs) (hr : cap ≤ gs.length) : Calls Try.prog 33 #[.pointer (some ⟨a, 0, none⟩), encS v] w fun e w' => e = .returned (.bool false) ∧ Below w.heap.size w w' := by
  have P := Lib.hid (putS_no a C cap gs w.heap.size (w.alloc (.cells #[encS v] 9)) (h.alloc _) hr)
  unfold encS at *
  clear h
  go_enter Try.func33, Try.ntmps33
  go_wp2_with fail
  refine P.out.mono ?_
  rintro e w' ⟨rfl, rfl⟩
  go_wp2
  go_ret
  exact ⟨rfl, (Below.refl _ _).alloc (Nat.le_refl _) _⟩
theorem TakeS_yes (a C cap : Nat) (gs : List Nat) (g : Nat) (v : ByteArray) (w : World) (h : Bx w a C cap (g :: gs)) (hv : w.cell? ⟨g, 0, none⟩ = some (encS v)) :
    Calls Try.prog 42 #[.pointer (some ⟨a, 0, none⟩)] w fun e w' => e = .returned (.tuple #[encS v, .bool true]) ∧ Bx w' a C cap gs ∧ w.grownBy w' (some C) := by
  have P := Lib.hid (takeS_yes a C cap gs g w h)
  have HC := Lib.hid h; have HV := Lib.hid hv
  have O := Lib.hid (openS_some g v)
  unfold encS at *
  clear h hv
  go_enter Try.func42, Try.ntmps42
  go_wp2_with fail
  refine P.out.mono ?_
  rintro e w' ⟨rfl, hb, hg⟩
  have O2 := Lib.hid (O.out w' (HC.out.cell hg HV.out))
  have HB := Lib.hid hb; have HG := Lib.hid hg
  clear hb hg P O
  go_wp2_with fail
  refine O2.out.mono ?_
  rintro e w2 ⟨rfl, rfl⟩
  go_wp2
  go_ret2
  exact ⟨rfl, HB.out, HG.out⟩
theorem TakeS_no (a C cap : Nat) (w : World) (h : Bx w a C cap []) :
    Calls Try.prog 42 #[.pointer (some ⟨a, 0, none⟩)] w fun e w' => e = .returned (.tuple #[encS ByteArray.empty, .bool false]) ∧ w = w' := by
  have P := Lib.hid (takeS_no a C cap w h)
  have O2 := Lib.hid (openS_none w)
  unfold encS at *
  clear h
  go_enter Try.func42, Try.ntmps42
  go_wp2_with fail
  refine P.out.mono ?_
  rintro e w' ⟨rfl, rfl⟩
  go_wp2_with fail
  refine O2.out.mono ?_
  rintro e w2 ⟨rfl, rfl⟩
  go_wp2
  go_ret2
  exact ⟨rfl, rfl⟩
end Go.Proofs.Ytlojmngolgonlaa
