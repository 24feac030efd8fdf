/- The channel of a box of *scholia/lanes.message: line, put, take, Len, Room. -/
import Derived.Test.YtfdiclamjgldnaaBoxPlain
namespace Go.Proofs.Ytfdiclamjgldnaa
open Go Go.RowKit Go.Conc

theorem lineP_nil (w : World) : Calls Try.prog 36 #[.pointer none] w fun e w' => e = .returned (.chan none) ∧ w = w' := by
  go_enter Try.func36, Try.ntmps36
  go_wp2
  go_ret
  exact ⟨rfl, rfl⟩
theorem lineP_is (a : Nat) (v : Value) (w : World) (h : w.cell? ⟨a, 0, none⟩ = some v) : Calls Try.prog 36 #[.pointer (some ⟨a, 0, none⟩)] w fun e w' => e = .returned v ∧ w = w' := by
  go_enter Try.func36, Try.ntmps36
  go_wp2
  go_ret
  exact ⟨rfl, rfl⟩

set_option maxRecDepth 100000 in
theorem putP_room (p : Option Addr) (g C cap s r : Nat) (gs : List Nat) (w : World) (hl : Calls Try.prog 36 #[.pointer p] w fun e w' => e = .returned (.chan (some C)) ∧ w = w') (h : w.heap[C]? = some (.chan cap (ptrs gs).toArray false s r false)) (hroom : gs.length < cap) :
    Calls Try.prog 37 #[.pointer p, .pointer (some ⟨g, 0, none⟩)] w fun e w' => e = .returned (.bool true) ∧ (w.setChan C cap (ptrs gs ++ [Value.pointer (some ⟨g, 0, none⟩)]).toArray false (s + 1) r false) = w' := by
  refine calls_of_loneTo fun cs => ?_
  have e : Frame.enter Try.prog 37 #[.pointer p, .pointer (some ⟨g, 0, none⟩)] .normal = (base 37).at ⟨#[.pointer p, .pointer (some ⟨g, 0, none⟩), undef, undef, undef, undef, undef, undef, undef, undef, undef], []⟩ [.code (Try.f37.body.getD .skip)] := by
    simp [Frame.enter, Frame.at, Try.func37, base, Try.f37]
  rw [e]
  refine LoneTo.goes (n := 20) ?_
  simp only [Try.f37, Option.getD_some]
  s_c stepG_seq
  s_reg
  s_op
  s_c stepG_region_end
  s_c stepG_seq
  s_c stepG_seq
  s_reg
  s_op
  s_in
  refine goes_call rfl rfl (by decide) rfl Try.func36 (by kernel_rfl) rfl ⟨trivial, ?_⟩
  s_stop
  refine LoneTo.calls Try.func36 rfl ?ha hl ?_
  case ha => simp [Act.eval]
  walk_nrm
  refine LoneTo.goes (n := 20) ?_
  s_c stepG_region_end
  s_reg
  s_op
  s_c stepG_region_end
  s_c stepG_seq
  s_reg
  s_stop
  refine LoneTo.step (step_lone_select_send_room (c := C) (cap := cap) (buf := (ptrs gs).toArray) (s := s) (r := r) (tm := false) (stepG_comm (cases := #[scase C (.pointer (some ⟨g, 0, none⟩)) (.pointer none)]) (blocking := false) (shape := .select) (w' := w) rfl rfl (by decide) (by simp [go_sem, execOp, scase, Act.eval])) h (by simpa [ptrs] using hroom)) ?_
  rw [Frame.finish_at]
  walk_nrm
  refine LoneTo.goes (n := 20) ?_
  s_op
  s_op
  s_c stepG_region_end
  s_c stepG_block
  s_cond true
  s_c stepG_seq
  s_reg
  s_op
  s_c stepG_region_end
  s_c stepG_ret'
  s_stop
  refine LoneTo.done ⟨.returned (.bool true), _, rfl, ⟨rfl, rfl⟩, rfl, rfl, rfl, rfl, _, Try.func37, by simp [results, Try.f37, Frame.at]⟩

set_option maxRecDepth 100000 in
theorem putP_full (p : Option Addr) (g C cap s r : Nat) (gs : List Nat) (w : World) (hl : Calls Try.prog 36 #[.pointer p] w fun e w' => e = .returned (.chan (some C)) ∧ w = w') (h : w.heap[C]? = some (.chan cap (ptrs gs).toArray false s r false)) (hfull : cap ≤ gs.length) :
    Calls Try.prog 37 #[.pointer p, .pointer (some ⟨g, 0, none⟩)] w fun e w' => e = .returned (.bool false) ∧ w = w' := by
  refine calls_of_loneTo fun cs => ?_
  have e : Frame.enter Try.prog 37 #[.pointer p, .pointer (some ⟨g, 0, none⟩)] .normal = (base 37).at ⟨#[.pointer p, .pointer (some ⟨g, 0, none⟩), undef, undef, undef, undef, undef, undef, undef, undef, undef], []⟩ [.code (Try.f37.body.getD .skip)] := by
    simp [Frame.enter, Frame.at, Try.func37, base, Try.f37]
  rw [e]
  refine LoneTo.goes (n := 20) ?_
  simp only [Try.f37, Option.getD_some]
  s_c stepG_seq
  s_reg
  s_op
  s_c stepG_region_end
  s_c stepG_seq
  s_c stepG_seq
  s_reg
  s_op
  s_in
  refine goes_call rfl rfl (by decide) rfl Try.func36 (by kernel_rfl) rfl ⟨trivial, ?_⟩
  s_stop
  refine LoneTo.calls Try.func36 rfl ?ha hl ?_
  case ha => simp [Act.eval]
  walk_nrm
  refine LoneTo.goes (n := 20) ?_
  s_c stepG_region_end
  s_reg
  s_op
  s_c stepG_region_end
  s_c stepG_seq
  s_reg
  s_stop
  refine LoneTo.step (step_lone_select_send_full (c := C) (cap := cap) (buf := (ptrs gs).toArray) (s := s) (r := r) (tm := false) (stepG_comm (cases := #[scase C (.pointer (some ⟨g, 0, none⟩)) (.pointer none)]) (blocking := false) (shape := .select) (w' := w) rfl rfl (by decide) (by simp [go_sem, execOp, scase, Act.eval])) h (by simpa [ptrs] using hfull)) ?_
  rw [Frame.finish_at]
  walk_nrm
  refine LoneTo.goes (n := 20) ?_
  s_op
  s_op
  s_c stepG_region_end
  s_c stepG_block
  s_cond false
  s_c stepG_seq
  s_reg
  s_op
  s_c stepG_region_end
  s_c stepG_ret'
  s_stop
  refine LoneTo.done ⟨.returned (.bool false), _, rfl, ⟨rfl, rfl⟩, rfl, rfl, rfl, rfl, _, Try.func37, by simp [results, Try.f37, Frame.at]⟩

set_option maxRecDepth 100000 in
theorem putP_nil (p : Option Addr) (g : Nat) (w : World) (hl : Calls Try.prog 36 #[.pointer p] w fun e w' => e = .returned (.chan none) ∧ w = w')  :
    Calls Try.prog 37 #[.pointer p, .pointer (some ⟨g, 0, none⟩)] w fun e w' => e = .returned (.bool false) ∧ w = w' := by
  refine calls_of_loneTo fun cs => ?_
  have e : Frame.enter Try.prog 37 #[.pointer p, .pointer (some ⟨g, 0, none⟩)] .normal = (base 37).at ⟨#[.pointer p, .pointer (some ⟨g, 0, none⟩), undef, undef, undef, undef, undef, undef, undef, undef, undef], []⟩ [.code (Try.f37.body.getD .skip)] := by
    simp [Frame.enter, Frame.at, Try.func37, base, Try.f37]
  rw [e]
  refine LoneTo.goes (n := 20) ?_
  simp only [Try.f37, Option.getD_some]
  s_c stepG_seq
  s_reg
  s_op
  s_c stepG_region_end
  s_c stepG_seq
  s_c stepG_seq
  s_reg
  s_op
  s_in
  refine goes_call rfl rfl (by decide) rfl Try.func36 (by kernel_rfl) rfl ⟨trivial, ?_⟩
  s_stop
  refine LoneTo.calls Try.func36 rfl ?ha hl ?_
  case ha => simp [Act.eval]
  walk_nrm
  refine LoneTo.goes (n := 20) ?_
  s_c stepG_region_end
  s_reg
  s_op
  s_c stepG_region_end
  s_c stepG_seq
  s_reg
  s_stop
  refine LoneTo.step (step_lone_select_send_nil (stepG_comm (cases := #[scaseNil (.pointer (some ⟨g, 0, none⟩)) (.pointer none)]) (blocking := false) (shape := .select) (w' := w) rfl rfl (by decide) (by simp [go_sem, execOp, scaseNil, Act.eval]))) ?_
  rw [Frame.finish_at]
  walk_nrm
  refine LoneTo.goes (n := 20) ?_
  s_op
  s_op
  s_c stepG_region_end
  s_c stepG_block
  s_cond false
  s_c stepG_seq
  s_reg
  s_op
  s_c stepG_region_end
  s_c stepG_ret'
  s_stop
  refine LoneTo.done ⟨.returned (.bool false), _, rfl, ⟨rfl, rfl⟩, rfl, rfl, rfl, rfl, _, Try.func37, by simp [results, Try.f37, Frame.at]⟩

set_option maxRecDepth 100000 in
theorem zero_ptrP (w : World) : (zeroValue 78).run Try.prog w = .ok (.pointer none) w := by kernel_rfl
set_option maxRecDepth 100000 in
theorem takeP_some (p : Option Addr) (g C cap s r : Nat) (gs : List Nat) (w : World) (hl : Calls Try.prog 36 #[.pointer p] w fun e w' => e = .returned (.chan (some C)) ∧ w = w') (h : w.heap[C]? = some (.chan cap (ptrs (g :: gs)).toArray false s r false)) :
    Calls Try.prog 44 #[.pointer p] w fun e w' => e = .returned (.pointer (some ⟨g, 0, none⟩)) ∧ (w.setChan C cap (ptrs gs).toArray false s (r + 1) false) = w' := by
  refine calls_of_loneTo fun cs => ?_
  have e : Frame.enter Try.prog 44 #[.pointer p] .normal = (base 44).at ⟨#[.pointer p, undef, undef, undef, undef, undef, undef, undef, undef, undef, undef], []⟩ [.code (Try.f44.body.getD .skip)] := by
    simp [Frame.enter, Frame.at, Try.func44, base, Try.f44]
  rw [e]
  have hz := zero_ptrP
  refine LoneTo.goes (n := 20) ?_
  simp only [Try.f44, Option.getD_some]
  s_c stepG_seq
  s_reg
  s_op
  s_c stepG_region_end
  s_c stepG_seq
  s_reg
  s_op
  s_in
  refine goes_call rfl rfl (by decide) rfl Try.func36 (by kernel_rfl) rfl ⟨trivial, ?_⟩
  s_stop
  refine LoneTo.calls Try.func36 rfl ?ha hl ?_
  case ha => simp [Act.eval]
  walk_nrm
  refine LoneTo.goes (n := 20) ?_
  s_c stepG_region_end
  s_c stepG_seq
  s_reg
  s_stop
  refine LoneTo.step (step_lone_select_recv_buf (c := C) (cap := cap) (buf := (ptrs (g :: gs)).toArray) (closed := false) (s := s) (r := r) (tm := false) (z := .pointer none) (stepG_comm (cases := #[rcase C (.pointer none)]) (blocking := false) (shape := .select) (w' := w) rfl rfl (by decide) (by simp [go_sem, execOp, rcase, Act.eval, hz])) h (by simp [ptrs])) ?_
  rw [Frame.finish_at]
  walk_nrm
  refine LoneTo.goes (n := 20) ?_
  s_op
  s_op
  s_c stepG_region_end
  s_c stepG_block
  s_cond true
  s_c stepG_seq
  s_reg
  s_op
  s_op
  s_c stepG_region_end
  s_c stepG_seq
  s_reg
  s_op
  s_op
  s_c stepG_region_end
  s_c stepG_ret'
  s_stop
  refine LoneTo.done ⟨.returned (.pointer (some ⟨g, 0, none⟩)), _, rfl, ⟨rfl, ?_⟩, rfl, rfl, rfl, rfl, _, Try.func44, by simp [results, Try.f44, Frame.at, ptrs]⟩
  simp [ptrs, List.take_of_length_le]

set_option maxRecDepth 100000 in
theorem takeP_none (p : Option Addr) (C cap s r : Nat) (w : World) (hl : Calls Try.prog 36 #[.pointer p] w fun e w' => e = .returned (.chan (some C)) ∧ w = w') (h : w.heap[C]? = some (.chan cap #[] false s r false)) :
    Calls Try.prog 44 #[.pointer p] w fun e w' => e = .returned (.pointer none) ∧ w = w' := by
  refine calls_of_loneTo fun cs => ?_
  have e : Frame.enter Try.prog 44 #[.pointer p] .normal = (base 44).at ⟨#[.pointer p, undef, undef, undef, undef, undef, undef, undef, undef, undef, undef], []⟩ [.code (Try.f44.body.getD .skip)] := by
    simp [Frame.enter, Frame.at, Try.func44, base, Try.f44]
  rw [e]
  have hz := zero_ptrP
  refine LoneTo.goes (n := 20) ?_
  simp only [Try.f44, Option.getD_some]
  s_c stepG_seq
  s_reg
  s_op
  s_c stepG_region_end
  s_c stepG_seq
  s_reg
  s_op
  s_in
  refine goes_call rfl rfl (by decide) rfl Try.func36 (by kernel_rfl) rfl ⟨trivial, ?_⟩
  s_stop
  refine LoneTo.calls Try.func36 rfl ?ha hl ?_
  case ha => simp [Act.eval]
  walk_nrm
  refine LoneTo.goes (n := 20) ?_
  s_c stepG_region_end
  s_c stepG_seq
  s_reg
  s_stop
  refine LoneTo.step (step_lone_select_default (c := C) (cap := cap) (s := s) (r := r) (tm := false) (z := .pointer none) (stepG_comm (cases := #[rcase C (.pointer none)]) (blocking := false) (shape := .select) (w' := w) rfl rfl (by decide) (by simp [go_sem, execOp, rcase, Act.eval, hz])) h) ?_
  rw [Frame.finish_at]
  walk_nrm
  refine LoneTo.goes (n := 20) ?_
  s_op
  s_op
  s_c stepG_region_end
  s_c stepG_block
  s_cond false
  s_c stepG_seq
  s_reg
  s_op
  s_c stepG_region_end
  s_c stepG_ret'
  s_stop
  refine LoneTo.done ⟨.returned (.pointer none), _, rfl, ⟨rfl, ?_⟩, rfl, rfl, rfl, rfl, _, Try.func44, by simp [results, Try.f44, Frame.at, ptrs]⟩
  rfl

set_option maxRecDepth 100000 in
theorem takeP_nil (p : Option Addr) (w : World) (hl : Calls Try.prog 36 #[.pointer p] w fun e w' => e = .returned (.chan none) ∧ w = w')  :
    Calls Try.prog 44 #[.pointer p] w fun e w' => e = .returned (.pointer none) ∧ w = w' := by
  refine calls_of_loneTo fun cs => ?_
  have e : Frame.enter Try.prog 44 #[.pointer p] .normal = (base 44).at ⟨#[.pointer p, undef, undef, undef, undef, undef, undef, undef, undef, undef, undef], []⟩ [.code (Try.f44.body.getD .skip)] := by
    simp [Frame.enter, Frame.at, Try.func44, base, Try.f44]
  rw [e]
  have hz := zero_ptrP
  refine LoneTo.goes (n := 20) ?_
  simp only [Try.f44, Option.getD_some]
  s_c stepG_seq
  s_reg
  s_op
  s_c stepG_region_end
  s_c stepG_seq
  s_reg
  s_op
  s_in
  refine goes_call rfl rfl (by decide) rfl Try.func36 (by kernel_rfl) rfl ⟨trivial, ?_⟩
  s_stop
  refine LoneTo.calls Try.func36 rfl ?ha hl ?_
  case ha => simp [Act.eval]
  walk_nrm
  refine LoneTo.goes (n := 20) ?_
  s_c stepG_region_end
  s_c stepG_seq
  s_reg
  s_stop
  refine LoneTo.step (step_lone_select_recv_nil (z := .pointer none) (stepG_comm (cases := #[rcaseNil (.pointer none)]) (blocking := false) (shape := .select) (w' := w) rfl rfl (by decide) (by simp [go_sem, execOp, rcaseNil, Act.eval, hz]))) ?_
  rw [Frame.finish_at]
  walk_nrm
  refine LoneTo.goes (n := 20) ?_
  s_op
  s_op
  s_c stepG_region_end
  s_c stepG_block
  s_cond false
  s_c stepG_seq
  s_reg
  s_op
  s_c stepG_region_end
  s_c stepG_ret'
  s_stop
  refine LoneTo.done ⟨.returned (.pointer none), _, rfl, ⟨rfl, ?_⟩, rfl, rfl, rfl, rfl, _, Try.func44, by simp [results, Try.f44, Frame.at, ptrs]⟩
  rfl

end Go.Proofs.Ytfdiclamjgldnaa
