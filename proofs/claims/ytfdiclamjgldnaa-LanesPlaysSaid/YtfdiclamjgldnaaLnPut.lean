/- Lanes: Put and Pull of a way's box, a message turned, in terms of the state. -/
import Derived.Test.YtfdiclamjgldnaaLnBytes
namespace Go.Proofs.Ytfdiclamjgldnaa
open Go Go.RowKit Go.Conc
set_option linter.unusedVariables false

theorem MsgAt.mono {w : World} {B B' m : Nat} {x : Mg} (h : MsgAt w B m x) (hB : B' ≤ B) : MsgAt w B' m x := by
  obtain ⟨hb, v, ho, hrow, hok⟩ := h
  exact ⟨Nat.le_trans hB hb, v, ho, own_mono hrow hB, hok⟩
theorem mptrs_append (ms : List Nat) (m : Nat) : mptrs (ms ++ [m]) = mptrs ms ++ [some ⟨m, 0, none⟩] := by simp [mptrs]
theorem mptrs_erase (ms : List Nat) (k : Nat) : (mptrs ms).eraseIdx k = mptrs (ms.eraseIdx k) := by
  induction ms generalizing k with
  | nil => rfl
  | cons m ms ih =>
    cases k with
    | zero => rfl
    | succ k => simp only [mptrs, List.map_cons, List.eraseIdx_cons_succ]; rw [show List.map (fun m => (some ⟨m, 0, none⟩ : Option Addr)) ms = mptrs ms from rfl, ih]; rfl
/-- what a way has, turned -/
def OneMore (D D' : Wy → Wd) (k : Wy) (xs : List Mg) : Prop := ∀ j, (D' j).xs = if j = k then xs else (D j).xs
theorem oneMore_upd (D : Wy → Wd) (k : Wy) (d : Wd) : OneMore D (updW D k d) k d.xs := fun j => by
  unfold updW; split <;> rfl
def PutLs (w : World) (B A M c : Nat) (es : List Went) (D : Wy → Wd) (S L : Int) (k : Wy) (x : Mg) (e : Ending) (w' : World) : Prop :=
  e = .returned (.bool true) ∧ (∃ D', Ls w' B A M c es D' S L ∧ OneMore D D' k ((D k).xs ++ [x])) ∧ Bel B w w'
theorem Ls.put {w : World} {B A M c : Nat} {es : List Went} {D : Wy → Wd} {S L : Int} (h : Ls w B A M c es D S L) (k : Wy) (a b : Nat) (he : (k, a, b) ∈ es) (m : Nat) (x : Mg) (hm : MsgAt w B m x) (hf : ∀ e ∈ es, m ∉ (D e.1).ms) (hlt : (D k).xs.length < 40) :
    Calls Try.prog 29 #[.pointer (some ⟨a, 0, none⟩), .pointer (some ⟨m, 0, none⟩)] w (PutLs w B A M c es D S L k x) := by
  have hy := h.way _ he
  refine (PutP_yes a (D k).C 40 (D k).gs (some ⟨m, 0, none⟩) w hy.box (by have : (D k).gs.length = (D k).xs.length := hy.len; omega)).mono ?_
  rintro e w' ⟨rfl, g, hg, hcell, hb, hgr⟩
  obtain ⟨s, r, hc⟩ := hy.box.chan
  have hr : ∀ j, some (D k).C = some j → Off w j := fun j q => by obtain rfl := Option.some.inj q; exact off_chan hc
  have neC : ∀ j, MsgAt w B j x → some j ≠ some (D k).C := fun j hj q => by
    obtain ⟨_, v, hv, _⟩ := hj
    rw [Option.some.inj q] at hv
    rw [hc] at hv; cases hv
  have hmsgs : MsgsAt w' B (D k).ms (D k).xs := hy.msgs.kept hgr hr (fun j hj q => by
    obtain ⟨_, v, hv, _⟩ := hy.msgs.ge j hj
    rw [Option.some.inj q, hc] at hv; cases hv)
  refine ⟨rfl, ⟨updW D k ⟨(D k).C, (D k).gs ++ [g], (D k).ms ++ [m], (D k).xs ++ [x]⟩, ?_, oneMore_upd D k _⟩, h.under he hgr⟩
  refine h.box_to he _ rfl hgr ⟨hb, ?_, hmsgs.append (hm.kept hgr (neC m hm) hr), hy.bC⟩ ?_ ?_
  · show Vals encP w' ((D k).gs ++ [g]) (mptrs ((D k).ms ++ [m]))
    rw [mptrs_append]
    exact Vals.append (enc := encP) (w := w') (g2 := [g]) (v2 := [some ⟨m, 0, none⟩]) ⟨hcell, trivial⟩ (hy.vals.cell hy.box hgr)
  · intro j hj
    rcases List.mem_append.1 hj with hj | hj
    · exact .inl hj
    · obtain rfl := List.mem_singleton.1 hj
      exact .inr hf
  · show ((D k).ms ++ [m]).Nodup
    rw [List.nodup_append]
    refine ⟨h.ndM _ he, by simp, fun a1 h1 b1 h2 q => ?_⟩
    obtain rfl := List.mem_singleton.1 h2
    subst q
    exact hf _ he h1
theorem Ls.full {w : World} {B A M c : Nat} {es : List Went} {D : Wy → Wd} {S L : Int} (h : Ls w B A M c es D S L) (k : Wy) (a b : Nat) (he : (k, a, b) ∈ es) (m : Nat) (hlt : ¬ (D k).xs.length < 40) :
    Calls Try.prog 29 #[.pointer (some ⟨a, 0, none⟩), .pointer (some ⟨m, 0, none⟩)] w fun e w' => e = .returned (.bool false) ∧ Below w.heap.size w w' := by
  have hy := h.way _ he
  exact PutP_no a (D k).C 40 (D k).gs (some ⟨m, 0, none⟩) w hy.box (by have : (D k).gs.length = (D k).xs.length := hy.len; omega)
theorem leftK_in {α : Type} (l : List α) (k : Nat) (hk : k < l.length) : leftK (k : Int) l.length l = l.eraseIdx k := by
  unfold leftK
  rw [if_pos (by omega), List.take_length, Int.toNat_natCast]
def PulledLs (w : World) (B A M c : Nat) (es : List Went) (D : Wy → Wd) (S L : Int) (k : Wy) (i : Nat) (e : Ending) (w' : World) : Prop :=
  (∃ v u, e = .returned (.tuple #[v, u])) ∧ (∃ D', Ls w' B A M c es D' S L ∧ OneMore D D' k ((D k).xs.eraseIdx i)) ∧ Bel B w w' ∧ ∀ m x, MsgAt w B m x → MsgAt w' B m x
theorem Ls.pull {w : World} {B A M c : Nat} {es : List Went} {D : Wy → Wd} {S L : Int} (h : Ls w B A M c es D S L) (k : Wy) (a b : Nat) (he : (k, a, b) ∈ es) (i : Nat) (hi : i < (D k).xs.length) :
    Calls Try.prog 32 #[.pointer (some ⟨a, 0, none⟩), .int .i64 (i : Int)] w (PulledLs w B A M c es D S L k i) := by
  have hy := h.way _ he
  have hgl : (D k).gs.length = (D k).xs.length := hy.len
  have hml : (D k).ms.length = (D k).xs.length := hy.lenM
  refine (pull_is a (D k).C 40 (D k).gs (mptrs (D k).ms) (i : Int) w hy.box hy.vals (by omega)).mono ?_
  rintro e w' ⟨rfl, hb, hv, hgr⟩
  rw [leftK_in _ i (by omega)] at hb
  rw [leftK_in _ i (by omega), leftK_in _ i (by rw [mptrs_len]; omega), mptrs_erase] at hv
  obtain ⟨s, r, hc⟩ := hy.box.chan
  have hr : ∀ j, some (D k).C = some j → Off w j := fun j q => by obtain rfl := Option.some.inj q; exact off_chan hc
  have hmsgs : MsgsAt w' B (D k).ms (D k).xs := hy.msgs.kept hgr hr (fun j hj q => by
    obtain ⟨_, v, hv, _⟩ := hy.msgs.ge j hj
    rw [Option.some.inj q, hc] at hv; cases hv)
  refine ⟨⟨_, _, rfl⟩, ⟨updW D k ⟨(D k).C, (D k).gs.eraseIdx i, (D k).ms.eraseIdx i, (D k).xs.eraseIdx i⟩, ?_, oneMore_upd D k _⟩, h.under he hgr, fun m x hm => hm.kept hgr (fun q => by
    obtain ⟨_, v, hv, _⟩ := hm
    rw [Option.some.inj q, hc] at hv; cases hv) hr⟩
  refine h.box_to he _ rfl hgr ⟨hb, hv, hmsgs.erase i, hy.bC⟩ (fun j hj => .inl (List.mem_of_mem_eraseIdx hj)) ?_
  exact List.Nodup.sublist (List.eraseIdx_sublist _ _) (h.ndM _ he)
theorem Ls.getM {w : World} {B A M c : Nat} {es : List Went} {D : Wy → Wd} {S L : Int} (h : Ls w B A M c es D S L) (k : Wy) (a b : Nat) (he : (k, a, b) ∈ es) (i : Nat) (hi : i < (D k).xs.length) (d : Mg) : MsgAt w B ((D k).ms.getD i 0) ((D k).xs.getD i d) := by
  have hy := h.way _ he
  exact hy.msgs.at d i (by have : (D k).ms.length = (D k).xs.length := hy.lenM; show i < (D k).ms.length; omega)
theorem MsgsAt.turn {w w' : World} {B m : Nat} {x' : Mg} (hg : w.grownBy w' (some m)) (ho : Off w m) (hn : MsgAt w' B m x') : ∀ {ms : List Nat} {xs : List Mg} (_ : MsgsAt w B ms xs) (_ : ms.Nodup) (i : Nat) (_ : i < ms.length) (_ : ms.getD i 0 = m), MsgsAt w' B ms (xs.set i x')
  | y :: ms, x :: xs, h, hd, 0, _, e => by
    rw [List.nodup_cons] at hd
    have e' : y = m := by simpa using e
    subst e'
    exact ⟨hn, h.2.kept hg (fun k q => by obtain rfl := Option.some.inj q; exact ho) (fun j hj q => hd.1 (by rw [← Option.some.inj q]; exact hj))⟩
  | y :: ms, x :: xs, h, hd, i + 1, hi, e => by
    rw [List.nodup_cons] at hd
    have e' : ms.getD i 0 = m := by simpa using e
    have hi' : i < ms.length := by simpa using hi
    have hmem : m ∈ ms := by rw [← e']; exact getD_mem ms i hi'
    exact ⟨h.1.kept hg (fun q => hd.1 (by rw [Option.some.inj q]; exact hmem)) (fun k q => by obtain rfl := Option.some.inj q; exact ho), MsgsAt.turn hg ho hn h.2 hd.2 i hi' e'⟩
  | [], _, _, _, i, hi, _ => by simp at hi
  | _ :: _, [], h, _, _, _, _ => h.elim
/-- a message of a way turned -/
theorem Ls.turn {w w' : World} {B A M c : Nat} {es : List Went} {D : Wy → Wd} {S L : Int} (h : Ls w B A M c es D S L) (k : Wy) (a b : Nat) (he : (k, a, b) ∈ es) (i : Nat) (hi : i < (D k).xs.length) (x' : Mg) (hg : w.grownBy w' (some ((D k).ms.getD i 0))) (hn : MsgAt w' B ((D k).ms.getD i 0) x') :
    ∃ D', Ls w' B A M c es D' S L ∧ OneMore D D' k ((D k).xs.set i x') := by
  have hm := h.getM k a b he i hi ⟨[], 0, 0⟩
  have hy := h.way _ he
  have hml : (D k).ms.length = (D k).xs.length := hy.lenM
  have hmem : (D k).ms.getD i 0 ∈ (D k).ms := getD_mem _ i (by omega)
  have ho := off_msg hm
  generalize hM : (D k).ms.getD i 0 = m at *
  obtain ⟨_, v, hv, _⟩ := hm
  have hr : ∀ j, some m = some j → Off w j := fun j q => by obtain rfl := Option.some.inj q; exact ho
  have neA : some A ≠ some m := fun q => by
    have h1 := h.obj
    rw [Option.some.inj q, hv] at h1
    injection h1 with h1; injection h1 with _ h2 _; revert h2; decide
  have neM : some M ≠ some m := fun q => by
    have h1 : w.heap[M]? = _ := h.mp
    rw [Option.some.inj q, hv] at h1
    cases h1
  have neC : ∀ e ∈ es, some (D e.1).C ≠ some m := fun e hee q => by
    obtain ⟨_, _, hc⟩ := (h.way e hee).box.chan
    rw [Option.some.inj q, hv] at hc; cases hc
  refine ⟨updW D k ⟨(D k).C, (D k).gs, (D k).ms, (D k).xs.set i x'⟩, ⟨(hg.block A h.ltA neA).trans h.obj, (hg.block M h.ltM neM).trans h.mp, h.bA, h.bM, fun e hee => ?_, h.nodup, fun x hx y hy hne => ?_, fun x hx y hy hne j hj => ?_, fun x hx => ?_⟩, oneMore_upd D k _⟩
  · by_cases q : e.1 = k
    · obtain rfl := h.same hee he q
      rw [updW_same]
      refine ⟨hy.box.kept hg (neC _ hee) (fun e1 => ho.2.1 _ (by rw [← Option.some.inj e1]; exact hy.box.line)), hy.vals.keptRow hg (fun g hgm e1 => Vals.ne ho.1 hy.vals g hgm (Option.some.inj e1)), MsgsAt.turn hg ho hn hy.msgs (h.ndM _ hee) i (by show i < (D k).ms.length; omega) hM, hy.bC⟩
    · rw [updW_other _ _ q]
      refine (h.way e hee).kept hg (neC e hee) (fun j hj e1 => ?_) hr
      have := h.apM e hee (k, a, b) he q j hj
      rw [Option.some.inj e1] at this
      exact this hmem
  · unfold updW
    by_cases q1 : x.1 = k <;> by_cases q2 : y.1 = k
    · exact absurd (q1.trans q2.symm) hne
    · rw [if_pos q1, if_neg q2]; exact fun q => h.apC x hx y hy hne (by rw [q1]; exact q)
    · rw [if_neg q1, if_pos q2]; exact fun q => h.apC x hx y hy hne (by rw [q2]; exact q)
    · rw [if_neg q1, if_neg q2]; exact h.apC x hx y hy hne
  · unfold updW at hj ⊢
    by_cases q1 : x.1 = k <;> by_cases q2 : y.1 = k
    · exact absurd (q1.trans q2.symm) hne
    · rw [if_pos q1] at hj; rw [if_neg q2]; exact h.apM x hx y hy hne j (by rw [q1]; exact hj)
    · rw [if_neg q1] at hj; rw [if_pos q2]; exact fun q => h.apM x hx y hy hne j hj (by rw [q2]; exact q)
    · rw [if_neg q1] at hj; rw [if_neg q2]; exact h.apM x hx y hy hne j hj
  · unfold updW
    by_cases q1 : x.1 = k
    · rw [if_pos q1]; exact h.ndM _ he
    · rw [if_neg q1]; exact h.ndM x hx
end Go.Proofs.Ytfdiclamjgldnaa
