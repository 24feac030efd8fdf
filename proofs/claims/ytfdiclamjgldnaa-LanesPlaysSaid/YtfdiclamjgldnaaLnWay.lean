/- Lanes: way, find, Count, Totals; slices.Clone of bytes, sent, bytes. -/
import Derived.Test.YtfdiclamjgldnaaLnState
import Derived.Test.YtfdiclamjgldnaaBoxListP
import Derived.Test.YtfdiclamjgldnaaMemIntsOwn
import Derived.Outline
import Derived.Lib.QuietBelow
namespace Go.Proofs.Ytfdiclamjgldnaa
open Go Go.RowKit Go.Conc
set_option linter.unusedVariables false

theorem way_nil (f t : Int) (w : World) : Calls Try.prog 27 #[.pointer none, .int .i64 f, .int .i64 t] w fun e w' => e = .returned (.pointer none) ∧ w = w' := by
  go_enter Try.func27, Try.ntmps27
  go_wp2
  go_ret
  exact ⟨rfl, rfl⟩
theorem way_void (A : Nat) (f t : Int) (w : World) (h : w.cell? ⟨A, 0, none⟩ = some (.map none)) : Calls Try.prog 27 #[.pointer (some ⟨A, 0, none⟩), .int .i64 f, .int .i64 t] w fun e w' => e = .returned (.pointer none) ∧ w = w' := by
  have K := run_wlook_nil w (f, t)
  unfold wkey wcs at K
  go_enter Try.func27, Try.ntmps27
  go_wp2
  go_ret
  exact ⟨rfl, rfl⟩
theorem way_is (B A M c : Nat) (es : List Went) (D : Wy → Wd) (S L : Int) (w : World) (h : Ls w B A M c es D S L) (f t : Int) (a b : Nat) (hd : ((f, t), a, b) ∈ es) : Calls Try.prog 27 #[.pointer (some ⟨A, 0, none⟩), .int .i64 f, .int .i64 t] w fun e w' => e = .returned (.pointer (some ⟨a, 0, none⟩)) ∧ w = w' := by
  have K := run_wlook_yes h.mp h.nodup (f, t) a b hd
  have c0 := h.cells.1
  unfold wkey wcs bptr at K
  clear h hd
  go_enter Try.func27, Try.ntmps27
  go_wp2
  go_ret
  exact ⟨rfl, rfl⟩
theorem way_no (B A M c : Nat) (es : List Went) (D : Wy → Wd) (S L : Int) (w : World) (h : Ls w B A M c es D S L) (f t : Int) (hd : (f, t) ∉ es.map (·.1)) : Calls Try.prog 27 #[.pointer (some ⟨A, 0, none⟩), .int .i64 f, .int .i64 t] w fun e w' => e = .returned (.pointer none) ∧ w = w' := by
  have K := run_wlook_no h.mp (f, t) hd
  have c0 := h.cells.1
  unfold wkey wcs at K
  clear h hd
  go_enter Try.func27, Try.ntmps27
  go_wp2
  go_ret
  exact ⟨rfl, rfl⟩

theorem lenP_nil (w : World) : Calls Try.prog 28 #[.pointer none] w fun e w' => e = .returned (.int .i64 0) ∧ w = w' := by
  have L := Lib.hid (lineP_nil w)
  have hlen : ∀ ty, (Builtin.len_ #[71] ty #[.chan none]).run Try.prog w = .ok (.int .i64 0) w := fun ty => by kernel_rfl
  go_enter Try.func28, Try.ntmps28
  go_wp2_with fail
  refine L.out.mono ?_
  rintro e w' ⟨rfl, rfl⟩
  go_wp2
  go_ret
  exact ⟨rfl, rfl⟩
/-- Count where way answers a box -/
theorem count_of (p : Option Addr) (f t : Int) (n : Int) (q : Option Addr) (w : World)
    (hw : Calls Try.prog 27 #[.pointer q, .int .i64 f, .int .i64 t] w fun e w' => e = .returned (.pointer p) ∧ w = w')
    (hl : Calls Try.prog 28 #[.pointer p] w fun e w' => e = .returned (.int .i64 n) ∧ w = w') :
    Calls Try.prog 11 #[.pointer q, .int .i64 f, .int .i64 t] w fun e w' => e = .returned (.int .i64 n) ∧ w = w' := by
  have W := Lib.hid hw; have LN := Lib.hid hl
  clear hw hl
  go_enter Try.func11, Try.ntmps11
  go_wp2_with fail
  refine W.out.mono ?_
  rintro e w' ⟨rfl, rfl⟩
  go_wp2_with fail
  refine LN.out.mono ?_
  rintro e w' ⟨rfl, rfl⟩
  go_wp2
  go_ret
  exact ⟨rfl, rfl⟩
theorem count_nil (f t : Int) (w : World) : Calls Try.prog 11 #[.pointer none, .int .i64 f, .int .i64 t] w fun e w' => e = .returned (.int .i64 0) ∧ w = w' :=
  count_of none f t 0 none w (way_nil f t w) (lenP_nil w)
theorem count_void (A : Nat) (f t : Int) (w : World) (h : w.cell? ⟨A, 0, none⟩ = some (.map none)) : Calls Try.prog 11 #[.pointer (some ⟨A, 0, none⟩), .int .i64 f, .int .i64 t] w fun e w' => e = .returned (.int .i64 0) ∧ w = w' :=
  count_of none f t 0 _ w (way_void A f t w h) (lenP_nil w)
theorem count_no (B A M c : Nat) (es : List Went) (D : Wy → Wd) (S L : Int) (w : World) (h : Ls w B A M c es D S L) (f t : Int) (hd : (f, t) ∉ es.map (·.1)) : Calls Try.prog 11 #[.pointer (some ⟨A, 0, none⟩), .int .i64 f, .int .i64 t] w fun e w' => e = .returned (.int .i64 0) ∧ w = w' :=
  count_of none f t 0 _ w (way_no B A M c es D S L w h f t hd) (lenP_nil w)
theorem Way.len {w : World} {B a : Nat} {d : Wd} (h : Way w B a d) : d.gs.length = d.xs.length := by
  have h1 := h.vals.len; have h2 := h.msgs.len
  rw [mptrs_len] at h1; omega
theorem Way.lenM {w : World} {B a : Nat} {d : Wd} (h : Way w B a d) : d.ms.length = d.xs.length := h.msgs.len
theorem count_is (B A M c : Nat) (es : List Went) (D : Wy → Wd) (S L : Int) (w : World) (h : Ls w B A M c es D S L) (f t : Int) (a b : Nat) (hd : ((f, t), a, b) ∈ es) : Calls Try.prog 11 #[.pointer (some ⟨A, 0, none⟩), .int .i64 f, .int .i64 t] w fun e w' => e = .returned (.int .i64 ((D (f, t)).xs.length : Nat)) ∧ w = w' := by
  have hy := h.way _ hd
  have hl := lenP a (D (f, t)).C 40 (D (f, t)).gs w hy.box
  rw [hy.len] at hl
  exact count_of _ f t _ _ w (way_is B A M c es D S L w h f t a b hd) hl

theorem totals_nil (w : World) : Calls Try.prog 10 #[.pointer none] w fun e w' => e = .returned (.tuple #[.int .i64 0, .int .i64 0]) ∧ w = w' := by
  go_enter Try.func10, Try.ntmps10
  go_wp2
  go_ret2
  exact ⟨rfl, rfl⟩
theorem totals_at (A : Nat) (S L : Int) (w : World) (c1 : w.cell? ⟨A, 1, none⟩ = some (.int .i64 S)) (c2 : w.cell? ⟨A, 2, none⟩ = some (.int .i64 L)) : Calls Try.prog 10 #[.pointer (some ⟨A, 0, none⟩)] w fun e w' => e = .returned (.tuple #[.int .i64 S, .int .i64 L]) ∧ ∃ n, w' = w.drewN n := by
  go_enter Try.func10, Try.ntmps10
  go_wp2
  go_quiet (fail)
  go_wp2
  go_ret2
  exact ⟨rfl, _, rfl⟩

theorem infoU8 : (Try.prog.info? 5).map (fun i => (i.zero, i.size, i.bytes)) = some (some (.int .u8 0), 1, 1) := by kernel_rfl

set_option maxHeartbeats 1000000 in
theorem sclone_any (p : Option Addr) (c : Nat) (l : List UInt8) (w : World) (h : Lies w p l) (hp : p = none → l = []) (hbig : l.length ≤ 140737488355328) :
    Calls Try.prog 38 #[.slice p l.length c] w (RetOwn w 5 l) := by
  have q : ∀ (w : World) (a : Option Addr) (n c n' c' : Nat), (binOp .eql 30 (.slice a n c) (.slice none n' c')).run Try.prog w = .ok (.bool a.isNone) w := fun w a n c n' c' => Lib.run_eql_slice_nil w _ _ a n c n' c' Try.underlying30
  cases p with
  | none =>
    obtain rfl := hp rfl
    go_enter Try.func38, Try.ntmps38
    go_wp2
    go_ret
    exact ⟨_, rfl, World.ownsRow_nil _ _ _ _, Below.refl _ _⟩
  | some a =>
    obtain ⟨i0, hi, hz0, hz1, hz2⟩ := info_parts infoU8
    have H : Hid (∀ j u, (bys l)[j]? = some u → w.cell? (a.add j) = some u) := by
      by_cases h0 : l = []
      · subst h0; intro j u hu; simp [bys] at hu
      · obtain ⟨b, o, e, hc⟩ := h h0
        obtain rfl := Option.some.inj e
        exact Lies.news hc
    clear h hp
    go_enter Try.func38, Try.ntmps38
    go_wp2_with (at_builtin; refine wpList_append_own _ rfl _ _ 30 rfl w.heap.size 5 i0 (.int .u8 0) 1 1 Try.underlying30 hi hz0 hz1 hz2 rfl (by decide) _ _ _ rfl (World.ownsRow_made w #[] 0 (Nat.le_refl _) (Nat.zero_le _) rfl) a l.length c (bys l) rfl ?qc1 ?qc2 ?qc3 ?qc4 ?qc5 ?qc6 ?_)
    case qc1 => simp [bys]
    case qc2 => exact fun j u hj => cell_alloc _ (H.out j u hj)
    case qc3 => exact bys_one l
    case qc4 => unfold maxLen; omega
    case qc5 => omega
    case qc6 => simp
    intro v' w1 hown hgrow hnil
    go_wp2
    go_ret
    exact RetOwn.of_own (by simpa using hown) rfl (((Below.refl _ w).alloc (Nat.le_refl _) _).grown hgrow (by simp) (by intro k hk; simp [Value.ownBlock] at hk; omega))


def SentTo (w : World) (l : List UInt8) (e : Ending) (w' : World) : Prop :=
  ∃ m, e = .returned (.pointer (some ⟨m, 0, none⟩)) ∧ w.heap.size ≤ m ∧ MsgAt w' w.heap.size m ⟨l, 0, 0⟩ ∧ Below w.heap.size w w'
theorem sent_is (p : Option Addr) (c : Nat) (l : List UInt8) (w : World) (h : Lies w p l) (hp : p = none → l = []) (hbig : l.length ≤ 1000) :
    Calls Try.prog 30 #[.slice p l.length c] w (SentTo w l) := by
  have CL := Lib.hid (sclone_any p c l w h hp (by omega))
  have OK : Hid (Mg.Ok ⟨l, 0, 0⟩) := ⟨hbig, by simp, by simp⟩
  clear h hp hbig
  go_enter Try.func30, Try.ntmps30
  go_wp2_with fail
  refine CL.out.mono ?_
  rintro e w1 ⟨v, rfl, ho, hb⟩
  have R : Hid (SentTo w l (.returned (.pointer (some ⟨w1.heap.size, 0, none⟩))) (w1.alloc (.cells #[v, .int .i64 0, .int .u8 0] 67))) := by
    refine ⟨_, rfl, hb.size, ⟨hb.size, v, heap_alloc_new w1 _, ho.alloc _, OK.out⟩, hb.alloc hb.size _⟩
  obtain ⟨_, q, cq, rfl, _⟩ := own_lies ho
  clear ho hb CL
  go_wp2
  go_ret
  exact R.out
end Go.Proofs.Ytfdiclamjgldnaa
