/- The document's Count, Single, Spans and Words. -/
import Derived.Test.YtldfomggeleolaaDoorTokRef
import Derived.Test.YtldfomggeleolaaDoorFoldTexts
namespace Go.Proofs.YtldfomggeleolaaDoor
open Go Go.RowKit
set_option linter.unusedVariables false

namespace Tok
theorem pc_at (s : ByteArray) (all : List (Nat × Nat × Bool)) (k f p : Nat) (h : all.drop k = pcF s f p) (hf : s.size ≤ p + f) (hk : k < all.length) :
    p < s.size ∧ all[k] = (p, sk s (wd s p) p, wd s p) ∧ all.drop (k + 1) = pcF s (f - 1) (sk s (wd s p) p) ∧ p < sk s (wd s p) p ∧ sk s (wd s p) p ≤ s.size := by
  have hp : p < s.size := by
    rcases Nat.lt_or_ge p s.size with e | e
    · exact e
    · rw [pc_end s f p e] at h
      have := congrArg List.length h
      simp at this; omega
  rw [pc_step s f p hp hf, List.drop_eq_getElem_cons hk] at h
  injection h with h1 h2
  exact ⟨hp, h1, h2, sk_gt hp rfl, (sk_le (Nat.le_of_lt hp)).2⟩
theorem pc_no (s : ByteArray) (all : List (Nat × Nat × Bool)) (k f p : Nat) (h : all.drop k = pcF s f p) (hf : s.size ≤ p + f) (hk : all.length ≤ k) : s.size ≤ p := by
  rcases Nat.lt_or_ge p s.size with e | e
  · rw [pc_step s f p e hf, List.drop_eq_nil_of_le hk] at h
    cases h
  · exact e
theorem pcs_len (s : ByteArray) : (pcs s).length ≤ s.size := by have := (pc_in s s.size 0 (by omega) (Nat.zero_le _)).1; unfold pcs; omega
/-- the words of pieces -/
def ws (l : List (Nat × Nat × Bool)) : List (Nat × Nat) := (l.filter (·.2.2)).map two
theorem ws_yes (a e : Nat) (l : List (Nat × Nat × Bool)) : ws ((a, e, true) :: l) = (a, e) :: ws l := rfl
theorem ws_no (a e : Nat) (l : List (Nat × Nat × Bool)) : ws ((a, e, false) :: l) = ws l := rfl
theorem ws_nil : ws [] = [] := rfl
theorem ws_len (l : List (Nat × Nat × Bool)) : (ws l).length ≤ l.length := by
  unfold ws; rw [List.length_map]; exact List.length_filter_le _ _
/-- a word with small letters -/
def term (s : ByteArray) (x : Nat × Nat) : ByteArray := ⟨(Utf.ft (s.extract x.1 x.2) (s.extract x.1 x.2).size 0).toArray⟩
def tok1 (s : ByteArray) (x : Nat × Nat × Nat) : Option (ByteArray × Nat) := if x.1 < 60 ∧ (term s x.2).size ≤ 20 then some (term s x.2, x.1) else none
def toks (s : ByteArray) : List (ByteArray × Nat) := (num 0 (spans s)).filterMap (tok1 s)
def tkl (l : List (ByteArray × Nat)) : List (Value × Value) := l.map fun x => (.string x.1, .int .i64 (x.2 : Int))
def spl (l : List (Nat × Nat)) : List (Value × Value) := l.map fun x => (.int .i64 (x.1 : Int), .int .i64 (x.2 : Int))
end Tok

theorem new2h (w : World) (x y : Value) (t : TypeId) : (w.alloc (.cells #[x, y] t)).heap[w.heap.size]? = some (Obj.cells #[x, y] t (0, 0)) := heap_alloc_new w _
theorem new2 (w : World) (x y : Value) (t : TypeId) : (w.alloc (.cells #[x, y] t)).cell? ⟨w.heap.size, 0, none⟩ = some x ∧ (w.alloc (.cells #[x, y] t)).cell? ⟨w.heap.size, 1, none⟩ = some y ∧
    (w.alloc (.cells #[x, y] t)).frozen? ⟨w.heap.size, 0, none⟩ = false ∧ (w.alloc (.cells #[x, y] t)).frozen? ⟨w.heap.size, 1, none⟩ = false := by
  have h := heap_alloc_new w (.cells #[x, y] t)
  exact ⟨(cell_of_row _ _ 0 _ _ _ h).trans rfl, (cell_of_row _ _ 1 _ _ _ h).trans rfl, frozen_of_row _ _ 0 _ _ h, frozen_of_row _ _ 1 _ _ h⟩
/-- pieces that lie -/
def PRow (w : World) (s : ByteArray) (p : Option Addr) (l : List (Nat × Nat × Bool)) : Prop := ∀ i (hi : i < l.length), ∃ g, p = some ⟨g, 0, none⟩ ∧ g < w.heap.size ∧ w.cell? ⟨g, i * 2, none⟩ = some (.string (s.extract l[i].1 l[i].2.1)) ∧ w.cell? ⟨g, i * 2 + 1, none⟩ = some (.bool l[i].2.2)
theorem PRow.below {w w' : World} {s : ByteArray} {p : Option Addr} {l : List (Nat × Nat × Bool)} (h : PRow w s p l) (hb : Below w.heap.size w w') : PRow w' s p l := fun i hi => by
  obtain ⟨g, h1, h2, h3, h4⟩ := h i hi
  exact ⟨g, h1, Nat.lt_of_lt_of_le h2 hb.size, (hb.cell (p := ⟨g, i * 2, none⟩) h2).trans h3, (hb.cell (p := ⟨g, i * 2 + 1, none⟩) h2).trans h4⟩
theorem own_pieces {w : World} {B : Nat} {e : TypeId} {v : Value} {s : ByteArray} {n : Nat} {l : List (Nat × Nat × Bool)} (h : w.ownsRow B e 2 v n (pc (pvs s l))) : ∃ p cap, v = .slice p l.length cap ∧ l.length ≤ cap ∧ PRow w s p l := by
  obtain ⟨_, p, cap, rfl, hc, hn, hs⟩ := own_pc h
  have hl : (pvs s l).length = l.length := by simp [pvs]
  rw [hl] at hc ⊢
  refine ⟨p, cap, rfl, hc, fun i hi => ?_⟩
  cases p with
  | none =>
    have h0 := congrArg List.length (hn rfl).1
    rw [hl, List.length_nil] at h0
    omega
  | some ad =>
    obtain ⟨g, rfl, h1, h2, h3⟩ := hs ad rfl
    obtain ⟨c0, c1⟩ := h3 i (by rw [hl]; exact hi)
    exact ⟨g, rfl, h2, by rw [c0]; simp [pvs, Tok.pv], by rw [c1]; simp [pvs, Tok.pv]⟩

set_option maxHeartbeats 4000000 in
set_option maxRecDepth 100000 in
theorem refCount15_is (s : ByteArray) (w : World) (hs : s.size ≤ 100000) :
    Calls Tryd.prog 15 #[.string s] w fun e w' => e = .returned (.int .i64 ((Tok.spans s).length : Nat)) ∧ Below w.heap.size w w' := by
  have PC := Lib.hid (refPieces_is s w hs)
  have hsp : (Tok.spans s).length = (Tok.ws (Tok.pcs s)).length := by rw [Tok.spans_pcs]; rfl
  have hlen := Tok.pcs_len s
  obtain ⟨all, hall⟩ : ∃ all, all = Tok.pcs s := ⟨_, rfl⟩
  rw [← hall] at PC hsp hlen
  obtain ⟨N, hN⟩ : ∃ N, N = (Tok.spans s).length := ⟨_, rfl⟩
  rw [← hN] at hsp ⊢
  have HA : Hid (all.drop 0 = Tok.pcF s s.size 0) := hall
  have HN := Lib.hid hsp
  have hNl := Tok.ws_len all
  rw [← hsp] at hNl
  clear hall hN hsp
  go_enter Tryd.func15, Tryd.ntmps15
  go_wp2_with fail
  refine PC.out.mono ?_
  rintro e w1 ⟨v, rfl, hown, hb⟩
  obtain ⟨q, c, rfl, hc, hrow⟩ := own_pieces hown
  have RO := Lib.hid hrow; have B := Lib.hid hb
  clear PC hown hb hrow
  go_wp2
  go_loopw [3, 9] (fun n i wr => ∃ (k p f m : Nat), i = .int .i64 k ∧ n = .int .i64 m ∧ k ≤ all.length ∧ p ≤ s.size ∧ s.size ≤ p + f ∧ all.drop k = Tok.pcF s f p ∧ N = m + (Tok.ws (Tok.pcF s f p)).length ∧ Below w1.heap.size w1 wr) (fun _ i _ => all.length - (intOf i).toNat)
  case atStart => exact ⟨0, 0, s.size, 0, rfl, rfl, Nat.zero_le _, Nat.zero_le _, by omega, HA.out, by rw [← HA.out, List.drop_zero, HN.out]; omega, Below.refl _ _⟩
  case round =>
    obtain ⟨k, p, f, m, rfl, rfl, hk, hp, hf, hd, hm, hb1⟩ := hrel
    have HD := Lib.hid hd; have HM := Lib.hid hm; have BV := Lib.hid hb1
    have RW := Lib.hid (RO.out.below hb1)
    have hml : m ≤ 100000 := by omega
    clear hd hm hb1
    by_cases hlt : k < all.length
    · obtain ⟨h1, h2, h3, h4, h5⟩ := Tok.pc_at s all k f p HD.out hf hlt
      obtain ⟨g, rfl, hg, c0, c1⟩ := RW.out k hlt
      rw [h2] at c0 c1
      have HM2 := HM.out
      rw [Tok.pc_step s f p h1 hf] at HM2
      have HD3 := Lib.hid h3
      have h6 : (k : Int) < all.length := by omega
      obtain ⟨d0, d1, f0, f1⟩ := new2 wr (.string ⟨#[]⟩) (.bool false) 42
      obtain ⟨d2, d3, f2, f3⟩ := new2 wr (.string (s.extract p (Tok.sk s (Tok.wd s p) p))) (.bool (Tok.wd s p)) 42
      have V5 := Lib.hid (BV.out.alloc BV.out.size (.cells #[.string (s.extract p (Tok.sk s (Tok.wd s p) p)), .bool (Tok.wd s p)] 42))
      generalize hq : Tok.sk s (Tok.wd s p) p = q at *
      cases hw : Tok.wd s p with
      | true =>
        rw [hw] at HM2 c1 d2 d3 f2 f3 V5
        rw [Tok.ws_yes, List.length_cons] at HM2
        have HM3 := Lib.hid HM2
        clear HM2 HM h2 h3 hq hw
        go_wp2
        go_roundw
        case rel => exact ⟨k + 1, q, f - 1, m + 1, by go_num, by go_num, by omega, h5, by omega, HD3.out, by rw [HM3.out]; omega, V5.out⟩
        case measure => simp [intOf]; omega
      | false =>
        rw [hw] at HM2 c1 d2 d3 f2 f3 V5
        rw [Tok.ws_no] at HM2
        have HM3 := Lib.hid HM2
        clear HM2 HM h2 h3 hq hw
        go_wp2
        go_roundw
        case rel => exact ⟨k + 1, q, f - 1, m, by go_num, rfl, by omega, h5, by omega, HD3.out, HM3.out, V5.out⟩
        case measure => simp [intOf]; omega
    · have h1 : ¬ (k : Int) < all.length := by omega
      have h2 := Tok.pc_no s all k f p HD.out hf (by omega)
      have h3 := HM.out
      rw [Tok.pc_end s f p h2, Tok.ws_nil, List.length_nil, Nat.add_zero] at h3
      subst h3
      go_wp2
      go_ret
      exact ⟨rfl, thenBelow B.out BV.out⟩

theorem single_iff (s : ByteArray) : (∃ x, Tok.pcs s = [x] ∧ x.2.2 = true) ↔ s.size ≠ 0 ∧ Tok.wd s 0 = true ∧ Tok.sk s true 0 = s.size := by
  unfold Tok.pcs
  constructor
  · rintro ⟨x, h, hx⟩
    by_cases h0 : 0 < s.size
    · rw [Tok.pc_step s s.size 0 h0 (by omega)] at h
      injection h with h1 h2
      subst h1
      simp only at hx
      rw [hx] at h2
      refine ⟨by omega, hx, ?_⟩
      by_cases h3 : Tok.sk s true 0 < s.size
      · have := Tok.sk_gt (b := true) h0 hx
        rw [Tok.pc_step s _ _ h3 (by omega)] at h2
        cases h2
      · have := (Tok.sk_le (s := s) (b := true) (p := 0) (Nat.zero_le _)).2
        omega
    · rw [Tok.pc_end s _ 0 (by omega)] at h
      cases h
  · rintro ⟨h0, hx, h1⟩
    refine ⟨(0, s.size, true), ?_, rfl⟩
    rw [Tok.pc_step s s.size 0 (by omega) (by omega), hx, h1, Tok.pc_end s _ s.size (Nat.le_refl _)]
/-- is a text just one word? -/
def Tok.single (s : ByteArray) : Bool := decide (s.size ≠ 0 ∧ Tok.wd s 0 = true ∧ Tok.sk s true 0 = s.size)
theorem single_one (s : ByteArray) (x : Nat × Nat × Bool) (h : Tok.pcs s = [x]) : Tok.single s = x.2.2 := by
  have h1 := single_iff s
  unfold Tok.single
  cases hx : x.2.2 with
  | true => exact decide_eq_true (h1.1 ⟨x, h, hx⟩)
  | false =>
    refine decide_eq_false fun h2 => ?_
    obtain ⟨y, h3, h4⟩ := h1.2 h2
    rw [h] at h3
    cases h3
    rw [hx] at h4; cases h4
theorem single_no (s : ByteArray) (h : (Tok.pcs s).length ≠ 1) : Tok.single s = false := by
  refine decide_eq_false fun h2 => ?_
  obtain ⟨y, h3, h4⟩ := (single_iff s).2 h2
  rw [h3] at h; exact h rfl

set_option maxHeartbeats 4000000 in
set_option maxRecDepth 100000 in
theorem refSingle15_is (s : ByteArray) (w : World) (hs : s.size ≤ 100000) :
    Calls Tryd.prog 17 #[.string s] w fun e w' => e = .returned (.bool (Tok.single s)) ∧ Below w.heap.size w w' := by
  have PC := Lib.hid (refPieces_is s w hs)
  have S1 := Lib.hid (single_one s); have S2 := Lib.hid (single_no s)
  have hlen := Tok.pcs_len s
  generalize Tok.pcs s = all at PC S1 S2 hlen
  generalize Tok.single s = b at S1 S2 ⊢
  go_enter Tryd.func17, Tryd.ntmps17
  go_wp2_with fail
  refine PC.out.mono ?_
  rintro e w1 ⟨v, rfl, hown, hb⟩
  obtain ⟨q, c, rfl, hc, hrow⟩ := own_pieces hown
  have RO := Lib.hid hrow; have B := Lib.hid hb
  clear PC hown hb hrow
  by_cases h1 : all.length = 1
  · obtain ⟨x, rfl⟩ := List.length_eq_one_iff.1 h1
    obtain ⟨g, rfl, hg, c0, c1⟩ := RO.out 0 (by simp)
    obtain rfl := S1.out x rfl
    rw [List.getElem_cons_zero] at c0 c1
    simp only [Nat.zero_mul, Nat.zero_add] at c0 c1
    simp only [List.length_singleton] at hc ⊢
    clear S1 S2 h1
    go_wp2
    go_ret
    exact ⟨ret_bool (by first | rfl | (simp; done)), B.out⟩
  · obtain rfl := S2.out h1
    have h2 : ¬ (all.length : Int) = 1 := by omega
    clear S1 S2
    go_wp2
    go_ret
    exact ⟨ret_bool (by first | rfl | (simp; done)), B.out⟩
end Go.Proofs.YtldfomggeleolaaDoor
