/- token's Words. -/
import Derived.Test.YtldfomggeleolaaDoorTokSpans
import Derived.Test.YtldfomggeleolaaDoorTokSingle
namespace Go.Proofs.YtldfomggeleolaaDoor
open Go Go.RowKit Go.Shelf
set_option linter.unusedVariables false
attribute [local go_sem] Oper.semAt_some

namespace Tok
open Utf
theorem ft_some (s : ByteArray) (h : 0 < s.size) : ft s s.size 0 ≠ [] := by
  rw [ft_step s s.size 0 h (by omega)]
  have h1 := nx_step s 0 h
  have : piece s 0 ≠ [] := by
    rw [piece_ref]
    split
    · intro h2
      have := congrArg List.length h2
      rw [List.drop_zero, List.length_take, Array.length_toList] at this
      have h3 : s.data.size = s.size := rfl
      rw [List.length_nil] at this
      omega
    · rename_i hx
      have h4 := sg_ok s 0 (ok_of s 0 hx)
      have h5 : sg (Fol.lower (nx s 0).1) = true := by
        unfold sg at h4 ⊢
        simp only [decide_eq_true_eq] at h4 ⊢
        exact Fol.sign_lower _ h4
      intro h2
      have := congrArg List.length h2
      unfold enc at this
      rw [if_pos h5, encK_len] at this
      simp at this
  intro h2
  exact this (List.append_eq_nil_iff.1 h2).1
theorem term_some (s : ByteArray) (x : Nat × Nat) (h1 : x.1 < x.2) (h2 : x.2 ≤ s.size) : 0 < (term s x).size := by
  have h := ft_some (s.extract x.1 x.2) (by rw [ByteArray.size_extract]; omega)
  have : (term s x).size = (Utf.ft (s.extract x.1 x.2) (s.extract x.1 x.2).size 0).length := by unfold term; show Array.size _ = _; simp
  rw [this]
  exact List.length_pos_iff.2 h
theorem num_drop {α : Type} : ∀ (k : Nat) (l : List α), ∀ x ∈ num k l, k ≤ x.1
  | _, [], x, h => by simp [num] at h
  | k, y :: l, x, h => by
    rcases List.mem_cons.1 (show x ∈ (k, y) :: num (k + 1) l from h) with rfl | h
    · exact Nat.le_refl _
    · have := num_drop (k + 1) l x h; omega
theorem num_split {α : Type} : ∀ (k : Nat) (l : List α) (a b : List (Nat × α)), num k l = a ++ b → ∃ l', b = num (k + a.length) l'
  | k, l, [], b, h => ⟨l, by simpa using h.symm⟩
  | k, [], x :: a, b, h => by simp [num] at h
  | k, y :: l, x :: a, b, h => by
    rw [num, List.cons_append] at h
    injection h with h1 h2
    obtain ⟨l', e⟩ := num_split (k + 1) l a b h2
    exact ⟨l', by rw [e, List.length_cons]; congr 1; omega⟩
/-- behind a word that stands too far behind there is no token more -/
theorem toks_stop (s : ByteArray) (l0 : List (Nat × Nat × Nat)) (x : Nat × Nat × Nat) (h : (l0 ++ [x]) <+: num 0 (spans s)) (hx : 60 ≤ x.1) : toks s = l0.filterMap (tok1 s) := by
  obtain ⟨r, hr⟩ := h
  unfold toks
  rw [← hr, List.append_assoc, List.filterMap_append]
  have e : ([x] ++ r).filterMap (tok1 s) = [] := by
    obtain ⟨l', hl⟩ := num_split 0 (spans s) l0 ([x] ++ r) (by rw [← hr, List.append_assoc])
    rw [List.filterMap_eq_nil_iff]
    intro y hy
    rw [hl] at hy
    have h1 := num_drop _ _ y hy
    have h2 : x.1 = 0 + l0.length := by
      cases l' with
      | nil => simp [num] at hl
      | cons z l' =>
        rw [num, List.singleton_append] at hl
        injection hl with h3 _
        rw [h3]
    unfold tok1
    rw [if_neg]
    omega
  rw [e, List.append_nil]
end Tok
/-- the tokens of the words that have come -/
def wtk {s : ByteArray} (pre : List (Wd s)) : List (ByteArray × Nat) := (pre.map (·.1)).filterMap (Tok.tok1 s)
theorem wtk_len {s : ByteArray} (pre : List (Wd s)) : (wtk pre).length ≤ pre.length := by
  unfold wtk
  have := List.length_filterMap_le (Tok.tok1 s) (pre.map (·.1))
  rwa [List.length_map] at this
theorem wtk_snoc {s : ByteArray} (pre : List (Wd s)) (x : Wd s) : wtk (pre ++ [x]) = wtk pre ++ (Tok.tok1 s x.1).toList := by
  unfold wtk
  rw [List.map_append, List.filterMap_append]
  cases h : Tok.tok1 s x.1 <;> simp [List.filterMap_cons, h]
theorem wtk_done {s : ByteArray} {ys : List (Wd s)} (h : ys.map (·.1) = Tok.num 0 (Tok.spans s)) : wtk ys = Tok.toks s := by
  unfold wtk Tok.toks; rw [h]
theorem tkl_snoc (l : List (ByteArray × Nat)) (x : ByteArray × Nat) : Tok.tkl (l ++ [x]) = Tok.tkl l ++ [(.string x.1, .int .i64 (x.2 : Int))] := by simp [Tok.tkl]

set_option maxHeartbeats 4000000 in
set_option maxRecDepth 100000 in
theorem tokWords_is (s : ByteArray) (w : World) (hs : s.size ≤ 100000) (hT : Tables w) :
    Calls Tryd.prog 9 #[.string s] w fun e w' => ∃ v, e = .returned v ∧ w'.ownsRow w.heap.size 26 2 v (Tok.toks s).length (pc (Tok.tkl (Tok.toks s))) ∧ Below w.heap.size w w' := by
  have HT := Lib.hid hT
  have hsi := (Tok.sp_in s).1
  clear hT
  refine (callsIn_wide (n := 3)).1 ?_
  refine callsIn_of_wp_marks Tryd.func9 rfl trivial ?_ rfl
  simp only [Tryd.ntmps9, List.size_toArray, List.length_cons, List.length_nil, Nat.reduceAdd, Nat.reduceSub, Array.replicate_succ, Array.replicate_zero, List.push_toArray, List.append_toArray, List.nil_append, List.cons_append]
  have bA := heap_alloc_new w (.cells #[.string s] 9)
  have ca := cell_alloc (.cells #[.slice none 0 0] 24) ((cell_of_row _ w.heap.size 0 _ _ _ bA).trans (show _ = some (.string s) from rfl))
  gi_wp2_with (fail)
  refine ⟨trivial, callsIn_wide.2 ((tokEach_is s _).mono ?_)⟩
  rintro e w1 ⟨rfl, rfl⟩
  have hB0 : Below w.heap.size w (((w.alloc (.cells #[.string s] 9)).alloc (.cells #[.slice none 0 0] 24)).alloc (.cells #[.string s] 9)) := (((Below.refl _ w).alloc (Nat.le_refl _) _).alloc (by simp) _).alloc (by simp; omega) _
  have bN := bA
  have bO := Boxed.new (w.alloc (.cells #[.string s] 9)) 24 (.slice none 0 0)
  have bS := heap_alloc_new ((w.alloc (.cells #[.string s] 9)).alloc (.cells #[.slice none 0 0] 24)) (.cells #[.string s] 9)
  rw [World.size_alloc] at bO
  rw [World.size_alloc, World.size_alloc] at bS
  gi_wp2_with (fail)
  obtain ⟨W0, hW0⟩ : ∃ W0, ((w.alloc (.cells #[.string s] 9)).alloc (.cells #[.slice none 0 0] 24)).alloc (.cells #[.string s] 9) = W0 := ⟨_, rfl⟩
  have hz : W0.heap.size = w.heap.size + 3 := by rw [← hW0]; simp
  have bO2 : Boxed W0 (w.heap.size + 1) 24 (.slice none 0 0) := by rw [← hW0]; exact bO.alloc _
  have bA2 : W0.heap[w.heap.size]? = some (Obj.cells #[.string s] 9 (0, 0)) := by
    rw [← hW0]
    exact (Below.heap_alloc _ _ _ (by simp; omega)).trans ((Below.heap_alloc _ _ _ (by simp)).trans bA)
  simp only [Nat.add_assoc, Nat.reduceAdd] at bS
  simp only [Nat.add_assoc, Nat.reduceAdd]
  rw [hW0] at bS hB0 ⊢
  clear hW0 bO bA bN ca
  refine wpIn_rangeFunc_ownH (F := Fence.wide) rfl (by omega) (gf := 34) (lb := #[.pointer (some ⟨w.heap.size + 2, 0, none⟩)]) rfl trivial (enters_of Tryd.func34 (by kernel_rfl) rfl)
    (each_stops s hs _ (w.heap.size + 2) w W0 HT.out hB0 bS) (fun h k => KpT.trans h k) (fun W l o o' h1 h2 h3 h4 => KpT.put hB0.size W l o o' h1 h2 h3 h4) (Below.refl _ _) (fun _ => rfl)
    (fun (pre : List (Wd s)) W => ((∃ v, Boxed W (w.heap.size + 1) 24 v ∧ W.ownsRow w.heap.size 26 2 v (wtk pre).length (pc (Tok.tkl (wtk pre))) ∧ ((wtk pre).length = 0 → v = .slice none 0 0)) ∧ W.heap[w.heap.size]? = some (Obj.cells #[.string s] 9 (0, 0))) ∧ Below w.heap.size w W)
    (fun c (pre : List (Wd s)) W => (((∃ pre0 x, pre = pre0 ++ [x] ∧ 60 ≤ x.1.1 ∧ ∃ v, Boxed W (w.heap.size + 1) 24 v ∧ W.ownsRow w.heap.size 26 2 v (wtk pre0).length (pc (Tok.tkl (wtk pre0)))) ∧ True) ∧ c = Code.exit 0) ∧ Below w.heap.size w W)
    (OwnFrom.and (Own.from (fun pre A B row hs hg hr => ⟨holdsRow_own w.heap.size (w.heap.size + 1) 24 26 2 (fun (pre : List (Wd s)) => (wtk pre).length) (fun pre => pc (Tok.tkl (wtk pre))) (fun pre v => (wtk pre).length = 0 → v = .slice none 0 0) pre A B row hs.1 hg hr, keptCells hs.2 hg hr⟩) _) (ownFrom_below (Nat.le_refl _) hB0.size))
    (fun c => OwnFrom.and (Own.from (fun pre A B row hs hg hr => by
      obtain ⟨⟨⟨pre0, x, h1, h2, v, h3, h4⟩, _⟩, h5⟩ := hs
      obtain ⟨v', i1, i2, _⟩ := holdsRow_own w.heap.size (w.heap.size + 1) 24 26 2 (fun (pre : List (Wd s)) => (wtk pre).length) (fun pre => pc (Tok.tkl (wtk pre))) (fun _ _ => True) pre0 A B row ⟨v, h3, h4, trivial⟩ hg hr
      exact ⟨⟨⟨pre0, x, h1, h2, v', i1, i2⟩, trivial⟩, h5⟩) _) (ownFrom_below (Nat.le_refl _) hB0.size))
    ⟨⟨⟨_, bO2, World.ownsRow_nil _ _ _ _, fun _ => rfl⟩, bA2⟩, hB0⟩
    (fun (x : Wd s) a' W => ∃ g, SpAt W g x.1.2 ∧ a' = { tmps := #[.string s, .pointer (some ⟨w.heap.size, 0, none⟩), .slice none 0 0, .pointer (some ⟨w.heap.size + 1, 0, none⟩), .int .i64 (x.1.1 : Int), .pointer (some ⟨g, 0, none⟩), undef, .string s, .func (.func 34) #[] #[.pointer (some ⟨w.heap.size + 2, 0, none⟩)], .int .i64 (x.1.1 : Int), .agg #[.int .i64 (x.1.2.1 : Int), .int .i64 (x.1.2.2 : Int)], undef, undef, undef, undef, undef, undef, undef, undef, undef, undef, undef, undef, undef, undef, undef, undef, undef, undef], defers := [] })
    (fun x a' => Own.from (fun _ A B row hs hg hr => by obtain ⟨g, h2, h3⟩ := hs; exact ⟨g, keptCells h2 hg hr, h3⟩) _)
    ?assign ?body ?done ?stop
  case assign =>
    rintro l pre x W K hI hK
    dsimp only [encW, spv]
    rw [zip2]
    simp only [List.setIfInBounds_toArray, List.set_cons_succ, List.set_cons_zero]
    gi_wp2
    obtain ⟨⟨⟨v, hv, hown, hnil⟩, hA⟩, hB⟩ := hI
    exact hK _ _ ((KeepsOthers.alloc _ _).from _) (KpT.of_below ((Below.refl _ W).alloc (Nat.le_refl _) _) hB.size) ⟨⟨⟨v, hv.alloc _, hown.alloc _, hnil⟩, (Below.heap_alloc W _ _ (Array.getElem?_eq_some_iff.1 hA).1).trans hA⟩, hB.alloc hB.size _⟩ ⟨W.heap.size, heap_alloc_new W _, rfl⟩
  case body =>
    rintro l pre x a' W hl hrec ⟨⟨⟨v, hv, hrow, hnil⟩, hA⟩, hB⟩ ⟨g, hsp, rfl⟩ hlt
    have hc := hv.cell
    have hf := hv.frozen
    have c0 := (cell_of_row W g 0 _ _ _ hsp).trans (show _ = some (Value.int .i64 (x.1.2.1 : Int)) from rfl)
    have c1 := (cell_of_row W g 1 _ _ _ hsp).trans (show _ = some (Value.int .i64 (x.1.2.2 : Int)) from rfl)
    have ca := (cell_of_row W w.heap.size 0 _ _ _ hA).trans (show _ = some (Value.string s) from rfl)
    by_cases h60 : 60 ≤ x.1.1
    · have h60' : (x.1.1 : Int) ≥ 60 := by omega
      gi_wp2_with (fail)
      exact ⟨KeepsFrom.refl _ _, ⟨⟨⟨pre, x, rfl, h60, v, hv, hrow⟩, trivial⟩, rfl⟩, hB⟩
    · have h60' : ¬ (x.1.1 : Int) ≥ 60 := by omega
      have hx1 : (x.1.2.1 : Int) ≤ (x.1.2.2 : Int) := by have := x.2.2.1; omega
      have hx2 : (x.1.2.2 : Int) ≤ (s.size : Int) := by have := x.2.2.2; omega
      have hes : (s.extract x.1.2.1 x.1.2.2).size ≤ 100000 := by rw [ByteArray.size_extract]; omega
      gi_wp2_with (fail)
      refine ⟨trivial, CallsIn.inRound l (callsIn_wide.2 ((tokSmall_is (s.extract x.1.2.1 x.1.2.2) x.1.1 W hes (HT.out.below hB)).mono ?_))⟩
      rintro e W2 ⟨rfl, hb2⟩
      have hg2 := below_grown hb2
      have hv2 := hv.kept hg2 (by simp)
      have hrow2 := own_later2 hrow hb2
      have hA2 := (hb2.block _ (Array.getElem?_eq_some_iff.1 hA).1).trans hA
      have hB2 := hB.trans (hb2.mono hB.size)
      have hk2 : KeepsOthers W W2 := KeepsOthers.of_grownBy hg2 (fun j o e => by cases e)
      have hp2 := KpT.of_below hb2 hB.size
      have hts := Tok.term_some s x.1.2 x.2.2.1 x.2.2.2
      have htk : Tok.tok1 s x.1 = if x.1.1 < 60 ∧ (Tok.term s x.1.2).size ≤ 20 then some (Tok.term s x.1.2, x.1.1) else none := rfl
      have hsn := wtk_snoc pre x
      rw [show (⟨(Utf.ft (s.extract x.1.2.1 x.1.2.2) (s.extract x.1.2.1 x.1.2.2).size 0).toArray⟩ : ByteArray) = Tok.term s x.1.2 from rfl]
      generalize Tok.term s x.1.2 = T at hts htk ⊢
      have hl0 : T.toList ≠ [] := fun h => by
        rw [Lib.toList_data] at h
        have := congrArg List.length h
        have h3 : T.data.size = T.size := rfl
        rw [Array.length_toList, List.length_nil] at this
        omega
      have hle : T.toList.isEmpty = false := by rw [List.isEmpty_eq_false_iff]; exact hl0
      clear hc hf c0 c1 ca hb2 hv hrow
      by_cases hz : T.size ≤ 20
      · rw [if_pos ⟨by omega, hz⟩] at htk
        rw [htk] at hsn
        have hbt := below_grown ((Below.refl W2.heap.size W2).alloc (Nat.le_refl _) (.cells #[.string T, .int .i64 (x.1.1 : Int)] 26))
        obtain ⟨d0, d1, f0, f1⟩ := new2 W2 (.string ⟨#[]⟩) (.int .i64 0) 26
        obtain ⟨d2, d3, f2, f3⟩ := new2 W2 (.string T) (.int .i64 (x.1.1 : Int)) 26
        have hv3 := hv2.alloc (.cells #[.string T, .int .i64 (x.1.1 : Int)] 26)
        have hc := hv3.cell
        have hf := hv3.frozen
        simp only [smallV, if_pos hz, tkv]
        have hwl := wtk_len pre
        gi_wp2_with (gi_at_builtin; refine wpListIn_pairK isToken (W2.alloc (.cells #[.string T, .int .i64 (x.1.1 : Int)] 26)) rfl _ _ rfl w.heap.size _ (Tok.tkl (wtk pre)) _ rfl (hrow2.alloc _) (.string T) (.int .i64 (x.1.1 : Int)) rfl rfl (by simp [Act.eval]) hnil (by omega) (by unfold maxLen; omega) (by have := hB2.size; simp; omega) ?_; intro v' w1 hown' hgrow hkeep; obtain ⟨g', cap', rfl⟩ := ownsRow_succ hown'; obtain ⟨hv4, hv5, hr5, hk5, hb5⟩ := hv3.appended (by decide) (hrow2.alloc _) (by have := hB2.size; simp; omega) (by omega) hown' hgrow; have hc1 := hv4.cell; have hf1 := hv4.frozen)
        have hp3 : KpT w.heap.size W2 (W2.alloc (.cells #[.string T, .int .i64 (x.1.1 : Int)] 26)) := KpT.of_below ((Below.refl _ W2).alloc (Nat.le_refl _) _) hB2.size
        have hp5 : KpT w.heap.size (W2.alloc (.cells #[.string T, .int .i64 (x.1.1 : Int)] 26)) (w1.setCell ⟨w.heap.size + 1, 0, none⟩ (.slice (some ⟨g', 0, none⟩) ((wtk pre).length + 1) cap')) :=
          ⟨hb5, fun k cs m hk _ => far_kept hv3 (hrow2.alloc _) hgrow hk (by decide) (by decide), fun k cs m hk => far_kept hv3 (hrow2.alloc _) hgrow hk (by decide) (by decide)⟩
        have hpp := (hp2.trans hp3).trans hp5
        refine ⟨((hk2.trans (KeepsOthers.alloc _ _)).trans hk5).from _, hpp, ⟨⟨_, hv5, ?_, fun h => ?_⟩, hpp.2.2 _ _ _ (by assumption)⟩, hB.trans hpp.1⟩
        · rw [hsn, Option.toList_some, tkl_snoc, List.length_append, List.length_singleton]
          exact hr5
        · rw [hsn] at h; simp at h
      · rw [if_neg (fun h => hz h.2)] at htk
        rw [htk] at hsn
        rw [Option.toList_none, List.append_nil] at hsn
        obtain ⟨d0, d1, f0, f1⟩ := new2 W2 (.string ⟨#[]⟩) (.int .i64 0) 26
        simp only [smallV, if_neg hz, tkv]
        gi_wp2_with (fail)
        have hp3 : KpT w.heap.size W2 (W2.alloc (.cells #[.string ⟨#[]⟩, .int .i64 0] 26)) := KpT.of_below ((Below.refl _ W2).alloc (Nat.le_refl _) _) hB2.size
        exact ⟨(hk2.trans (KeepsOthers.alloc _ _)).from _, hp2.trans hp3, ⟨⟨v, hv2.alloc _, by rw [hsn]; exact hrow2.alloc _, by rw [hsn]; exact hnil⟩, (hp2.trans hp3).2.2 _ _ _ hA⟩, hB.trans (hp2.trans hp3).1⟩
  case done =>
    rintro D ys W hD hS ⟨⟨⟨v, hv, hrow, _⟩, hA⟩, hB⟩ hK
    have hc := hv.cell
    rw [wtk_done hS] at hrow
    gi_wp2
    refine ⟨by simp, .inl ⟨_, _, rfl, run_takeDeferred hK, ?_⟩⟩
    exact ⟨_, results_tmp rfl _ _ _, v, rfl, ownsRow_putObj hrow _ hK rfl, hB.trans (belowK_b (w := w) (Nat.le_refl _) W D _ _ (by omega) hK rfl rfl)⟩
  case stop =>
    rintro D c pre W hD hS ⟨⟨⟨⟨pre0, x, rfl, hx, v, hv, hrow⟩, _⟩, rfl⟩, hB⟩ hK
    have hc := hv.cell
    have ht : Tok.toks s = wtk pre0 := by
      rw [List.map_append] at hS
      exact Tok.toks_stop s _ x.1 hS hx
    rw [← ht] at hrow
    gi_wp2
    refine ⟨by simp, .inl ⟨_, _, rfl, run_takeDeferred hK, ?_⟩⟩
    exact ⟨_, results_tmp rfl _ _ _, v, rfl, ownsRow_putObj hrow _ hK rfl, hB.trans (belowK_b (w := w) (Nat.le_refl _) W D _ _ (by omega) hK rfl rfl)⟩
end Go.Proofs.YtldfomggeleolaaDoor
