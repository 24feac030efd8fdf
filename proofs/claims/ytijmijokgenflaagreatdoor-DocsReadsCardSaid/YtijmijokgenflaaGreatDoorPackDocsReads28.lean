/- The statement DocsReads, proved for every input that its row reads: part 28 of 54. -/
import Derived.Test.YtijmijokgenflaaGreatDoorPackDocsReads25
import Derived.Test.YtijmijokgenflaaGreatDoorStsPlain
import Derived.Test.YtijmijokgenflaaGreatDoorStrSort
import Derived.Test.YtijmijokgenflaaGreatDoorPackDocsReads15
import Derived.Test.YtijmijokgenflaaGreatDoorOpenS
import Derived.Deep.QuietTactic
import Derived.BigQuiet
import Derived.Test.YtijmijokgenflaaGreatDoorPackDocsReads10
import Derived.Laws.AppendOwnNone
/- docs.Gone, Names, Read, Corpus: what they come to, plain. -/
namespace Go.Proofs.YtijmijokgenflaaGreatDoor
open Go Go.RowKit Go.Sort Go.Lib
set_option linter.unusedVariables false
set_option maxRecDepth 1000000

theorem toList_eqB {x y : ByteArray} : (x.toList == y.toList) = true ↔ x = y := by
  constructor
  · intro h
    have h := eq_of_beq h
    exact ByteArray.ext (Array.toList_inj.1 (by rw [Lib.toList_data, Lib.toList_data] at h; exact h))
  · intro h; subst h; simp
/-- is a write of a document? -/
def isOf (n : ByteArray) (y : Wr) : Bool := y.doc.toList == n.toList
theorem isOf_iff {n : ByteArray} {y : Wr} : isOf n y = true ↔ y.doc = n := toList_eqB
theorem isOf_no {n : ByteArray} {y : Wr} : isOf n y = false ↔ y.doc ≠ n := by rw [← Bool.not_eq_true, isOf_iff]
theorem ofW_all (L : List Wr) (n : ByteArray) : ofW L n (-1) = L.filter (isOf n) := by
  unfold ofW
  congr 1
  funext y
  unfold notOf isOf
  simp
theorem ofW_field (L : List Wr) (n : ByteArray) (k : Int) (hk : 0 ≤ k) : ofW L n k = (ofW L n (-1)).filter (fun y => y.field == k) := by
  rw [ofW_all, List.filter_filter]
  unfold ofW
  congr 1
  funext y
  unfold notOf isOf
  have h1 : decide (k ≥ 0) = true := decide_eq_true hk
  rw [h1]
  cases e1 : (y.doc.toList == n.toList) <;> cases e2 : (y.field == k) <;> simp [bne, e2]
theorem ofW_doc {L : List Wr} {n : ByteArray} {k : Int} {y : Wr} (h : y ∈ ofW L n k) : y.doc = n := by
  unfold ofW notOf at h
  have h2 := (List.mem_filter.1 h).2
  simp only [Bool.not_or, Bool.not_not, Bool.and_eq_true] at h2
  exact toList_eqB.1 h2.1
theorem ofW_fld {L : List Wr} {n : ByteArray} {k : Int} {y : Wr} (hk : 0 ≤ k) (h : y ∈ ofW L n k) : y.field = k := by
  rw [ofW_field L n k hk] at h
  simpa using (List.mem_filter.1 h).2
theorem fold_filter {α β : Type} (f : β → α → β) (p : α → Bool) (h : ∀ s x, p x = false → f s x = s) : ∀ (l : List α) (s : β), (l.filter p).foldl f s = l.foldl f s
  | [], s => rfl
  | x :: l, s => by
    rw [List.filter_cons, List.foldl_cons]
    cases e : p x with
    | true => rw [if_pos rfl, List.foldl_cons]; exact fold_filter f p h l _
    | false => rw [if_neg (by decide), h s x e]; exact fold_filter f p h l s
theorem latest_field (L : List Wr) (n : ByteArray) (k : Int) (hk : 0 ≤ k) : latestOf (ofW L n k) k = latestOf (ofW L n (-1)) k := by
  unfold latestOf lastL
  rw [ofW_field L n k hk, fold_filter (stepL k) (fun y => y.field == k) (fun s x hx => by
    have : x.field ≠ k := by simpa using hx
    unfold stepL
    rw [if_neg (fun h => this h.1)])]
/-- a document as one reads it -/
structure Dv where
  id : ByteArray
  t0 : ByteArray
  t1 : ByteArray
  t2 : ByteArray
  t3 : ByteArray
def dvOf (L : List Wr) (n : ByteArray) : Dv := ⟨n, latestOf (ofW L n (-1)) 1, latestOf (ofW L n (-1)) 2, latestOf (ofW L n (-1)) 3, latestOf (ofW L n (-1)) 4⟩
/-- the dots of writes, in order, each once -/
def dotsIn (L : List Wr) : List Dt := dedup ((L.map Wr.dot).mergeSort fun x y => !ltD y x)
theorem dotsIn_rises (L : List Wr) : Rises (dotsIn L) := by
  refine dedup_rises _ ?_
  have := List.pairwise_mergeSort (le := fun x y => !ltD y x)
    (fun a b c h1 h2 => by
      simp only [Bool.not_eq_true'] at *
      rw [← Bool.not_eq_true, ltD_iff] at *; omega)
    (fun a b => by
      cases h1 : ltD b a with
      | false => rfl
      | true =>
        cases h2 : ltD a b with
        | false => rfl
        | true => have := ltD_trans h1 h2; rw [ltD_irrefl] at this; cases this) (L.map Wr.dot)
  exact this.imp fun {a b} hab => by simpa using hab
theorem dotsIn_mem (L : List Wr) (d : Dt) : d ∈ dotsIn L ↔ d ∈ L.map Wr.dot := by
  unfold dotsIn
  rw [dedup_mem, List.mem_mergeSort]
theorem dotsIn_is {L : List Wr} {l : List Dt} (h : Rises l) (hm : ∀ d, d ∈ l ↔ d ∈ L.map Wr.dot) : l = dotsIn L := rises_eq h (dotsIn_rises L) fun d => (hm d).trans (dotsIn_mem L d).symm
/-- texts that rise -/
def RiseB (l : List ByteArray) : Prop := l.Pairwise fun a b => ltB a b = true
theorem riseB_eq : ∀ {l l' : List ByteArray}, RiseB l → RiseB l' → (∀ d, d ∈ l ↔ d ∈ l') → l = l'
  | [], [], _, _, _ => rfl
  | [], y :: l', _, _, h => by have := (h y).2 (by simp); simp at this
  | x :: l, [], _, _, h => by have := (h x).1 (by simp); simp at this
  | x :: l, y :: l', h1, h2, h => by
    have p1 := List.pairwise_cons.1 h1; have p2 := List.pairwise_cons.1 h2
    have hxy : x = y := by
      rcases List.mem_cons.1 ((h x).1 (by simp)) with e | e
      · exact e
      · rcases List.mem_cons.1 ((h y).2 (by simp)) with e2 | e2
        · exact e2.symm
        · have a := p2.1 x e; have b := p1.1 y e2
          have := lin_B.tr _ _ _ a b
          rw [lin_B.irr] at this; cases this
    subst hxy
    congr 1
    refine riseB_eq p1.2 p2.2 fun d => ?_
    constructor
    · intro hd
      rcases List.mem_cons.1 ((h d).1 (by simp [hd])) with e | e
      · subst e; have := p1.1 d hd; rw [lin_B.irr] at this; cases this
      · exact e
    · intro hd
      rcases List.mem_cons.1 ((h d).2 (by simp [hd])) with e | e
      · subst e; have := p2.1 d hd; rw [lin_B.irr] at this; cases this
      · exact e
theorem compact_mem (l : List (List UInt8)) (x : List UInt8) : x ∈ compact l ↔ x ∈ l := by
  have key : ∀ i, i < l.length → l.toArray[i]! ∈ compact l := by
    intro i
    induction i with
    | zero =>
      intro hi
      unfold compact compactUpTo
      rw [List.mem_map]
      exact ⟨0, by simp [List.mem_filter, List.mem_range, hi, keeps], rfl⟩
    | succ i ih =>
      intro hi
      by_cases hk : keeps l.toArray (i + 1) = true
      · unfold compact compactUpTo
        rw [List.mem_map]
        exact ⟨i + 1, by simp [List.mem_filter, List.mem_range, hi, hk], rfl⟩
      · have e : l.toArray[i + 1]! = l.toArray[i]! := by simpa [keeps] using hk
        rw [e]
        exact ih (by omega)
  constructor
  · intro h
    unfold compact compactUpTo at h
    obtain ⟨j, hj, rfl⟩ := List.mem_map.1 h
    have hj' := List.mem_range.1 (List.mem_filter.1 hj).1
    simp [hj']
  · intro h
    obtain ⟨i, hi, rfl⟩ := List.getElem_of_mem h
    have := key i hi
    simpa [hi] using this
theorem mem_ofBytes {l : List (List UInt8)} {x : ByteArray} : x ∈ ofBytes l ↔ x.data.toList ∈ l := by
  unfold ofBytes
  rw [List.mem_map]
  constructor
  · rintro ⟨y, hy, rfl⟩; simpa using hy
  · intro h; exact ⟨_, h, by simp⟩
theorem mem_bytesOf {l : List ByteArray} {x : ByteArray} : x.data.toList ∈ bytesOf l ↔ x ∈ l := by
  unfold bytesOf
  rw [List.mem_map]
  constructor
  · rintro ⟨y, hy, e⟩
    have : y = x := ByteArray.ext (Array.toList_inj.1 e)
    subst this; exact hy
  · intro h; exact ⟨x, h, rfl⟩
/-- the documents of writes, in order, each once -/
def namesIn (L : List Wr) : List ByteArray := compS (sortS (L.map Wr.doc))
theorem namesIn_rise (L : List Wr) : RiseB (namesIn L) := compS_rise _
theorem namesIn_mem (L : List Wr) (x : ByteArray) : x ∈ namesIn L ↔ x ∈ L.map Wr.doc := by
  unfold namesIn compS
  rw [mem_ofBytes, compact_mem, mem_bytesOf]
  unfold sortS
  rw [mem_ofBytes, List.mem_mergeSort, mem_bytesOf]
theorem namesIn_is {L : List Wr} {l : List ByteArray} (h : RiseB l) (hm : ∀ d, d ∈ l ↔ d ∈ L.map Wr.doc) : l = namesIn L := riseB_eq h (namesIn_rise L) fun d => (hm d).trans (namesIn_mem L d).symm
theorem namesIn_len (L : List Wr) : (namesIn L).length ≤ L.length := by
  have h1 := compS_len (sortS (L.map Wr.doc)); have h2 := sortS_len (L.map Wr.doc)
  rw [List.length_map] at h2
  unfold namesIn; omega
def corpusIn (L : List Wr) : List Dv := (namesIn L).map (dvOf L)
/-- by document alone -/
def ltN (x y : Wr) : Bool := ltB x.doc y.doc
theorem sw_N : SW ltN where
  irr := fun x => lin_B.irr _
  tr := fun x y z h1 h2 => lin_B.tr _ _ _ h1 h2
  ng := fun x y z h1 h2 => by
    unfold ltN at *
    cases e : ltB x.doc z.doc with
    | false => rfl
    | true =>
      cases e2 : ltB y.doc x.doc with
      | true => rw [lin_B.tr _ _ _ e2 e] at h2; cases h2
      | false => rw [lin_B.tot _ _ h1 e2, h2] at e; cases e
theorem mrg_filter (n : ByteArray) (z : Wr) : ∀ (A : List Wr), Srt ltN A → (mrg ltN A [z]).filter (isOf n) = A.filter (isOf n) ++ [z].filter (isOf n)
  | [], _ => by rw [mrg_nil]; rfl
  | u :: A, h => by
    have h' := List.pairwise_cons.1 h
    rw [mrg_cons]
    cases e : ltN z u with
    | true =>
      rw [if_pos rfl, mrg_nil2]
      cases ez : isOf n z with
      | false => simp [List.filter_cons, ez]
      | true =>
        have hz := isOf_iff.1 ez
        have h0 : ∀ x ∈ u :: A, isOf n x = false := fun x hx => by
          rw [isOf_no]
          intro hn
          unfold ltN at e
          rcases List.mem_cons.1 hx with rfl | hx
          · rw [hz, hn, lin_B.irr] at e; cases e
          · have := h'.1 x hx
            unfold ltN at this
            rw [hz, ← hn, this] at e; cases e
        have h1 : (u :: A).filter (isOf n) = [] := List.filter_eq_nil_iff.2 fun x hx => by rw [h0 x hx]; simp
        rw [List.filter_cons, ez, if_pos rfl, h1]
        simp [List.filter_cons, ez]
    | false =>
      rw [if_neg (by decide), List.filter_cons, List.filter_cons, mrg_filter n z A h'.2]
      cases isOf n u <;> simp
theorem isrt_filter (n : ByteArray) (L : List Wr) : (isrt ltN L).filter (isOf n) = L.filter (isOf n) := by
  have h : ∀ (m : List Wr), (isrt ltN m.reverse).filter (isOf n) = m.reverse.filter (isOf n) := fun m => by
    induction m with
    | nil => rfl
    | cons x m ih => rw [List.reverse_cons, isrt_snoc, mrg_filter n x _ (isrt_srt sw_N _), ih, List.filter_append]
  have := h L.reverse
  rwa [List.reverse_reverse] at this
theorem filter_split (n : ByteArray) : ∀ (S : List Wr), Srt ltN S → (∀ x ∈ S, ltB x.doc n = false) → S = S.filter (isOf n) ++ S.filter (fun y => !isOf n y)
  | [], _, _ => rfl
  | x :: S, h, hm => by
    have h' := List.pairwise_cons.1 h
    cases e : isOf n x with
    | true =>
      have ih := filter_split n S h'.2 (fun y hy => hm y (by simp [hy]))
      rw [List.filter_cons, List.filter_cons, e, if_pos rfl]
      simp only [Bool.not_true, Bool.false_eq_true, if_false, List.cons_append]
      rw [← ih]
    | false =>
      have hx := isOf_no.1 e
      have h0 : ∀ y ∈ x :: S, isOf n y = false := fun y hy => by
        rcases List.mem_cons.1 hy with rfl | hy
        · exact e
        · rw [isOf_no]; intro hn
          have h2 := h'.1 y hy
          unfold ltN at h2
          rw [hn] at h2
          exact hx (lin_B.tot _ _ (hm x (by simp)) h2)
      have h1 : (x :: S).filter (isOf n) = [] := List.filter_eq_nil_iff.2 fun y hy => by rw [h0 y hy]; simp
      have h2 : (x :: S).filter (fun y => !isOf n y) = x :: S := List.filter_eq_self.2 fun y hy => by rw [h0 y hy]; rfl
      rw [h1, h2]; rfl
theorem blocks : ∀ (N : List ByteArray) (S : List Wr), RiseB N → Srt ltN S → (∀ x ∈ S, x.doc ∈ N) → S = N.flatMap fun n => S.filter (isOf n)
  | [], S, _, _, h => by
    cases S with
    | nil => rfl
    | cons x S => have := h x (by simp); simp at this
  | n :: N, S, hr, hs, h => by
    have hr' := List.pairwise_cons.1 hr
    have h1 := filter_split n S hs (fun x hx => by
      rcases List.mem_cons.1 (h x hx) with e | e
      · rw [e, lin_B.irr]
      · cases e2 : ltB x.doc n with
        | false => rfl
        | true => have := lin_B.tr _ _ _ e2 (hr'.1 _ e); rw [lin_B.irr] at this; cases this)
    have ih := blocks N (S.filter fun y => !isOf n y) hr'.2 (List.Pairwise.filter _ hs) (fun x hx => by
      obtain ⟨h2, h3⟩ := List.mem_filter.1 hx
      rcases List.mem_cons.1 (h x h2) with e | e
      · rw [isOf_iff.2 e] at h3; cases h3
      · exact e)
    rw [List.flatMap_cons]
    conv => lhs; rw [h1, ih]
    congr 1
    refine flatMap_congr' fun m hm => ?_
    rw [List.filter_filter]
    congr 1
    funext y
    cases e : isOf m y with
    | false => simp
    | true =>
      have h3 : isOf n y = false := isOf_no.2 fun h4 => by
        have h5 := isOf_iff.1 e
        have := hr'.1 m hm
        rw [← h4, ← h5, lin_B.irr] at this; cases this
      simp [h3]
where
  flatMap_congr' {α β : Type} {f g : α → List β} : ∀ {l : List α}, (∀ x ∈ l, f x = g x) → l.flatMap f = l.flatMap g
    | [], _ => rfl
    | x :: l, h => by rw [List.flatMap_cons, List.flatMap_cons, h x (by simp), flatMap_congr' fun y hy => h y (by simp [hy])]
/-- writes by document: those of the documents from the j-th on -/
def fromN (L : List Wr) (j : Nat) : List Wr := ((namesIn L).drop j).flatMap fun n => ofW L n (-1)
theorem fromN_all (L : List Wr) : isrt ltN L = fromN L 0 := by
  have h := blocks (namesIn L) (isrt ltN L) (namesIn_rise L) (isrt_srt sw_N L) (fun x hx => by
    rw [namesIn_mem]
    exact List.mem_map.2 ⟨x, (isrt_perm L).mem_iff.1 hx, rfl⟩)
  rw [h]
  unfold fromN
  rw [List.drop_zero]
  congr 1
  funext n
  rw [isrt_filter, ofW_all]
theorem fromN_next (L : List Wr) (j : Nat) (hj : j < (namesIn L).length) : fromN L j = ofW L (namesIn L)[j] (-1) ++ fromN L (j + 1) := by
  unfold fromN
  rw [List.drop_eq_getElem_cons hj, List.flatMap_cons]
theorem fromN_end (L : List Wr) : fromN L (namesIn L).length = [] := by
  unfold fromN
  rw [List.drop_length]; rfl
theorem block_some (L : List Wr) (j : Nat) (hj : j < (namesIn L).length) : ∃ y l, ofW L (namesIn L)[j] (-1) = y :: l ∧ y.doc = (namesIn L)[j] := by
  have hm : (namesIn L)[j] ∈ L.map Wr.doc := (namesIn_mem L _).1 (List.getElem_mem hj)
  obtain ⟨x, hx, e⟩ := List.mem_map.1 hm
  cases h : ofW L (namesIn L)[j] (-1) with
  | nil =>
    rw [ofW_all] at h
    have := List.filter_eq_nil_iff.1 h x hx
    rw [isOf_iff.2 e] at this; simp at this
  | cons y l => exact ⟨y, l, rfl, ofW_doc (k := -1) (by rw [h]; simp)⟩
theorem block_rest (L : List Wr) (j : Nat) (hj : j < (namesIn L).length) : ∀ y ∈ fromN L (j + 1), y.doc ≠ (namesIn L)[j] := by
  intro y hy
  unfold fromN at hy
  obtain ⟨n, hn, hy⟩ := List.mem_flatMap.1 hy
  rw [ofW_doc hy]
  obtain ⟨i, hi, rfl⟩ := List.getElem_of_mem hn
  rw [List.length_drop] at hi
  rw [List.getElem_drop]
  have := List.pairwise_iff_getElem.1 (namesIn_rise L) j (j + 1 + i) hj (by omega) (by omega)
  intro e
  rw [e, lin_B.irr] at this; cases this
theorem fromN_len (L : List Wr) (j : Nat) : (fromN L j).length ≤ L.length := by
  have h0 : (fromN L 0).length = L.length := by rw [← fromN_all, isrt_len]
  rw [← h0]
  unfold fromN
  conv => rhs; rw [List.drop_zero, ← List.take_append_drop j (namesIn L), List.flatMap_append, List.length_append]
  omega
end Go.Proofs.YtijmijokgenflaaGreatDoor
/- docs.Names: the documents that are there, in order; docs.ofFirst. -/
namespace Go.Proofs.YtijmijokgenflaaGreatDoor
open Go Go.RowKit
set_option linter.unusedVariables false
set_option maxRecDepth 1000000

theorem below_drewNN {B : Nat} {a w : World} (h : Below B a w) (n : Nat) : Below B a (w.drewN n) := ⟨h.os, h.tape, h.output, h.size, h.block⟩
def RetStrs (w : World) (D : List ByteArray) (e : Ending) (w' : World) : Prop := ∃ v, e = .returned v ∧ w'.ownsRow w.heap.size 9 1 v D.length (strs D) ∧ Below w.heap.size w w'
set_option maxHeartbeats 4000000 in
theorem docNames_is (F : Nat → Int) (p : Option Addr) (c : Nat) (L : List Wr) (w : World) (h : WrsAt w p L) (hn : L.length ≤ 1000) :
    Calls Tryz.prog 15 #[.agg (scs F (.slice p L.length c))] w (RetStrs w (namesIn L)) := by
  have HW := Lib.hid h
  clear h
  go_enter Tryz.func15, Tryz.ntmps15
  go_wp2_with (refine wpList_gbox rfl _ rfl (scs F (.slice p L.length c)) rfl ?_)
  intro g2 w1 l2 h2 hb1
  have S1 : Hid (Sx w1 g2 F (.slice p L.length c)) := Lib.hid h2
  have B1 := Lib.hid hb1
  clear h2 hb1
  have s1 := S1.out.slot
  go_wp2_with fail
  clear s1 S1
  go_loopw [3, 9] (fun v i wr => ∃ k : Nat, k ≤ L.length ∧ i = .int .i64 k ∧ Hid (wr.ownsRow w.heap.size 9 1 v ((L.take k).map Wr.doc).length (strs ((L.take k).map Wr.doc))) ∧ Hid (Below w.heap.size w wr)) (fun _ i _ => L.length - (intOf i).toNat)
  case atStart => exact ⟨0, Nat.zero_le _, rfl, Lib.hid ⟨rfl, .inl ⟨rfl, rfl⟩⟩, B1⟩
  case round =>
    clear B1
    obtain ⟨k, hk, rfl, OO, BB⟩ := hrel
    obtain ⟨q, cq, hq⟩ := own_slice OO.out
    subst hq
    by_cases hkl : k < L.length
    · have hkl' : (k : Int) < L.length := by omega
      obtain ⟨b, o, rfl, hlt, hr⟩ := (HW.out.below BB.out).at hkl
      obtain ⟨c0, c1, c2, c3, c4, c5⟩ := wr_cells hr
      have TK : Hid ((L.take (k + 1)).map Wr.doc = (L.take k).map Wr.doc ++ [L[k].doc]) := Lib.hid (by rw [List.take_succ_eq_append_getElem hkl, List.map_append]; rfl)
      have ML : ((L.take k).map Wr.doc).length ≤ 1000 := by rw [List.length_map, List.length_take]; omega
      clear hr hlt
      obtain ⟨y, hy⟩ : ∃ y, L[k] = y := ⟨_, rfl⟩
      rw [hy] at c0 c1 c2 c3 c4 c5 TK
      clear hy
      obtain ⟨r, n, t, d, fl, tx⟩ := y
      simp only at c0 c1 c2 c3 c4 c5 TK
      generalize (L.take k).map Wr.doc = M at OO TK ML
      have b7 := below_alloc wr (.cells #[.int .i64 r, .int .i64 n, .int .i64 t, .string d, .int .i64 fl, .string tx] 39)
      have B7 := Lib.hid (thenBelow BB.out b7)
      have O7 := Lib.hid (own_later OO.out b7)
      clear b7
      go_wp2_with (at_builtin; refine wpList_str _ rfl _ _ rfl w.heap.size M.length (strs M) _ rfl O7.out d (by rw [World.size_alloc]; rfl) (by omega) B7.out.size ?_)
      intro v6 w6 o6 g6
      have B6 := Lib.hid (B7.out.grown g6 B7.out.size (fun k hk => (O7.out.lt k hk).1))
      have O6 : Hid (w6.ownsRow w.heap.size 9 1 v6 ((L.take (k + 1)).map Wr.doc).length (strs ((L.take (k + 1)).map Wr.doc))) := Lib.hid (by rw [TK.out, strs_snoc, List.length_append]; exact o6)
      clear o6 g6 c0 c1 c2 c3 c4 c5
      go_wp2
      go_roundw
      case rel => exact ⟨k + 1, by omega, by go_num, O6, B6⟩
      case measure => simp [intOf]; omega
    · obtain rfl : k = L.length := by omega
      have hkl' : ¬ ((L.length : Nat) : Int) < L.length := by omega
      rw [List.take_length] at OO
      have ML : (L.map Wr.doc).length = L.length := List.length_map _
      have HN : Hid (namesIn L = compS (sortS (L.map Wr.doc))) := Lib.hid rfl
      clear HW
      generalize L.map Wr.doc = M at OO ML HN
      have O5 := OO.out
      rw [ML] at O5
      have SO := sortS_is w.heap.size M _ wr OO.out (by omega)
      have SL := sortS_len M
      rw [ML] at SO
      have SO := Lib.hid SO
      clear O5
      go_wp2_with fail
      refine SO.out.mono ?_
      rintro e w2 ⟨rfl, o2, g2⟩
      have B2 := Lib.hid (BB.out.grown g2 BB.out.size (fun k hk => (OO.out.lt k (by rw [ML]; exact hk)).1))
      have CO := Lib.hid (compS_is w.heap.size (sortS M) _ w2 o2 (by omega))
      have O2 := Lib.hid o2
      clear SO o2 g2 OO
      dsimp only
      go_wp2_with fail
      refine CO.out.mono ?_
      rintro e w3 ⟨v3, rfl, o3, g3⟩
      have B3 := Lib.hid (B2.out.grown g3 B2.out.size (fun k hk => (O2.out.lt k hk).1))
      have O3 := Lib.hid o3
      clear CO o3 g3 O2
      dsimp only
      go_wp2
      go_ret
      rw [HN.out]
      exact ⟨v3, rfl, O3.out, B3.out⟩
set_option maxHeartbeats 4000000 in
/-- how many writes at the beginning are of one document -/
theorem ofFirst_is (p : Option Addr) (c : Nat) (A B : List Wr) (n : ByteArray) (w : World) (h : WrsAt w p (A ++ B)) (hA : ∀ y ∈ A, y.doc = n) (h0 : 0 < A.length) (hB : ∀ y ∈ B, y.doc ≠ n) (hn : (A ++ B).length ≤ 1000000) :
    Calls Tryz.prog 40 #[.slice p (A ++ B).length c] w (fun e w' => e = .returned (.int .i64 A.length) ∧ Below w.heap.size w w') := by
  have HW := Lib.hid h
  have hAB : A.length ≤ (A ++ B).length := by simp
  have DA : Hid (∀ k (hk : k < (A ++ B).length), k < A.length → ((A ++ B)[k]).doc = n) := Lib.hid fun k hk h1 => by rw [List.getElem_append_left h1]; exact hA _ (List.getElem_mem h1)
  have DB : Hid (∀ k (hk : k < (A ++ B).length), A.length ≤ k → ((A ++ B)[k]).doc ≠ n) := Lib.hid fun k hk h1 => by rw [List.getElem_append_right h1]; exact hB _ (List.getElem_mem _)
  generalize A ++ B = L at *
  generalize A.length = m at *
  clear h hA hB
  go_enter Tryz.func40, Tryz.ntmps40
  go_wp2_with fail
  go_loopw [3] (fun i wr => ∃ k : Nat, k ≤ m ∧ i = .int .i64 k ∧ Hid (Below w.heap.size w wr)) (fun i _ => L.length - (intOf i).toNat)
  case atStart => exact ⟨0, Nat.zero_le _, rfl, Lib.hid (Below.refl _ _)⟩
  case round =>
    obtain ⟨k, hk, rfl, BB⟩ := hrel
    by_cases hkl : k < L.length
    · have hkl' : (k : Int) < L.length := by omega
      have h0L : 0 < L.length := by omega
      have h0L' : (0 : Int) < L.length := by omega
      have HV := HW.out.below BB.out
      obtain ⟨b, o, e1, hlt, hr⟩ := HV.at hkl
      obtain ⟨b', o', e2, hlt', hr'⟩ := HV.at h0L
      subst e1
      injection e2 with e2
      injection e2 with e2 e3
      subst e2 e3
      have c3 := (wr_cells hr).2.2.2.1
      have d3 := (wr_cells hr').2.2.2.1
      rw [DA.out 0 h0L h0] at d3
      simp only [Nat.zero_mul, Nat.add_zero] at d3
      by_cases hkm : k < m
      · rw [DA.out k hkl hkm] at c3
        have hq : (n.toList == n.toList) = true := by simp
        clear hr hr' HV
        go_wp2
        go_quiet (fail)
        go_wp2
        go_roundw
        case rel => exact ⟨k + 1, by omega, by go_num, Lib.hid (below_drewNN BB.out _)⟩
        case measure => simp [intOf]; omega
      · obtain rfl : k = m := by omega
        have hne := DB.out k hkl (Nat.le_refl _)
        obtain ⟨d, hd⟩ : ∃ d, L[k].doc = d := ⟨_, rfl⟩
        rw [hd] at c3 hne
        have hq : (d.toList == n.toList) = false := by
          cases e : (d.toList == n.toList) with
          | false => rfl
          | true => exact absurd (toList_eqB.1 e) hne
        clear hr hr' HV hne hd
        go_wp2
        go_quiet (fail)
        go_wp2
        go_ret
        exact ⟨rfl, below_drewNN BB.out _⟩
    · obtain rfl : k = L.length := by omega
      have hkl' : ¬ ((L.length : Nat) : Int) < L.length := by omega
      have hm : m = L.length := by omega
      subst hm
      go_wp2
      go_quiet (fail)
      go_wp2
      go_ret
      exact ⟨rfl, below_drewNN BB.out _⟩
end Go.Proofs.YtijmijokgenflaaGreatDoor
/- Rows of documents as one reads them. -/
namespace Go.Proofs.YtijmijokgenflaaGreatDoor
open Go Go.RowKit
set_option linter.unusedVariables false
set_option maxRecDepth 1000000

def Dv.cells (x : Dv) : List Value := [.string x.id, .string x.t0, .string x.t1, .string x.t2, .string x.t3]
theorem Dv.cells_len (x : Dv) : x.cells.length = 5 := rfl
theorem Dv.cells_one (x : Dv) : ∀ u ∈ x.cells, u.oneCell' = true := by
  intro u hu
  simp [Dv.cells] at hu
  rcases hu with rfl | rfl | rfl | rfl | rfl <;> rfl
def vcl (L : List Dv) : List Value := L.flatMap Dv.cells
theorem vcl_length (L : List Dv) : (vcl L).length = L.length * 5 := flat_len Dv.cells_len L
theorem vcl_append (a b : List Dv) : vcl (a ++ b) = vcl a ++ vcl b := by simp [vcl]
theorem vcl_snoc (l : List Dv) (x : Dv) : vcl (l ++ [x]) = vcl l ++ x.cells := by rw [vcl_append]; simp [vcl]
theorem vcl_one (L : List Dv) : ∀ u ∈ vcl L, u.oneCell' = true := by
  intro u hu
  obtain ⟨x, _, h⟩ := List.mem_flatMap.1 hu
  exact x.cells_one u h
theorem vcl_take : ∀ (L : List Dv) (k : Nat), vcl (L.take k) = (vcl L).take (k * 5)
  | [], k => by simp [vcl]
  | x :: L, 0 => by simp [vcl]
  | x :: L, k + 1 => by
    have h := vcl_take L k
    rw [List.take_succ_cons, show vcl (x :: L.take k) = x.cells ++ vcl (L.take k) from rfl, show vcl (x :: L) = x.cells ++ vcl L from rfl, h, show (k + 1) * 5 = x.cells.length + k * 5 by rw [Dv.cells_len]; omega, List.take_length_add_append]
structure DvsAt (w : World) (p : Option Addr) (L : List Dv) : Prop where
  row : L ≠ [] → ∃ b o, p = some ⟨b, o, none⟩ ∧ w.rangeAt b o (vcl L)
  none : p = none → L = []
theorem DvsAt.below {w w' : World} {p : Option Addr} {L : List Dv} (h : DvsAt w p L) (hb : Below w.heap.size w w') : DvsAt w' p L :=
  ⟨fun hn => by
    obtain ⟨b, o, rfl, hr⟩ := h.row hn
    exact ⟨b, o, rfl, range_below hr hb⟩, h.none⟩
theorem DvsAt.at {w : World} {p : Option Addr} {L : List Dv} (h : DvsAt w p L) {i : Nat} (hi : i < L.length) :
    ∃ b o, p = some ⟨b, o, Option.none⟩ ∧ b < w.heap.size ∧ w.rangeAt b (o + i * 5) L[i].cells := by
  obtain ⟨b, o, rfl, hr⟩ := h.row (by intro e; subst e; simp at hi)
  have hr2 : w.rangeAt b (o + i * 5) L[i].cells := fun j u hu => by
    have hj : j < 5 := (List.getElem?_eq_some_iff.1 hu).1
    have := hr (i * 5 + j) u (by rw [show vcl L = L.flatMap Dv.cells from rfl, flat_get Dv.cells_len L i hi j hj]; exact hu)
    rw [Nat.add_assoc]; exact this
  exact ⟨b, o, rfl, World.block_lt_of_cell? w _ (hr2 0 _ rfl), hr2⟩
theorem dv_cells {w : World} {b o : Nat} {x : Dv} (h : w.rangeAt b o x.cells) :
    w.cell? ⟨b, o, none⟩ = some (.string x.id) ∧ w.cell? ⟨b, o + 1, none⟩ = some (.string x.t0) ∧ w.cell? ⟨b, o + 2, none⟩ = some (.string x.t1) ∧ w.cell? ⟨b, o + 3, none⟩ = some (.string x.t2) ∧ w.cell? ⟨b, o + 4, none⟩ = some (.string x.t3) :=
  ⟨h 0 _ rfl, h 1 _ rfl, h 2 _ rfl, h 3 _ rfl, h 4 _ rfl⟩
theorem vcl_setLL (M : List Dv) (a : Nat) (ha : a < M.length) (y : Dv) : setLL (vcl M) (a * 5) y.cells = vcl (M.set a y) := by
  apply List.ext_getElem?
  intro i
  have hl := vcl_length M
  rw [setLL_get _ _ _ (by rw [Dv.cells_len, hl]; omega)]
  by_cases hi : i < M.length * 5
  · have h2 := flat_get Dv.cells_len (M.set a y) (i / 5) (by simp; omega) (i % 5) (by omega)
    have h1 := flat_get Dv.cells_len M (i / 5) (by omega) (i % 5) (by omega)
    rw [show i / 5 * 5 + i % 5 = i by omega] at h1 h2
    change (vcl M)[i]? = _ at h1
    change (vcl (M.set a y))[i]? = _ at h2
    rw [h1, h2, Dv.cells_len]
    by_cases he : a = i / 5
    · subst he
      rw [if_pos (by omega)]
      simp only [List.getElem_set_self]
      rw [show i - i / 5 * 5 = i % 5 by omega]
    · rw [if_neg (by omega), List.getElem_set_ne he]
  · rw [if_neg (by rw [Dv.cells_len]; omega), List.getElem?_eq_none (by omega), List.getElem?_eq_none (by rw [vcl_length]; simp; omega)]
theorem infoDv : (Tryz.prog.info? 31).map (fun i => (i.zero, i.size, i.bytes)) = some (some (.agg #[.string ByteArray.empty, .string ByteArray.empty, .string ByteArray.empty, .string ByteArray.empty, .string ByteArray.empty]), 5, 80) := by kernel_rfl
theorem sizeDv (x : Dv) : (Tryz.prog.info? 31).map (·.size) = some x.cells.length := by rw [Dv.cells_len]; kernel_rfl
theorem own_atV {w : World} {B : Nat} {v : Value} {L : List Dv} (hr : w.ownsRow B 31 5 v L.length (vcl L)) : ∃ p c, v = .slice p L.length c ∧ L.length ≤ c ∧ DvsAt w p L ∧ (∀ a, p = some a → ∃ b o, a = ⟨b, o, Option.none⟩) := by
  rcases hr.2 with ⟨rfl, h0⟩ | ⟨g, cap, cur, rfl, hB, hg, hc, hm, hs, ht⟩
  · have : L = [] := List.eq_nil_of_length_eq_zero h0
    subst this
    exact ⟨none, 0, rfl, Nat.le_refl _, ⟨fun hn => absurd rfl hn, fun _ => rfl⟩, fun a ha => by cases ha⟩
  · refine ⟨some ⟨g, 0, none⟩, cap, rfl, hc, ⟨fun _ => ⟨g, 0, rfl, fun j u hu => ?_⟩, fun e => by cases e⟩, fun a ha => by obtain rfl := Option.some.inj ha; exact ⟨g, 0, rfl⟩⟩
    have hj : j < L.length * 5 := by rw [← vcl_length]; exact (List.getElem?_eq_some_iff.1 hu).1
    have := hr.cellAt j hj
    rw [Nat.zero_add, this]; exact hu
theorem exec_idxV {o : Oper} {a : Act} (x y : Operand) (ho : o.op = .indexAddr 47 x y) (b f len cap k : Nat) (hx : a.eval x = .slice (some ⟨b, f, none⟩) len cap) (hy : a.eval y = .int .i64 (k : Int)) (hk : k < len) (w : World) :
    (execOp a.eval o).run Tryz.prog w = .ok (.value (.pointer (some ⟨b, f + k * 5, none⟩))) w := by
  have hs : ∀ w : World, (sizeOf (Tryz.prog.elem 47)).run Tryz.prog w = .ok 5 w := fun w => by kernel_rfl
  unfold execOp
  simp only [ho, hx, hy]
  refine run_value_of ?_
  rw [run_indexAt_slice (h := Tryz.underlying47), if_pos (by omega), hs]
  simp only [Result.andThen_ok, Int.toNat_natCast]
  cases k <;> simp [Addr.add]
end Go.Proofs.YtijmijokgenflaaGreatDoor
/- append of rows of cells. -/
namespace Go.Proofs.YtijmijokgenflaaGreatDoor
open Go Go.RowKit
set_option linter.unusedVariables false
set_option maxRecDepth 1000000

section
variable {ops : Array Oper} {rest : List Oper} {o : Oper} {a : Act} {Q : Exit → Act → World → Prop}
/-- writes that lie somewhere, put behind writes of one's own -/
theorem wpList_dvs (w : World) (hg : o.guard = none) (s x : Operand) (ho : o.op = .call { callee := .builtin .append, args := #[s, x], argTypes := #[47, 47] })
    (B n : Nat) (xs : List Value) (v : Value) (hs : a.eval s = v) (hown : w.ownsRow B 31 5 v n xs) (b of m c : Nat) (L : List Dv) (hm : L.length = m) (hx : a.eval x = .slice (some ⟨b, of, none⟩) m c) (hl : w.rangeAt b of (vcl L))
    (hlen : n + m ≤ 1000000) (hB : B ≤ w.heap.size)
    (h : ∀ v' w', w'.ownsRow B 31 5 v' (n + m) (xs ++ vcl L) → w.grownBy w' v.ownBlock → wpList Tryz.prog ops Q rest (a.put o.dst v') w') : wpList Tryz.prog ops Q (o :: rest) a w := by
  subst hm
  obtain ⟨i0, hi, hz0, hz1, hz2⟩ := info_parts infoDv
  refine wpList_append_own _ hg s x 47 ho B 31 i0 _ 5 80 Tryz.underlying47 hi hz0 hz1 hz2 rfl (by decide) v n xs hs hown ⟨b, of, none⟩ L.length c (vcl L) hx (vcl_length L) ?_ (vcl_one L) (by unfold maxLen; omega) (by omega) hB ?_
  · intro j u hu
    rw [Addr.add_mid]; exact hl j u hu
  · intro v' w' h1 h2 _
    exact h v' w' h1 h2
theorem wpList_dvNone (w : World) (hg : o.guard = none) (s x : Operand) (ho : o.op = .call { callee := .builtin .append, args := #[s, x], argTypes := #[47, 47] })
    (B n : Nat) (xs : List Value) (v : Value) (hs : a.eval s = v) (hown : w.ownsRow B 31 5 v n xs) (hx : a.eval x = .slice none 0 0)
    (h : wpList Tryz.prog ops Q rest (a.put o.dst v) w) : wpList Tryz.prog ops Q (o :: rest) a w := by
  obtain ⟨i0, hi, hz0, hz1, hz2⟩ := info_parts infoDv
  exact wpList_append_own_none hg s x _ ho B 31 i0 5 Tryz.underlying47 hi v n xs hs hown hx h
/-- one write put behind writes of one's own -/
theorem wpList_dv (w : World) (hg : o.guard = none) (s x : Operand) (ho : o.op = .call { callee := .builtin .append, args := #[s, x], argTypes := #[47, 47] })
    (B n : Nat) (xs : List Value) (v : Value) (hs : a.eval s = v) (hown : w.ownsRow B 31 5 v n xs) (X : Dv) (hx : a.eval x = .slice (some ⟨w.heap.size, 0, none⟩) 1 1)
    (hlen : n + 1 ≤ 1000000) (hB : B ≤ w.heap.size)
    (h : ∀ v' w', w'.ownsRow B 31 5 v' (n + 1) (xs ++ X.cells) → w.grownBy w' v.ownBlock → wpList Tryz.prog ops Q rest (a.put o.dst v') w') : wpList Tryz.prog ops Q (o :: rest) a (w.alloc (.cells X.cells.toArray 31)) := by
  obtain ⟨i0, hi, hz0, hz1, hz2⟩ := info_parts infoDv
  refine wpList_append_own _ hg s x 47 ho B 31 i0 _ 5 80 Tryz.underlying47 hi hz0 hz1 hz2 rfl (by decide) v n xs hs (hown.alloc _) ⟨w.heap.size, 0, none⟩ 1 1 X.cells hx rfl ?_ X.cells_one (by unfold maxLen; omega) (by omega) (by simp; omega) ?_
  · intro j u hu
    rw [Addr.add_lit, Nat.zero_add, cell_of_row _ w.heap.size j _ _ _ (heap_alloc_new w (.cells X.cells.toArray 31))]
    simpa using hu
  · intro v' w' g1 g2 _
    refine h v' w' g1 ?_
    have g0 := World.grownBy_alloc w (.cells X.cells.toArray 31) v.ownBlock
    exact ⟨g2.os.trans g0.os, g2.tape.trans g0.tape, g2.output.trans g0.output, Nat.le_trans g0.size g2.size, fun i hi hne => (g2.block i (Nat.lt_of_lt_of_le hi g0.size) hne).trans (g0.block i hi hne)⟩
end
end Go.Proofs.YtijmijokgenflaaGreatDoor
/- docs.Read of any document. -/
namespace Go.Proofs.YtijmijokgenflaaGreatDoor
open Go Go.RowKit
set_option linter.unusedVariables false
set_option maxRecDepth 1000000

def noDv : Dv := ⟨ByteArray.empty, ByteArray.empty, ByteArray.empty, ByteArray.empty, ByteArray.empty⟩
/-- a document's cells, written out -/
def dvA (d : Dv) : Array Value := #[.string d.id, .string d.t0, .string d.t1, .string d.t2, .string d.t3]
/-- is a document there? -/
def thereB (L : List Wr) (n : ByteArray) : Bool := !(ofW L n (-1)).isEmpty
/-- a document as one reads it; nothing, if it is not there -/
def readD (L : List Wr) (n : ByteArray) : Dv := if thereB L n then dvOf L n else noDv
def ReadDR (w : World) (L : List Wr) (n : ByteArray) (e : Ending) (w' : World) : Prop := e = .returned (.tuple #[.agg (dvA (readD L n)), .bool (thereB L n)]) ∧ Below w.heap.size w w'
theorem readD_none {L : List Wr} {n : ByteArray} (h : ofW L n (-1) = []) : readD L n = noDv ∧ thereB L n = false := by
  have h2 : thereB L n = false := by unfold thereB; rw [h]; rfl
  exact ⟨by unfold readD; rw [h2]; rfl, h2⟩
theorem readD_some {L : List Wr} {n : ByteArray} {y : Wr} {l : List Wr} (h : ofW L n (-1) = y :: l) : readD L n = dvOf L n ∧ thereB L n = true := by
  have h2 : thereB L n = true := by unfold thereB; rw [h]; rfl
  exact ⟨by unfold readD; rw [h2]; rfl, h2⟩
set_option maxHeartbeats 8000000 in
theorem docRead_none (F : Nat → Int) (p : Option Addr) (c : Nat) (L : List Wr) (doc : ByteArray) (w : World) (h : WrsAt w p L) (ho : ∀ a, p = some a → ∃ b o, a = ⟨b, o, none⟩) (hn : L.length ≤ 10000) (hl : ofW L doc (-1) = []) :
    Calls Tryz.prog 6 #[.agg (scs F (.slice p L.length c)), .string doc] w (fun e w' => e = .returned (.tuple #[.agg (dcv ByteArray.empty fun _ => ByteArray.empty), .bool false]) ∧ Below w.heap.size w w') := by
  have OF := Lib.hid (fun (V : World) (hV : Below w.heap.size w V) => docOf_is F p c L doc (-1) V (h.below hV) ho hn)
  rw [hl] at OF
  clear h ho hl
  go_enter Tryz.func6, Tryz.ntmps6
  go_wp2_with (refine wpList_gbox rfl _ rfl (scs F (.slice p L.length c)) rfl ?_)
  intro g2 w1 l2 h2 hb1
  have S1 : Hid (Sx w1 g2 F (.slice p L.length c)) := Lib.hid h2
  have B1 := Lib.hid hb1
  clear h2 hb1
  go_wp2_with (refine wpList_galloc _ zeroDoc rfl rfl ?_)
  intro g4 w2 l4 h4 hb2
  have S2 := Lib.hid (S1.out.later hb2); have B2 := Lib.hid (thenBelow B1.out hb2); have D2 := Lib.hid h4
  have lw4 : w.heap.size ≤ g4 := Nat.le_trans B1.out.size l4
  clear h4 hb2
  have SW := Lib.hid (S2.out.whole)
  go_wp2_with (refine wpList_gload rfl _ rfl g2 0 rfl _ SW.out _ Tryz.underlying26 rfl (sizeStl _ _) ?_)
  refine (OF.out w2 B2.out).mono ?_
  rintro e w3 ⟨v, rfl, o3, hb3⟩
  obtain ⟨p3, c3, hv, _, hw3, _⟩ := own_wat o3
  subst hv
  have B3 := Lib.hid (thenBelow B2.out hb3)
  have D3 := Lib.hid ((hb3.block g4 (Array.getElem?_eq_some_iff.1 D2.out).1).trans D2.out)
  clear o3 hb3 hw3 OF SW
  go_wp2_with (first | refine wpList_pbuild (by rfl) _ rfl (dcv ByteArray.empty fun _ => ByteArray.empty) (by simp only [List.map_toArray, List.map_cons, List.map_nil]; exact builtDoc0 _) ?_ | refine wpList_gstore rfl _ _ rfl g4 rfl (dcv ByteArray.empty fun _ => ByteArray.empty) rfl _ _ D3.out (sizeDoc _ _) rfl (dcv_one _ _) ?_)
  intro w9 h9 g9
  have H9 := Lib.hid h9
  have B9 := Lib.hid (B3.out.trans (grown_below g9 B3.out.size lw4))
  clear h9 g9
  go_wp2
  exact bodyPost_ret (v := .tuple #[.agg (dcv ByteArray.empty fun _ => ByteArray.empty), .bool false]) (results_cell_two (p := 4) (q := 5) rfl _ w9 g4 _ _ (0, 0) _ rfl H9.out Tryz.underlying31 rfl (sizeDoc _ _) (.bool false) rfl) rfl ⟨rfl, B9.out⟩
theorem docReadA_is (F : Nat → Int) (p : Option Addr) (c : Nat) (L : List Wr) (doc : ByteArray) (w : World) (h : WrsAt w p L) (ho : ∀ a, p = some a → ∃ b o, a = ⟨b, o, none⟩) (hn : L.length ≤ 10000) :
    Calls Tryz.prog 6 #[.agg (scs F (.slice p L.length c)), .string doc] w (ReadDR w L doc) := by
  unfold ReadDR
  cases hl : ofW L doc (-1) with
  | nil =>
    obtain ⟨e1, e2⟩ := readD_none hl
    rw [e1, e2]
    exact docRead_none F p c L doc w h ho hn hl
  | cons y l =>
    obtain ⟨e1, e2⟩ := readD_some hl
    rw [e1, e2]
    have hy : y.doc = doc := ofW_doc (k := -1) (L := L) (by rw [hl]; simp)
    have e3 : dvOf L doc = ⟨y.doc, latestOf (y :: l) 1, latestOf (y :: l) 2, latestOf (y :: l) 3, latestOf (y :: l) 4⟩ := by unfold dvOf; rw [hl, hy]
    rw [e3]
    exact (docRead_is F p c L doc y l w h ho hn hl).mono fun e w' ⟨h1, h2⟩ => ⟨h1, h2⟩
end Go.Proofs.YtijmijokgenflaaGreatDoor
/- A list that rises, one more put in where it belongs, plain; the dots and the names of one write more. -/
namespace Go.Proofs.YtijmijokgenflaaGreatDoor
open Go Go.RowKit
set_option linter.unusedVariables false
set_option maxRecDepth 1000000

section
variable {α : Type} {lt : α → α → Bool}
/-- the search for a thing's own place -/
structure SrchL (lt : α → α → Bool) (o : List α) (d : α) (j at_ : Nat) : Prop where
  le : at_ ≤ j
  lo : ∀ i, (hi : i < o.length) → i < at_ → lt o[i] d = true
  hi : ∀ i, (hi : i < o.length) → at_ ≤ i → i < j → lt o[i] d = false
theorem SrchL.start (o : List α) (d : α) : SrchL lt o d 0 0 := ⟨Nat.le_refl _, fun _ _ h => absurd h (Nat.not_lt_zero _), fun _ _ _ h => absurd h (Nat.not_lt_zero _)⟩
theorem SrchL.yes {o : List α} {d : α} {j at_ : Nat} (L : Lin lt) (h : SrchL lt o d j at_) (hr : o.Pairwise fun a b => lt a b = true) (hj : j < o.length) (hl : lt o[j] d = true) : SrchL lt o d (j + 1) (j + 1) where
  le := Nat.le_refl _
  lo i hi hij := by
    by_cases e : i = j
    · subst e; exact hl
    · exact L.tr _ _ _ (List.pairwise_iff_getElem.1 hr i j hi hj (by omega)) hl
  hi i hi h1 h2 := by omega
theorem SrchL.no {o : List α} {d : α} {j at_ : Nat} (h : SrchL lt o d j at_) (hj : j < o.length) (hl : lt o[j] d = false) : SrchL lt o d (j + 1) at_ where
  le := Nat.le_succ_of_le h.le
  lo := h.lo
  hi i hi h1 h2 := by
    by_cases e : i = j
    · subst e; exact hl
    · exact h.hi i hi h1 (by omega)
theorem ins_rise (L : Lin lt) {o : List α} {d : α} {at_ : Nat} (hr : o.Pairwise fun a b => lt a b = true) (hs : SrchL lt o d o.length at_) (hd : d ∉ o) : (o.take at_ ++ [d] ++ o.drop at_).Pairwise fun a b => lt a b = true := by
  have hlo : ∀ x ∈ o.take at_, lt x d = true := fun x hx => by
    obtain ⟨i, hi, rfl⟩ := List.getElem_of_mem hx
    rw [List.length_take] at hi
    rw [List.getElem_take]
    exact hs.lo i (by omega) (by omega)
  have hhi : ∀ x ∈ o.drop at_, lt d x = true := fun x hx => by
    have hm := List.mem_of_mem_drop hx
    obtain ⟨i, hi, rfl⟩ := List.getElem_of_mem hx
    rw [List.length_drop] at hi
    rw [List.getElem_drop] at hm ⊢
    have h1 := hs.hi (at_ + i) (by omega) (by omega) (by omega)
    cases e : lt d o[at_ + i] with
    | true => rfl
    | false => exact absurd (by rw [← L.tot _ _ h1 e]; exact hm) hd
  rw [List.append_assoc, List.pairwise_append]
  refine ⟨hr.sublist (List.take_sublist _ _), ?_, fun a ha b hb => ?_⟩
  · rw [List.singleton_append, List.pairwise_cons]
    exact ⟨hhi, hr.sublist (List.drop_sublist _ _)⟩
  · rw [List.singleton_append] at hb
    rcases List.mem_cons.1 hb with rfl | hb
    · exact hlo a ha
    · exact L.tr _ _ _ (hlo a ha) (hhi b hb)
theorem ins_mem {o : List α} {d x : α} {at_ : Nat} : x ∈ o.take at_ ++ [d] ++ o.drop at_ ↔ x ∈ o ∨ x = d := by
  have h : x ∈ o ↔ x ∈ o.take at_ ∨ x ∈ o.drop at_ := by
    conv => lhs; rw [← List.take_append_drop at_ o, List.mem_append]
  rw [h]
  simp only [List.mem_append, List.mem_singleton]
  constructor
  · rintro ((h | h) | h)
    · exact .inl (.inl h)
    · exact .inr h
    · exact .inl (.inr h)
  · rintro ((h | h) | h)
    · exact .inl (.inl h)
    · exact .inr h
    · exact .inl (.inr h)
end
theorem lin_D : Lin ltD := ⟨ltD_irrefl, fun _ _ _ h1 h2 => ltD_trans h1 h2, ltD_or⟩
theorem dotsIn_has {L : List Wr} {y : Wr} (h : y.dot ∈ dotsIn L) : dotsIn (L ++ [y]) = dotsIn L := by
  refine (dotsIn_is (dotsIn_rises L) fun d => ?_).symm
  rw [dotsIn_mem, List.map_append, List.mem_append]
  refine ⟨.inl, fun h2 => ?_⟩
  rcases h2 with h2 | h2
  · exact h2
  · rw [List.mem_singleton.1 h2]; exact (dotsIn_mem L _).1 h
theorem dotsIn_put {L : List Wr} {y : Wr} {at_ : Nat} (hs : SrchL ltD (dotsIn L) y.dot (dotsIn L).length at_) (h : y.dot ∉ dotsIn L) : (dotsIn L).take at_ ++ [y.dot] ++ (dotsIn L).drop at_ = dotsIn (L ++ [y]) := by
  refine dotsIn_is (ins_rise lin_D (dotsIn_rises L) hs h) fun d => ?_
  rw [ins_mem, dotsIn_mem, List.map_append, List.mem_append]
  simp
theorem namesIn_has {L : List Wr} {y : Wr} (h : y.doc ∈ namesIn L) : namesIn (L ++ [y]) = namesIn L := by
  refine (namesIn_is (namesIn_rise L) fun d => ?_).symm
  rw [namesIn_mem, List.map_append, List.mem_append]
  refine ⟨.inl, fun h2 => ?_⟩
  rcases h2 with h2 | h2
  · exact h2
  · rw [List.mem_singleton.1 h2]; exact (namesIn_mem L _).1 h
theorem namesIn_put {L : List Wr} {y : Wr} {at_ : Nat} (hs : SrchL ltB (namesIn L) y.doc (namesIn L).length at_) (h : y.doc ∉ namesIn L) : (namesIn L).take at_ ++ [y.doc] ++ (namesIn L).drop at_ = namesIn (L ++ [y]) := by
  refine namesIn_is (ins_rise lin_B (namesIn_rise L) hs h) fun d => ?_
  rw [ins_mem, namesIn_mem, List.map_append, List.mem_append]
  simp
theorem dotsIn_len (L : List Wr) : (dotsIn L).length ≤ L.length := by
  unfold dotsIn
  refine Nat.le_trans (dedup_le' _) ?_
  rw [List.length_mergeSort, List.length_map]
  exact Nat.le_refl _
where
  dedup_le' : ∀ l : List Dt, (dedup l).length ≤ l.length
    | [] => by simp [dedup]
    | [a] => by simp [dedup]
    | a :: b :: t => by
      have ih := dedup_le' (b :: t)
      rw [dedup]
      split <;> simp at ih ⊢ <;> omega
end Go.Proofs.YtijmijokgenflaaGreatDoor
/- The same document held against itself. -/
namespace Go.Proofs.YtijmijokgenflaaGreatDoor
open Go Go.RowKit
set_option linter.unusedVariables false
set_option maxRecDepth 1000000

theorem equalT4 (a b c d : ByteArray) (w : World) : (Op.equalIn 9999 29 (.agg #[.string a, .string b, .string c, .string d]) (.agg #[.string a, .string b, .string c, .string d])).run Tryz.prog w = .ok true w := by
  have u9 := Tryz.underlying9
  have a9 := Tryz.isAgg9
  have z9 := Tryz.sizeOf9
  have uT := Tryz.underlying29
  have hs : ∀ w : World, (sizeOf 9).run Tryz.prog w = .ok 1 w := fun w => by kernel_rfl
  rw [show (9999 : Nat) = 9998 + 1 from rfl]
  unfold Op.equalIn
  simp only [Sem.run_bind, run_underlying uT w, Result.andThen_ok, hs]
  simp only [Std.Legacy.Range.forIn_eq_forIn_range', Std.Legacy.Range.size, Nat.sub_zero, Nat.add_one_sub_one, Nat.div_one]
  have pt : ∀ (cs : Array Value) (i : Nat) (v : Value) (w : World), cs[i]? = some v → (part 9 cs i).run Tryz.prog w = .ok v w := fun cs i v w h => by
    unfold part
    rw [Sem.run_bind, a9 w]
    simp [Result.andThen, h]
  have es : ∀ (x : ByteArray) (w : World), (Op.equalIn 9998 9 (.string x) (.string x)).run Tryz.prog w = .ok true w := fun x w => by
    have := run_equalIn_string (P := Tryz.prog) w 9997 9 x x u9
    rw [show (9998 : Nat) = 9997 + 1 from rfl, this]; simp
  have p0 : ∀ w : World, (part 9 #[Value.string a, .string b, .string c, .string d] (0 * 1)).run Tryz.prog w = .ok (.string a) w := fun w => pt _ _ _ w rfl
  have p1 : ∀ w : World, (part 9 #[Value.string a, .string b, .string c, .string d] (1 * 1)).run Tryz.prog w = .ok (.string b) w := fun w => pt _ _ _ w rfl
  have p2 : ∀ w : World, (part 9 #[Value.string a, .string b, .string c, .string d] (2 * 1)).run Tryz.prog w = .ok (.string c) w := fun w => pt _ _ _ w rfl
  have p3 : ∀ w : World, (part 9 #[Value.string a, .string b, .string c, .string d] (3 * 1)).run Tryz.prog w = .ok (.string d) w := fun w => pt _ _ _ w rfl
  rw [show List.range' 0 4 = [0, 1, 2, 3] from rfl]
  simp only [List.forIn_cons, List.forIn_nil, Sem.run_bind, p0, p1, p2, p3, es, Result.andThen_ok, Bool.not_true, Bool.false_eq_true, if_false, Sem.run_pure]
theorem runEqV (i a b c d : ByteArray) (w : World) : (Op.equalIn 10000 31 (.agg #[.string i, .string a, .string b, .string c, .string d]) (.agg #[.string i, .string a, .string b, .string c, .string d])).run Tryz.prog w = .ok true w := by
  have u9 := Tryz.underlying9
  have a9 := Tryz.isAgg9
  have z9 := Tryz.sizeOf9
  have ud := Tryz.underlying29
  have ad := Tryz.isAgg29
  have zd := Tryz.sizeOf29
  have hd := equalT4 a b c d
  have hS : Tryz.prog.underlying 31 = some (.struct (Tryz.prog.fieldsOf 31)) := by kernel_rfl
  have hp : Tryz.prog.stoodInHeld 31 = false := by kernel_rfl
  rw [show (10000 : Nat) = 9999 + 1 from rfl, run_equalIn_agg w 9999 31 _ _ hS hp]
  simp only [Program.fieldsOf, Tryz.underlying31]
  go_simp
theorem exec_neqVs {o : Oper} {a : Act} (t : TypeId) (x y : Operand) (ho : o.op = .binOp .neq 31 x y t) (d : Dv) (hx : a.eval x = .agg (dvA d)) (hy : a.eval y = .agg (dvA d)) (w : World) :
    (execOp a.eval o).run Tryz.prog w = .ok (.value (.bool false)) w := by
  have h : (binOp .neq 31 (.agg (dvA d)) (.agg (dvA d))).run Tryz.prog w = .ok (.bool false) w := by
    rw [run_neq_struct, show dvA d = #[.string d.id, .string d.t0, .string d.t1, .string d.t2, .string d.t3] from rfl, runEqV _ _ _ _ _ w]; rfl
  unfold execOp
  simp only [ho, hx, hy]
  refine run_value_of ?_
  rw [Sem.run_bind]
  have hg : (eqGuard .neq 31 x y (.agg (dvA d)) (.agg (dvA d))).run Tryz.prog w = .ok () w := by
    unfold eqGuard
    go_simp
  rw [hg]
  exact h
end Go.Proofs.YtijmijokgenflaaGreatDoor
/- slices.Equal of the same things. -/
namespace Go.Proofs.YtijmijokgenflaaGreatDoor
open Go Go.RowKit
set_option linter.unusedVariables false
set_option maxRecDepth 1000000

set_option maxHeartbeats 1000000 in
theorem equalDv_is (p q : Option Addr) (c d : Nat) (T : List Dv) (w : World) (h1 : DvsAt w p T) (h2 : DvsAt w q T) (hn : T.length ≤ 100000) :
    Calls Tryz.prog 17 #[.slice p T.length c, .slice q T.length d] w (RetBool w true) := by
  have H1 := Lib.hid h1; have H2 := Lib.hid h2
  clear h1 h2
  go_enter Tryz.func17, Tryz.ntmps17
  go_wp2
  go_loopw [13] (fun i wr => ∃ k : Nat, k ≤ T.length ∧ i = .int .i64 k ∧ Below w.heap.size w wr) (fun i _ => T.length - (RowKit.intOf i).toNat)
  case atStart => exact ⟨0, Nat.zero_le _, rfl, Below.refl _ _⟩
  case round =>
    obtain ⟨k, hk, rfl, hb⟩ := hrel
    have BR := Lib.hid hb
    clear hb
    by_cases hkl : k < T.length
    · have hkl' : (k : Int) < T.length := by omega
      obtain ⟨b1, o1, rfl, l1, r1⟩ := (H1.out.below BR.out).at hkl
      obtain ⟨b2, o2, rfl, l2, r2⟩ := (H2.out.below BR.out).at hkl
      obtain ⟨⟨di, d0, d1, d2, d3⟩, hy⟩ : ∃ y, T[k] = y := ⟨_, rfl⟩
      rw [hy] at r1 r2
      have R1 : Hid (wr.rangeAt b1 (o1 + k * 5) [.string di, .string d0, .string d1, .string d2, .string d3]) := Lib.hid r1
      have R2 : Hid (wr.rangeAt b2 (o2 + k * 5) [.string di, .string d0, .string d1, .string d2, .string d3]) := Lib.hid r2
      clear r1 r2 hy l1 l2
      go_wp2_with fail
      have m0 : wr.drew.rangeAt b1 (o1 + k * 5) [.string di, .string d0, .string d1, .string d2, .string d3] ∧ wr.drew.rangeAt b2 (o2 + k * 5) [.string di, .string d0, .string d1, .string d2, .string d3] := ⟨R1.out, R2.out⟩
      refine rg_calm (by kernel_rfl) rfl (S := fun U => U.rangeAt b1 (o1 + k * 5) [.string di, .string d0, .string d1, .string d2, .string d3] ∧ U.rangeAt b2 (o2 + k * 5) [.string di, .string d0, .string d1, .string d2, .string d3]) ?_
      refine rgd_pure 0 (some 16) rfl rfl (.slice (some ⟨b1, o1, none⟩) T.length c) (by kernel_rfl) (by kernel_rfl) (by kernel_rfl) (fun _ _ _ _ h => h) (by kernel_rfl) (fun w => by kernel_rfl) m0 ?_
      refine rgd_pure 1 (some 17) rfl rfl (.int .i64 k) (by kernel_rfl) (by kernel_rfl) (by kernel_rfl) (fun _ _ _ _ h => h) (by kernel_rfl) (fun w => by kernel_rfl) m0 ?_
      refine rgd_pure 2 (some 18) rfl rfl (.pointer (some ⟨b1, o1 + k * 5, none⟩)) (by kernel_rfl) (by kernel_rfl) (by kernel_rfl) (fun _ _ _ _ h => h) (by kernel_rfl) (fun w => exec_idxV _ _ rfl b1 o1 T.length c k (by kernel_rfl) (by kernel_rfl) hkl w) m0 ?_
      refine rgd_pureS 3 (some 19) rfl rfl (.agg #[.string di, .string d0, .string d1, .string d2, .string d3]) (by kernel_rfl) (by kernel_rfl) (by kernel_rfl) (fun _ _ _ _ h => h) (by kernel_rfl) (fun U hU => exec_gload 31 _ rfl b1 (o1 + k * 5) (by kernel_rfl) [.string di, .string d0, .string d1, .string d2, .string d3] hU.1 Tryz.underlying31 rfl (sizeDv ⟨di, d0, d1, d2, d3⟩)) m0 ?_
      refine rgd_pure 4 (some 20) rfl rfl (.slice (some ⟨b2, o2, none⟩) T.length d) (by kernel_rfl) (by kernel_rfl) (by kernel_rfl) (fun _ _ _ _ h => h) (by kernel_rfl) (fun w => by kernel_rfl) m0 ?_
      refine rgd_pure 5 (some 21) rfl rfl (.int .i64 k) (by kernel_rfl) (by kernel_rfl) (by kernel_rfl) (fun _ _ _ _ h => h) (by kernel_rfl) (fun w => by kernel_rfl) m0 ?_
      refine rgd_pure 6 (some 22) rfl rfl (.pointer (some ⟨b2, o2 + k * 5, none⟩)) (by kernel_rfl) (by kernel_rfl) (by kernel_rfl) (fun _ _ _ _ h => h) (by kernel_rfl) (fun w => exec_idxV _ _ rfl b2 o2 T.length d k (by kernel_rfl) (by kernel_rfl) hkl w) m0 ?_
      refine rgd_pureS 7 (some 23) rfl rfl (.agg #[.string di, .string d0, .string d1, .string d2, .string d3]) (by kernel_rfl) (by kernel_rfl) (by kernel_rfl) (fun _ _ _ _ h => h) (by kernel_rfl) (fun U hU => exec_gload 31 _ rfl b2 (o2 + k * 5) (by kernel_rfl) [.string di, .string d0, .string d1, .string d2, .string d3] hU.2 Tryz.underlying31 rfl (sizeDv ⟨di, d0, d1, d2, d3⟩)) m0 ?_
      refine rgd_pure 8 (some 24) rfl rfl (.bool false) (by kernel_rfl) (by kernel_rfl) (by kernel_rfl) (fun _ _ _ _ h => h) (by kernel_rfl) (fun w => exec_neqVs _ _ _ rfl ⟨di, d0, d1, d2, d3⟩ (by kernel_rfl) (by kernel_rfl) w) m0 ?_
      have BF := Lib.hid (to_drew BR.out)
      clear m0 R1 R2 BR
      generalize wr.drew = V2 at BF ⊢
      refine wpAnyH_done (by kernel_rfl) ?_ _
      have key : ∀ X Y : Act, X = Y → ∀ K : Act → World → Prop, K Y V2 → K X V2 := fun X Y e K h => e ▸ h
      refine key _ { tmps := #[.slice (some ⟨b1, o1, none⟩) T.length c, .slice (some ⟨b2, o2, none⟩) T.length d, undef, undef, u4, .int .i64 k, .slice (some ⟨b1, o1, none⟩) T.length c, .int .i64 T.length, .slice (some ⟨b2, o2, none⟩) T.length d, .int .i64 T.length, .bool false, .slice (some ⟨b1, o1, none⟩) T.length c, .int .i64 T.length, .int .i64 k, .bool true, .int .i64 k, .slice (some ⟨b1, o1, none⟩) T.length c, .int .i64 k, .pointer (some ⟨b1, o1 + k * 5, none⟩), .agg #[.string di, .string d0, .string d1, .string d2, .string d3], .slice (some ⟨b2, o2, none⟩) T.length d, .int .i64 k, .pointer (some ⟨b2, o2 + k * 5, none⟩), .agg #[.string di, .string d0, .string d1, .string d2, .string d3], .bool false, u25], defers := [] } (by kernel_rfl) _ ?_
      simp only [Exit.then, Exit.inBlock]
      go_wp2
      go_roundw
      case rel => exact ⟨k + 1, by omega, by go_num, BF.out⟩
      case measure => simp [RowKit.intOf]; omega
    · obtain rfl : k = T.length := by omega
      have hkl' : ¬ ((T.length : Nat) : Int) < T.length := by omega
      go_wp2
      go_ret
      exact ⟨rfl, BR.out⟩
end Go.Proofs.YtijmijokgenflaaGreatDoor
