/- Dictionaries: a word put behind those that were read. -/
import Derived.Test.YteaghcgekaoimaaDictBytes
namespace Go.Proofs.Yteaghcgekaoimaa
open Go Go.RowKit
set_option linter.unusedVariables false

theorem infoStrD : (Try.prog.info? 9).map (fun i => (i.zero, i.size, i.bytes)) = some (some (.string ⟨#[]⟩), 1, 16) := by kernel_rfl
theorem isOneSD : One Try.prog 22 9 (.string ⟨#[]⟩) 16 := ⟨Try.underlying22, infoStrD, rfl, by decide, by decide⟩
/-- a dictionary whose row is the call's own, from T on -/
structure DcO (w : World) (T D : Nat) (l : List ByteArray) : Prop where
  own : ∃ v, w.heap[D]? = some (.cells #[v, .bool true] 53 (0, 0)) ∧ w.ownsRow T 9 1 v l.length (strs l)
  le : T ≤ D
theorem DcO.dc {w : World} {T D : Nat} {l : List ByteArray} (h : DcO w T D l) : Dc w D l := by
  obtain ⟨⟨v, h1, h2⟩, _⟩ := h
  obtain ⟨_, p, c, rfl, _, h3, h4⟩ := own_liesS h2
  exact ⟨p, c, h1, h3, fun e => (h4 e).1⟩
theorem DcO.below {w w' : World} {T D : Nat} {l : List ByteArray} (h : DcO w T D l) (hb : Below w.heap.size w w') : DcO w' T D l := by
  obtain ⟨⟨v, h1, h2⟩, h3⟩ := h
  exact ⟨⟨v, (hb.block D (Array.getElem?_eq_some_iff.1 h1).1).trans h1, own_laterV h2 hb⟩, h3⟩
theorem alike_join (a x : ByteArray) : a.extract 0 (alikeB a x) ++ x.extract (alikeB a x) x.size = x := by
  have key : ∀ (u v : List UInt8), u.take (alikeL u v) = v.take (alikeL u v) := by
    intro u
    induction u with
    | nil => intro v; simp [alikeL]
    | cons c u ih =>
      intro v
      cases v with
      | nil => simp [alikeL]
      | cons d v =>
        unfold alikeL
        split
        · rename_i h; subst h; simp [ih v]
        · simp
  apply ByteArray.ext
  apply Array.toList_inj.1
  have h1 : (a.extract 0 (alikeB a x)).data.toList = a.data.toList.take (alikeB a x) := by
    rw [ByteArray.data_extract, Array.toList_extract]; simp [List.extract]
  have h2 : (x.extract (alikeB a x) x.size).data.toList = x.data.toList.drop (alikeB a x) := by
    have hx : x.data.toList.length = x.size := Array.length_toList
    rw [ByteArray.data_extract, Array.toList_extract, List.extract, List.take_of_length_le (by rw [List.length_drop, hx]; omega)]
  rw [ByteArray.data_append, Array.toList_append, h1, h2]
  unfold alikeB
  rw [key a.data.toList x.data.toList, List.take_append_drop]
theorem set_two {w : World} {D : Nat} {v y : Value} (u : Value) {t : TypeId} (h : w.heap[D]? = some (.cells #[v, y] t (0, 0))) : (w.setCell ⟨D, 0, none⟩ u).heap[D]? = some (.cells #[u, y] t (0, 0)) := by
  rw [heap_setCell_same w D 0 _ _ u h]
  rfl
set_option maxHeartbeats 8000000 in
set_option maxRecDepth 100000 in
theorem dictAdd_is (T D : Nat) (l : List ByteArray) (x a : ByteArray) (n : Nat) (w : World) (h : DcO w T D l) (hT : T ≤ w.heap.size) (hl : l.length ≤ 16384) (ha : aheadOf l l.length = a) (has : a.size ≤ 64) (hxs : x.size ≤ 64) (hn : alikeB a x = n) (hg : goes x a = true) :
    Calls Try.prog 35 #[.pointer (some ⟨D, 0, none⟩), .int .i64 (n : Nat), .string (x.extract n x.size)] w fun e w' => e = .returned (.bool true) ∧ DcO w' T D (l ++ [x]) ∧ Below T w w' := by
  have LN := Lib.hid (dictLen_is D l w h.dc)
  have AT : ∃ idx bb, IntKind.i64.wrap (((l.length : Nat) : Int) - 1) = idx ∧ Calls Try.prog 10 #[.pointer (some ⟨D, 0, none⟩), .int .i64 idx] w fun e w' => e = .returned (.tuple #[.string a, .bool bb]) ∧ w = w' := by
    by_cases h0 : l.length = 0
    · refine ⟨-1, false, by rw [h0]; decide, ?_⟩
      have e : a = noW := by rw [← ha, h0]; rfl
      rw [e]
      exact dictAt_none D l (-1) w h.dc (by omega)
    · obtain ⟨k, hk⟩ : ∃ k, l.length = k + 1 := ⟨l.length - 1, by omega⟩
      refine ⟨(k : Int), true, by rw [IntWalk.i64_in _ ⟨by omega, by omega⟩]; omega, ?_⟩
      have e : a = l.getD k noW := by rw [← ha, hk]; rfl
      rw [e]
      exact dictAt_is D l k w h.dc (by omega)
  obtain ⟨idx, bb, hwr, hat⟩ := AT
  have AT := Lib.hid hat
  have J := alike_join a x
  rw [hn] at J
  have hna : n ≤ a.size := by rw [← hn]; exact (alikeB_le a x).1
  have hna' : (n : Int) ≤ a.size := by omega
  have FO := Lib.hid (follows_is x a w)
  rw [hg] at FO
  have AL := Lib.hid (alike_is a x w (by omega))
  rw [hn] at AL
  have H := Lib.hid h
  clear h ha hn hg hat
  have hs1 : (a.extract 0 n).size + (x.extract n x.size).size ≤ 9223372036854775807 := by rw [ByteArray.size_extract, ByteArray.size_extract]; omega
  have hadd : ∀ w : World, (Op.stringOp .add (a.extract 0 n) (x.extract n x.size)).run Try.prog w = .ok (.string x) w := fun w => by
    have := run_string_add_sum (P := Try.prog) w (a.extract 0 n) (x.extract n x.size) hs1
    rw [J] at this; exact this
  clear J hs1
  generalize x.extract n x.size = r at hadd ⊢
  go_enter Try.func35, Try.ntmps35
  go_wp2_with fail
  refine LN.out.mono ?_
  rintro e w' ⟨rfl, rfl⟩
  go_wp2_with fail
  refine AT.out.mono ?_
  rintro e w' ⟨rfl, rfl⟩
  clear AT LN
  go_wp2_with fail
  refine FO.out.mono ?_
  rintro e w' ⟨rfl, rfl⟩
  clear FO
  go_wp2_with fail
  refine AL.out.mono ?_
  rintro e w2 ⟨rfl, hb2⟩
  have H2 := Lib.hid (H.out.below hb2)
  have B2 : Hid (Below T w w2) := hb2.mono hT
  clear hb2 AL H
  obtain ⟨v, hv, hown⟩ := H2.out.own
  have c0 := (cell_of_row w2 D 0 _ _ _ hv).trans rfl
  have f0 : w2.frozen? ⟨D, 0, none⟩ = false := by simp [World.frozen?, hv]
  have HV := Lib.hid hv; have HO := Lib.hid hown
  obtain ⟨q, cq, rfl⟩ := ownV_slice hown
  clear hv hown
  go_wp2_with (at_builtin; refine wpList_one isOneSD _ rfl _ _ rfl T l.length (strs l) (.slice q l.length cq) rfl HO.out (.string x) rfl rfl (by omega) (Nat.le_trans hT B2.out.size) ?_)
  intro v3 w3 hown3 hb3 hst3
  obtain ⟨q3, c3, rfl⟩ := ownV_slice hown3
  have hv3 := hst3 D _ _ _ HV.out (by decide)
  have c3' := (cell_of_row w3 D 0 _ _ _ hv3).trans rfl
  have f3 : w3.frozen? ⟨D, 0, none⟩ = false := by simp [World.frozen?, hv3]
  have E3 : Hid (DcO (w3.setCell ⟨D, 0, none⟩ (.slice q3 (l.length + 1) c3)) T D (l ++ [x])) := by
    refine ⟨⟨.slice q3 (l.length + 1) c3, ?_, ?_⟩, H2.out.le⟩
    · exact set_two _ hv3
    · have : (l ++ [x]).length = l.length + 1 := by simp
      rw [this, strs_append]
      exact own_setOther hown3 hv3 (by decide) _ _
  have B3 : Hid (Below T w (w3.setCell ⟨D, 0, none⟩ (.slice q3 (l.length + 1) c3))) := (B2.out.trans hb3).setCell (p := ⟨D, 0, none⟩) H2.out.le _
  clear hown3 hb3 hst3 hv3
  go_wp2_with fail
  go_ret
  exact ⟨rfl, E3.out, B3.out⟩
end Go.Proofs.Yteaghcgekaoimaa
