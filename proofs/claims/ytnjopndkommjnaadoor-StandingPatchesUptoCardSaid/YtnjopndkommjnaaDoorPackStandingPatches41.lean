/- The statement StandingPatches, proved for every input that its row reads: part 41 of 54. -/
import Derived.Test.YtnjopndkommjnaaDoorPackStandingPatches12
import Derived.Test.YtnjopndkommjnaaDoorPackStandingPatches38
import Derived.Test.YtnjopndkommjnaaDoorPackStandingPatches40
import Derived.Test.YtnjopndkommjnaaDoorPackStandingPatches23
import Derived.Deep.LoopGhost
/- standing.inOrder: hits that stand by their names, in an answer's order. -/
namespace Go.Proofs.YtnjopndkommjnaaDoor
open Go Go.RowKit
set_option linter.unusedVariables false
set_option maxRecDepth 1000000

def RetHits (w : World) (L : List Ht) (e : Ending) (w' : World) : Prop := ∃ v, e = .returned v ∧ w'.ownsRow w.heap.size 28 2 v L.length (hcl L) ∧ Below w.heap.size w w'
theorem seen_iff {V : List (ByteArray × Value × Nat)} {b : Nat} : ((V.map (·.2.2)).toArray.contains b = true) ↔ b ∈ V.map (·.2.2) := by simp
theorem seen_push (V : List (ByteArray × Value × Nat)) (e : ByteArray × Value × Nat) : (V.map (·.2.2)).toArray.push e.2.2 = ((V ++ [e]).map (·.2.2)).toArray := by simp
theorem in_sents {es : List (ByteArray × Value × Nat)} {x : MapEntry} (h : x ∈ (sents es).toArray.toList) : ∃ e ∈ es, x = { key := .string e.1, val := e.2.1, born := e.2.2 } := by
  simp only [sents, List.mem_map] at h
  obtain ⟨e, he, rfl⟩ := h
  exact ⟨e, he, rfl⟩
theorem int_at {w : World} {B : Nat} {p : Option Addr} {c : Nat} {l : List Int} (h : w.ownsRow B 3 1 (.slice p l.length c) l.length (icl l)) {k : Nat} (hk : k < l.length) : ∃ g, p = some ⟨g, 0, none⟩ ∧ w.cell? ⟨g, k, none⟩ = some (.int .i64 l[k]) := by
  rcases h.2 with ⟨_, h1⟩ | ⟨g, cap, cur, h0, _⟩
  · omega
  · injection h0 with h0 _ _
    subst h0
    refine ⟨g, rfl, ?_⟩
    rw [World.ownsRow.cellAt h k (by omega)]
    simp [icl, hk]
theorem setBlock_grown (w : World) (r : Nat) (o : Obj) : w.grownBy (ChangeMaps.setBlock w r o) (some r) := smapTo_grown w r o
set_option maxHeartbeats 8000000 in
theorem inOrder_is (r c : Nat) (es : List (ByteArray × Value × Nat)) (N : List Ht) (w : World) (h : NmT w r c es (scoresOf N)) (hn : N.length ≤ 600) :
    Calls Tryd.prog 29 #[.map (some r)] w (RetHits w (sortH N)) := by
  have HT := Lib.hid h
  have hes : es.length ≤ N.length := by
    have h1 := nodup_len (es.map (·.1)) (N.map Ht.id) h.ids (fun a ha => by
      have h2 := (h.keys a).1 ha
      obtain ⟨x, hx, hx2⟩ := scores_mem h2
      exact List.mem_map.2 ⟨x, hx, hx2⟩)
    simpa using h1
  clear h
  go_enter Tryd.func29, Tryd.ntmps29
  go_wp2_with fail
  rw [run_range_map w _ _ _ r _ c Tryd.underlying43 HT.out.blk]
  rw [Result.andThen_ok, Oper.upon_value]
  rename_i hK
  refine hK _ _ ?_
  clear hK
  have al : Below w.heap.size w (w.alloc (.mapIter (some r) c #[] c)) := below_alloc _ _
  have R1 : Hid ((w.alloc (.mapIter (some r) c #[] c)).heap[w.heap.size]? = some (.mapIter (some r) c #[] c)) := Lib.hid (heap_alloc_new _ _)
  have B1 := Lib.hid al
  have z1 : (w.alloc (.mapIter (some r) c #[] c)).heap.size = w.heap.size + 1 := by simp
  clear al
  generalize w.alloc (.mapIter (some r) c #[] c) = w1 at R1 B1 z1 ⊢
  obtain ⟨R, hR⟩ : ∃ R, w.heap.size = R := ⟨_, rfl⟩
  have HR := Lib.hid hR
  rw [hR] at R1 z1 ⊢
  go_wp2
  simp only [Act.put, List.setIfInBounds_toArray, List.set_cons_zero, List.set_cons_succ]
  go_loopg [3] (leftOf (sents es).toArray #[]).size (fun gk v wx => ∃ (V : List (ByteArray × Value × Nat)) (cc : Nat) (D : List Ht), gk = (leftOf (sents es).toArray (V.map (·.2.2)).toArray).size ∧ c ≤ cc ∧ Hid (wx.heap[R]? = some (.mapIter (some r) c (V.map (·.2.2)).toArray cc)) ∧ Hid (Met es V) ∧ Hid (D = allOf (V.map (·.1)) (scoresOf N)) ∧ Hid (wx.ownsRow (R + 1) 28 2 v D.length (hcl D)) ∧ Hid (Below w.heap.size w wx) ∧ R + 1 ≤ wx.heap.size)
  case atStart => exact ⟨[], c, [], rfl, Nat.le_refl _, R1, Lib.hid ⟨(fun e he => by cases he), List.nodup_nil⟩, Lib.hid rfl, Lib.hid ⟨rfl, .inl ⟨rfl, rfl⟩⟩, B1, by omega⟩
  case round =>
    clear R1 B1 z1
    obtain ⟨V, cc, D, hgk, hcc, IT, MT, HD, OD, BB, zr⟩ := hrel
    obtain ⟨p3, c3, rfl⟩ := own_slice OD.out
    have NT := Lib.hid (HT.out.later BB.out)
    have hold : ∀ x ∈ (sents es).toArray.toList, x.born < c := fun x hx => by
      obtain ⟨e, he, rfl⟩ := in_sents hx
      exact NT.out.old e he
    have hnd : ((sents es).toArray.toList.map (·.born)).Nodup := by
      have := NT.out.born
      simpa [sents, List.map_map, Function.comp_def] using this
    go_wp2_with fail
    rcases run_next_at wr 0 R r c cc (V.map (·.2.2)).toArray (sents es).toArray c IT.out NT.out.blk hold hcc with ⟨h0, hrun⟩ | ⟨x, hx, w2, hw2, hrun⟩
    · have hall : ∀ e ∈ es, e.2.2 ∈ V.map (·.2.2) := fun e he => by
        rw [← seen_iff]
        refine all_seen _ _ h0 { key := .string e.1, val := e.2.1, born := e.2.2 } ?_
        simp only [sents, List.mem_map]
        exact ⟨e, he, rfl⟩
      have hp := MT.out.all HT.out.ids HT.out.born hall HT.out.rest
      rw [← HD.out] at hp
      have hs : sortH D = sortH N := srtH_unique (sortH_srt D) (sortH_srt N) ((sortH_perm D).trans (hp.trans (sortH_perm N).symm))
      have hl := hp.length_eq
      have SO := Lib.hid (sortHits_is (R + 1) p3 c3 D wr OD.out (by omega) zr)
      rw [hs] at SO
      have HL := Lib.hid hl
      rw [hrun, Result.andThen_ok, Oper.upon_value]
      rename_i hK
      refine hK _ _ ?_
      clear hK hrun hall hp hs hl h0 hold hnd
      go_wp2_with fail
      refine SO.out.mono ?_
      rintro e w9 ⟨rfl, o9, b9⟩
      have B9 := Lib.hid (BB.out.trans (b9.mono (by have := HR.out; omega)))
      have O9 := Lib.hid (own_base o9 (show w.heap.size ≤ R + 1 by have := HR.out; omega))
      clear o9 b9 SO
      dsimp only
      go_wp2
      go_ret
      refine ⟨_, rfl, ?_, B9.out⟩
      have e2 : (sortH N).length = D.length := by rw [(sortH_perm N).length_eq, HL.out]
      rw [e2]
      exact O9.out
    · obtain ⟨hx1, hx2⟩ := mem_left hx
      have hsh := left_shrinks (sents es).toArray (V.map (·.2.2)).toArray x hx
      obtain ⟨e, he, rfl⟩ := in_sents hx1
      simp only at hx2 hsh hrun
      have hb : e.2.2 ∉ V.map (·.2.2) := fun q => by rw [seen_iff.2 q] at hx2; cases hx2
      have M2 := Lib.hid (MT.out.more he hb)
      have hDl : D.length ≤ 600 * 600 := by
        rw [HD.out]
        refine Nat.le_trans (allOf_len (scoresOf N) N.length (fun id => scores_le N id) _) ?_
        rw [List.length_map]
        exact Nat.mul_le_mul (Nat.le_trans MT.out.len (Nat.le_trans hes hn)) hn
      have HD2 : Hid (D ++ (scoresOf N e.1).map (fun s => (⟨e.1, s⟩ : Ht)) = allOf ((V ++ [e]).map (·.1)) (scoresOf N)) := Lib.hid (by rw [List.map_append, List.map_cons, List.map_nil, allOf_snoc, ← HD.out])
      have HX := Lib.hid hx1
      have G2 : wr.grownBy (ChangeMaps.setBlock w2 R (.mapIter (some r) c ((V.map (·.2.2)).toArray.push e.2.2) c)) (some R) := by
        rcases hw2 with rfl | rfl
        · exact smapTo_grown _ _ _
        · have h9 := setBlock_grown wr.drew R (.mapIter (some r) c ((V.map (fun x => x.2.2)).toArray.push e.2.2) c)
          exact ⟨h9.os, h9.tape, h9.output, h9.size, h9.block⟩
      have IT2 := Lib.hid (show (ChangeMaps.setBlock w2 R (.mapIter (some r) c ((V.map (·.2.2)).toArray.push e.2.2) c)).heap[R]? = some (.mapIter (some r) c ((V.map (·.2.2)).toArray.push e.2.2) c) from by
        have hr2 : w2.heap[R]? = some (.mapIter (some r) c (V.map (·.2.2)).toArray cc) := by rcases hw2 with rfl | rfl <;> exact IT.out
        exact smapTo_at hr2)
      have B2 : Hid (Below w.heap.size w (ChangeMaps.setBlock w2 R (.mapIter (some r) c ((V.map (·.2.2)).toArray.push e.2.2) c))) := Lib.hid (BB.out.grown G2 BB.out.size (fun k hk => by cases hk; exact Nat.le_of_eq HR.out))
      have O2 : Hid ((ChangeMaps.setBlock w2 R (.mapIter (some r) c ((V.map (·.2.2)).toArray.push e.2.2) c)).ownsRow (R + 1) 28 2 (.slice p3 D.length c3) D.length (hcl D)) := Lib.hid (own_blk OD.out fun k hk => by
        obtain ⟨q1, q2⟩ := OD.out.lt k hk
        exact G2.block k q2 (fun q => by injection q with q; omega))
      have z2 := Nat.le_trans zr G2.size
      rw [hrun, Result.andThen_ok, Oper.upon_value]
      rename_i hK
      refine hK _ _ ?_
      clear hK hrun hx hw2 G2 IT MT HD OD BB zr hx1 hold hb hx2
      generalize ChangeMaps.setBlock w2 R (.mapIter (some r) c ((V.map (·.2.2)).toArray.push e.2.2) c) = w3 at IT2 B2 O2 z2 ⊢
      have N3 := Lib.hid (HT.out.later B2.out)
      obtain ⟨sc, hsc⟩ : ∃ sc, scoresOf N e.1 = sc := ⟨_, rfl⟩
      have ov := HT.out.own e he
      obtain ⟨ei, ev, eb⟩ := e
      simp only at ov hsc hsh HX IT2 HD2 M2 ⊢
      rw [hsc] at ov HD2
      obtain ⟨p5, c5, rfl⟩ := own_slice ov
      have OV := Lib.hid ov
      have hsl : sc.length ≤ N.length := by rw [← hsc]; exact scores_le N ei
      clear ov hsc
      go_wp2_with fail
      rw [run_entry_at w3 R r c (V.map (·.2.2)).toArray (sents es).toArray c { key := .string ei, val := .slice p5 sc.length c5, born := eb } IT2.out N3.out.blk HX.out hnd]
      rw [Result.andThen_ok, Oper.upon_value]
      rename_i hK
      refine hK _ _ ?_
      clear hK hnd HX N3
      have HSH := Lib.hid hsh; have HGK := Lib.hid hgk
      have HSH2 : Hid ((leftOf (sents es).toArray ((V ++ [(ei, Value.slice p5 sc.length c5, eb)]).map (fun x => x.2.2)).toArray).size < gk) := Lib.hid (by
        have h1 := HSH.out
        rw [HGK.out]
        simpa using h1)
      clear hsh hgk HSH HGK
      go_wp2_with fail
      have zB2 := B2.out.size
      go_loopg [3, 17] sc.length (fun g2 v i wy => ∃ k : Nat, k ≤ sc.length ∧ g2 = sc.length - k ∧ i = .int .i64 k ∧ Hid (wy.ownsRow (R + 1) 28 2 v (D ++ (sc.take k).map (fun s => (⟨ei, s⟩ : Ht))).length (hcl (D ++ (sc.take k).map (fun s => (⟨ei, s⟩ : Ht))))) ∧ Hid (Below (R + 1) w3 wy))
      case atStart => exact ⟨0, Nat.zero_le _, rfl, rfl, by simpa using O2, Lib.hid (Below.refl _ _)⟩
      case round =>
        obtain ⟨k, hk, hg2, rfl, OY, BY⟩ := hrel
        clear O2
        have zy := Nat.le_trans z2 BY.out.size
        by_cases hkl : k < sc.length
        · have hkl' : (k : Int) < sc.length := by omega
          have By := Lib.hid (B2.out.trans (BY.out.mono (show w.heap.size ≤ R + 1 by have := HR.out; omega)))
          obtain ⟨g5, rfl, m5⟩ := int_at (own_later OV.out By.out) hkl
          obtain ⟨p6, c6, rfl⟩ := own_slice OY.out
          have TK : Hid (sc.take (k + 1) = sc.take k ++ [sc[k]]) := Lib.hid (List.take_succ_eq_append_getElem hkl)
          obtain ⟨s, hs⟩ : ∃ s, sc[k] = s := ⟨_, rfl⟩
          rw [hs] at m5 TK
          have DE : Hid (D ++ (sc.take k).map (fun s => (⟨ei, s⟩ : Ht)) ++ [⟨ei, s⟩] = D ++ (sc.take (k + 1)).map (fun s => (⟨ei, s⟩ : Ht))) := Lib.hid (by rw [TK.out, List.map_append, List.append_assoc]; rfl)
          have dl : (D ++ (sc.take k).map (fun s => (⟨ei, s⟩ : Ht))).length ≤ 600 * 600 + 600 := by rw [List.length_append, List.length_map, List.length_take]; omega
          clear hs TK By
          generalize D ++ (sc.take k).map (fun s => (⟨ei, s⟩ : Ht)) = D2 at OY DE dl
          go_wp2_with (at_builtin; refine wpList_hit _ rfl _ _ rfl (R + 1) D2.length _ _ rfl OY.out ⟨ei, s⟩ rfl (by omega) zy ?_)
          intro v9 w9 o9 g9
          have B9 : Hid (Below (R + 1) w3 w9) := Lib.hid (BY.out.grown g9 zy (fun k hk => (OY.out.lt k hk).1))
          have O9 : Hid (w9.ownsRow (R + 1) 28 2 v9 (D2 ++ [(⟨ei, s⟩ : Ht)]).length (hcl (D2 ++ [(⟨ei, s⟩ : Ht)]))) := Lib.hid (by rw [hcl_snoc, List.length_append]; exact o9)
          rw [DE.out] at O9
          clear o9 g9 DE OY
          go_wp2
          go_roundg (sc.length - (k + 1))
          case measure => omega
          case rel => exact ⟨k + 1, by omega, rfl, by go_num, O9, B9⟩
        · obtain rfl : k = sc.length := by omega
          have hkl' : ¬ ((sc.length : Nat) : Int) < sc.length := by omega
          rw [List.take_length] at OY
          have ITy : Hid (wr.heap[R]? = some (.mapIter (some r) c ((V ++ [(ei, Value.slice p5 sc.length c5, eb)]).map (fun x => x.2.2)).toArray c)) := Lib.hid (by
            have h1 := (BY.out.block R (Nat.lt_succ_self R)).trans IT2.out
            rw [h1]; simp)
          have By := Lib.hid (B2.out.trans (BY.out.mono (show w.heap.size ≤ R + 1 by have := HR.out; omega)))
          clear IT2 BY
          go_wp2_with fail
          go_roundg (leftOf (sents es).toArray ((V ++ [(ei, Value.slice p5 sc.length c5, eb)]).map (fun x => x.2.2)).toArray).size
          case measure => exact HSH2.out
          case rel => exact ⟨_, c, _, rfl, Nat.le_refl _, ITy, M2, HD2, OY, By, zy⟩
end Go.Proofs.YtnjopndkommjnaaDoor
