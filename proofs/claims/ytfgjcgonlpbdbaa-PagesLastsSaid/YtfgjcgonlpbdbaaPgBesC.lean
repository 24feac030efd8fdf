/- What the program's Crash leaves as it was: all but the device's three blocks. (genpgbes.py writes it) -/
import Derived.Test.YtfgjcgonlpbdbaaPgBes
import Derived.Deep.LoopGhost
namespace Go.Proofs.Ytfgjcgonlpbdbaa
open Go Go.RowKit
set_option linter.unusedVariables false

/-- what Crash comes to -/
def CrashedB (W : World) (D P M n : Nat) (pg : Nat → List UInt8) (c : Nat) (e : Ending) (w' : World) : Prop :=
  e = .returned (.int .i64 0) ∧ Dk w' D P M n pg false (-1) ∧ w'.heap[M]? = some (.map (ents []).toArray c) ∧ Bes D P M W w'

set_option maxHeartbeats 8000000 in
set_option maxRecDepth 100000 in
theorem crash_isB (D P M n c : Nat) (pg old : Nat → List UInt8) (lo : List (Nat × Nat)) (dead : Bool) (fuse : Int) (q : Option Addr) (kc : Nat) (ks : List Int) (torn cut : Int) (W w : World) (h : Dk w D P M n pg dead fuse) (hw : Was w M n old lo c)
    (hb : Bes D P M W w) (hk : LiesI W q ks) (hkl : ks.length ≤ 9223372036854775807) (hq : ks ≠ [] → ∀ x o, q = some ⟨x, o, none⟩ → x ≠ D ∧ x ≠ P ∧ x ≠ M) :
    Calls Try.prog 15 #[.pointer (some ⟨D, 0, none⟩), .slice q ks.length kc, .int .i64 torn, .int .i64 cut] w (CrashedB W D P M n (pgC pg old torn cut (delK torn ks lo)) c) := by
  have MD := Lib.hid (made_is _ n w h.sized h.pos.1)
  have H := Lib.hid h; have HW := Lib.hid hw; have HB := Lib.hid hb; have HK := Lib.hid hk; have HQ := Lib.hid hq
  have DT : Hid (∀ k, k < ks.length → delK torn (ks.take (k + 1)) lo = if ks.getD k 0 = torn then delK torn (ks.take k) lo else delW (ks.getD k 0) (delK torn (ks.take k) lo)) := fun k hk => by
    rw [List.take_succ_eq_append_getElem hk, delK_app, List.getD_eq_getElem?_getD, List.getElem?_eq_getElem hk]; rfl
  have D0 : Hid (delK torn (ks.take 0) lo = lo) := rfl
  obtain ⟨l2, hl2⟩ : ∃ l2, l2 = delK torn ks lo := ⟨_, rfl⟩
  rw [← hl2]
  have DN : Hid (delK torn (ks.take ks.length) lo = l2) := by show delK torn _ lo = _; rw [List.take_length, hl2]
  obtain ⟨RES, hRES⟩ : ∃ R, R = pgC pg old torn cut l2 := ⟨_, rfl⟩
  rw [← hRES]
  have HR := Lib.hid hRES
  clear h hw hb hk hq hl2 hRES
  go_enter Try.func15, Try.ntmps15
  go_wp2_with fail
  refine MD.out.mono ?_
  rintro e w' ⟨rfl, rfl⟩
  clear MD
  go_wp2
  go_loopw [19] (fun i wr => ∃ k : Nat, k ≤ ks.length ∧ i = .int .i64 k ∧ Dk wr D P M n pg dead fuse ∧ Was wr M n old (delK torn (ks.take k) lo) c ∧ Bes D P M W wr) (fun i _ => ks.length - (intOf i).toNat)
  case atStart => exact ⟨0, by omega, rfl, H.out, by rw [D0.out]; exact HW.out, HB.out⟩
  case round =>
    obtain ⟨k, hk, rfl, hdk, hwas, hbw⟩ := hrel
    have DK := Lib.hid hdk; have WS := Lib.hid hwas; have BW := Lib.hid hbw
    obtain ⟨c0, c1, c2, c3⟩ := d_cells hdk.obj
    clear hdk hwas hbw H HW HB
    by_cases hlt : k < ks.length
    · have hT := DT.out k hlt
      obtain ⟨b, o, rfl, _, hcl⟩ := (LiesI.bes HK.out HQ.out BW.out).at (by omega)
      have hck := hcl k hlt
      have hkI : (k : Int) < ks.length := by omega
      generalize ks.getD k 0 = x at hT hck
      clear hcl
      by_cases hx : x = torn
      · subst hx
        rw [if_pos rfl] at hT
        have HT := Lib.hid hT
        clear hT
        go_wp2
        go_roundw
        case rel => exact ⟨k + 1, by omega, by go_num, DK.out, by rw [HT.out]; exact WS.out, BW.out⟩
        case measure => simp [intOf]; omega
      · rw [if_neg hx] at hT
        have HT := Lib.hid hT
        clear hT
        go_wp2_with fail
        rw [WS.out.run_del Try.underlying54 keyI x]
        rw [Result.andThen_ok, Oper.upon_value]
        rename_i hK
        refine hK _ _ ?_
        clear hK
        obtain ⟨-, ne1, ne2⟩ := DK.out.ne
        have DK2 := Lib.hid (DK.out.grown (mapTo_grown wr M (.map (ents (wasL old (delW x (delK torn (ks.take k) lo)))).toArray c)) (by simp [ne1]) (by simp [ne2]))
        have WS2 := Lib.hid (WS.out.del x)
        have BW2 := Lib.hid (BW.out.grown (mapTo_grown wr M (.map (ents (wasL old (delW x (delK torn (ks.take k) lo)))).toArray c)) BW.out.size (fun k hk => by cases hk; simp))
        generalize mapTo wr M (.map (ents (wasL old (delW x (delK torn (ks.take k) lo)))).toArray c) = w2 at DK2 WS2 BW2 ⊢
        clear c0 c1 c2 c3 hck
        go_wp2
        go_roundw
        case rel => exact ⟨k + 1, by omega, by go_num, DK2.out, by rw [HT.out]; exact WS2.out, BW2.out⟩
        case measure => simp [intOf]; omega
    · obtain rfl : k = ks.length := by omega
      rw [DN.out] at WS
      clear DT D0 DN HK
      go_wp2_with fail
      rw [run_range_map wr _ _ _ M _ c Try.underlying54 WS.out.map]
      rw [Result.andThen_ok, Oper.upon_value]
      rename_i hK
      refine hK _ _ ?_
      clear hK
      have al : Below wr.heap.size wr (wr.alloc (.mapIter (some M) c #[] c)) := (Below.refl _ _).alloc (Nat.le_refl _) _
      have R1 : (wr.alloc (.mapIter (some M) c #[] c)).heap[wr.heap.size]? = some (.mapIter (some M) c #[] c) := heap_alloc_new _ _
      have DK1 := Lib.hid (DK.out.below al); have WS1 := Lib.hid (WS.out.below al); have BW1 := Lib.hid (BW.out.andThen al)
      have hDr := DK.out.lt; have hPr := DK.out.plt; have hMr := WS.out.mlt; have hWr := BW.out.size
      generalize wr.alloc (.mapIter (some M) c #[] c) = w1 at R1 DK1 WS1 BW1 ⊢
      have R1' := Lib.hid R1
      generalize wr.heap.size = r at R1' hDr hPr hMr hWr ⊢
      clear al R1 DK WS BW c0 c1 c2 c3
      obtain ⟨es, hes⟩ : ∃ es, es = (ents (wasL old l2)).toArray := ⟨_, rfl⟩
      have HES := Lib.hid hes
      clear hes
      go_wp2
      simp only [Act.put, List.setIfInBounds_toArray, List.set_cons_zero, List.set_cons_succ]
      go_loopg [] (leftOf es #[]).size (fun gk wx => ∃ (seen : Array Nat) (cc : Nat), gk = (leftOf es seen).size ∧ c ≤ cc ∧ wx.heap[r]? = some (.mapIter (some M) c seen cc) ∧ Dk wx D P M n (pgS pg old torn cut l2 seen) dead fuse ∧ Was wx M n old l2 c ∧ Bes D P M W wx)
      case atStart => exact ⟨#[], c, rfl, Nat.le_refl _, R1'.out, by rw [pgS_none]; exact DK1.out, WS1.out, BW1.out⟩
      case round =>
        obtain ⟨seen, cc, hgk, hcc, hit, hdk, hws, hbw⟩ := hrel
        have IT := Lib.hid hit; have DK := Lib.hid hdk; have WS := Lib.hid hws; have BW := Lib.hid hbw
        clear hdk hws hbw DK1 WS1 BW1 R1'
        have hold : ∀ x ∈ es.toList, x.born < c := fun x hx => by
          rw [HES.out] at hx
          simp only [ents, wasL, List.map_map, List.mem_map] at hx
          obtain ⟨e, he, rfl⟩ := hx
          exact (WS.out.lt e he).2
        have hmp := WS.out.map
        rw [← HES.out] at hmp
        have hnd : (es.toList.map (·.born)).Nodup := by
          rw [HES.out]
          have := WS.out.born
          simpa [ents, wasL, List.map_map, Function.comp_def] using this
        have hin : ∀ x ∈ es.toList, ∃ e ∈ l2, x = { key := .int .i64 (e.1 : Int), val := .agg (bys (old e.1)).toArray, born := e.2 } := fun x hx => by
          rw [HES.out] at hx
          simp only [ents, wasL, List.map_map, List.mem_map] at hx
          obtain ⟨e, he, rfl⟩ := hx
          exact ⟨e, he, rfl⟩
        go_wp2_with fail
        rcases run_next_at wr 0 r M c cc seen es c IT.out hmp hold hcc with ⟨h0, hrun⟩ | ⟨x, hx, w2, hw2, hrun⟩
        · have hall : ∀ e ∈ l2, seen.contains e.2 = true := fun e he => by
            refine all_seen es seen h0 { key := .int .i64 (e.1 : Int), val := .agg (bys (old e.1)).toArray, born := e.2 } ?_
            rw [HES.out]
            simp only [ents, wasL, List.map_map, List.mem_map]
            exact ⟨e, he, rfl⟩
          have E : pgS pg old torn cut l2 seen = RES := by rw [pgS_all _ _ _ _ _ _ hall, HR.out]
          rw [E] at DK
          rw [hrun, Result.andThen_ok, Oper.upon_value]
          rename_i hK
          refine hK _ _ ?_
          obtain ⟨c0, c1, c2, c3⟩ := d_cells DK.out.obj
          clear hK hrun hall E h0 hold hmp hnd hin hit IT
          go_wp2_with fail
          rw [run_clear WS.out.map Try.underlying54 _]
          rw [Result.andThen_ok, Oper.upon_value]
          rename_i hK
          refine hK _ _ ?_
          clear hK
          obtain ⟨-, ne1, ne2⟩ := DK.out.ne
          have DK2 := Lib.hid (DK.out.grown (mapTo_grown wr M (.map (ents []).toArray c)) (by simp [ne1]) (by simp [ne2]))
          have M2 := Lib.hid (show (mapTo wr M (.map (ents []).toArray c)).heap[M]? = _ from mapTo_at WS.out.map)
          have BW2 := Lib.hid (BW.out.grown (mapTo_grown wr M (.map (ents []).toArray c)) BW.out.size (fun k hk => by cases hk; simp))
          generalize mapTo wr M (.map (ents []).toArray c) = w3 at DK2 M2 BW2 ⊢
          clear c0 c1 c2 c3 DK WS BW
          go_wp2_with fail
          refine (fresh_is w3).mono ?_
          rintro e w4 ⟨rfl, hb4⟩
          have DK4 := Lib.hid (DK2.out.below hb4)
          have M4 := Lib.hid ((hb4.block M (Array.getElem?_eq_some_iff.1 M2.out).1).trans M2.out)
          have BW4 := Lib.hid (BW2.out.andThen hb4)
          clear hb4 DK2 M2 BW2
          go_wp2_with (refine wpList_store_mid rfl 52 _ _ rfl D 0 #[.bool false, .int .i64 (-1)] rfl rfl (DK4.out.pow2) (by kernel_rfl) (by kernel_rfl) ?_)
          have DK5 := DK4.out.power false (-1) (by omega)
          have M5 := (heap_setCells_other D M ne1.symm [.bool false, .int .i64 (-1)] 0 w4).trans M4.out
          have BW5 := BW4.out.setCells D (Or.inl rfl) [.bool false, .int .i64 (-1)] 0
          have CR : CrashedB W D P M n RES c (.returned (.int .i64 0)) (w4.setCells D 0 [.bool false, .int .i64 (-1)]) := ⟨rfl, DK5, M5, BW5⟩
          generalize w4.setCells D 0 [.bool false, .int .i64 (-1)] = w5 at CR ⊢
          clear DK5 M5 BW5 DK4 M4 BW4
          go_wp2
          exact bodyPost_ret (v := .int .i64 0) (by kernel_rfl) (by kernel_rfl) CR
        · obtain ⟨hx1, hx2⟩ := mem_left hx
          have hsh := left_shrinks es seen x hx
          obtain ⟨⟨i, b⟩, hib, rfl⟩ := hin x hx1
          simp only at hx2 hsh hrun
          rw [hrun, Result.andThen_ok, Oper.upon_value]
          rename_i hK
          refine hK _ _ ?_
          have HX := Lib.hid hx1
          have G2 : wr.grownBy (ChangeMaps.setBlock w2 r (.mapIter (some M) c (seen.push b) c)) (some r) := by
            rcases hw2 with rfl | rfl
            · exact mapTo_grown _ _ _
            · exact ⟨rfl, rfl, rfl, by simp [ChangeMaps.setBlock], (mapTo_grown wr.drew r (.mapIter (some M) c (seen.push b) c)).block⟩
          have IT2 := Lib.hid (show (ChangeMaps.setBlock w2 r (.mapIter (some M) c (seen.push b) c)).heap[r]? = some (.mapIter (some M) c (seen.push b) c) from by
            have hr2 : w2.heap[r]? = some (.mapIter (some M) c seen cc) := by rcases hw2 with rfl | rfl <;> exact IT.out
            exact mapTo_at hr2)
          have DK2 := Lib.hid (DK.out.grown G2 (by simp; omega) (by simp; omega))
          have WS2 := Lib.hid (WS.out.at (G2.block M WS.out.mlt (by simp; omega)))
          have BW2 := Lib.hid (BW.out.grown G2 BW.out.size (fun k hk => by cases hk; exact Or.inr (Or.inr (Or.inr hWr))))
          generalize ChangeMaps.setBlock w2 r (.mapIter (some M) c (seen.push b) c) = w3 at IT2 DK2 WS2 BW2 ⊢
          have hmp3 := WS2.out.map
          rw [← HES.out] at hmp3
          clear hK hrun hx hw2 hold hmp hin hit IT G2 DK WS BW hx1
          go_wp2_with fail
          rw [run_entry_at w3 r M c seen es c { key := .int .i64 (i : Int), val := .agg (bys (old i)).toArray, born := b } IT2.out hmp3 HX.out hnd]
          rw [Result.andThen_ok, Oper.upon_value]
          rename_i hK
          refine hK _ _ ?_
          clear hK hmp3
          have hol := WS2.out.len (i, b) hib
          have hin2 := (WS2.out.lt (i, b) hib).1
          simp only at hol hin2
          have HZ := heap_alloc_new w3 (.cells Try.zeroCells69 69)
          have TZ : (w3.alloc (.cells Try.zeroCells69 69)).there w3.heap.size 0 (bys (old i)).toArray.size := there_row HZ _ (by rw [List.size_toArray, bys_length, hol]; exact Nat.le_of_eq (by kernel_rfl))
          have ZS : (Try.prog.info? 69).map (·.size) = some (bys (old i)).toArray.size := by rw [List.size_toArray, bys_length, hol]; exact sizePg
          have ZO : (bys (old i)).toArray.all (·.oneCell') = true := all_oneCell_toArray (bys_one _)
          have al : Below w3.heap.size w3 (w3.alloc (.cells Try.zeroCells69 69)) := (Below.refl _ _).alloc (Nat.le_refl _) _
          have R4 := World.rangeAt_setCells_same (w3.alloc (.cells Try.zeroCells69 69)) w3.heap.size 0 (bys (old i)) (by simpa using TZ)
          have B4 := below_setCells w3.heap.size (Nat.le_refl _) (bys (old i)) 0 w3 _ al
          refine wpList_val rfl (.int .i64 (i : Int)) w3 (by kernel_rfl) ?_
          refine wpList_val rfl (.agg (bys (old i)).toArray) w3 (by kernel_rfl) ?_
          refine wpList_val rfl (.pointer (some ⟨w3.heap.size, 0, none⟩)) (w3.alloc (.cells Try.zeroCells69 69)) (by kernel_rfl) ?_
          refine wpList_val rfl (.int .i64 (i : Int)) (w3.alloc (.cells Try.zeroCells69 69)) (by kernel_rfl) ?_
          refine wpList_store_mid rfl 69 _ _ rfl w3.heap.size 0 (bys (old i)).toArray (by kernel_rfl) (by kernel_rfl) TZ ZS ZO ?_
          refine wpList_nil ?_
          have hZ3 : w3.heap.size < ((w3.alloc (.cells Try.zeroCells69 69)).setCells w3.heap.size 0 (bys (old i)).toArray.toList).heap.size := World.block_lt_of_cell? _ _ (R4 0 _ (by rw [bys_get _ _ (by omega)]))
          generalize (w3.alloc (.cells Try.zeroCells69 69)).setCells w3.heap.size 0 (bys (old i)).toArray.toList = w4 at R4 B4 hZ3 ⊢
          have hr3 := (Array.getElem?_eq_some_iff.1 IT2.out).1
          have IT4 := Lib.hid ((B4.block r hr3).trans IT2.out)
          have DK4 := Lib.hid (DK2.out.below B4); have WS4 := Lib.hid (WS2.out.below B4); have BW4 := Lib.hid (BW2.out.andThen B4)
          have R4' := Lib.hid R4
          have hPZ := DK2.out.plt; have hDZ := DK2.out.lt; have hMZ := WS2.out.mlt
          generalize w3.heap.size = Z at R4' hZ3 hr3 hPZ hDZ hMZ ⊢
          clear HZ TZ ZS ZO al R4 B4 IT2 DK2 WS2 BW2 HX
          obtain ⟨k, hkd⟩ : ∃ k, k = lastsOf torn cut i := ⟨_, rfl⟩
          have hk128 : k ≤ 128 := by rw [hkd]; exact lasts_le _ _ _
          obtain ⟨bs, hbs⟩ : ∃ bs, bs = (old i).drop k := ⟨_, rfl⟩
          have hbl : bs.length = 128 - k := by rw [hbs, List.length_drop, hol]
          have c2 := (d_cells DK4.out.drew.obj).2.2.1
          obtain ⟨-, ne1, ne2⟩ := DK4.out.ne
          have c2' : (w4.drew.setCells P (offK (128 * i) k) (bys bs)).cell? ⟨D, 2, none⟩ = some (.slice (some ⟨P, 0, none⟩) n n) := (d_cells (DK4.out.drew.patched i hin2 k hk128 bs hbl).obj).2.2.1
          have RUN : ∀ ty, (Builtin.copy_ #[31, 31] ty #[.slice (some ⟨P, offK (128 * i) k, none⟩) (128 - k) (128 - k), .slice (some ⟨Z, offK 0 k, none⟩) (128 - k) (128 - k)]).run Try.prog w4.drew = .ok (goInt (bys bs).length) (w4.drew.setCells P (offK (128 * i) k) (bys bs)) := fun ty => by
            refine run_copy_cells w4.drew _ _ _ 5 P _ _ _ _ _ _ (bys bs) Try.underlying31 (by kernel_rfl) ?_ ?_ ?_ ?_ (bys_one _)
            · rw [bys_length, hbl]; exact (Nat.min_self _).symm
            · intro j v hv
              have hj : j < bs.length := by have := (List.getElem?_eq_some_iff.1 hv).1; rwa [bys_length] at this
              have ek : ¬ 128 = k := by omega
              unfold offK
              rw [if_neg ek, Addr.add_mid, Nat.zero_add]
              have := R4'.out (k + j) v (by
                rw [← hv, hbs]
                unfold bys
                rw [List.map_drop, List.getElem?_drop])
              rwa [Nat.zero_add] at this
            · intro j hj
              rw [bys_length, hbl] at hj
              have ek : ¬ 128 = k := by omega
              unfold offK
              rw [if_neg ek]
              have := (DK4.out.drew.may (128 * i + k + j) (by omega)).1
              rwa [Nat.zero_add] at this
            · intro j hj
              rw [bys_length, hbl] at hj
              have ek : ¬ 128 = k := by omega
              unfold offK
              rw [if_neg ek]
              have := (DK4.out.drew.may (128 * i + k + j) (by omega)).2
              rwa [Nat.zero_add] at this
          have HRUN := Lib.hid RUN
          have C2 := Lib.hid c2; have C2' := Lib.hid c2'; have HB := Lib.hid hbl
          have hpgi : ∃ e, e = (i, b) := ⟨_, rfl⟩
          have DK5 := Lib.hid (DK4.out.drew.patched i hin2 k hk128 bs hbl)
          have WS5 := Lib.hid ((WS4.out.below (Below.refl _ _).drew).at (heap_setCells_other P M (by omega) (bys bs) (offK (128 * i) k) w4.drew))
          have IT5 := Lib.hid ((heap_setCells_other P r (by omega) (bys bs) (offK (128 * i) k) w4.drew).trans IT4.out)
          have BW5 := Lib.hid (BW4.out.drew.setCells P (Or.inr (Or.inl rfl)) (bys bs) (offK (128 * i) k))
          have PS : Hid ((fun j => if j = i then (pgS pg old torn cut l2 seen i).take k ++ bs else pgS pg old torn cut l2 seen j) = pgS pg old torn cut l2 (seen.push b)) := by
            show _ = _
            rw [pgS_push pg old torn cut l2 seen i b hib WS4.out.key WS4.out.born]
            have hi0 : pgS pg old torn cut l2 seen i = pg i := by
              unfold pgS
              rw [if_neg]
              rintro ⟨e, h1, h2, h3⟩
              have h4 := fst_inj WS4.out.key h1 hib h2
              rw [h4] at h3
              rw [h3] at hx2
              cases hx2
            funext j
            by_cases h1 : j = i
            · simp only [h1, if_true, hi0]
              unfold patch
              rw [← hkd, hbs]
            · simp only [h1, if_false]
          rw [PS.out] at DK5
          clear c2 c2' RUN hbs hbl R4' DK4 WS4 IT4 BW4 hol PS
          have hsp : ((i : Int) ≠ torn ∧ k = 0) ∨ ((i : Int) = torn ∧ cut < 0 ∧ k = 0) ∨ ((i : Int) = torn ∧ (¬ cut < 0 ∧ ¬ 128 < cut) ∧ cut = (k : Int)) ∨ ((i : Int) = torn ∧ (¬ cut < 0 ∧ 128 < cut) ∧ k = 128) := by
            rw [hkd]; unfold lastsOf
            by_cases ht : (i : Int) = torn
            · rw [if_pos ht]; omega
            · rw [if_neg ht]; exact .inl ⟨ht, rfl⟩
          clear hkd
          rcases hsp with ⟨ht, rfl⟩ | ⟨ht, hc1, rfl⟩ | ⟨ht, ⟨hc1, hc2⟩, hck⟩ | ⟨ht, ⟨hc1, hc2⟩, rfl⟩
          · have hbq : ((i : Int) == torn) = false := by simp [ht]
            clear ht
            go_wp2_with fail
            have c2 := C2.out; have c2' := C2'.out
            refine rg_start (n := 11) (S := fun w' => w'.cell? ⟨D, 2, none⟩ = some (.slice (some ⟨P, 0, none⟩) n n)) (by kernel_rfl) rfl c2 ?_
            refine rgd_pure 0 (some 48) rfl rfl (.pointer (some ⟨D, 0, none⟩)) (by kernel_rfl) (by kernel_rfl) (by kernel_rfl) (fun _ _ _ _ h => h) (by kernel_rfl) (fun _ => by kernel_rfl) c2 ?_
            refine rgd_pure 1 (some 49) rfl rfl (.pointer (some ⟨D, 0, none⟩)) (by kernel_rfl) (by kernel_rfl) (by kernel_rfl) (fun _ _ _ _ h => h) (by kernel_rfl) (fun _ => by kernel_rfl) c2 ?_
            refine rgd_pure 2 (some 50) rfl rfl (.pointer (some ⟨D, 2, none⟩)) (by kernel_rfl) (by kernel_rfl) (by kernel_rfl) (fun _ _ _ _ h => h) (by kernel_rfl) (fun _ => by kernel_rfl) c2 ?_
            refine rgd_load 3 (some 51) rfl rfl (by kernel_rfl) (by kernel_rfl) (by kernel_rfl) (fun _ _ _ _ h => h) (by kernel_rfl) _ _ rfl Try.underlying53 rfl ⟨D, 2, none⟩ (.slice (some ⟨P, 0, none⟩) n n) (by kernel_rfl) (fun w h => h) c2 ?_
            refine rgd_pure 4 (some 52) rfl rfl (.int .i64 (i : Int)) (by kernel_rfl) (by kernel_rfl) (by kernel_rfl) (fun _ _ _ _ h => h) (by kernel_rfl) (fun _ => by kernel_rfl) c2 ?_
            refine rg_indexN 5 (some 53) rfl rfl (by kernel_rfl) (by kernel_rfl) (by kernel_rfl) (fun _ _ _ _ h => h) (by kernel_rfl) _ _ _ rfl Try.underlying53 128 sizePgE P n n i (by kernel_rfl) (by kernel_rfl) hin2 c2 ?_
            refine rgd_pure 6 (some 54) rfl rfl (.int .i64 0) (by kernel_rfl) (by kernel_rfl) (by kernel_rfl) (fun _ _ _ _ h => h) (by kernel_rfl) (fun _ => by kernel_rfl) c2 ?_
            refine rg_sliceL 7 (some 55) rfl rfl (by kernel_rfl) (by kernel_rfl) (by kernel_rfl) (fun _ _ _ _ h => h) (by kernel_rfl) _ _ _ rfl Try.underlying69 arrPg sizeU8E P (128 * i) 0 (by kernel_rfl) (by kernel_rfl) hk128 c2 ?_
            refine rgd_pure 8 (some 56) rfl rfl (.int .i64 0) (by kernel_rfl) (by kernel_rfl) (by kernel_rfl) (fun _ _ _ _ h => h) (by kernel_rfl) (fun _ => by kernel_rfl) c2 ?_
            refine rg_sliceL 9 (some 57) rfl rfl (by kernel_rfl) (by kernel_rfl) (by kernel_rfl) (fun _ _ _ _ h => h) (by kernel_rfl) _ _ _ rfl Try.underlying69 arrPg sizeU8E Z 0 0 (by kernel_rfl) (by kernel_rfl) hk128 c2 ?_
            refine rgd_run 10 (some 58) (by kernel_rfl) rfl rfl (by kernel_rfl) (goInt (bys bs).length) (w4.drew.setCells P (offK (128 * i) 0) (bys bs)) ?run c2' ?_
            case run => exact exec_copy _ _ _ _ rfl _ _ (by kernel_rfl) (by kernel_rfl) _ _ (HRUN.out _)
            refine wpAnyH_done (by kernel_rfl) ?_ _
            have DK6 := DK5.out; have WS6 := WS5.out; have IT6 := IT5.out; have BW6 := BW5.out
            generalize w4.drew.setCells P (offK (128 * i) 0) (bys bs) = w5 at DK6 WS6 IT6 BW6 ⊢
            have DK7 := Lib.hid DK6; have WS7 := Lib.hid WS6; have IT7 := Lib.hid IT6; have BW7 := Lib.hid BW6; have HS7 := Lib.hid hsh; have HG7 := Lib.hid hgk
            clear DK5 WS5 IT5 BW5 c2 c2' C2 C2' HRUN DK6 WS6 IT6 BW6 hsh hgk
            simp only [Act.put, List.setIfInBounds_toArray, List.set_cons_zero, List.set_cons_succ]
            go_wp2_with fail
            go_roundg (leftOf es (seen.push b)).size
            case measure => have h1 := HS7.out; have h2 := HG7.out; omega
            case rel => exact ⟨seen.push b, c, rfl, Nat.le_refl _, IT7.out, DK7.out, WS7.out, BW7.out⟩
          · have hbq : ((i : Int) == torn) = true := by simp [ht]
            clear ht
            go_wp2_with fail
            have c2 := C2.out; have c2' := C2'.out
            refine rg_start (n := 11) (S := fun w' => w'.cell? ⟨D, 2, none⟩ = some (.slice (some ⟨P, 0, none⟩) n n)) (by kernel_rfl) rfl c2 ?_
            refine rgd_pure 0 (some 48) rfl rfl (.pointer (some ⟨D, 0, none⟩)) (by kernel_rfl) (by kernel_rfl) (by kernel_rfl) (fun _ _ _ _ h => h) (by kernel_rfl) (fun _ => by kernel_rfl) c2 ?_
            refine rgd_pure 1 (some 49) rfl rfl (.pointer (some ⟨D, 0, none⟩)) (by kernel_rfl) (by kernel_rfl) (by kernel_rfl) (fun _ _ _ _ h => h) (by kernel_rfl) (fun _ => by kernel_rfl) c2 ?_
            refine rgd_pure 2 (some 50) rfl rfl (.pointer (some ⟨D, 2, none⟩)) (by kernel_rfl) (by kernel_rfl) (by kernel_rfl) (fun _ _ _ _ h => h) (by kernel_rfl) (fun _ => by kernel_rfl) c2 ?_
            refine rgd_load 3 (some 51) rfl rfl (by kernel_rfl) (by kernel_rfl) (by kernel_rfl) (fun _ _ _ _ h => h) (by kernel_rfl) _ _ rfl Try.underlying53 rfl ⟨D, 2, none⟩ (.slice (some ⟨P, 0, none⟩) n n) (by kernel_rfl) (fun w h => h) c2 ?_
            refine rgd_pure 4 (some 52) rfl rfl (.int .i64 (i : Int)) (by kernel_rfl) (by kernel_rfl) (by kernel_rfl) (fun _ _ _ _ h => h) (by kernel_rfl) (fun _ => by kernel_rfl) c2 ?_
            refine rg_indexN 5 (some 53) rfl rfl (by kernel_rfl) (by kernel_rfl) (by kernel_rfl) (fun _ _ _ _ h => h) (by kernel_rfl) _ _ _ rfl Try.underlying53 128 sizePgE P n n i (by kernel_rfl) (by kernel_rfl) hin2 c2 ?_
            refine rgd_pure 6 (some 54) rfl rfl (.int .i64 0) (by kernel_rfl) (by kernel_rfl) (by kernel_rfl) (fun _ _ _ _ h => h) (by kernel_rfl) (fun _ => by kernel_rfl) c2 ?_
            refine rg_sliceL 7 (some 55) rfl rfl (by kernel_rfl) (by kernel_rfl) (by kernel_rfl) (fun _ _ _ _ h => h) (by kernel_rfl) _ _ _ rfl Try.underlying69 arrPg sizeU8E P (128 * i) 0 (by kernel_rfl) (by kernel_rfl) hk128 c2 ?_
            refine rgd_pure 8 (some 56) rfl rfl (.int .i64 0) (by kernel_rfl) (by kernel_rfl) (by kernel_rfl) (fun _ _ _ _ h => h) (by kernel_rfl) (fun _ => by kernel_rfl) c2 ?_
            refine rg_sliceL 9 (some 57) rfl rfl (by kernel_rfl) (by kernel_rfl) (by kernel_rfl) (fun _ _ _ _ h => h) (by kernel_rfl) _ _ _ rfl Try.underlying69 arrPg sizeU8E Z 0 0 (by kernel_rfl) (by kernel_rfl) hk128 c2 ?_
            refine rgd_run 10 (some 58) (by kernel_rfl) rfl rfl (by kernel_rfl) (goInt (bys bs).length) (w4.drew.setCells P (offK (128 * i) 0) (bys bs)) ?run c2' ?_
            case run => exact exec_copy _ _ _ _ rfl _ _ (by kernel_rfl) (by kernel_rfl) _ _ (HRUN.out _)
            refine wpAnyH_done (by kernel_rfl) ?_ _
            have DK6 := DK5.out; have WS6 := WS5.out; have IT6 := IT5.out; have BW6 := BW5.out
            generalize w4.drew.setCells P (offK (128 * i) 0) (bys bs) = w5 at DK6 WS6 IT6 BW6 ⊢
            have DK7 := Lib.hid DK6; have WS7 := Lib.hid WS6; have IT7 := Lib.hid IT6; have BW7 := Lib.hid BW6; have HS7 := Lib.hid hsh; have HG7 := Lib.hid hgk
            clear DK5 WS5 IT5 BW5 c2 c2' C2 C2' HRUN DK6 WS6 IT6 BW6 hsh hgk
            simp only [Act.put, List.setIfInBounds_toArray, List.set_cons_zero, List.set_cons_succ]
            go_wp2_with fail
            go_roundg (leftOf es (seen.push b)).size
            case measure => have h1 := HS7.out; have h2 := HG7.out; omega
            case rel => exact ⟨seen.push b, c, rfl, Nat.le_refl _, IT7.out, DK7.out, WS7.out, BW7.out⟩
          · have hbq : ((i : Int) == torn) = true := by simp [ht]
            clear ht
            have HCK := Lib.hid hck
            clear hck
            go_wp2_with fail
            have hck := HCK.out
            subst hck
            have c2 := C2.out; have c2' := C2'.out
            refine rg_start (n := 11) (S := fun w' => w'.cell? ⟨D, 2, none⟩ = some (.slice (some ⟨P, 0, none⟩) n n)) (by kernel_rfl) rfl c2 ?_
            refine rgd_pure 0 (some 48) rfl rfl (.pointer (some ⟨D, 0, none⟩)) (by kernel_rfl) (by kernel_rfl) (by kernel_rfl) (fun _ _ _ _ h => h) (by kernel_rfl) (fun _ => by kernel_rfl) c2 ?_
            refine rgd_pure 1 (some 49) rfl rfl (.pointer (some ⟨D, 0, none⟩)) (by kernel_rfl) (by kernel_rfl) (by kernel_rfl) (fun _ _ _ _ h => h) (by kernel_rfl) (fun _ => by kernel_rfl) c2 ?_
            refine rgd_pure 2 (some 50) rfl rfl (.pointer (some ⟨D, 2, none⟩)) (by kernel_rfl) (by kernel_rfl) (by kernel_rfl) (fun _ _ _ _ h => h) (by kernel_rfl) (fun _ => by kernel_rfl) c2 ?_
            refine rgd_load 3 (some 51) rfl rfl (by kernel_rfl) (by kernel_rfl) (by kernel_rfl) (fun _ _ _ _ h => h) (by kernel_rfl) _ _ rfl Try.underlying53 rfl ⟨D, 2, none⟩ (.slice (some ⟨P, 0, none⟩) n n) (by kernel_rfl) (fun w h => h) c2 ?_
            refine rgd_pure 4 (some 52) rfl rfl (.int .i64 (i : Int)) (by kernel_rfl) (by kernel_rfl) (by kernel_rfl) (fun _ _ _ _ h => h) (by kernel_rfl) (fun _ => by kernel_rfl) c2 ?_
            refine rg_indexN 5 (some 53) rfl rfl (by kernel_rfl) (by kernel_rfl) (by kernel_rfl) (fun _ _ _ _ h => h) (by kernel_rfl) _ _ _ rfl Try.underlying53 128 sizePgE P n n i (by kernel_rfl) (by kernel_rfl) hin2 c2 ?_
            refine rgd_pure 6 (some 54) rfl rfl (.int .i64 (k : Int)) (by kernel_rfl) (by kernel_rfl) (by kernel_rfl) (fun _ _ _ _ h => h) (by kernel_rfl) (fun _ => by kernel_rfl) c2 ?_
            refine rg_sliceL 7 (some 55) rfl rfl (by kernel_rfl) (by kernel_rfl) (by kernel_rfl) (fun _ _ _ _ h => h) (by kernel_rfl) _ _ _ rfl Try.underlying69 arrPg sizeU8E P (128 * i) k (by kernel_rfl) (by kernel_rfl) hk128 c2 ?_
            refine rgd_pure 8 (some 56) rfl rfl (.int .i64 (k : Int)) (by kernel_rfl) (by kernel_rfl) (by kernel_rfl) (fun _ _ _ _ h => h) (by kernel_rfl) (fun _ => by kernel_rfl) c2 ?_
            refine rg_sliceL 9 (some 57) rfl rfl (by kernel_rfl) (by kernel_rfl) (by kernel_rfl) (fun _ _ _ _ h => h) (by kernel_rfl) _ _ _ rfl Try.underlying69 arrPg sizeU8E Z 0 k (by kernel_rfl) (by kernel_rfl) hk128 c2 ?_
            refine rgd_run 10 (some 58) (by kernel_rfl) rfl rfl (by kernel_rfl) (goInt (bys bs).length) (w4.drew.setCells P (offK (128 * i) k) (bys bs)) ?run c2' ?_
            case run => exact exec_copy _ _ _ _ rfl _ _ (by kernel_rfl) (by kernel_rfl) _ _ (HRUN.out _)
            refine wpAnyH_done (by kernel_rfl) ?_ _
            have DK6 := DK5.out; have WS6 := WS5.out; have IT6 := IT5.out; have BW6 := BW5.out
            generalize w4.drew.setCells P (offK (128 * i) k) (bys bs) = w5 at DK6 WS6 IT6 BW6 ⊢
            have DK7 := Lib.hid DK6; have WS7 := Lib.hid WS6; have IT7 := Lib.hid IT6; have BW7 := Lib.hid BW6; have HS7 := Lib.hid hsh; have HG7 := Lib.hid hgk
            clear DK5 WS5 IT5 BW5 c2 c2' C2 C2' HRUN DK6 WS6 IT6 BW6 hsh hgk
            simp only [Act.put, List.setIfInBounds_toArray, List.set_cons_zero, List.set_cons_succ]
            go_wp2_with fail
            go_roundg (leftOf es (seen.push b)).size
            case measure => have h1 := HS7.out; have h2 := HG7.out; omega
            case rel => exact ⟨seen.push b, c, rfl, Nat.le_refl _, IT7.out, DK7.out, WS7.out, BW7.out⟩
          · have hbq : ((i : Int) == torn) = true := by simp [ht]
            clear ht
            go_wp2_with fail
            have c2 := C2.out; have c2' := C2'.out
            refine rg_start (n := 11) (S := fun w' => w'.cell? ⟨D, 2, none⟩ = some (.slice (some ⟨P, 0, none⟩) n n)) (by kernel_rfl) rfl c2 ?_
            refine rgd_pure 0 (some 48) rfl rfl (.pointer (some ⟨D, 0, none⟩)) (by kernel_rfl) (by kernel_rfl) (by kernel_rfl) (fun _ _ _ _ h => h) (by kernel_rfl) (fun _ => by kernel_rfl) c2 ?_
            refine rgd_pure 1 (some 49) rfl rfl (.pointer (some ⟨D, 0, none⟩)) (by kernel_rfl) (by kernel_rfl) (by kernel_rfl) (fun _ _ _ _ h => h) (by kernel_rfl) (fun _ => by kernel_rfl) c2 ?_
            refine rgd_pure 2 (some 50) rfl rfl (.pointer (some ⟨D, 2, none⟩)) (by kernel_rfl) (by kernel_rfl) (by kernel_rfl) (fun _ _ _ _ h => h) (by kernel_rfl) (fun _ => by kernel_rfl) c2 ?_
            refine rgd_load 3 (some 51) rfl rfl (by kernel_rfl) (by kernel_rfl) (by kernel_rfl) (fun _ _ _ _ h => h) (by kernel_rfl) _ _ rfl Try.underlying53 rfl ⟨D, 2, none⟩ (.slice (some ⟨P, 0, none⟩) n n) (by kernel_rfl) (fun w h => h) c2 ?_
            refine rgd_pure 4 (some 52) rfl rfl (.int .i64 (i : Int)) (by kernel_rfl) (by kernel_rfl) (by kernel_rfl) (fun _ _ _ _ h => h) (by kernel_rfl) (fun _ => by kernel_rfl) c2 ?_
            refine rg_indexN 5 (some 53) rfl rfl (by kernel_rfl) (by kernel_rfl) (by kernel_rfl) (fun _ _ _ _ h => h) (by kernel_rfl) _ _ _ rfl Try.underlying53 128 sizePgE P n n i (by kernel_rfl) (by kernel_rfl) hin2 c2 ?_
            refine rgd_pure 6 (some 54) rfl rfl (.int .i64 128) (by kernel_rfl) (by kernel_rfl) (by kernel_rfl) (fun _ _ _ _ h => h) (by kernel_rfl) (fun _ => by kernel_rfl) c2 ?_
            refine rg_sliceL 7 (some 55) rfl rfl (by kernel_rfl) (by kernel_rfl) (by kernel_rfl) (fun _ _ _ _ h => h) (by kernel_rfl) _ _ _ rfl Try.underlying69 arrPg sizeU8E P (128 * i) 128 (by kernel_rfl) (by kernel_rfl) hk128 c2 ?_
            refine rgd_pure 8 (some 56) rfl rfl (.int .i64 128) (by kernel_rfl) (by kernel_rfl) (by kernel_rfl) (fun _ _ _ _ h => h) (by kernel_rfl) (fun _ => by kernel_rfl) c2 ?_
            refine rg_sliceL 9 (some 57) rfl rfl (by kernel_rfl) (by kernel_rfl) (by kernel_rfl) (fun _ _ _ _ h => h) (by kernel_rfl) _ _ _ rfl Try.underlying69 arrPg sizeU8E Z 0 128 (by kernel_rfl) (by kernel_rfl) hk128 c2 ?_
            refine rgd_run 10 (some 58) (by kernel_rfl) rfl rfl (by kernel_rfl) (goInt (bys bs).length) (w4.drew.setCells P (offK (128 * i) 128) (bys bs)) ?run c2' ?_
            case run => exact exec_copy _ _ _ _ rfl _ _ (by kernel_rfl) (by kernel_rfl) _ _ (HRUN.out _)
            refine wpAnyH_done (by kernel_rfl) ?_ _
            have DK6 := DK5.out; have WS6 := WS5.out; have IT6 := IT5.out; have BW6 := BW5.out
            generalize w4.drew.setCells P (offK (128 * i) 128) (bys bs) = w5 at DK6 WS6 IT6 BW6 ⊢
            have DK7 := Lib.hid DK6; have WS7 := Lib.hid WS6; have IT7 := Lib.hid IT6; have BW7 := Lib.hid BW6; have HS7 := Lib.hid hsh; have HG7 := Lib.hid hgk
            clear DK5 WS5 IT5 BW5 c2 c2' C2 C2' HRUN DK6 WS6 IT6 BW6 hsh hgk
            simp only [Act.put, List.setIfInBounds_toArray, List.set_cons_zero, List.set_cons_succ]
            go_wp2_with fail
            go_roundg (leftOf es (seen.push b)).size
            case measure => have h1 := HS7.out; have h2 := HG7.out; omega
            case rel => exact ⟨seen.push b, c, rfl, Nat.le_refl _, IT7.out, DK7.out, WS7.out, BW7.out⟩
end Go.Proofs.Ytfgjcgonlpbdbaa
