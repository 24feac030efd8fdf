/- the document's Since. -/
import Derived.Test.YtimfcedkmdbnfaaPastSince2
namespace Go.Proofs.Ytimfcedkmdbnfaa
open Go Go.RowKit
set_option linter.unusedVariables false

/-- what one lacks, at most so many -/
def newsOf (l : List Ev) (v : Nat → Int) (m : Nat) : List Ev := (l.filter fun e => !e.has v).take m
theorem news_snoc (l : List Ev) (x : Ev) (v : Nat → Int) (m : Nat) : newsOf (l ++ [x]) v m = if (newsOf l v m).length < m ∧ x.has v = false then newsOf l v m ++ [x] else newsOf l v m := by
  simp only [newsOf, List.filter_append, List.length_take]
  cases hx : x.has v with
  | true => simp [List.filter_cons, hx]
  | false =>
    simp only [List.filter_cons, hx, Bool.not_false, if_true, List.filter_nil, and_true]
    rw [List.take_append]
    generalize (l.filter fun e => !e.has v) = F
    by_cases hF : F.length < m
    · rw [if_pos (by omega)]
      obtain ⟨k, hk⟩ : ∃ k, m - F.length = k + 1 := ⟨m - F.length - 1, by omega⟩
      rw [hk, List.take_succ_cons, List.take_nil]
    · rw [if_neg (by omega), show m - F.length = 0 by omega, List.take_zero, List.append_nil]
theorem news_len (l : List Ev) (v : Nat → Int) (m : Nat) : (newsOf l v m).length ≤ l.length := by
  have h1 := List.length_filter_le (fun e : Ev => !e.has v) l
  simp only [newsOf, List.length_take]; omega

def NewsS (w : World) (src : List EvP) (kept : List Ev) (e : Ending) (w' : World) : Prop :=
  ∃ v K, e = .returned (.tuple #[v, .bool true]) ∧ w'.ownsRow w.heap.size 35 8 v K.length (ecl K) ∧ (∀ x ∈ K, x ∈ src) ∧ evs K = kept ∧ Below w.heap.size w w'
set_option maxHeartbeats 20000000 in
set_option maxRecDepth 1000000 in
theorem refSinceN_is (p : Option Addr) (c : Nat) (L : List EvP) (f v : Nat → Int) (w : World) (most : Int) (hf : vle f v = false) :
    Calls Try.prog 7 #[.agg (pcs (.slice p L.length c) f), .agg (vf v), .int .i64 most] w fun e w' => e = .returned (.tuple #[.slice none 0 0, .bool false]) ∧ Below w.heap.size w w' := by
  go_enter Try.func7, Try.ntmps7
  go_wp2_with (refine wpList_gbox rfl _ rfl (pcs (.slice p L.length c) f) rfl ?_)
  intro g3 w1 l1 h1 hb1
  have B1 := Lib.hid hb1
  have P1 : Hid (Px w1 g3 (.slice p L.length c) f) := Lib.hid h1
  clear h1 hb1
  go_wp2_with (refine wpList_vbox vecI rfl _ rfl v rfl ?_)
  intro A w2 lA rv hb2
  have B2 := Lib.hid (thenBelow B1.out hb2); have R2 : Hid (Row w2 A 24 v) := Lib.hid rv
  have P2 := Lib.hid (P1.out.later hb2)
  clear rv hb2 P1
  have WI : Hid (Calls Try.prog 21 #[.agg (vf f), .agg (vf v)] w2 (RetBool w2 false)) := Lib.hid (by have h1 := refWithin_is f v w2; rw [hf] at h1; exact h1)
  go_wp2_with (first | refine wpList_gload rfl _ rfl g3 1 rfl (vf f).toList P2.out.floor _ Try.underlying24 rfl (sizeVcl f) ?_ | refine wpList_gload rfl _ rfl A 0 rfl (vf v).toList R2.out.range _ Try.underlying24 rfl (sizeVcl v) ?_)
  refine WI.out.mono ?_
  rintro e w3 ⟨rfl, hb3⟩
  have B3 := Lib.hid (thenBelow B2.out hb3); have P3 := Lib.hid (P2.out.later hb3); have R3 : Hid (Row w3 A 24 v) := Lib.hid (R2.out.later hb3)
  go_wp2
  go_ret2
  exact ⟨rfl, B3.out⟩
set_option maxHeartbeats 20000000 in
set_option maxRecDepth 1000000 in
theorem refSinceM_is (p : Option Addr) (c : Nat) (L : List EvP) (f v : Nat → Int) (w : World) (h : EvsAt w p L) (hn : L.length ≤ 1000) (most : Int) (hm : -9223372036854775808 ≤ most ∧ most ≤ 9223372036854775807) (hf : vle f v = true) :
    Calls Try.prog 7 #[.agg (pcs (.slice p L.length c) f), .agg (vf v), .int .i64 most] w (NewsS w L (newsOf (evs L) v most.toNat)) := by
  have EV := Lib.hid h
  clear h
  go_enter Try.func7, Try.ntmps7
  go_wp2_with (refine wpList_gbox rfl _ rfl (pcs (.slice p L.length c) f) rfl ?_)
  intro g3 w1 l1 h1 hb1
  have B1 := Lib.hid hb1
  have P1 : Hid (Px w1 g3 (.slice p L.length c) f) := Lib.hid h1
  clear h1 hb1
  go_wp2_with (refine wpList_vbox vecI rfl _ rfl v rfl ?_)
  intro A w2 lA rv hb2
  have B2 := Lib.hid (thenBelow B1.out hb2); have R2 : Hid (Row w2 A 24 v) := Lib.hid rv
  have P2 := Lib.hid (P1.out.later hb2)
  clear rv hb2 P1
  have WI : Hid (Calls Try.prog 21 #[.agg (vf f), .agg (vf v)] w2 (RetBool w2 true)) := Lib.hid (by have h1 := refWithin_is f v w2; rw [hf] at h1; exact h1)
  go_wp2_with (first | refine wpList_gload rfl _ rfl g3 1 rfl (vf f).toList P2.out.floor _ Try.underlying24 rfl (sizeVcl f) ?_ | refine wpList_gload rfl _ rfl A 0 rfl (vf v).toList R2.out.range _ Try.underlying24 rfl (sizeVcl v) ?_)
  refine WI.out.mono ?_
  rintro e w3 ⟨rfl, hb3⟩
  have B3 := Lib.hid (thenBelow B2.out hb3); have P3 := Lib.hid (P2.out.later hb3); have R3 : Hid (Row w3 A 24 v) := Lib.hid (R2.out.later hb3)
  have s3 := P3.out.slot
  have hA3 := R3.out.lt
  clear hb3 WI P2 R2
  go_wp2_with fail
  clear s3
  have TK0 := Lib.hid (fun (r n : Int) (U : World) => refHas_is v r n U)
  go_loopw [8, 19] (fun o i wr => ∃ (j : Nat) (K : List EvP), j ≤ L.length ∧ i = .int .i64 j ∧ evs K = newsOf (evs (L.take j)) v most.toNat ∧
      wr.ownsRow w3.heap.size 35 8 o K.length (ecl K) ∧ (∀ x ∈ K, x ∈ L) ∧ Below w3.heap.size w3 wr) (fun _ i _ => L.length - (intOf i).toNat)
  case atStart => exact ⟨0, [], Nat.zero_le _, rfl, by simp [newsOf, evs], ⟨rfl, .inl ⟨rfl, rfl⟩⟩, fun x hx => by simp at hx, Below.refl _ _⟩
  case round =>
    obtain ⟨j, K, hj, rfl, hevK, hown, hmem, hbw⟩ := hrel
    have hKl : K.length ≤ j := by
      have h1 : (evs K).length = K.length := by simp [evs]
      rw [hevK] at h1
      have h2 := news_len (evs (L.take j)) v most.toNat
      have h3 : (evs (L.take j)).length = j := by rw [evs, List.length_map, List.length_take]; omega
      omega
    have BWr : Hid (Below w.heap.size w wr) := Lib.hid (thenBelow B3.out hbw)
    have HEK := Lib.hid hevK; have OO := Lib.hid hown; have HMM := Lib.hid hmem; have BW := Lib.hid hbw
    clear hevK hown hmem hbw
    obtain ⟨qk, ck, rfl⟩ := own_slice OO.out
    by_cases hjl : j < L.length
    · have hjl' : (j : Int) < L.length := by omega
      have EVr := EV.out.below BWr.out
      obtain ⟨b, o, rfl, hlt, hr⟩ := EVr.at hjl
      obtain ⟨c0, c1, c2, c3, c4, c5, c6, c7⟩ := ev_cells hr
      have TKS := Lib.hid (evs_take_succ L j hjl)
      have hxm := Lib.hid (List.getElem_mem hjl)
      clear hr EVr
      obtain ⟨y, hy⟩ : ∃ y, L[j] = y := ⟨_, rfl⟩
      rw [hy] at c0 c1 c2 c3 c4 c5 c6 c7 TKS hxm
      clear hy
      have SN := Lib.hid (news_snoc (evs (L.take j)) y.e v most.toNat)
      rw [← TKS.out, ← HEK.out, show (evs K).length = K.length by simp [evs]] at SN
      clear TKS
      have D6 := Lib.hid (heap_alloc_new wr (.cells y.cells.toArray 35))
      have b6 : Below wr.heap.size wr (wr.alloc (.cells y.cells.toArray 35)) := below_alloc _ _
      have BW6 := Lib.hid (thenBelow BW.out b6)
      have OO6 := Lib.hid (own_later OO.out b6)
      have R6 : Hid (Row (wr.alloc (.cells y.cells.toArray 35)) A 24 v) := Lib.hid (R3.out.later BW6.out)
      have h7 : w3.heap.size ≤ wr.heap.size := BW.out.size
      clear b6 OO
      obtain ⟨⟨r, n, t, kd, d, fl, tx, gn⟩, gp, gc⟩ := y
      simp only [Ev.has] at SN
      simp only at c0 c1 c2 c3 c4 c5 c6 c7
      simp only [EvP.cells] at D6 OO6 BW6 R6
      have d0 := (cell_of_row _ wr.heap.size 0 _ _ _ D6.out).trans (show _ = some (Value.int .i64 r) from rfl)
      have d1 := (cell_of_row _ wr.heap.size 1 _ _ _ D6.out).trans (show _ = some (Value.int .i64 n) from rfl)
      by_cases hmo : (K.length : Int) < most
      · have hmo' : K.length < most.toNat := by omega
        go_wp2_with (refine wpList_gloadG (by rfl) _ rfl A 0 rfl (vf v).toList R6.out.range _ Try.underlying24 rfl (sizeVcl v) ?_)
        refine (TK0.out r n _).mono ?_
        rintro e w7 ⟨rfl, hb7⟩
        have O7 := Lib.hid (own_later OO6.out hb7); have T7 := Lib.hid (thenBelow BW6.out hb7)
        have D7 := Lib.hid ((hb7.block _ (Array.getElem?_eq_some_iff.1 D6.out).1).trans D6.out)
        clear hb7 OO6 BW6 D6 d0 d1 c0 c1 c2 c3 c4 c5 c6 c7 R6
        cases hgo : hasB v r n with
        | true =>
          have SE : Hid (newsOf (evs (L.take (j + 1))) v most.toNat = evs K) := Lib.hid (SN.out.trans (if_neg fun h => by have h2 := h.2; rw [hgo] at h2; cases h2))
          clear SN
          go_wp2
          go_roundw
          case rel => exact ⟨j + 1, K, by omega, by go_num, by rw [SE.out], by simpa using O7.out, HMM.out, by simpa using T7.out⟩
          case measure => simp [intOf]; omega
        | false =>
          have SE : Hid (newsOf (evs (L.take (j + 1))) v most.toNat = evs K ++ [⟨r, n, t, kd, d, fl, tx, gn⟩]) := Lib.hid (SN.out.trans (if_pos ⟨hmo', hgo⟩))
          have d0 := (cell_of_row w7 wr.heap.size 0 _ _ _ D7.out).trans (show _ = some (Value.int .i64 r) from rfl)
          have d1 := (cell_of_row w7 wr.heap.size 1 _ _ _ D7.out).trans (show _ = some (Value.int .i64 n) from rfl)
          have d2 := (cell_of_row w7 wr.heap.size 2 _ _ _ D7.out).trans (show _ = some (Value.int .i64 t) from rfl)
          have d3 := (cell_of_row w7 wr.heap.size 3 _ _ _ D7.out).trans (show _ = some (Value.int .i64 kd) from rfl)
          have d4 := (cell_of_row w7 wr.heap.size 4 _ _ _ D7.out).trans (show _ = some (Value.string d) from rfl)
          have d5 := (cell_of_row w7 wr.heap.size 5 _ _ _ D7.out).trans (show _ = some (Value.int .i64 fl) from rfl)
          have d6 := (cell_of_row w7 wr.heap.size 6 _ _ _ D7.out).trans (show _ = some (Value.string tx) from rfl)
          have d7 := (cell_of_row w7 wr.heap.size 7 _ _ _ D7.out).trans (show _ = some (Value.slice gp gn.length gc) from rfl)
          have hz7 := T7.out.size
          clear SN
          go_wp2_with (at_builtin; refine wpList_ev w7 rfl _ _ rfl w3.heap.size K.length (ecl K) (.slice qk K.length ck) rfl O7.out ⟨⟨r, n, t, kd, d, fl, tx, gn⟩, gp, gc⟩ rfl (by omega) hz7 ?_)
          intro v8 w8 o8 g8
          obtain ⟨q8, c8, rfl⟩ := own_slice o8
          have hvb : ∀ k, (Value.slice qk K.length ck).ownBlock = some k → w3.heap.size ≤ k := fun k hk => (O7.out.lt k hk).1
          have O8 := Lib.hid o8
          have T8 := Lib.hid (T7.out.grown g8 hz7 hvb)
          clear g8 o8 d0 d1 d2 d3 d4 d5 d6 d7 O7 T7 D7 hvb
          go_wp2
          go_roundw
          case rel =>
            refine ⟨j + 1, K ++ [⟨⟨r, n, t, kd, d, fl, tx, gn⟩, gp, gc⟩], by omega, by go_num, by rw [SE.out]; simp only [evs, List.map_append, List.map_cons, List.map_nil], ?_, ?_, by simpa using T8.out⟩
            · rw [List.length_append, ecl_append]
              simpa [ecl] using O8.out
            · intro x hx
              rcases List.mem_append.1 hx with h | h
              · exact HMM.out x h
              · obtain rfl := List.mem_singleton.1 h
                exact hxm.out
          case measure => simp [intOf]; omega
      · have SE : Hid (newsOf (evs (L.take (j + 1))) v most.toNat = evs K) := Lib.hid (SN.out.trans (if_neg (by omega)))
        clear SN
        go_wp2
        go_roundw
        case rel => exact ⟨j + 1, K, by omega, by go_num, by rw [SE.out], by simpa using OO6.out, HMM.out, by simpa using BW6.out⟩
        case measure => simp [intOf]; omega
    · obtain rfl : j = L.length := by omega
      have hjl' : ¬ ((L.length : Nat) : Int) < L.length := by omega
      rw [List.take_length] at HEK
      go_wp2
      go_ret2
      exact ⟨_, K, rfl, own_base OO.out B3.out.size, HMM.out, HEK.out, BWr.out⟩
end Go.Proofs.Ytimfcedkmdbnfaa
