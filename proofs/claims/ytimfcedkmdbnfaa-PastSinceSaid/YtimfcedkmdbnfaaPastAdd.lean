/- past: events put behind others. -/
import Derived.Test.YtimfcedkmdbnfaaPastMap
import Derived.Test.YtimfcedkmdbnfaaPastTwo
import Derived.Deep.AppendLies
namespace Go.Proofs.Ytimfcedkmdbnfaa
open Go Go.RowKit
set_option linter.unusedVariables false

def Ev.dot (e : Ev) : Dt := (e.rep, e.n)
/-- an event more, if there is none of its dot -/
def addEv (acc : List Ev) (e : Ev) : List Ev := if e.dot ∈ acc.map Ev.dot then acc else acc ++ [e]
def behindOf (l more : List Ev) : List Ev := more.foldl addEv l
theorem behindOf_snoc (l more : List Ev) (e : Ev) : behindOf l (more ++ [e]) = addEv (behindOf l more) e := by simp [behindOf]
theorem addEv_len (acc : List Ev) (e : Ev) : (addEv acc e).length ≤ acc.length + 1 := by
  unfold addEv; split <;> simp
theorem behindOf_len (l : List Ev) : ∀ more : List Ev, (behindOf l more).length ≤ l.length + more.length := by
  intro more
  induction more generalizing l with
  | nil => simp [behindOf]
  | cons e more ih =>
    have h1 := ih (addEv l e)
    have h2 := addEv_len l e
    simp only [behindOf, List.foldl_cons, List.length_cons] at h1 ⊢
    omega
/-- what is there in a block of its own stays beside a row of another type -/
theorem dset_own {w w' : World} {r B : Nat} {e : TypeId} {k n : Nat} {v : Value} {xs : List Value} {S : List Dt} (h : DSet w r S) (ho : w.ownsRow B e k v n xs) (hg : w.grownBy w' v.ownBlock) : DSet w' r S := by
  refine h.kept hg (fun e1 => ?_)
  obtain ⟨l, c, hb, _⟩ := h
  rcases ho.2 with ⟨rfl, _⟩ | ⟨g, cap, cur, rfl, _, hgg, _⟩
  · simp [Value.ownBlock] at e1
  · have e2 : r = g := by simpa [Value.ownBlock] using e1
    subst e2
    rw [hb] at hgg
    cases hgg
theorem own_dput {w w' : World} {r B : Nat} {e : TypeId} {k n : Nat} {v : Value} {xs : List Value} {S : List Dt} (ho : w.ownsRow B e k v n xs) (h : DSet w r S) (hg : w.grownBy w' (some r)) : w'.ownsRow B e k v n xs :=
  own_blk ho fun b hb => by
    obtain ⟨h1, h2⟩ := ho.lt b hb
    refine hg.block b h2 (fun e1 => ?_)
    have e1 := Option.some.inj e1
    subst e1
    obtain ⟨l, c, hm, _⟩ := h
    rcases ho.2 with ⟨rfl, _⟩ | ⟨g, cap, cur, rfl, _, hgg, _⟩
    · simp [Value.ownBlock] at hb
    · have : g = b := by simpa [Value.ownBlock] using hb
      subst this
      rw [hm] at hgg
      cases hgg
section
variable {ops : Array Oper} {rest : List Oper} {o : Oper} {a : Act} {Q : Exit → Act → World → Prop}
/-- an event put behind events of one's own: where the row lies then -/
theorem wpList_evL (w : World) (hg : o.guard = none) (s x : Operand) (ho : o.op = .call { callee := .builtin .append, args := #[s, x], argTypes := #[22, 22] })
    (B n : Nat) (xs : List Value) (v : Value) (hs : a.eval s = v) (hown : w.ownsRow B 35 8 v n xs) (X : EvP) (hx : a.eval x = .slice (some ⟨w.heap.size, 0, none⟩) 1 1)
    (hlen : n + 1 ≤ 1000000) (hB : B ≤ w.heap.size)
    (h : ∀ g cap w', w'.ownsRow B 35 8 (.slice (some ⟨g, 0, none⟩) (n + 1) cap) (n + 1) (xs ++ X.cells) → w.grownBy w' v.ownBlock → (v.ownBlock = some g ∨ w.heap.size ≤ g) → wpList Try.prog ops Q rest (a.put o.dst (.slice (some ⟨g, 0, none⟩) (n + 1) cap)) w') : wpList Try.prog ops Q (o :: rest) a (w.alloc (.cells X.cells.toArray 35)) := by
  obtain ⟨i0, hi, hz0, hz1, hz2⟩ := info_parts infoEv
  refine wpList_append_lies _ hg s x 22 ho B 35 i0 _ 8 96 Try.underlying22 hi hz0 hz1 hz2 rfl (by decide) v n xs hs (hown.alloc _) ⟨w.heap.size, 0, none⟩ 1 1 X.cells hx rfl ?_ X.cells_one (by omega) (by unfold maxLen; omega) (by omega) (by simp; omega) (w.heap.size + 1) (by simp) ?_
  · intro j u hu
    rw [Addr.add_lit, Nat.zero_add, cell_of_row _ w.heap.size j _ _ _ (heap_alloc_new w (.cells X.cells.toArray 35))]
    simpa using hu
  · intro g cap w' g1 g2 g3 _
    refine h g cap w' g1 ?_ (by
      rcases g3 with g3 | g3
      · exact .inl g3
      · exact .inr (by omega))
    have g0 := World.grownBy_alloc w (.cells X.cells.toArray 35) v.ownBlock
    exact ⟨g2.os.trans g0.os, g2.tape.trans g0.tape, g2.output.trans g0.output, Nat.le_trans g0.size g2.size, fun i hi hne => (g2.block i (Nat.lt_of_lt_of_le hi g0.size) hne).trans (g0.block i hi hne)⟩
end
def BehindR (w : World) (l : List Ev) (e : Ending) (w' : World) : Prop := ∃ v K, e = .returned v ∧ OwnE w' w.heap.size v K ∧ evs K = l ∧ Below w.heap.size w w'
theorem dots_take (L : List EvP) (j : Nat) (h : j < L.length) : (evs (L.take (j + 1))).map Ev.dot = (evs (L.take j)).map Ev.dot ++ [L[j].e.dot] := by
  rw [evs_take_succ L j h, List.map_append]; rfl
set_option maxHeartbeats 20000000 in
set_option maxRecDepth 1000000 in
theorem behind_is (p : Option Addr) (c : Nat) (L : List EvP) (q : Option Addr) (d : Nat) (M : List EvP) (w : World) (h : EvsAt w p L) (ho : ∀ a, p = some a → ∃ b o, a = ⟨b, o, none⟩) (hn : L.length ≤ 400) (hg : ∀ x ∈ L, x.e.gone.length ≤ 1000)
    (h2 : EvsAt w q M) (ho2 : ∀ a, q = some a → ∃ b o, a = ⟨b, o, none⟩) (hn2 : M.length ≤ 400) (hg2 : ∀ x ∈ M, x.e.gone.length ≤ 1000) :
    Calls Try.prog 23 #[.slice p L.length c, .slice q M.length d] w (BehindR w (behindOf (evs L) (evs M))) := by
  have EV := Lib.hid h; have HG := Lib.hid hg; have HO := Lib.hid ho; have EV2 := Lib.hid h2; have HG2 := Lib.hid hg2; have HO2 := Lib.hid ho2
  clear h hg ho h2 hg2 ho2
  have b0 := below_alloc w (.map #[] 0)
  have hmm : (Instr.makeMap 57 none).run Try.prog w = .ok (.map (some w.heap.size)) (w.alloc (.map #[] 0)) := by
    unfold Instr.makeMap
    simp only [Sem.run_bind, run_underlying Try.underlying57, Result.andThen_ok]
    rfl
  have B0 := Lib.hid b0; have D0 := Lib.hid (dset_new w)
  clear b0
  go_enter Try.func23, Try.ntmps23
  go_wp2_with fail
  clear hmm
  generalize w.alloc (.map #[] 0) = w0 at B0 D0 ⊢
  have hr0 := D0.out.lt
  go_loopw [16] (fun i wr => ∃ j : Nat, j ≤ L.length ∧ i = .int .i64 j ∧ DSet wr w.heap.size ((evs (L.take j)).map Ev.dot) ∧ Below w.heap.size w wr) (fun i _ => L.length - (intOf i).toNat)
  case atStart => exact ⟨0, Nat.zero_le _, rfl, D0.out, B0.out⟩
  case round =>
    obtain ⟨j, hj, rfl, hds, hb⟩ := hrel
    have DS := Lib.hid hds; have BB := Lib.hid hb
    clear B0 D0 hds
    by_cases hjl : j < L.length
    · have hjl' : (j : Int) < L.length := by omega
      obtain ⟨b, o, rfl, hlt, hr⟩ := EV.out.at hjl
      obtain ⟨c0, c1, c2, c3, c4, c5, c6, c7⟩ := ev_cells (range_below (w := w) hr hb)
      have DT := Lib.hid (dots_take L j hjl)
      clear hb hr hlt
      obtain ⟨y, hy⟩ : ∃ y, L[j] = y := ⟨_, rfl⟩
      rw [hy] at c0 c1 c2 c3 c4 c5 c6 c7 DT
      clear hy
      obtain ⟨⟨r, n, t, kd, dc, fl, tx, gn⟩, gp, gc⟩ := y
      simp only at c0 c1 c2 c3 c4 c5 c6 c7
      have b7 := below_alloc wr (.cells #[.int .i64 r, .int .i64 n, .int .i64 t, .int .i64 kd, .string dc, .int .i64 fl, .string tx, .slice gp gn.length gc] 35)
      have B7 := Lib.hid (thenBelow BB.out b7)
      obtain ⟨w8, hu, d8, g8⟩ := run_dput (DS.out.later b7) (r, n)
      have hu' : (Instr.mapUpdate 57 (.map (some w.heap.size)) (.agg #[.int .i64 r, .int .i64 n]) (.agg #[])).run Try.prog (wr.alloc (.cells #[.int .i64 r, .int .i64 n, .int .i64 t, .int .i64 kd, .string dc, .int .i64 fl, .string tx, .slice gp gn.length gc] 35)) = .ok () w8 := hu
      have B8 := Lib.hid (B7.out.trans (grown_below g8 B7.out.size (Nat.le_refl _)))
      have D8 : Hid (DSet w8 w.heap.size ((evs (L.take (j + 1))).map Ev.dot)) := Lib.hid (by rw [DT.out]; exact d8)
      clear b7 hu d8 g8 DT B7 DS
      go_wp2
      go_roundw
      case rel => exact ⟨j + 1, by omega, by go_num, by simpa using D8.out, by simpa using B8.out⟩
      case measure => simp [intOf]; omega
    · obtain rfl : j = L.length := by omega
      have hjl' : ¬ ((L.length : Nat) : Int) < L.length := by omega
      rw [List.take_length] at DS
      have C1 := Lib.hid (copied_is p c L wr (EV.out.below BB.out) HO.out (by omega) HG.out)
      clear hb
      go_wp2_with fail
      refine C1.out.mono ?_
      rintro e w2 ⟨v1, L', rfl, hL', heL, hb2⟩
      have B2 := Lib.hid (thenBelow BB.out hb2); have DS2 := Lib.hid (DS.out.later hb2); have OL := Lib.hid hL'; have HEL := Lib.hid heL
      have C2 := Lib.hid (copied_is q d M w2 (EV2.out.below B2.out) HO2.out (by omega) HG2.out)
      have hLl : L'.length = L.length := by have := congrArg List.length heL; simpa [evs] using this
      obtain ⟨N0, hN0⟩ : ∃ N0, N0 = wr.heap.size := ⟨_, rfl⟩
      have hzr : w.heap.size ≤ N0 := by rw [hN0]; exact BB.out.size
      have hz12 : N0 ≤ w2.heap.size := by rw [hN0]; exact hb2.size
      have hwr : w.heap.size < N0 := by rw [hN0]; exact DS.out.lt
      have HG1 : Hid (∀ g, v1.ownBlock = some g → g < w2.heap.size) := Lib.hid fun g hg => (hL'.row.lt g hg).2
      rw [← hN0] at OL
      clear hN0
      clear C1 hb2 hL' heL DS
      go_wp2_with fail
      refine C2.out.mono ?_
      rintro e w3 ⟨v2, M', rfl, hM', heM, hb3⟩
      have B3 := Lib.hid (thenBelow B2.out hb3); have DS3 := Lib.hid (DS2.out.later hb3); have OL3 := Lib.hid (OL.out.later hb3); have OM := Lib.hid hM'; have HEM := Lib.hid heM
      have hMl : M'.length = M.length := by have := congrArg List.length heM; simpa [evs] using this
      obtain ⟨q2, c2, rfl, hc2, hE2, _⟩ := hM'.at
      have hz3 := hb3.size
      have hL400 : L'.length ≤ 400 := by omega
      have hM400 : M'.length ≤ 400 := by omega
      clear C2 hb3 hM' heM OL DS2 hE2 hLl hMl
      -- the row that is appended to, and what else there is
      obtain ⟨p1, c1, rfl⟩ := own_slice OL3.out.row
      obtain ⟨G1, hG1, hG1ge, hG1lt, hG1no⟩ : ∃ G1, (∀ b, (Value.slice p1 L'.length c1).ownBlock = some b → b = G1) ∧ w.heap.size ≤ G1 ∧ G1 < w2.heap.size ∧ (∀ x, x ∈ L' ∨ x ∈ M' → ∀ b, (Value.slice x.p x.e.gone.length x.c).ownBlock = some b → w3.ownsRow N0 32 2 (.slice x.p x.e.gone.length x.c) x.e.gone.length (dcl x.e.gone) → b ≠ G1) := by
        have hrow := OL3.out.row
        rcases hrow.2 with ⟨h0, _⟩ | ⟨g, cap, cur, h0, _, hgg, _⟩
        · injection h0 with h0 _ _
          subst h0
          refine ⟨w.heap.size, fun b hb => by simp [Value.ownBlock] at hb, Nat.le_refl _, by omega, fun x _ b hb hx e => ?_⟩
          have := (hx.lt b hb).1
          omega
        · injection h0 with h0 _ _
          subst h0
          refine ⟨g, fun b hb => by simpa [Value.ownBlock] using hb.symm, by have := (hrow.lt g rfl).1; omega, ?_, fun x _ b hb hx e => ?_⟩
          · have := HG1.out
            exact this g rfl
          · subst e
            have h1 := own_apart hx hrow (by decide)
            rcases h1 with h1 | h1
            · rw [hb] at h1; cases h1
            · exact h1 hb
      have GW : Hid (∀ x, x ∈ L' ∨ x ∈ M' → w3.ownsRow N0 32 2 (.slice x.p x.e.gone.length x.c) x.e.gone.length (dcl x.e.gone)) := Lib.hid fun x hx => by
        rcases hx with hx | hx
        · exact OL3.out.gone x hx
        · exact own_base (OM.out.gone x hx) (by omega)
      have HG1 := Lib.hid hG1; have HG1N := Lib.hid hG1no
      clear hG1 hG1no
      go_wp2_with fail
      go_loopw [8, 30] (fun v i wi => ∃ (j : Nat) (K : List EvP), j ≤ M'.length ∧ i = .int .i64 j ∧ evs K = behindOf (evs L) (evs (M'.take j)) ∧ wi.ownsRow N0 35 8 v K.length (ecl K) ∧ (∀ b, v.ownBlock = some b → b = G1 ∨ w3.heap.size ≤ b) ∧
        DSet wi w.heap.size ((behindOf (evs L) (evs (M'.take j))).map Ev.dot) ∧ (∀ x ∈ K, x ∈ L' ∨ x ∈ M') ∧ Two w.heap.size G1 w3 wi) (fun _ i _ => M'.length - (intOf i).toNat)
      case atStart => exact ⟨0, L', Nat.zero_le _, rfl, by rw [HEL.out]; rfl, OL3.out.row, fun b hb => .inl (HG1.out b hb), DS3.out, fun x hx => .inl hx, Two.refl _ _ _⟩
      case round =>
        obtain ⟨j, K, hj, rfl, heK, hown, hvb, hds, hmem, htwo⟩ := hrel
        have hKl : K.length ≤ L.length + j := by
          have h1 : (evs K).length = K.length := by simp [evs]
          rw [heK] at h1
          have h2 := behindOf_len (evs L) (evs (M'.take j))
          have h3 : (evs (M'.take j)).length = j := by rw [evs, List.length_map, List.length_take]; omega
          have h4 : (evs L).length = L.length := by simp [evs]
          omega
        have OMr : OwnE wr w2.heap.size (.slice q2 M'.length c2) M' := by
          refine ⟨own_blk OM.out.row fun b hb => ?_, fun x hx => own_blk (OM.out.gone x hx) fun b hb => ?_⟩
          · obtain ⟨h1, h2⟩ := OM.out.row.lt b hb
            exact htwo.block b h2 (by omega) (by omega)
          · obtain ⟨h1, h2⟩ := (OM.out.gone x hx).lt b hb
            exact htwo.block b h2 (by omega) (by omega)
        have HEK := Lib.hid heK; have OO := Lib.hid hown; have HVB := Lib.hid hvb; have DS4 := Lib.hid hds; have HMM := Lib.hid hmem; have TW := Lib.hid htwo
        clear heK hown hvb hds hmem htwo
        by_cases hjl : j < M'.length
        · have hjl' : (j : Int) < M'.length := by omega
          obtain ⟨q', cq', e1, _, hEM, _⟩ := OMr.at
          injection e1 with e1 _ e2
          subst e1; subst e2
          obtain ⟨b, o, rfl, hlt, hr⟩ := hEM.at hjl
          obtain ⟨c0, c1', c2', c3, c4, c5, c6, c7⟩ := ev_cells hr
          have SN : Hid (behindOf (evs L) (evs (M'.take (j + 1))) = addEv (behindOf (evs L) (evs (M'.take j))) M'[j].e) := Lib.hid (by rw [evs_take_succ M' j hjl, behindOf_snoc])
          have hxm := Lib.hid (List.getElem_mem hjl)
          clear hr OMr hEM
          obtain ⟨y, hy⟩ : ∃ y, M'[j] = y := ⟨_, rfl⟩
          rw [hy] at c0 c1' c2' c3 c4 c5 c6 c7 SN hxm
          clear hy
          obtain ⟨acc, hacc⟩ : ∃ acc, behindOf (evs L) (evs (M'.take j)) = acc := ⟨_, rfl⟩
          rw [hacc] at SN HEK DS4
          clear hacc
          obtain ⟨⟨r, n, t, kd, dc, fl, tx, gn⟩, gp, gc⟩ := y
          simp only at c0 c1' c2' c3 c4 c5 c6 c7
          have b7 := below_alloc wr (.cells #[.int .i64 r, .int .i64 n, .int .i64 t, .int .i64 kd, .string dc, .int .i64 fl, .string tx, .slice gp gn.length gc] 35)
          have n7 := heap_alloc_new wr (.cells #[.int .i64 r, .int .i64 n, .int .i64 t, .int .i64 kd, .string dc, .int .i64 fl, .string tx, .slice gp gn.length gc] 35)
          have D7 := DS4.out.later b7
          have hlk : (Instr.lookup 57 (.map (some w.heap.size)) (.agg #[.int .i64 r, .int .i64 n]) true).run Try.prog (wr.alloc (.cells #[.int .i64 r, .int .i64 n, .int .i64 t, .int .i64 kd, .string dc, .int .i64 fl, .string tx, .slice gp gn.length gc] 35)) = .ok (.tuple #[.agg #[], .bool (decide ((r, n) ∈ acc.map Ev.dot))]) (wr.alloc (.cells #[.int .i64 r, .int .i64 n, .int .i64 t, .int .i64 kd, .string dc, .int .i64 fl, .string tx, .slice gp gn.length gc] 35)) := run_dlook D7 (r, n)
          have hz0 : (zeroValue 58).run Try.prog (wr.alloc (.cells #[.int .i64 r, .int .i64 n, .int .i64 t, .int .i64 kd, .string dc, .int .i64 fl, .string tx, .slice gp gn.length gc] 35)) = .ok (.agg #[]) (wr.alloc (.cells #[.int .i64 r, .int .i64 n, .int .i64 t, .int .i64 kd, .string dc, .int .i64 fl, .string tx, .slice gp gn.length gc] 35)) := by kernel_rfl
          cases hin : decide ((r, n) ∈ acc.map Ev.dot) with
          | true =>
            rw [hin] at hlk
            have SE : Hid (behindOf (evs L) (evs (M'.take (j + 1))) = acc) := Lib.hid (by rw [SN.out]; exact if_pos (by simpa [Ev.dot] using hin))
            have b8 := below_alloc (wr.alloc (.cells #[.int .i64 r, .int .i64 n, .int .i64 t, .int .i64 kd, .string dc, .int .i64 fl, .string tx, .slice gp gn.length gc] 35)) (.cells #[] 58)
            have b78 : Below wr.heap.size wr ((wr.alloc (.cells #[.int .i64 r, .int .i64 n, .int .i64 t, .int .i64 kd, .string dc, .int .i64 fl, .string tx, .slice gp gn.length gc] 35)).alloc (.cells #[] 58)) := thenBelow b7 b8
            have O8 := Lib.hid (own_later OO.out b78); have D8 := Lib.hid (D7.later b8); have T8 := Lib.hid (TW.out.below b78)
            clear b7 b8 b78 n7 D7 hin
            go_wp2
            go_roundw
            case rel => exact ⟨j + 1, K, by omega, by go_num, by rw [SE.out]; exact HEK.out, by simpa using O8.out, HVB.out, by rw [SE.out]; simpa using D8.out, HMM.out, by simpa using T8.out⟩
            case measure => simp [intOf]; omega
          | false =>
            rw [hin] at hlk
            have SE : Hid (behindOf (evs L) (evs (M'.take (j + 1))) = acc ++ [⟨r, n, t, kd, dc, fl, tx, gn⟩]) := Lib.hid (by rw [SN.out]; exact if_neg (by simpa [Ev.dot] using hin))
            obtain ⟨qk, ck, hqk⟩ := own_slice OO.out
            subst hqk
            have b8 := below_alloc (wr.alloc (.cells #[.int .i64 r, .int .i64 n, .int .i64 t, .int .i64 kd, .string dc, .int .i64 fl, .string tx, .slice gp gn.length gc] 35)) (.cells #[] 58)
            have b78 : Below wr.heap.size wr ((wr.alloc (.cells #[.int .i64 r, .int .i64 n, .int .i64 t, .int .i64 kd, .string dc, .int .i64 fl, .string tx, .slice gp gn.length gc] 35)).alloc (.cells #[] 58)) := thenBelow b7 b8
            obtain ⟨w9, hu, d9, g9⟩ := run_dput (D7.later b8) (r, n)
            have hu' : (Instr.mapUpdate 57 (.map (some w.heap.size)) (.agg #[.int .i64 r, .int .i64 n]) (.agg #[])).run Try.prog ((wr.alloc (.cells #[.int .i64 r, .int .i64 n, .int .i64 t, .int .i64 kd, .string dc, .int .i64 fl, .string tx, .slice gp gn.length gc] 35)).alloc (.cells #[] 58)) = .ok () w9 := hu
            have hrw : w.heap.size < wr.heap.size := DS4.out.lt
            have n8 := (b8.block _ (Array.getElem?_eq_some_iff.1 n7).1).trans n7
            have n9 := (g9.block wr.heap.size (Array.getElem?_eq_some_iff.1 n8).1 (by simp; omega)).trans n8
            have k0 := (cell_of_row w9 wr.heap.size 0 _ _ _ n9).trans (show _ = some (Value.int .i64 r) from rfl)
            have k1 := (cell_of_row w9 wr.heap.size 1 _ _ _ n9).trans (show _ = some (Value.int .i64 n) from rfl)
            have k2 := (cell_of_row w9 wr.heap.size 2 _ _ _ n9).trans (show _ = some (Value.int .i64 t) from rfl)
            have k3 := (cell_of_row w9 wr.heap.size 3 _ _ _ n9).trans (show _ = some (Value.int .i64 kd) from rfl)
            have k4 := (cell_of_row w9 wr.heap.size 4 _ _ _ n9).trans (show _ = some (Value.string dc) from rfl)
            have k5 := (cell_of_row w9 wr.heap.size 5 _ _ _ n9).trans (show _ = some (Value.int .i64 fl) from rfl)
            have k6 := (cell_of_row w9 wr.heap.size 6 _ _ _ n9).trans (show _ = some (Value.string tx) from rfl)
            have k7 := (cell_of_row w9 wr.heap.size 7 _ _ _ n9).trans (show _ = some (Value.slice gp gn.length gc) from rfl)
            have O9 := Lib.hid (own_dput (own_later OO.out b78) (D7.later b8) g9)
            have T9 := Lib.hid ((TW.out.below b78).step g9 (fun k hk => .inl (Option.some.inj hk).symm))
            have D9 := Lib.hid d9
            have hz9 : N0 ≤ w9.heap.size := by have := T9.out.size; omega
            have hz39 : w3.heap.size ≤ w9.heap.size := T9.out.size
            clear b7 b8 b78 n7 n8 n9 D7 hin hu d9 g9
            go_wp2_with (at_builtin; refine wpList_evL w9 rfl _ _ rfl N0 K.length (ecl K) (.slice qk K.length ck) rfl O9.out ⟨⟨r, n, t, kd, dc, fl, tx, gn⟩, gp, gc⟩ rfl (by omega) hz9 ?_)
            intro g cap w10 o10 g10 hat
            have O10 := Lib.hid o10
            have D10 := Lib.hid (dset_own D9.out O9.out g10)
            have T10 := Lib.hid (T9.out.step g10 (fun k hk => .inr (HVB.out k hk)))
            have HAT : Hid (∀ b, (Value.slice (some ⟨g, 0, none⟩) (K.length + 1) cap).ownBlock = some b → b = G1 ∨ w3.heap.size ≤ b) := Lib.hid fun b hb => by
              have e : g = b := by simpa [Value.ownBlock] using hb
              subst e
              rcases hat with h | h
              · exact HVB.out _ h
              · exact .inr (Nat.le_trans hz39 h)
            clear o10 g10 hat k0 k1 k2 k3 k4 k5 k6 k7 hu' hlk
            go_wp2
            go_roundw
            case rel =>
              refine ⟨j + 1, K ++ [⟨⟨r, n, t, kd, dc, fl, tx, gn⟩, gp, gc⟩], by omega, by go_num, by rw [SE.out]; simp only [evs, List.map_append, List.map_cons, List.map_nil]; rw [← HEK.out]; rfl, ?_, HAT.out, by rw [SE.out, List.map_append]; exact D10.out, ?_, T10.out⟩
              · rw [List.length_append, ecl_append]
                simpa [ecl] using O10.out
              · intro x hx
                rcases List.mem_append.1 hx with h | h
                · exact HMM.out x h
                · obtain rfl := List.mem_singleton.1 h
                  exact .inr hxm.out
            case measure => simp [intOf]; omega
        · obtain rfl : j = M'.length := by omega
          have hjl' : ¬ ((M'.length : Nat) : Int) < M'.length := by omega
          rw [List.take_length, HEM.out] at HEK
          clear OMr
          go_wp2
          go_ret
          refine ⟨_, K, rfl, ⟨own_base OO.out (by omega), fun x hx => ?_⟩, HEK.out, ⟨TW.out.os.trans B3.out.os, TW.out.tape.trans B3.out.tape, TW.out.output.trans B3.out.output, Nat.le_trans B3.out.size TW.out.size, fun k hk => (TW.out.block k (Nat.lt_of_lt_of_le hk B3.out.size) (by omega) (by omega)).trans (B3.out.block k hk)⟩⟩
          have h1 := GW.out x (HMM.out x hx)
          refine own_base (own_blk h1 fun b hb => ?_) (show w.heap.size ≤ N0 by omega)
          obtain ⟨h2, h3⟩ := h1.lt b hb
          exact TW.out.block b h3 (by omega) (HG1N.out x (HMM.out x hx) b hb h1)
end Go.Proofs.Ytimfcedkmdbnfaa
