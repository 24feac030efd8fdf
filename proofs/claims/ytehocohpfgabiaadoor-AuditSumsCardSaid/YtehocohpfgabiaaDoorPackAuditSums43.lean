/- The statement AuditSums, proved for every input that its row reads: part 43 of 54. -/
import Derived.Test.YtehocohpfgabiaaDoorPackAuditSums42
import Derived.Test.YtehocohpfgabiaaDoorPackAuditSums4
/- audit.Look of nothing, and of the example's event. -/
namespace Go.Proofs.YtehocohpfgabiaaDoor
open Go Go.RowKit
set_option linter.unusedVariables false
set_option maxRecDepth 1000000

theorem vle0 : vle (fun _ => 0) (fun _ => 0) = true := (vle_iff _ _).2 fun i _ => by omega
theorem canIs0 (w : World) (hT : Shapes w) : Calls Tryd.prog 24 #[.agg (scs (fun _ => 0) (.slice none 0 0))] w (RetBool w true) := by
  have h := docCan_is (fun _ => 0) none 0 [] w ⟨fun h => absurd rfl h, fun _ => rfl⟩ hT
  rw [canNone] at h
  exact h
theorem within0 (w : World) : Calls Tryd.prog 25 #[.agg (vf fun _ => 0), .agg (vf fun _ => 0)] w (RetBool w true) := by
  have h := ownWithin_is (fun _ => 0) (fun _ => 0) w
  rw [vle0] at h
  exact h
theorem infoTr : (Tryd.prog.info? 63).map (fun i => (i.zero, i.size, i.bytes)) = some (some (.agg #[.int .i64 0, .int .i64 0, .int .i64 0]), 3, 24) := by kernel_rfl
section
variable {ops : Array Oper} {rest : List Oper} {o : Oper} {a : Act} {Q : Exit → Act → World → Prop}
theorem wpList_trs (w : World) (hg : o.guard = none) (s x : Operand) (ho : o.op = .call { callee := .builtin .append, args := #[s, x], argTypes := #[50, 50] })
    (B n : Nat) (xs : List Value) (v : Value) (hs : a.eval s = v) (hown : w.ownsRow B 63 3 v n xs) (cs : List Value) (h3 : cs.length = 3) (h1 : ∀ u ∈ cs, u.oneCell' = true) (hx : a.eval x = .slice (some ⟨w.heap.size, 0, none⟩) 1 1)
    (hlen : n + 1 ≤ 1000000) (hB : B ≤ w.heap.size)
    (h : ∀ v' w', w'.ownsRow B 63 3 v' (n + 1) (xs ++ cs) → Below B w w' → wpList Tryd.prog ops Q rest (a.put o.dst v') w') : wpList Tryd.prog ops Q (o :: rest) a (w.alloc (.cells cs.toArray 63)) := by
  obtain ⟨i0, hi, hz0, hz1, hz2⟩ := info_parts infoTr
  refine wpList_append_own _ hg s x 50 ho B 63 i0 _ 3 24 Tryd.underlying50 hi hz0 hz1 hz2 rfl (by decide) v n xs hs (hown.alloc _) ⟨w.heap.size, 0, none⟩ 1 1 cs hx (by rw [h3]) ?_ h1 (by unfold maxLen; omega) (by omega) (by simp; omega) ?_
  · intro j u hu
    rw [Addr.add_mid]
    exact range_of_block (heap_alloc_new w (.cells cs.toArray 63)) j u hu
  · intro v' w' q1 q2 _
    exact h v' w' q1 (((Below.refl B w).alloc hB _).grown q2 (by simp; omega) (fun k hk => (hown.lt k hk).1))
end
/-- a row of troubles stays where only the maps turn -/
theorem own_past {w w' : World} {B n A r1 r2 r3 : Nat} {v : Value} {xs : List Value} (h : w.ownsRow B 63 3 v n xs) (hF : Front w A r1 r2 r3) (hg : ∀ g, g < w.heap.size → g ≠ r2 → g ≠ r3 → w'.heap[g]? = w.heap[g]?) : w'.ownsRow B 63 3 v n xs := by
  refine ⟨h.1, ?_⟩
  rcases h.2 with q | ⟨g, cap, cur, rfl, hB, hc, q⟩
  · exact .inl q
  · refine .inr ⟨g, cap, cur, rfl, hB, ?_, q⟩
    rw [hg g (Array.getElem?_eq_some_iff.1 hc).1 (fun e => by obtain ⟨l, c, h2, _⟩ := hF.met; rw [e, h2] at hc; cases hc) (fun e => by have h2 := hF.last; rw [e, h2] at hc; cases hc)]
    exact hc
def LookR (w : World) (e : Ending) (w' : World) : Prop := ∃ v, e = .returned v ∧ w'.ownsRow w.heap.size 63 3 v 1 [.int .i64 3, .int .i64 0, .int .i64 1] ∧ Below w.heap.size w w'
set_option maxHeartbeats 2000000 in
theorem look0_is (w : World) (hT : Shapes w) : Calls Tryd.prog 12 #[.agg (scs (fun _ => 0) (.slice none 0 0)), .agg (pcs (.slice none 0 0) (fun _ => 0))] w fun e w' => e = .returned (.slice none 0 0) ∧ Below w.heap.size w w' := by
  have HT := Lib.hid hT
  clear hT
  go_enter Tryd.func12, Tryd.ntmps12
  go_wp2_with (refine wpList_gbox rfl _ rfl (scs (fun _ => 0) (.slice none 0 0)) rfl ?_)
  intro g2 w1 l2 h2 hb1
  have S1 : Hid (Sx w1 g2 (fun _ => 0) (.slice none 0 0)) := Lib.hid h2
  have B1 := Lib.hid hb1
  clear h2 hb1
  go_wp2_with (refine wpList_gbox rfl _ rfl (pcs (.slice none 0 0) (fun _ => 0)) rfl ?_)
  intro g3 w2 l3 h3 hb2
  have P2 : Hid (Px w2 g3 (.slice none 0 0) (fun _ => 0)) := Lib.hid h3
  have S2 := Lib.hid (S1.out.later hb2); have B2 := Lib.hid (thenBelow B1.out hb2)
  have SW := Lib.hid S2.out.whole
  clear h3 hb2 S1 B1
  go_wp2_with (refine wpList_gload (t := 26) rfl _ rfl g2 0 rfl _ SW.out _ Tryd.underlying26 rfl (sizeStl _ _) ?_)
  refine (canIs0 w2 (HT.out.below B2.out)).mono ?_
  rintro e w3 ⟨rfl, hb3⟩
  have S3 := Lib.hid (S2.out.later hb3); have P3 := Lib.hid (P2.out.later hb3); have B3 := Lib.hid (thenBelow B2.out hb3)
  have SV := Lib.hid S3.out.vec; have PF := Lib.hid P3.out.floor
  clear hb3 S2 P2 B2 SW
  go_wp2_with (first | refine wpList_gload (t := 23) rfl _ rfl g3 1 rfl _ PF.out _ Tryd.underlying23 rfl (sizeVcl _) ?_ | refine wpList_gload (t := 23) rfl _ rfl g2 0 rfl _ SV.out _ Tryd.underlying23 rfl (sizeVcl _) ?_)
  refine (within0 w3).mono ?_
  rintro e w4 ⟨rfl, hb4⟩
  have S4 := Lib.hid (S3.out.later hb4); have P4 := Lib.hid (P3.out.later hb4); have B4 := Lib.hid (thenBelow B3.out hb4)
  have SW := Lib.hid S4.out.whole
  clear hb4 S3 P3 B3 SV PF
  go_wp2_with (refine wpList_gload (t := 26) rfl _ rfl g2 0 rfl _ SW.out _ Tryd.underlying26 rfl (sizeStl _ _) ?_)
  refine (begin_is w4).mono ?_
  rintro e w5 ⟨A, r1, r2, r3, rfl, fr, hA, h1, h2, h3, hne, hb5⟩
  have P5 := Lib.hid (P4.out.later hb5); have B5 := Lib.hid (thenBelow B4.out hb5)
  clear fr hA h1 h2 h3 hne hb5 S4 P4 B4 SW HT
  have k0 := P5.out.slot
  go_wp2
  clear k0
  go_loopw [5, 33] (fun v i wr => v = .slice none 0 0 ∧ i = .int .i64 0 ∧ wr = w5) (fun _ _ _ => 0)
  case atStart => exact ⟨rfl, rfl, rfl⟩
  case round =>
    obtain ⟨rfl, rfl, rfl⟩ := hrel
    go_wp2
    go_ret
    exact ⟨rfl, B5.out⟩
set_option maxHeartbeats 2000000 in
theorem look1_is (b c : Nat) (w : World) (hE : w.rangeAt b 0 auP.cells) (hT : Shapes w) : Calls Tryd.prog 12 #[.agg (scs (fun _ => 0) (.slice none 0 0)), .agg (pcs (.slice (some ⟨b, 0, none⟩) 1 c) (fun _ => 0))] w (LookR w) := by
  have HT := Lib.hid hT; have HE := Lib.hid hE
  clear hT hE
  go_enter Tryd.func12, Tryd.ntmps12
  go_wp2_with (refine wpList_gbox rfl _ rfl (scs (fun _ => 0) (.slice none 0 0)) rfl ?_)
  intro g2 w1 l2 h2 hb1
  have S1 : Hid (Sx w1 g2 (fun _ => 0) (.slice none 0 0)) := Lib.hid h2
  have B1 := Lib.hid hb1
  clear h2 hb1
  go_wp2_with (refine wpList_gbox rfl _ rfl (pcs (.slice (some ⟨b, 0, none⟩) 1 c) (fun _ => 0)) rfl ?_)
  intro g3 w2 l3 h3 hb2
  have P2 : Hid (Px w2 g3 (.slice (some ⟨b, 0, none⟩) 1 c) (fun _ => 0)) := Lib.hid h3
  have S2 := Lib.hid (S1.out.later hb2); have B2 := Lib.hid (thenBelow B1.out hb2)
  have SW := Lib.hid S2.out.whole
  clear h3 hb2 S1 B1
  go_wp2_with (refine wpList_gload (t := 26) rfl _ rfl g2 0 rfl _ SW.out _ Tryd.underlying26 rfl (sizeStl _ _) ?_)
  refine (canIs0 w2 (HT.out.below B2.out)).mono ?_
  rintro e w3 ⟨rfl, hb3⟩
  have S3 := Lib.hid (S2.out.later hb3); have P3 := Lib.hid (P2.out.later hb3); have B3 := Lib.hid (thenBelow B2.out hb3)
  have SV := Lib.hid S3.out.vec; have PF := Lib.hid P3.out.floor
  clear hb3 S2 P2 B2 SW
  go_wp2_with (first | refine wpList_gload (t := 23) rfl _ rfl g3 1 rfl _ PF.out _ Tryd.underlying23 rfl (sizeVcl _) ?_ | refine wpList_gload (t := 23) rfl _ rfl g2 0 rfl _ SV.out _ Tryd.underlying23 rfl (sizeVcl _) ?_)
  refine (within0 w3).mono ?_
  rintro e w4 ⟨rfl, hb4⟩
  have S4 := Lib.hid (S3.out.later hb4); have P4 := Lib.hid (P3.out.later hb4); have B4 := Lib.hid (thenBelow B3.out hb4)
  have SW := Lib.hid S4.out.whole
  clear hb4 S3 P3 B3 SV PF
  go_wp2_with (refine wpList_gload (t := 26) rfl _ rfl g2 0 rfl _ SW.out _ Tryd.underlying26 rfl (sizeStl _ _) ?_)
  refine (begin_is w4).mono ?_
  rintro e w5 ⟨A, r1, r2, r3, rfl, fr, hA, h1, h2, h3, hne, hb5⟩
  have P5 := Lib.hid (P4.out.later hb5); have B5 := Lib.hid (thenBelow B4.out hb5); have F5 := Lib.hid fr
  have z2 := Nat.le_trans B4.out.size h2; have z3 := Nat.le_trans B4.out.size h3
  clear fr hA h1 h2 h3 hb5 S4 P4 B4 SW
  have k0 := P5.out.slot
  go_wp2
  clear k0 P5
  go_loopw [5, 33] (fun v i wr => (v = .slice none 0 0 ∧ i = .int .i64 0 ∧ wr = w5) ∨ (i = .int .i64 1 ∧ wr.ownsRow w.heap.size 63 3 v 1 [.int .i64 3, .int .i64 0, .int .i64 1] ∧ Below w.heap.size w wr)) (fun _ i _ => 1 - (RowKit.intOf i).toNat)
  case atStart => exact .inl ⟨rfl, rfl, rfl⟩
  case round =>
    rcases hrel with ⟨rfl, rfl, rfl⟩ | ⟨rfl, ow, hb⟩
    · have Q5 := Lib.hid (range_below HE.out B5.out)
      go_wp2_with (first | refine wpList_gload (t := 48) rfl _ rfl b 0 rfl _ Q5.out _ Tryd.underlying48 rfl (sizeEvA auP) ?_ | refine wpList_galloc (t := 48) _ zeroEvA rfl rfl ?_)
      intro g8 w6 l8 h8 hb6
      have B6 := Lib.hid (thenBelow B5.out hb6); have W6 := Lib.hid hb6; have E6 := Lib.hid h8
      have l8W := Nat.le_trans B5.out.size l8
      clear h8 hb6 Q5
      go_wp2_with (refine wpList_gstore (t := 48) rfl _ _ rfl g8 rfl auP.cells.toArray rfl _ _ E6.out (by rw [List.size_toArray]; exact sizeEvA auP) rfl (fun v hv => auP.cells_one v (by simpa using hv)) ?_)
      intro w7 h7 gr7
      have BW7 := Lib.hid (W6.out.trans (grown_below gr7 W6.out.size l8))
      have F7 := Lib.hid (F5.out.later BW7.out); have B7 := Lib.hid (thenBelow B5.out BW7.out)
      have E7 : Hid (w7.heap[g8]? = some (.cells auP.cells.toArray 48 (0, 0))) := Lib.hid h7
      have R7 : Hid (w7.rangeAt g8 0 auP.cells) := Lib.hid (range_of_block h7)
      have WR := Lib.hid (wrong_is A r1 r2 r3 w7 F7.out (HT.out.below B7.out))
      clear h7 gr7 B6 W6 E6 BW7 F5 B5 HT HE
      go_wp2_with (refine wpList_gload (t := 48) rfl _ rfl g8 0 rfl _ R7.out _ Tryd.underlying48 rfl (sizeEvA auP) ?_)
      refine WR.out.mono ?_
      rintro e w8 ⟨v8, he8, o8, hb8⟩
      have F8 := Lib.hid (F7.out.later hb8); have B8 := Lib.hid (thenBelow B7.out hb8)
      have E8 : Hid (w8.heap[g8]? = some (.cells auP.cells.toArray 48 (0, 0))) := Lib.hid ((hb8.block g8 (Array.getElem?_eq_some_iff.1 E7.out).1).trans E7.out)
      obtain ⟨-, q8, c8, hv8, -, ls8, -⟩ := own_liesI o8
      have hv9 : v8 = .slice q8 1 c8 := hv8
      clear hv8
      subst hv9
      obtain ⟨d8, of8, rfl, hd8, hc8⟩ := ls8.at (by simp)
      subst he8
      have C8 : Hid (w8.cell? ⟨d8, of8, none⟩ = some (.int .i64 3)) := Lib.hid (hc8 0 (by simp))
      clear hb8 o8 ls8 hc8 hd8 F7 B7 E7 R7 WR
      have R8 : Hid (w8.rangeAt g8 0 (dcs 0 1).toList) := Lib.hid (au_dot E8.out)
      have B8z := B8.out.size
      dsimp only
      go_wp2
      go_loopw [5, 41] (fun v i wr => (v = .slice none 0 0 ∧ i = .int .i64 0 ∧ wr = w8) ∨ (i = .int .i64 1 ∧ wr.ownsRow w8.heap.size 63 3 v 1 [.int .i64 3, .int .i64 0, .int .i64 1] ∧ Below w8.heap.size w8 wr)) (fun _ i _ => 1 - (RowKit.intOf i).toNat)
      case atStart => exact .inl ⟨rfl, rfl, rfl⟩
      case round =>
        rcases hrel with ⟨rfl, rfl, rfl⟩ | ⟨rfl, ow, hb⟩
        · have c0 := C8.out
          have O0 : Hid (wr.ownsRow wr.heap.size 63 3 (.slice none 0 0) 0 []) := Lib.hid ⟨rfl, .inl ⟨rfl, rfl⟩⟩
          go_wp2_with (first | refine wpList_gload (t := 39) rfl _ rfl g8 0 rfl _ R8.out _ Tryd.underlying39 rfl (sizeDtA 0 1) ?_ | (at_builtin; refine wpList_trs _ rfl _ _ rfl wr.heap.size 0 [] _ rfl O0.out [.int .i64 3, .int .i64 0, .int .i64 1] rfl (by intro u hu; simp at hu; rcases hu with rfl | rfl | rfl <;> rfl) rfl (by omega) (Nat.le_refl _) ?_))
          intro v9 w9 o9 b9
          have O9 := Lib.hid o9; have B9 := Lib.hid b9
          clear o9 b9 c0 O0
          go_wp2
          go_roundw
          case rel => exact .inr ⟨rfl, O9.out, B9.out⟩
          case measure => simp [intOf]
        · have OW := Lib.hid ow; have BR := Lib.hid hb
          have F9 := Lib.hid (F8.out.later hb); have B9 := Lib.hid (thenBelow B8.out hb)
          have E9 : Hid (wr.heap[g8]? = some (.cells auP.cells.toArray 48 (0, 0))) := Lib.hid ((hb.block g8 (Array.getElem?_eq_some_iff.1 E8.out).1).trans E8.out)
          have R9 : Hid (wr.rangeAt g8 0 auP.cells) := Lib.hid (range_of_block E9.out)
          have PS := Lib.hid (pass_is A r1 r2 r3 wr F9.out hne)
          clear ow hb F8 B8 E8 C8 R8
          go_wp2_with (refine wpList_gload (t := 48) rfl _ rfl g8 0 rfl _ R9.out _ Tryd.underlying48 rfl (sizeEvA auP) ?_)
          refine PS.out.mono ?_
          rintro e w9 ⟨⟨v9, rfl⟩, hbs, hgs⟩
          have OF : Hid (w9.ownsRow w.heap.size 63 3 u5 1 [.int .i64 3, .int .i64 0, .int .i64 1]) := Lib.hid (own_base (own_past OW.out F9.out hgs) B8z)
          have BF := Lib.hid (B9.out.trans (hbs _ z2 z3 B9.out.size))
          clear hbs hgs OW BR F9 B9 E9 R9 PS
          go_wp2
          go_roundw
          case rel => exact .inr ⟨rfl, OF.out, BF.out⟩
          case measure => simp [intOf]
    · have OW := Lib.hid ow; have BR := Lib.hid hb
      clear ow hb B5 F5
      go_wp2
      go_ret
      exact ⟨_, rfl, OW.out, BR.out⟩
end Go.Proofs.YtehocohpfgabiaaDoor
