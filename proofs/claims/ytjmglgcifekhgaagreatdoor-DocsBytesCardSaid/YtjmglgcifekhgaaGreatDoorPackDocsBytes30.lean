/- The statement DocsBytes, proved for every input that its row reads: part 30 of 54. -/
import Derived.Test.YtjmglgcifekhgaaGreatDoorPackDocsBytes17
import Derived.Test.YtjmglgcifekhgaaGreatDoorPackDocsBytes15
import Derived.Test.YtjmglgcifekhgaaGreatDoorPackDocsBytes29
/- An event's bytes. -/
namespace Go.Proofs.YtjmglgcifekhgaaGreatDoor
open Go Go.RowKit
set_option linter.unusedVariables false
set_option maxRecDepth 1000000

theorem wf_ok {n : Int} (h : -1000000000000000000 ≤ n ∧ n ≤ 1000000000000000000) : (Lit.int .i64 n).wf = true := by
  simp [Lit.wf, IntKind.min, IntKind.max, IntKind.bits, IntKind.signed]; omega
theorem cell_hold {w U : World} {a : Addr} {v : Value} (h : w.cell? a = some v) (hb : Below w.heap.size w U) : U.cell? a = some v := (hb.cell (p := a) (World.block_lt_of_cell? w _ h)).trans h
/-- a dot's bytes -/
def dotB (d : Dt) : List UInt8 := Cod.enc d.1.toNat ++ Cod.enc d.2.toNat
theorem dotB_len (d : Dt) : (dotB d).length ≤ 18 := by unfold dotB; have := enc_len d.1.toNat; have := enc_len d.2.toNat; simp only [List.length_append]; omega
set_option maxHeartbeats 4000000 in
theorem putDot_is (p : Option Addr) (c : Nat) (l : List UInt8) (r n : Int) (w : World) (h : Given w p c l) (hd : (-1000000000000000000 ≤ r ∧ r ≤ 1000000000000000000) ∧ -1000000000000000000 ≤ n ∧ n ≤ 1000000000000000000) (hlen : l.length ≤ 140737488354000) :
    Calls Tryz.prog 54 #[.slice p l.length c, .agg (dcs r n)] w (RetOwn w 5 (l ++ dotB (r, n))) := by
  have H := Lib.hid h; clear h
  have WR := Lib.hid (wf_ok hd.1); have WN := Lib.hid (wf_ok hd.2)
  have EL := Lib.hid (enc_len r.toNat)
  clear hd
  go_enter Tryz.func54, Tryz.ntmps54
  go_wp2_with (refine wpList_gbox rfl _ rfl (dcs r n) rfl ?_)
  intro g3 w1 l3 h3 hb1
  have B1 := Lib.hid hb1
  have c0 := cell_of_row _ g3 0 _ _ _ h3
  have c1 := cell_of_row _ g3 1 _ _ _ h3
  have C0 : Hid (w1.cell? ⟨g3, 0, none⟩ = some (.int .i64 r)) := Lib.hid c0
  have C1 : Hid (w1.cell? ⟨g3, 1, none⟩ = some (.int .i64 n)) := Lib.hid c1
  clear hb1 h3 c0 c1
  go_wp2_with fail
  rename_i K2 hK2
  have m0 : Below w1.heap.size w1 w1.drew := (Below.refl _ _).drew
  refine rg_calm (by kernel_rfl) rfl (S := fun U => Below w1.heap.size w1 U) ?_
  refine rgd_pure 0 (some 5) rfl rfl (.slice p l.length c) (by kernel_rfl) (by kernel_rfl) (by kernel_rfl) (fun _ _ _ _ h => h) (by kernel_rfl) (fun w => by kernel_rfl) m0 ?_
  refine rgd_pure 1 (some 6) rfl rfl (.pointer (some ⟨g3, 0, none⟩)) (by kernel_rfl) (by kernel_rfl) (by kernel_rfl) (fun _ _ _ _ h => h) (by kernel_rfl) (fun w => by kernel_rfl) m0 ?_
  refine rgd_pureS 2 (some 7) rfl rfl (.int .i64 r) (by kernel_rfl) (by kernel_rfl) (by kernel_rfl) (fun _ _ _ _ h => h) (by kernel_rfl) (fun U hU => exec_load1 _ _ rfl Tryz.underlying3 rfl ⟨g3, 0, none⟩ _ (by kernel_rfl) (cell_hold C0.out hU)) m0 ?_
  refine rgd_pure 4 (some 9) rfl rfl (.pointer (some ⟨g3, 1, none⟩)) (by kernel_rfl) (by kernel_rfl) (by kernel_rfl) (fun _ _ _ _ h => h) (by kernel_rfl) (fun w => by kernel_rfl) m0 ?_
  refine rgd_pureS 5 (some 10) rfl rfl (.int .i64 n) (by kernel_rfl) (by kernel_rfl) (by kernel_rfl) (fun _ _ _ _ h => h) (by kernel_rfl) (fun U hU => exec_load1 _ _ rfl Tryz.underlying3 rfl ⟨g3, 1, none⟩ _ (by kernel_rfl) (cell_hold C1.out hU)) m0 ?_
  refine rgd_call 3 (some 8) (by kernel_rfl) rfl rfl (by kernel_rfl) 20 (#[.slice p l.length c, .int .i64 r]) (by kernel_rfl) (num_any p c l r _ (H.out.below (thenBelow B1.out m0)).lies (fun e => (H.out.none e).1) H.out.le WR.out (by omega)) ?_
  rintro e U1 hr1
  obtain ⟨p1, c1, rfl, k1, b1⟩ := hr1.given
  have m1 := thenBelow m0 b1
  refine ⟨_, rfl, m1, ?_⟩
  refine rgd_call 6 (some 11) (by kernel_rfl) rfl rfl (by kernel_rfl) 20 (#[.slice p1 (l ++ Cod.enc r.toNat).length c1, .int .i64 n]) (by kernel_rfl) (num_any p1 c1 (l ++ Cod.enc r.toNat) n _ k1.lies (fun e => (k1.none e).1) k1.le WN.out (by have := EL.out; rw [List.length_append]; omega)) ?_
  rintro e U2 hr2
  have HF := Lib.hid ((hr2.after (thenBelow B1.out m1)))
  obtain ⟨p2, c2, rfl, k2, b2⟩ := hr2.given
  have m2 := thenBelow m1 b2
  refine ⟨_, rfl, m2, ?_⟩
  refine rgd_pure 7 (some 4) rfl rfl (.slice p2 (l ++ Cod.enc r.toNat ++ Cod.enc n.toNat).length c2) (by kernel_rfl) (by kernel_rfl) (by kernel_rfl) (fun _ _ _ _ h => h) (by kernel_rfl) (fun w => by kernel_rfl) m2 ?_
  have HE : Hid (l ++ Cod.enc r.toNat ++ Cod.enc n.toNat = l ++ dotB (r, n)) := Lib.hid (by unfold dotB; simp only [List.append_assoc])
  have KE : K2 { tmps := #[.slice p l.length c, .agg (dcs r n), undef, .pointer (some ⟨g3, 0, none⟩), .slice p2 (l ++ Cod.enc r.toNat ++ Cod.enc n.toNat).length c2, .slice p l.length c, .pointer (some ⟨g3, 0, none⟩), .int .i64 r, .slice p1 (l ++ Cod.enc r.toNat).length c1, .pointer (some ⟨g3, 1, none⟩), .int .i64 n, .slice p2 (l ++ Cod.enc r.toNat ++ Cod.enc n.toNat).length c2], defers := [] } U2 := by
    refine hK2 _ _ ?_
    clear hK2 m0 m1 m2 k1 k2 hr1 b1 b2
    rw [HE.out] at HF ⊢
    go_wp2
    go_ret
    exact HF.out
  exact wpAnyH_done (by kernel_rfl) (Eq.mp (by kernel_rfl) KE) _

/-- an event's bytes -/
def evB (e : Ev) : List UInt8 := dotB (e.rep, e.n) ++ (Cod.enc e.time.toNat ++ (Cod.enc e.kind.toNat ++ (Cod.enc e.doc.size ++ (e.doc.data.toList ++ (Cod.enc e.field.toNat ++ (Cod.enc e.text.size ++ (e.text.data.toList ++ (Cod.enc e.gone.length ++ e.gone.flatMap dotB))))))))
set_option maxRecDepth 1000000

/-- what is so of an event that may be -/
structure Fine (e : Ev) : Prop where
  dot : vldB e.rep e.n = true
  time : 1 ≤ e.time ∧ e.time ≤ 1099511627776
  doc : e.doc.size ≤ 12
  many : e.gone.length ≤ 120
  gone : ∀ d ∈ e.gone, vl d = true
  kind : e.kind = 1 ∨ e.kind = 2
  field : 0 ≤ e.field ∧ e.field ≤ 4
  text : e.text.size ≤ 160
theorem fine_of {e : Ev} (h : chk e = 0) : Fine e := by
  have hh : headB e = true := by
    cases q : headB e with
    | true => rfl
    | false => rw [chk_no q] at h; cases h
  obtain ⟨h1, h2, h3, h4⟩ := (head_iff e).1 hh
  obtain ⟨g1, g2, g3⟩ := goB_iff.1 h4
  have hd : e.doc.size ≤ 12 := by
    unfold nameB at h3
    exact (of_decide_eq_true h3).2.1
  have hg : ∀ d ∈ e.gone, vl d = true := fun d hd => by
    obtain ⟨i, hi, rfl⟩ := List.getElem_of_mem hd
    exact (g2 i hi).1
  by_cases hk : e.kind = 1
  · rw [chk_put hh hk] at h
    unfold txtE at h
    split at h
    · cases h
    · rename_i c1
      split at h
      · cases h
      · exact ⟨h1, h2, hd, g1, hg, .inl hk, by omega, by omega⟩
  · by_cases h5 : e.kind = 2 ∧ e.field = 0 ∧ e.text.size = 0
    · exact ⟨h1, h2, hd, g1, hg, .inr h5.1, by omega, by omega⟩
    · rw [chk_else hk h5] at h; cases h
/-- what is written of an event -/
noncomputable def wrB (e : Ev) : List UInt8 := if chk e = 0 then evB e else []
theorem flat_take (l : List Dt) (k : Nat) (h : k < l.length) : (l.take (k + 1)).flatMap dotB = (l.take k).flatMap dotB ++ dotB l[k] := by
  rw [List.take_succ_eq_append_getElem h, List.flatMap_append]; simp
theorem flat_dots_len (l : List Dt) : (l.flatMap dotB).length ≤ 18 * l.length := by
  induction l with
  | nil => simp
  | cons d l ih => rw [List.flatMap_cons, List.length_append, List.length_cons]; have := dotB_len d; omega
end Go.Proofs.YtjmglgcifekhgaaGreatDoor
