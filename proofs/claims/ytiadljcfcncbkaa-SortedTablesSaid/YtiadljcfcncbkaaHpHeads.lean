/- sorted's Merge: the order of its heads. -/
import Derived.Test.YtiadljcfcncbkaaHpSteady
import Derived.Test.YtiadljcfcncbkaaHpPop
namespace Go.Proofs.Ytiadljcfcncbkaa
open Go Go.RowKit Hp
set_option linter.unusedVariables false

/-- where the head of a list stands -/
structure Head (b3 b5 : Nat) (V : World) (i hd : Int) (I k bl ol n cl ba oa m ca q o ni ci : Nat) : Prop where
  nat : i = (I : Int)
  lists : V.cell? ⟨b3, 0, none⟩ = some (.slice (some ⟨bl, ol, none⟩) n cl)
  lt : I < n
  list : V.cell? ⟨bl, ol + I, none⟩ = some (.slice (some ⟨q, o, none⟩) ni ci)
  ats : V.cell? ⟨b5, 0, none⟩ = some (.slice (some ⟨ba, oa, none⟩) m ca)
  lt2 : I < m
  at_ : V.cell? ⟨ba, oa + I, none⟩ = some (.int .i64 (k : Int))
  lt3 : k < ni
  head : V.cell? ⟨q, o + k, none⟩ = some (.int .i64 hd)
/-- what an order of heads looks at -/
def Heads (b3 b5 : Nat) (hd : Int → Int) (dom : Int → Prop) (V : World) : Prop := ∀ i, dom i → ∃ I k bl ol n cl ba oa m ca q o ni ci, Head b3 b5 V i (hd i) I k bl ol n cl ba oa m ca q o ni ci
theorem Heads.below {b3 b5 : Nat} {hd : Int → Int} {dom : Int → Prop} {V V' : World} (h : Heads b3 b5 hd dom V) (hb : Below V.heap.size V V') : Heads b3 b5 hd dom V' := fun i hi => by
  obtain ⟨I, k, bl, ol, n, cl, ba, oa, m, ca, q, o, ni, ci, H⟩ := h i hi
  have up : ∀ (a : Addr) (v : Value), V.cell? a = some v → V'.cell? a = some v := fun a v h => (hb.cell (p := a) (World.block_lt_of_cell? V _ h)).trans h
  exact ⟨I, k, bl, ol, n, cl, ba, oa, m, ca, q, o, ni, ci, H.nat, up _ _ H.lists, H.lt, up _ _ H.list, up _ _ H.ats, H.lt2, up _ _ H.at_, H.lt3, up _ _ H.head⟩
set_option maxHeartbeats 4000000 in
set_option maxRecDepth 100000 in
theorem heads_tell (b3 b5 b2 : Nat) (hd : Int → Int) (dom : Int → Prop) (L : FuncId) (caps : Array Value) (lt : Int → Int → Bool) (domL : Int → Prop) (S : World → Prop) (T : TellI L caps lt domL S) (hS : ∀ w w', S w → Below w.heap.size w w' → S w') (hdl : ∀ i, dom i → domL (hd i)) :
    TellI 60 #[.pointer (some ⟨b3, 0, none⟩), .pointer (some ⟨b5, 0, none⟩), .pointer (some ⟨b2, 0, none⟩)] (fun i j => Hp.steady lt (hd i, i) (hd j, j)) dom (fun w => S w ∧ Heads b3 b5 hd dom w ∧ InBox b2 L caps w) := by
  refine ⟨?_, fun args w => by kernel_rfl⟩
  rintro i j w hi hj ⟨hs, hh, hb⟩
  have TT := Lib.hid T; have HS := Lib.hid hS; have SW := Lib.hid hs; have HB := Lib.hid hb; have DX := Lib.hid (hdl i hi); have DY := Lib.hid (hdl j hj)
  obtain ⟨I, k, bl, ol, n, cl, ba, oa, m, ca, q, o, ni, ci, H1⟩ := hh i hi
  obtain ⟨I', k', bl', ol', n', cl', ba', oa', m', ca', q', o', ni', ci', H2⟩ := hh j hj
  have hi0 := H1.nat; have hj0 := H2.nat
  obtain ⟨r, hr⟩ : ∃ r, r = Hp.steady lt (hd i, i) (hd j, j) := ⟨_, rfl⟩
  rw [← hr]
  have HR := Lib.hid hr
  generalize hd i = x at *
  generalize hd j = y at *
  have h1 := Lib.hid H1; have h2 := Lib.hid H2
  clear T hS hs hb hdl hr hh hi hj H1 H2
  subst hi0
  subst hj0
  show Calls Try.prog 60 #[.int .i64 (I : Int), .int .i64 (I' : Int), .pointer (some ⟨b3, 0, none⟩), .pointer (some ⟨b5, 0, none⟩), .pointer (some ⟨b2, 0, none⟩)] w _
  have he := TT.out.enter
  go_enter Try.func60, Try.ntmps60
  go_wp2_with fail
  rename_i K hK
  have KF : K { tmps := #[.int .i64 (I : Int), .int .i64 (I' : Int), .pointer (some ⟨b3, 0, none⟩), .pointer (some ⟨b5, 0, none⟩), .pointer (some ⟨b2, 0, none⟩), undef, undef, .bool false, .int .i64 x, .int .i64 y, .slice (some ⟨bl, ol, none⟩) n cl, .int .i64 (I : Int), .pointer (some ⟨bl, ol + I, none⟩), .slice (some ⟨q, o, none⟩) ni ci, .slice (some ⟨ba, oa, none⟩) m ca, .int .i64 (I : Int), .pointer (some ⟨ba, oa + I, none⟩), .int .i64 (k : Int), .pointer (some ⟨q, o + k, none⟩), .int .i64 x, .slice (some ⟨bl', ol', none⟩) n' cl', .int .i64 (I' : Int), .pointer (some ⟨bl', ol' + I', none⟩), .slice (some ⟨q', o', none⟩) ni' ci', .slice (some ⟨ba', oa', none⟩) m' ca', .int .i64 (I' : Int), .pointer (some ⟨ba', oa' + I', none⟩), .int .i64 (k' : Int), .pointer (some ⟨q', o' + k', none⟩), .int .i64 y, undef, undef, undef, undef, undef, undef, undef, undef, undef, undef, undef, undef, undef, undef, undef, undef], defers := [] } w.drew := by
    refine hK _ _ ?_
    clear hK
    have c0 : w.drew.cell? ⟨b2, 0, none⟩ = some (.func (.func L) #[] caps) := (cell_of_row w.drew b2 0 _ _ _ HB.out).trans rfl
    have S1 := Lib.hid (HS.out w w.drew SW.out ⟨rfl, rfl, rfl, Nat.le_refl _, fun _ _ => rfl⟩)
    have HB1 : Hid (InBox b2 L caps w.drew) := HB
    have BW : Hid (Below w.heap.size w w.drew) := ⟨rfl, rfl, rfl, Nat.le_refl _, fun _ _ => rfl⟩
    clear h1 h2 SW HB
    generalize w.drew = w1 at c0 S1 HB1 BW ⊢
    go_wp2_with fail
    refine (TT.out.tell x y w1 DX.out DY.out S1.out).mono ?_
    rintro e w2 ⟨rfl, hb2⟩
    have S2 := Lib.hid (HS.out _ _ S1.out hb2)
    have B2 := Lib.hid hb2
    clear c0 hb2
    have c0 : w2.cell? ⟨b2, 0, none⟩ = some (.func (.func L) #[] caps) := (cell_of_row w2 b2 0 _ _ _ ((B2.out.block b2 (Array.getElem?_eq_some_iff.1 HB1.out).1).trans HB1.out)).trans rfl
    have HR2 := HR.out
    unfold Hp.steady at HR2
    simp only at HR2
    generalize lt x y = p at HR2 ⊢
    have HR3 := Lib.hid HR2
    clear HR HR2
    cases p with
    | true =>
      go_wp2_with fail
      go_ret
      exact ⟨ret_bool (by rw [HR3.out]; rfl), thenBelow BW.out B2.out⟩
    | false =>
      by_cases htu : (I : Int) < (I' : Int)
      · have HR4 := HR3.out
        rw [decide_eq_true htu, Bool.true_and, Bool.false_or] at HR4
        have HR5 := Lib.hid HR4
        clear HR3 HR4
        go_wp2_with fail
        refine (TT.out.tell y x w2 DY.out DX.out S2.out).mono ?_
        rintro e w3 ⟨rfl, hb3⟩
        have B3 := Lib.hid hb3
        clear hb3
        go_wp2_with fail
        go_ret
        exact ⟨ret_bool (by rw [HR5.out]), thenBelow (thenBelow BW.out B2.out) B3.out⟩
      · have HR4 := HR3.out
        rw [decide_eq_false htu, Bool.false_and, Bool.false_or] at HR4
        have HR5 := Lib.hid HR4
        clear HR3 HR4
        go_wp2_with fail
        go_ret
        exact ⟨ret_bool (by rw [HR5.out]), thenBelow BW.out B2.out⟩
  refine rg_calm (by kernel_rfl) rfl (S := fun V => V = w.drew) ?_
  refine rgd_load 0 (some 10) rfl rfl (by kernel_rfl) (by kernel_rfl) (by kernel_rfl) (fun _ _ _ _ h => h) (by kernel_rfl) _ _ rfl Try.underlying66 rfl ⟨b3, 0, none⟩ (.slice (some ⟨bl, ol, none⟩) n cl) (by kernel_rfl) (fun V h => h ▸ h1.out.lists) rfl ?_
  refine rgd_pure 1 (some 11) rfl rfl (.int .i64 (I : Int)) (by kernel_rfl) (by kernel_rfl) (by kernel_rfl) (fun _ _ _ _ h => h) (by kernel_rfl) (exec_is _ (.inl rfl) _ (by kernel_rfl)) rfl ?_
  refine rgd_index 2 (some 12) rfl rfl (by kernel_rfl) (by kernel_rfl) (by kernel_rfl) (fun _ _ _ _ h => h) (by kernel_rfl) 66 _ _ rfl (by kernel_rfl) (fun w => by kernel_rfl) bl ol n cl I (by kernel_rfl) (by kernel_rfl) h1.out.lt rfl ?_
  refine rgd_load 3 (some 13) rfl rfl (by kernel_rfl) (by kernel_rfl) (by kernel_rfl) (fun _ _ _ _ h => h) (by kernel_rfl) _ _ rfl Try.underlying24 rfl ⟨bl, ol + I, none⟩ (.slice (some ⟨q, o, none⟩) ni ci) (by kernel_rfl) (fun V h => h ▸ h1.out.list) rfl ?_
  refine rgd_load 4 (some 14) rfl rfl (by kernel_rfl) (by kernel_rfl) (by kernel_rfl) (fun _ _ _ _ h => h) (by kernel_rfl) _ _ rfl Try.underlying24 rfl ⟨b5, 0, none⟩ (.slice (some ⟨ba, oa, none⟩) m ca) (by kernel_rfl) (fun V h => h ▸ h1.out.ats) rfl ?_
  refine rgd_pure 5 (some 15) rfl rfl (.int .i64 (I : Int)) (by kernel_rfl) (by kernel_rfl) (by kernel_rfl) (fun _ _ _ _ h => h) (by kernel_rfl) (exec_is _ (.inl rfl) _ (by kernel_rfl)) rfl ?_
  refine rgd_index 6 (some 16) rfl rfl (by kernel_rfl) (by kernel_rfl) (by kernel_rfl) (fun _ _ _ _ h => h) (by kernel_rfl) 24 _ _ rfl (by kernel_rfl) (fun w => by kernel_rfl) ba oa m ca I (by kernel_rfl) (by kernel_rfl) h1.out.lt2 rfl ?_
  refine rgd_load 7 (some 17) rfl rfl (by kernel_rfl) (by kernel_rfl) (by kernel_rfl) (fun _ _ _ _ h => h) (by kernel_rfl) _ _ rfl Try.underlying3 rfl ⟨ba, oa + I, none⟩ (.int .i64 (k : Int)) (by kernel_rfl) (fun V h => h ▸ h1.out.at_) rfl ?_
  refine rgd_index 8 (some 18) rfl rfl (by kernel_rfl) (by kernel_rfl) (by kernel_rfl) (fun _ _ _ _ h => h) (by kernel_rfl) 24 _ _ rfl (by kernel_rfl) (fun w => by kernel_rfl) q o ni ci k (by kernel_rfl) (by kernel_rfl) h1.out.lt3 rfl ?_
  refine rgd_load 9 (some 19) rfl rfl (by kernel_rfl) (by kernel_rfl) (by kernel_rfl) (fun _ _ _ _ h => h) (by kernel_rfl) _ _ rfl Try.underlying3 rfl ⟨q, o + k, none⟩ (.int .i64 x) (by kernel_rfl) (fun V h => h ▸ h1.out.head) rfl ?_
  refine rgd_load 10 (some 20) rfl rfl (by kernel_rfl) (by kernel_rfl) (by kernel_rfl) (fun _ _ _ _ h => h) (by kernel_rfl) _ _ rfl Try.underlying66 rfl ⟨b3, 0, none⟩ (.slice (some ⟨bl', ol', none⟩) n' cl') (by kernel_rfl) (fun V h => h ▸ h2.out.lists) rfl ?_
  refine rgd_pure 11 (some 21) rfl rfl (.int .i64 (I' : Int)) (by kernel_rfl) (by kernel_rfl) (by kernel_rfl) (fun _ _ _ _ h => h) (by kernel_rfl) (exec_is _ (.inl rfl) _ (by kernel_rfl)) rfl ?_
  refine rgd_index 12 (some 22) rfl rfl (by kernel_rfl) (by kernel_rfl) (by kernel_rfl) (fun _ _ _ _ h => h) (by kernel_rfl) 66 _ _ rfl (by kernel_rfl) (fun w => by kernel_rfl) bl' ol' n' cl' I' (by kernel_rfl) (by kernel_rfl) h2.out.lt rfl ?_
  refine rgd_load 13 (some 23) rfl rfl (by kernel_rfl) (by kernel_rfl) (by kernel_rfl) (fun _ _ _ _ h => h) (by kernel_rfl) _ _ rfl Try.underlying24 rfl ⟨bl', ol' + I', none⟩ (.slice (some ⟨q', o', none⟩) ni' ci') (by kernel_rfl) (fun V h => h ▸ h2.out.list) rfl ?_
  refine rgd_load 14 (some 24) rfl rfl (by kernel_rfl) (by kernel_rfl) (by kernel_rfl) (fun _ _ _ _ h => h) (by kernel_rfl) _ _ rfl Try.underlying24 rfl ⟨b5, 0, none⟩ (.slice (some ⟨ba', oa', none⟩) m' ca') (by kernel_rfl) (fun V h => h ▸ h2.out.ats) rfl ?_
  refine rgd_pure 15 (some 25) rfl rfl (.int .i64 (I' : Int)) (by kernel_rfl) (by kernel_rfl) (by kernel_rfl) (fun _ _ _ _ h => h) (by kernel_rfl) (exec_is _ (.inl rfl) _ (by kernel_rfl)) rfl ?_
  refine rgd_index 16 (some 26) rfl rfl (by kernel_rfl) (by kernel_rfl) (by kernel_rfl) (fun _ _ _ _ h => h) (by kernel_rfl) 24 _ _ rfl (by kernel_rfl) (fun w => by kernel_rfl) ba' oa' m' ca' I' (by kernel_rfl) (by kernel_rfl) h2.out.lt2 rfl ?_
  refine rgd_load 17 (some 27) rfl rfl (by kernel_rfl) (by kernel_rfl) (by kernel_rfl) (fun _ _ _ _ h => h) (by kernel_rfl) _ _ rfl Try.underlying3 rfl ⟨ba', oa' + I', none⟩ (.int .i64 (k' : Int)) (by kernel_rfl) (fun V h => h ▸ h2.out.at_) rfl ?_
  refine rgd_index 18 (some 28) rfl rfl (by kernel_rfl) (by kernel_rfl) (by kernel_rfl) (fun _ _ _ _ h => h) (by kernel_rfl) 24 _ _ rfl (by kernel_rfl) (fun w => by kernel_rfl) q' o' ni' ci' k' (by kernel_rfl) (by kernel_rfl) h2.out.lt3 rfl ?_
  refine rgd_load 19 (some 29) rfl rfl (by kernel_rfl) (by kernel_rfl) (by kernel_rfl) (fun _ _ _ _ h => h) (by kernel_rfl) _ _ rfl Try.underlying3 rfl ⟨q', o' + k', none⟩ (.int .i64 y) (by kernel_rfl) (fun V h => h ▸ h2.out.head) rfl ?_
  refine rgd_pure 20 (some 8) rfl rfl (.int .i64 x) (by kernel_rfl) (by kernel_rfl) (by kernel_rfl) (fun _ _ _ _ h => h) (by kernel_rfl) (exec_is _ (.inr rfl) _ (by kernel_rfl)) rfl ?_
  refine rgd_pure 21 (some 9) rfl rfl (.int .i64 y) (by kernel_rfl) (by kernel_rfl) (by kernel_rfl) (fun _ _ _ _ h => h) (by kernel_rfl) (exec_is _ (.inr rfl) _ (by kernel_rfl)) rfl ?_
  exact wpAnyH_done (by kernel_rfl) (Eq.mp (by kernel_rfl) KF) _
end Go.Proofs.Ytiadljcfcncbkaa
