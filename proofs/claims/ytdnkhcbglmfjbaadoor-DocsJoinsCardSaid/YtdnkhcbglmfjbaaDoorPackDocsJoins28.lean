/- The statement DocsJoins, proved for every input that its row reads: part 28 of 54. -/
import Derived.Test.YtdnkhcbglmfjbaaDoorPackDocsJoins13
import Derived.Test.YtdnkhcbglmfjbaaDoorPackDocsJoins20
/- docs: without; which dots an event takes away. -/
namespace Go.Proofs.YtdnkhcbglmfjbaaDoor
open Go Go.RowKit
set_option linter.unusedVariables false
set_option maxRecDepth 1000000

/-- what is left, in new memory -/
def LeftW (w : World) (K' : List Wr) (e : Ending) (w' : World) : Prop := ∃ v, e = .returned v ∧ w'.ownsRow w.heap.size 34 6 v K'.length (wcl K') ∧ Below w.heap.size w w'
set_option maxHeartbeats 4000000 in
theorem withoutW_is (F : FuncId) (caps : Array Value) (goes : Wr → Bool) (S : World → Prop) (p : Option Addr) (c : Nat) (L : List Wr) (w : World) (TW : TellW F caps goes w.heap.size S) (hS : S w) (h : WrsAt w p L) (ho : ∀ a, p = some a → ∃ b o, a = ⟨b, o, none⟩) (hn : L.length ≤ 10000) :
    Calls Tryd.prog 32 #[.slice p L.length c, .func (.func F) #[] caps] w (LeftW w (L.filter (fun x => !goes x))) := by
  have CL := Lib.hid (cloneW_is p c L w h ho hn)
  have HT := Lib.hid TW; have HS := Lib.hid hS
  clear TW hS h ho
  go_enter Tryd.func32, Tryd.ntmps32
  go_wp2_with fail
  refine CL.out.mono ?_
  rintro e w1 ⟨v, rfl, ho, hb⟩
  obtain ⟨p1, c1, rfl, _, _, _⟩ := own_wat ho
  have DL := Lib.hid (delW_is F caps goes w.heap.size S HT.out p1 c1 L w1 (HT.out.keep _ _ HS.out hb) ho hn hb.size)
  have B1 := Lib.hid hb
  clear ho hb CL
  go_wp2_with fail
  refine DL.out.mono ?_
  rintro e w2 ⟨v2, K', rfl, ho2, hK, hb2⟩
  subst hK
  have O2 := Lib.hid ho2; have B2 := Lib.hid (B1.out.trans hb2)
  clear ho2 hb2 DL
  go_wp2
  go_ret
  exact ⟨_, rfl, O2.out, B2.out⟩
set_option maxHeartbeats 4000000 in
theorem indexD_is (p : Option Addr) (c : Nat) (l : List Dt) (y1 y2 : Int) (w : World) (h : DRow w p l) (hn : l.length ≤ 1000000) :
    Calls Tryd.prog 54 #[.slice p l.length c, .agg (dcs y1 y2)] w fun e w' => ∃ i : Int, e = .returned (.int .i64 i) ∧ ((y1, y2) ∈ l ↔ 0 ≤ i) ∧ Below w.heap.size w w' := by
  have H := Lib.hid h; clear h
  go_enter Tryd.func54, Tryd.ntmps54
  go_wp2_with (refine wpList_gbox rfl _ rfl (dcs y1 y2) rfl ?_)
  intro g3 w1 l3 h3 hb1
  have B1 := Lib.hid hb1
  have Y1 := Lib.hid (range_of_block h3)
  clear hb1 h3
  go_wp2
  go_loopw [8] (fun i wr => ∃ k : Nat, k ≤ l.length ∧ i = .int .i64 k ∧ (∀ i (h : i < l.length), i < k → l[i] ≠ (y1, y2)) ∧ Below w1.heap.size w1 wr) (fun i _ => l.length - (intOf i).toNat)
  case atStart => exact ⟨0, Nat.zero_le _, rfl, fun i _ h => by omega, Below.refl _ _⟩
  case round =>
    obtain ⟨k, hk, rfl, hall, hb⟩ := hrel
    have BB := Lib.hid hb; have HA := Lib.hid hall
    clear hall hb
    by_cases hkl : k < l.length
    · have hkl' : (k : Int) < l.length := by omega
      have hr := thenBelow B1.out BB.out
      obtain ⟨b1, o1, rfl, q1⟩ := drow_at (H.out.below (to_drew hr)) hkl
      have y1' := range_below Y1.out (to_drew BB.out)
      have m0 := And.intro q1 y1'
      have HR := Lib.hid (to_drew hr)
      have BD := Lib.hid (to_drew BB.out)
      clear hr q1 y1'
      obtain ⟨⟨x1, x2⟩, hx⟩ : ∃ x, l[k] = x := ⟨_, rfl⟩
      have HX := Lib.hid hx
      rw [hx] at m0
      have M0 := Lib.hid m0
      clear hx m0
      obtain ⟨q, hq⟩ : ∃ q, eqDt (y1, y2) (x1, x2) = q := ⟨_, rfl⟩
      have EQ := Lib.hid hq
      clear hq
      have SZ : ∀ z1 z2 : Int, (Tryd.prog.info? 32).map (·.size) = some [Value.int .i64 z1, .int .i64 z2].length := fun z1 z2 => by kernel_rfl
      go_wp2_with fail
      rename_i K2 hK2
      have KE : K2 { tmps := #[.slice (some ⟨b1, o1, none⟩) l.length c, .agg (dcs y1 y2), undef, .pointer (some ⟨g3, 0, none⟩), u4, .int .i64 (k : Int), .slice (some ⟨b1, o1, none⟩) l.length c, .int .i64 (l.length : Int), .int .i64 (k : Int), .bool true, .int .i64 (k : Int), .agg #[.int .i64 y1, .int .i64 y2], .slice (some ⟨b1, o1, none⟩) l.length c, .int .i64 (k : Int), .pointer (some ⟨b1, o1 + k * 2, none⟩), .agg #[.int .i64 x1, .int .i64 x2], .bool q, u17, u18], defers := [] } wr.drew := by
        refine hK2 _ _ ?_
        clear hK2 M0
        cases q with
        | true =>
          have YES : Hid ((y1, y2) ∈ l ↔ (0 : Int) ≤ k) := Lib.hid ⟨fun _ => by omega, fun _ => by
            rw [(eqDt_iff _ _).1 EQ.out, ← HX.out]; exact List.getElem_mem hkl⟩
          go_wp2
          go_ret
          exact ⟨(k : Int), rfl, YES.out, HR.out⟩
        | false =>
          have NA : Hid (∀ i (h : i < l.length), i < k + 1 → l[i] ≠ (y1, y2)) := Lib.hid fun i h hi => by
            rcases Nat.lt_or_ge i k with h3 | h3
            · exact HA.out i h h3
            · obtain rfl : i = k := by omega
              intro e
              rw [HX.out] at e
              have h4 := EQ.out
              rw [(eqDt_iff _ _).2 e.symm] at h4
              cases h4
          go_wp2
          go_roundw
          case rel => exact ⟨k + 1, by omega, by go_num, NA.out, BD.out⟩
          case measure => simp [intOf]; omega
      refine rg_calm (by kernel_rfl) rfl (S := fun U => U.rangeAt b1 (o1 + k * 2) [.int .i64 x1, .int .i64 x2] ∧ U.rangeAt g3 0 [.int .i64 y1, .int .i64 y2]) ?_
      refine rgd_pureS 0 (some 11) rfl rfl (.agg #[.int .i64 y1, .int .i64 y2]) (by kernel_rfl) (by kernel_rfl) (by kernel_rfl) (fun _ _ _ _ h => h) (by kernel_rfl) (fun U hU => exec_gload 32 _ rfl g3 (0) (by kernel_rfl) _ hU.2 Tryd.underlying32 rfl (SZ y1 y2)) M0.out ?_
      refine rgd_pure 1 (some 12) rfl rfl (.slice (some ⟨b1, o1, none⟩) l.length c) (by kernel_rfl) (by kernel_rfl) (by kernel_rfl) (fun _ _ _ _ h => h) (by kernel_rfl) (fun w => by kernel_rfl) M0.out ?_
      refine rgd_pure 2 (some 13) rfl rfl (.int .i64 (k : Int)) (by kernel_rfl) (by kernel_rfl) (by kernel_rfl) (fun _ _ _ _ h => h) (by kernel_rfl) (fun w => by kernel_rfl) M0.out ?_
      refine rgd_pure 3 (some 14) rfl rfl (.pointer (some ⟨b1, o1 + k * 2, none⟩)) (by kernel_rfl) (by kernel_rfl) (by kernel_rfl) (fun _ _ _ _ h => h) (by kernel_rfl) (exec_idxD _ _ rfl b1 o1 l.length c k (by kernel_rfl) (by kernel_rfl) hkl) M0.out ?_
      refine rgd_pureS 4 (some 15) rfl rfl (.agg #[.int .i64 x1, .int .i64 x2]) (by kernel_rfl) (by kernel_rfl) (by kernel_rfl) (fun _ _ _ _ h => h) (by kernel_rfl) (fun U hU => exec_gload 32 _ rfl b1 (o1 + k * 2) (by kernel_rfl) _ hU.1 Tryd.underlying32 rfl (SZ x1 x2)) M0.out ?_
      refine rgd_pure 5 (some 16) rfl rfl (.bool q) (by kernel_rfl) (by kernel_rfl) (by kernel_rfl) (fun _ _ _ _ h => h) (by kernel_rfl) (exec_eqlE _ _ _ rfl (y1, y2) (x1, x2) q EQ.out (by kernel_rfl) (by kernel_rfl)) M0.out ?_
      exact wpAnyH_done (by kernel_rfl) (Eq.mp (by kernel_rfl) KE) _
    · obtain rfl : k = l.length := by omega
      have hkl' : ¬ ((l.length : Nat) : Int) < l.length := by omega
      have NO : Hid ((y1, y2) ∈ l ↔ (0 : Int) ≤ -1) := Lib.hid ⟨fun h => by
        obtain ⟨i, hi, e⟩ := List.getElem_of_mem h
        exact absurd e (HA.out i hi hi), fun h => by omega⟩
      go_wp2
      go_ret
      exact ⟨-1, rfl, NO.out, thenBelow B1.out BB.out⟩
theorem contains_is (p : Option Addr) (c : Nat) (l : List Dt) (y1 y2 : Int) (w : World) (h : DRow w p l) (hn : l.length ≤ 1000000) :
    Calls Tryd.prog 34 #[.slice p l.length c, .agg #[.int .i64 y1, .int .i64 y2]] w (RetBool w (decide ((y1, y2) ∈ l))) := by
  have H := Lib.hid h; clear h
  obtain ⟨b, hb⟩ : ∃ b, decide ((y1, y2) ∈ l) = b := ⟨_, rfl⟩
  rw [hb]
  have HB := Lib.hid hb
  clear hb
  go_enter Tryd.func34, Tryd.ntmps34
  have b1 := below_alloc w (.cells #[.int .i64 y1, .int .i64 y2] 32)
  have IX := Lib.hid (indexD_is p c l y1 y2 _ (H.out.below b1) hn)
  have B1 := Lib.hid b1
  clear b1
  go_wp2_with fail
  refine IX.out.mono ?_
  rintro e w2 ⟨i, rfl, hi, hb2⟩
  have B2 := Lib.hid (thenBelow B1.out hb2)
  clear hb2 IX
  by_cases h0 : 0 ≤ i
  · have ht : b = true := by rw [← HB.out]; exact decide_eq_true (hi.2 h0)
    subst ht
    clear hi
    go_wp2
    go_ret
    exact ⟨rfl, B2.out⟩
  · have hf : b = false := by rw [← HB.out]; exact decide_eq_false (fun h => h0 (hi.1 h))
    subst hf
    clear hi
    go_wp2
    go_ret
    exact ⟨ret_bool (decide_eq_false (by omega)), B2.out⟩
/-- an event in a variable of its own, its dots there, below B -/
def EvIn (G : Nat) (x : EvP) (w : World) : Prop := w.rangeAt G 0 x.cells ∧ x.Ok w
def goneW (x : EvP) (y : Wr) : Bool := decide (y.dot ∈ x.e.gone)
set_option maxHeartbeats 4000000 in
theorem apply_tell (G : Nat) (x : EvP) (y : Wr) (w : World) (h : EvIn G x w) (hn : x.e.gone.length ≤ 1000) : Calls Tryd.prog 33 #[.agg y.cells.toArray, .pointer (some ⟨G, 0, none⟩)] w (RetBool w (goneW x y)) := by
  obtain ⟨r, n, t, d, fl, tx⟩ := y
  show Calls Tryd.prog 33 #[.agg #[.int .i64 r, .int .i64 n, .int .i64 t, .string d, .int .i64 fl, .string tx], .pointer (some ⟨G, 0, none⟩)] w _
  have hb : Below w.heap.size w (w.alloc (.cells #[.int .i64 r, .int .i64 n, .int .i64 t, .string d, .int .i64 fl, .string tx] 34)) := below_alloc _ _
  have c7 := (ev_cells (range_below h.1 hb)).2.2.2.2.2.2.2
  have HB := Lib.hid hb
  have CT := Lib.hid (contains_is x.p x.c x.e.gone r n _ (h.2.1.below hb) (by omega))
  obtain ⟨b, hbb⟩ : ∃ b, goneW x ⟨r, n, t, d, fl, tx⟩ = b := ⟨_, rfl⟩
  have hbb' : decide ((r, n) ∈ x.e.gone) = b := hbb
  rw [hbb]
  rw [hbb'] at CT
  simp only [Nat.zero_add] at c7
  clear hb h hbb hbb'
  obtain ⟨⟨r0, n0, t0, k0, d0, f0, x0, gn⟩, gp, gc⟩ := x
  simp only at c7 CT
  go_enter Tryd.func33, Tryd.ntmps33
  go_wp2_with fail
  refine CT.out.mono ?_
  rintro e w2 ⟨rfl, hb2⟩
  have B2 := Lib.hid (thenBelow HB.out hb2)
  clear hb2
  go_wp2
  go_ret
  exact ⟨rfl, B2.out⟩
theorem apply_enter (args : Array Value) (w : World) : (callFunc 33 args).run Tryd.prog w = .ok (.enter 33 args) w := by kernel_rfl
/-- what of Apply's closure is known, in worlds that are as w0 below B -/
theorem apply_tells (G : Nat) (x : EvP) (B : Nat) (w0 : World) (hn : x.e.gone.length ≤ 1000) (h : EvIn G x w0) (hB : B = w0.heap.size) : TellW 33 #[.pointer (some ⟨G, 0, none⟩)] (goneW x) B (fun w => Below B w0 w) where
  enter := apply_enter
  tell := fun y w hw => apply_tell G x y w (by subst hB; exact ⟨range_below h.1 hw, ⟨h.2.1.below hw, h.2.2⟩⟩) hn
  keep := fun w w' h1 h2 => h1.trans h2
end Go.Proofs.YtdnkhcbglmfjbaaDoor
