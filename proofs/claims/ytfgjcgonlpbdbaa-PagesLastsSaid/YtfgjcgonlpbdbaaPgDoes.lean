/- One act done to both devices. (genpgdoes.py writes it) -/
import Derived.Test.YtfgjcgonlpbdbaaPgAny
import Derived.Test.YtfgjcgonlpbdbaaPgRef5
namespace Go.Proofs.Ytfgjcgonlpbdbaa
open Go Go.RowKit
set_option linter.unusedVariables false

theorem begun {w : World} {p : Option Addr} {l : List UInt8} (h : Lies w p l) (m : Nat) : Lies w p (l.take m) := fun h0 => by
  have hl : l ≠ [] := fun e => h0 (by rw [e, List.take_nil])
  obtain ⟨b, o, e, hc⟩ := h hl
  refine ⟨b, o, e, fun i hi => ?_⟩
  rw [List.length_take] at hi
  rw [hc i (by omega)]
  congr 4
  rw [List.getD_eq_getElem?_getD, List.getD_eq_getElem?_getD, List.getElem?_take_of_lt (by omega)]
theorem elemB : Try.prog.underlying 31 = some (.slice (Try.prog.elem 31)) := by kernel_rfl
theorem sizeB1 (w : World) : (sizeOf (Try.prog.elem 31)).run Try.prog w = .ok 1 w := by kernel_rfl
theorem cutB (p : Option Addr) (A c n : Nat) (w : World) (hn : n ≤ c) : (Instr.sliceAt 31 (.slice p A c) none (some (.int .i64 (n : Int))) none).run Try.prog w = .ok (.slice p n c) w := by
  rw [run_sliceAt_slice (h := elemB), run_slice_h (ht := elemB) (h0 := by omega) (h2 := by omega), sizeB1]
  simp only [Result.andThen, sliced, Int.toNat_natCast, Nat.zero_mul, Nat.sub_zero]
  cases p <;> simp [Addr.add]
/-- an act's number as one that has no sign -/
def opU (op : Int) : Int := IntKind.u64.wrap op
def actObj (op i n : Int) (bp kp : Option Addr) (bl bc kl kc : Nat) : Array Value := #[.int .i64 op, .int .i64 i, .int .i64 n, .slice bp bl bc, .slice kp kl kc]
theorem RX.bes {w w' : World} {D P M A a b d ca cb cd m : Nat} (h : RX w A a b d ca cb cd m) (hm : 0 < m) (hb : Bes D P M w w') (hT2 : D < A ∧ D < a ∧ D < b ∧ D < d ∧ P < A ∧ P < a ∧ P < b ∧ P < d ∧ M < A ∧ M < a ∧ M < b ∧ M < d) : RX w' A a b d ca cb cd m := by
  obtain ⟨now, had, is, left, off, h1, h2⟩ := h
  have l0 := h1.lt
  obtain ⟨l1, l2, l3⟩ := h1.alt 0 hm
  exact RX.same ⟨now, had, is, left, off, h1, h2⟩ (hb.block A l0 (by omega) (by omega) (by omega)) (hb.block a l1 (by omega) (by omega) (by omega)) (hb.block b l2 (by omega) (by omega) (by omega)) (hb.block d l3 (by omega) (by omega) (by omega))
theorem PX.bes4 {w w' : World} {D P M n A a b d : Nat} {b3 : List UInt8} (h : PX w D P M n b3) (hb : Bes4 A a b d w w') (hT2 : D < A ∧ D < a ∧ D < b ∧ D < d ∧ P < A ∧ P < a ∧ P < b ∧ P < d ∧ M < A ∧ M < a ∧ M < b ∧ M < d) : PX w' D P M n b3 := by
  obtain ⟨pg, old, lo, c, dead, fuse, h1, h2, h3⟩ := h
  have l0 := h1.lt
  have l1 := h1.plt
  have l2 := h2.mlt
  exact PX.same ⟨pg, old, lo, c, dead, fuse, h1, h2, h3⟩ (hb.block D l0 (by omega) (by omega) (by omega) (by omega)) (hb.block P l1 (by omega) (by omega) (by omega) (by omega)) (hb.block M l2 (by omega) (by omega) (by omega) (by omega))
theorem LiesI.bes4 {w w' : World} {A a b d : Nat} {q : Option Addr} {ks : List Int} (h : LiesI w q ks) (hq : ks ≠ [] → ∀ x o, q = some ⟨x, o, none⟩ → x ≠ A ∧ x ≠ a ∧ x ≠ b ∧ x ≠ d) (hb : Bes4 A a b d w w') : LiesI w' q ks := by
  intro h0
  obtain ⟨x, o, e1, e2, hc⟩ := h.at (List.length_pos_iff.2 h0)
  obtain ⟨n1, n2, n3, n4⟩ := hq h0 x o e1
  exact ⟨x, o, e1, fun j hj => by rw [World.cell?_of_block (hb.block x e2 n1 n2 n3 n4)]; exact hc j hj⟩
theorem Lies.bes {w w' : World} {D P M : Nat} {q : Option Addr} {l : List UInt8} (h : Lies w q l) (hq : l ≠ [] → ∀ x o, q = some ⟨x, o, none⟩ → x ≠ D ∧ x ≠ P ∧ x ≠ M) (hb : Bes D P M w w') : Lies w' q l := by
  intro h0
  obtain ⟨x, o, e1, e2, hc⟩ := h.at (List.length_pos_iff.2 h0)
  obtain ⟨n1, n2, n3⟩ := hq h0 x o e1
  exact ⟨x, o, e1, fun j hj => by rw [World.cell?_of_block (hb.block x e2 n1 n2 n3)]; exact hc j hj⟩
theorem rgd_call {P : Program} {ops : Array Oper} {o : Oper} {a : Act} {w : World} {Q : Exit → Act → World → Prop} {S : World → Prop} {md : Region.Mode} {fuel : Nat} {listed : Array Bool} (i : Nat) (d : Option Tmp) (hr : Region.ready md ops listed = [i]) (hi : ops[i]? = some o) (hd : o.dst = d) (hw : Region.wanted o (yielded ops a.tmps) = true) (f : FuncId) (args : Array Value) {Post : Ending → World → Prop} (hrun : (execOp a.eval o).run P w = .ok (.enter f args) w)
    (hc : Calls P f args w Post) (h : ∀ e w', Post e w' → ∃ v, e = .returned v ∧ S w' ∧ wpAnyH P md ops Q S fuel (listed.setIfInBounds i true) (a.put d v) w') : wpAnyH P md ops Q S (fuel + 1) listed a w := by
  subst hd
  exact rg_call i hr hi hw f args hrun hc h
theorem exec_eqlD {P : Program} {o : Oper} {a : Act} (t yt : TypeId) (x y : Operand) (ho : o.op = .binOp .eql t x y yt) (X Y : Int) (hx : a.eval x = .int .i64 X) (hy : a.eval y = .int .i64 Y) (w : World) :
    (execOp a.eval o).run P w = .ok (.value (.bool (decide (X = Y)))) w := by
  by_cases h : X = Y
  · subst h
    rw [exec_eqlI t yt x y ho X hx hy w]
    simp
  · unfold execOp
    simp only [ho, hx, hy]
    go_simp
/-- what an act done to both comes to -/
def Did (w : World) (D P M n A a b d ca cb cd m : Nat) (b3 : List UInt8) (T : Nat) (e : Ending) (w' : World) : Prop :=
  (∃ v : Bool, e = .returned (.bool v)) ∧ PX w' D P M n b3 ∧ RX w' A a b d ca cb cd m ∧ Below T w w'
/-- the five cells of an act -/
def ActAt (w : World) (N : Nat) (op i n : Int) (bp kp : Option Addr) (bl bc kl kc : Nat) : Prop :=
  w.cell? ⟨N, 0, none⟩ = some (.int .i64 op) ∧ w.cell? ⟨N, 1, none⟩ = some (.int .i64 i) ∧ w.cell? ⟨N, 2, none⟩ = some (.int .i64 n) ∧ w.cell? ⟨N, 3, none⟩ = some (.slice bp bl bc) ∧ w.cell? ⟨N, 4, none⟩ = some (.slice kp kl kc)
theorem ActAt.of {w : World} {N : Nat} {op i n : Int} {bp kp : Option Addr} {bl bc kl kc : Nat} {ty : TypeId} (h : w.heap[N]? = some (.cells (actObj op i n bp kp bl bc kl kc) ty (0, 0))) : ActAt w N op i n bp kp bl bc kl kc := by
  unfold actObj at h
  exact ⟨by rw [cell_of_row w N 0 _ _ _ h]; rfl, by rw [cell_of_row w N 1 _ _ _ h]; rfl, by rw [cell_of_row w N 2 _ _ _ h]; rfl, by rw [cell_of_row w N 3 _ _ _ h]; rfl, by rw [cell_of_row w N 4 _ _ _ h]; rfl⟩
set_option maxHeartbeats 4000000 in
set_option maxRecDepth 100000 in
theorem does_any (T D P M n A a b d ca cb cd m : Nat) (b3 : List UInt8) (op i k : Int) (bp kp : Option Addr) (bs : List UInt8) (ks : List Int) (bc kc : Nat) (w : World)
    (hop : -9223372036854775808 ≤ op ∧ op ≤ 9223372036854775807) (hk : -9223372036854775808 ≤ k ∧ k ≤ 9223372036854775807) (h3 : i ≠ 3 ∨ 2 < Int.tmod (opU op) 6)
    (hp : PX w D P M n b3) (hr : RX w A a b d ca cb cd m) (hm : 0 < m) (hl : Lies w bp bs) (hL : LiesI w kp ks) (hbc : bs.length ≤ bc) (hkl : ks.length ≤ 9223372036854775807)
    (hbp : bs ≠ [] → ∀ x o, bp = some ⟨x, o, none⟩ → x < T) (hkp : ks ≠ [] → ∀ x o, kp = some ⟨x, o, none⟩ → x < T) (hT : T ≤ D ∧ T ≤ P ∧ T ≤ M) (hT2 : D < A ∧ D < a ∧ D < b ∧ D < d ∧ P < A ∧ P < a ∧ P < b ∧ P < d ∧ M < A ∧ M < a ∧ M < b ∧ M < d) (hTw : T ≤ w.heap.size) :
    Calls Try.prog 10 #[.pointer (some ⟨D, 0, none⟩), .pointer (some ⟨A, 0, none⟩), .agg (actObj op i k bp kp bs.length bc ks.length kc)] w (Did w D P M n A a b d ca cb cd m b3 T) := by
  obtain ⟨r, hre⟩ : ∃ r : Int, r = Int.tmod (opU op) 6 := ⟨_, rfl⟩
  rw [← hre] at h3
  have hr6 : r < 6 := by rw [hre]; exact Int.tmod_lt_of_pos _ (by decide)
  have HRE := Lib.hid hre
  clear hre
  have al : Below w.heap.size w (w.alloc (.cells (actObj op i k bp kp bs.length bc ks.length kc) 34)) := (Below.refl _ _).alloc (Nat.le_refl _) _
  have PW := Lib.hid (hp.below al)
  have RW := Lib.hid (hr.below (T := T) al)
  have LB := Lib.hid (hl.below al)
  have LK := Lib.hid (hL.below al)
  have AC := Lib.hid (ActAt.of (heap_alloc_new w (.cells (actObj op i k bp kp bs.length bc ks.length kc) 34)))
  have BW := Lib.hid (al.mono hTw)
  have hNA : ∀ x, (x = D ∨ x = P ∨ x = M) → x < w.heap.size := by
    obtain ⟨pg, old, lo, c, dead, fuse, h1, h2, h3⟩ := hp
    have l0 := h1.lt; have l1 := h1.plt; have l2 := h2.mlt
    intro x hx
    rcases hx with rfl | rfl | rfl <;> assumption
  have hNB : A < w.heap.size ∧ a < w.heap.size ∧ b < w.heap.size ∧ d < w.heap.size := by
    obtain ⟨now, had, is, left, off, h1, h2⟩ := hr
    exact ⟨h1.lt, h1.alt 0 hm⟩
  have hND := hNA D (by simp); have hNP := hNA P (by simp); have hNM := hNA M (by simp)
  have hN1 : w.heap.size < (w.alloc (.cells (actObj op i k bp kp bs.length bc ks.length kc) 34)).heap.size := by simp
  have QB := Lib.hid hbp; have QK := Lib.hid hkp
  have H3 := Lib.hid h3
  clear hp hr hl hL al hNA hbp hkp h3
  go_enter Try.func10, Try.ntmps10
  go_upto_region 1 with fail
  generalize w.alloc (.cells (actObj op i k bp kp bs.length bc ks.length kc) 34) = w1 at PW RW LB LK AC BW hN1 ⊢
  generalize w.heap.size = N at AC hN1 hND hNP hNM hNB hTw ⊢
  generalize actObj op i k bp kp bs.length bc ks.length kc = act at ⊢
  obtain ⟨e0, e1, e2, e3, e4⟩ := AC.out
  go_cut [7] (fun v wx => v = .slice bp (bs.take 200).length bc ∧ wx = w1)
  case first =>
    have ct := cutB bp bs.length bc (bs.take 200).length w1 (by rw [List.length_take]; omega)
    by_cases h2 : bs.length ≤ 200
    · have e : (bs.take 200).length = bs.length := by rw [List.length_take]; omega
      rw [e] at ct
      have E := Lib.hid e
      have h22 : (bs.length : Int) ≤ 200 := by omega
      clear e
      go_wp2
      go_meet
      exact ⟨by rw [E.out], rfl⟩
    · have e : (bs.take 200).length = 200 := by rw [List.length_take]; omega
      rw [e] at ct
      have E := Lib.hid e
      have h22 : (200 : Int) < (bs.length : Int) := by omega
      clear e
      go_wp2
      go_meet
      exact ⟨by rw [E.out], rfl⟩
  case rest =>
  obtain ⟨rfl, rfl⟩ := hcut
  go_upto_region 2 with fail
  go_cut [18] (fun v wx => v = .int .u64 r ∧ wx = wc)
  case first =>
    go_wp2
    go_meet
    exact ⟨by rw [HRE.out]; rfl, rfl⟩
  case rest =>
  obtain ⟨rfl, rfl⟩ := hcut
  have hT4 : T ≤ A ∧ T ≤ a ∧ T ≤ b ∧ T ≤ d := by omega
  by_cases hr3 : r = 3
  · subst hr3
    go_wp2_with fail
    refine (syncB_any D P M n b3 wc PW.out).mono ?_
    rintro e w2 ⟨⟨v, rfl⟩, hp2, hb2⟩
    have PW2 := Lib.hid hp2; have RW2 := Lib.hid (RW.out.bes hm hb2 hT2); have BW2 := Lib.hid (BW.out.trans (hb2.below hT (by omega)))
    have hs2 := hb2.size
    clear hp2 hb2 PW RW BW LB LK AC e0 e1 e2 e3 e4
    go_wp2_with fail
    refine (refSync_any 0 A a b d ca cb cd m w2 RW2.out ⟨Nat.zero_le _, Nat.zero_le _, Nat.zero_le _, Nat.zero_le _⟩ (Nat.zero_le _)).mono ?_
    rintro e w3 ⟨⟨v2, rfl⟩, hx3, hb3⟩
    have PW3 := Lib.hid (PW2.out.bes4 hb3 hT2); have RW3 := Lib.hid hx3; have BW3 := Lib.hid (BW2.out.trans (hb3.below hT4 (by omega)))
    clear hx3 hb3 PW2 RW2 BW2
    go_wp2
    exact bodyPost_ret (v := .bool (v == v2)) (by kernel_rfl) (by kernel_rfl) ⟨⟨_, rfl⟩, PW3.out, RW3.out, BW3.out⟩
  · have hb3 : (r == 3) = false := by simp [hr3]
    by_cases hr4 : r = 4
    · subst hr4
      go_wp2_with fail
      refine (refCrash_any 0 A a b d ca cb cd m kp kc ks i k wc RW.out LK.out hkl (fun h x o e => by have := QK.out h x o e; omega) ⟨Nat.zero_le _, Nat.zero_le _, Nat.zero_le _, Nat.zero_le _⟩ (Nat.zero_le _)).mono ?_
      rintro e w2 ⟨rfl, hx2, hb2⟩
      have PW2 := Lib.hid (PW.out.bes4 hb2 hT2); have RW2 := Lib.hid hx2; have BW2 := Lib.hid (BW.out.trans (hb2.below hT4 (by omega)))
      have LK2 := Lib.hid (LK.out.bes4 (fun h x o e => by have := QK.out h x o e; omega) hb2)
      have hN : w2.heap[N]? = wc.heap[N]? := hb2.block N hN1 (by omega) (by omega) (by omega) (by omega)
      have AC2 : ActAt w2 N op i k bp kp bs.length bc ks.length kc := ⟨(World.cell?_of_block hN).trans e0, (World.cell?_of_block hN).trans e1, (World.cell?_of_block hN).trans e2, (World.cell?_of_block hN).trans e3, (World.cell?_of_block hN).trans e4⟩
      have hs2 := hb2.size
      clear hx2 hb2 hN PW RW BW LB LK AC e0 e1 e2 e3 e4
      obtain ⟨e0, e1, e2, e3, e4⟩ := AC2
      go_wp2_with fail
      refine (crashB_any D P M n b3 w2 PW2.out kp kc ks i k LK2.out (fun h x o e => by have := QK.out h x o e; omega) hkl).mono ?_
      rintro e w3 ⟨rfl, -, hp3, hb3⟩
      have PW3 := Lib.hid hp3; have RW3 := Lib.hid (RW2.out.bes hm hb3 hT2); have BW3 := Lib.hid (BW2.out.trans (hb3.below hT (by omega)))
      clear hp3 hb3 PW2 RW2 BW2 LK2 e0 e1 e2 e3 e4
      go_wp2
      exact bodyPost_ret (v := .bool true) (by kernel_rfl) (by kernel_rfl) ⟨⟨_, rfl⟩, PW3.out, RW3.out, BW3.out⟩
    · have hb4 : (r == 4) = false := by simp [hr4]
      by_cases hr5 : r = 5
      · subst hr5
        go_wp2_with fail
        have O0 : ActAt wc.drew N op i k bp kp bs.length bc ks.length kc := ⟨e0, e1, e2, e3, e4⟩
        have PW0 : PX wc.drew D P M n b3 := PW.out.same rfl rfl rfl
        have RW0 : RX wc.drew A a b d ca cb cd m := RW.out.same rfl rfl rfl rfl
        have LB0 : Lies wc.drew bp bs := LB.out.drew
        have BW0 : Below T w wc.drew := BW.out.drew
        have hN0 : N < wc.drew.heap.size := hN1
        refine rg_start (n := 10) (S := fun w' => ActAt w' N op i k bp kp bs.length bc ks.length kc) (by kernel_rfl) rfl O0 ?_
        generalize wc.drew = w0 at O0 PW0 RW0 LB0 BW0 hN0 ⊢
        refine rgd_pure 0 (some 47) rfl rfl (.pointer (some ⟨D, 0, none⟩)) (by kernel_rfl) (by kernel_rfl) (by kernel_rfl) (fun _ _ _ _ h => h) (by kernel_rfl) (fun _ => by kernel_rfl) O0 ?_
        refine rgd_pure 1 (some 48) rfl rfl (.pointer (some ⟨N, 2, none⟩)) (by kernel_rfl) (by kernel_rfl) (by kernel_rfl) (fun _ _ _ _ h => h) (by kernel_rfl) (fun _ => by kernel_rfl) O0 ?_
        refine rgd_load 2 (some 49) rfl rfl (by kernel_rfl) (by kernel_rfl) (by kernel_rfl) (fun _ _ _ _ h => h) (by kernel_rfl) _ _ rfl Try.underlying3 rfl ⟨N, 2, none⟩ (.int .i64 k) (by kernel_rfl) (fun w h => h.2.2.1) O0 ?_
        refine rgd_pure 4 (some 51) rfl rfl (.pointer (some ⟨A, 0, none⟩)) (by kernel_rfl) (by kernel_rfl) (by kernel_rfl) (fun _ _ _ _ h => h) (by kernel_rfl) (fun _ => by kernel_rfl) O0 ?_
        refine rgd_pure 5 (some 52) rfl rfl (.pointer (some ⟨N, 2, none⟩)) (by kernel_rfl) (by kernel_rfl) (by kernel_rfl) (fun _ _ _ _ h => h) (by kernel_rfl) (fun _ => by kernel_rfl) O0 ?_
        refine rgd_load 6 (some 53) rfl rfl (by kernel_rfl) (by kernel_rfl) (by kernel_rfl) (fun _ _ _ _ h => h) (by kernel_rfl) _ _ rfl Try.underlying3 rfl ⟨N, 2, none⟩ (.int .i64 k) (by kernel_rfl) (fun w h => h.2.2.1) O0 ?_
        refine rgd_call 3 (some 50) (by kernel_rfl) rfl rfl (by kernel_rfl) 19 #[.pointer (some ⟨D, 0, none⟩), .int .i64 k] (by kernel_rfl) (fuseB_any D P M n b3 w0 PW0 k hk) ?_
        rintro e w2 ⟨⟨v, rfl⟩, hp2, hb2⟩
        have PW2 := Lib.hid hp2; have RW2 := Lib.hid (RW0.bes hm hb2 hT2); have BW2 := Lib.hid (BW0.trans (hb2.below hT (by omega)))
        have hs2 := hb2.size
        have hN : w2.heap[N]? = w0.heap[N]? := hb2.block N hN0 (by omega) (by omega) (by omega)
        have O2 : ActAt w2 N op i k bp kp bs.length bc ks.length kc := ⟨(World.cell?_of_block hN).trans O0.1, (World.cell?_of_block hN).trans O0.2.1, (World.cell?_of_block hN).trans O0.2.2.1, (World.cell?_of_block hN).trans O0.2.2.2.1, (World.cell?_of_block hN).trans O0.2.2.2.2⟩
        refine ⟨_, rfl, O2, ?_⟩
        refine rgd_call 7 (some 54) (by kernel_rfl) rfl rfl (by kernel_rfl) 26 #[.pointer (some ⟨A, 0, none⟩), .int .i64 k] (by kernel_rfl) (refFuse_any 0 A a b d ca cb cd m k hk w2 RW2.out (Nat.zero_le _) (Nat.zero_le _)) ?_
        rintro e w3 ⟨⟨v2, rfl⟩, hx3, hb3⟩
        have PW3 := Lib.hid (PW2.out.bes4 hb3 hT2); have RW3 := Lib.hid hx3; have BW3 := Lib.hid (BW2.out.trans (hb3.below hT4 (by omega)))
        have hN4 : w3.heap[N]? = w2.heap[N]? := hb3.block N (by omega) (by omega) (by omega) (by omega) (by omega)
        have O3 : ActAt w3 N op i k bp kp bs.length bc ks.length kc := ⟨(World.cell?_of_block hN4).trans O2.1, (World.cell?_of_block hN4).trans O2.2.1, (World.cell?_of_block hN4).trans O2.2.2.1, (World.cell?_of_block hN4).trans O2.2.2.2.1, (World.cell?_of_block hN4).trans O2.2.2.2.2⟩
        refine ⟨_, rfl, O3, ?_⟩
        refine rgd_pure 8 (some 55) rfl rfl (.bool (decide (v = v2))) (by kernel_rfl) (by kernel_rfl) (by kernel_rfl) (fun _ _ _ _ h => h) (by kernel_rfl) (exec_eqlD _ _ _ _ rfl v v2 (by kernel_rfl) (by kernel_rfl)) O3 ?_
        refine rgd_pure 9 (some 6) rfl rfl (.bool (decide (v = v2))) (by kernel_rfl) (by kernel_rfl) (by kernel_rfl) (fun _ _ _ _ h => h) (by kernel_rfl) (fun _ => by kernel_rfl) O3 ?_
        refine wpAnyH_done (by kernel_rfl) ?_ _
        simp only [Act.put, List.setIfInBounds_toArray, List.set_cons_zero, List.set_cons_succ]
        go_wp2
        exact bodyPost_ret (v := .bool (decide (v = v2))) (by kernel_rfl) (by kernel_rfl) ⟨⟨_, rfl⟩, PW3.out, RW3.out, BW3.out⟩
      · have hb5 : (r == 5) = false := by simp [hr5]
        have hi3 : i ≠ 3 := by rcases H3.out with h | h <;> omega
        go_wp2_with fail
        have O0 : ActAt wc.drew N op i k bp kp bs.length bc ks.length kc := ⟨e0, e1, e2, e3, e4⟩
        have PW0 : PX wc.drew D P M n b3 := PW.out.same rfl rfl rfl
        have RW0 : RX wc.drew A a b d ca cb cd m := RW.out.same rfl rfl rfl rfl
        have LB0 : Lies wc.drew bp bs := LB.out.drew
        have BW0 : Below T w wc.drew := BW.out.drew
        have hN0 : N < wc.drew.heap.size := hN1
        refine rg_start (n := 12) (S := fun w' => ActAt w' N op i k bp kp bs.length bc ks.length kc) (by kernel_rfl) rfl O0 ?_
        generalize wc.drew = w0 at O0 PW0 RW0 LB0 BW0 hN0 ⊢
        refine rgd_pure 0 (some 56) rfl rfl (.pointer (some ⟨D, 0, none⟩)) (by kernel_rfl) (by kernel_rfl) (by kernel_rfl) (fun _ _ _ _ h => h) (by kernel_rfl) (fun _ => by kernel_rfl) O0 ?_
        refine rgd_pure 1 (some 57) rfl rfl (.pointer (some ⟨N, 1, none⟩)) (by kernel_rfl) (by kernel_rfl) (by kernel_rfl) (fun _ _ _ _ h => h) (by kernel_rfl) (fun _ => by kernel_rfl) O0 ?_
        refine rgd_load 2 (some 58) rfl rfl (by kernel_rfl) (by kernel_rfl) (by kernel_rfl) (fun _ _ _ _ h => h) (by kernel_rfl) _ _ rfl Try.underlying3 rfl ⟨N, 1, none⟩ (.int .i64 i) (by kernel_rfl) (fun w h => h.2.1) O0 ?_
        refine rgd_pure 3 (some 59) rfl rfl (.slice bp (bs.take 200).length bc) (by kernel_rfl) (by kernel_rfl) (by kernel_rfl) (fun _ _ _ _ h => h) (by kernel_rfl) (fun _ => by kernel_rfl) O0 ?_
        refine rgd_pure 5 (some 61) rfl rfl (.pointer (some ⟨A, 0, none⟩)) (by kernel_rfl) (by kernel_rfl) (by kernel_rfl) (fun _ _ _ _ h => h) (by kernel_rfl) (fun _ => by kernel_rfl) O0 ?_
        refine rgd_pure 6 (some 62) rfl rfl (.pointer (some ⟨N, 1, none⟩)) (by kernel_rfl) (by kernel_rfl) (by kernel_rfl) (fun _ _ _ _ h => h) (by kernel_rfl) (fun _ => by kernel_rfl) O0 ?_
        refine rgd_load 7 (some 63) rfl rfl (by kernel_rfl) (by kernel_rfl) (by kernel_rfl) (fun _ _ _ _ h => h) (by kernel_rfl) _ _ rfl Try.underlying3 rfl ⟨N, 1, none⟩ (.int .i64 i) (by kernel_rfl) (fun w h => h.2.1) O0 ?_
        refine rgd_pure 8 (some 64) rfl rfl (.slice bp (bs.take 200).length bc) (by kernel_rfl) (by kernel_rfl) (by kernel_rfl) (fun _ _ _ _ h => h) (by kernel_rfl) (fun _ => by kernel_rfl) O0 ?_
        refine rgd_call 4 (some 60) (by kernel_rfl) rfl rfl (by kernel_rfl) 14 #[.pointer (some ⟨D, 0, none⟩), .int .i64 i, .slice bp (bs.take 200).length bc] (by kernel_rfl) (writeB_any D P M n b3 w0 PW0 i hi3 bp bc (bs.take 200) (begun LB0 200) (fun h x o e => by have := QB.out (fun q => h (by rw [q]; rfl)) x o e; omega)) ?_
        rintro e w2 ⟨⟨v, rfl⟩, hp2, hb2⟩
        have PW2 := Lib.hid hp2; have RW2 := Lib.hid (RW0.bes hm hb2 hT2); have BW2 := Lib.hid (BW0.trans (hb2.below hT (by omega)))
        have hs2 := hb2.size
        have hN : w2.heap[N]? = w0.heap[N]? := hb2.block N hN0 (by omega) (by omega) (by omega)
        have O2 : ActAt w2 N op i k bp kp bs.length bc ks.length kc := ⟨(World.cell?_of_block hN).trans O0.1, (World.cell?_of_block hN).trans O0.2.1, (World.cell?_of_block hN).trans O0.2.2.1, (World.cell?_of_block hN).trans O0.2.2.2.1, (World.cell?_of_block hN).trans O0.2.2.2.2⟩
        have LB2 := Lib.hid (LB0.bes (fun h x o e => by have := QB.out h x o e; omega) hb2)
        refine ⟨_, rfl, O2, ?_⟩
        refine rgd_call 9 (some 65) (by kernel_rfl) rfl rfl (by kernel_rfl) 27 #[.pointer (some ⟨A, 0, none⟩), .int .i64 i, .slice bp (bs.take 200).length bc] (by kernel_rfl) (refWrite_any 0 A a b d ca cb cd m i bp bc (bs.take 200) w2 RW2.out (begun LB2.out 200) (fun h x o e => by have := QB.out (fun q => h (by rw [q]; rfl)) x o e; omega) ⟨Nat.zero_le _, Nat.zero_le _, Nat.zero_le _, Nat.zero_le _⟩ (Nat.zero_le _)) ?_
        rintro e w3 ⟨⟨v2, rfl⟩, hx3, hb3⟩
        have PW3 := Lib.hid (PW2.out.bes4 hb3 hT2); have RW3 := Lib.hid hx3; have BW3 := Lib.hid (BW2.out.trans (hb3.below hT4 (by omega)))
        have hN4 : w3.heap[N]? = w2.heap[N]? := hb3.block N (by omega) (by omega) (by omega) (by omega) (by omega)
        have O3 : ActAt w3 N op i k bp kp bs.length bc ks.length kc := ⟨(World.cell?_of_block hN4).trans O2.1, (World.cell?_of_block hN4).trans O2.2.1, (World.cell?_of_block hN4).trans O2.2.2.1, (World.cell?_of_block hN4).trans O2.2.2.2.1, (World.cell?_of_block hN4).trans O2.2.2.2.2⟩
        refine ⟨_, rfl, O3, ?_⟩
        refine rgd_pure 10 (some 66) rfl rfl (.bool (decide (v = v2))) (by kernel_rfl) (by kernel_rfl) (by kernel_rfl) (fun _ _ _ _ h => h) (by kernel_rfl) (exec_eqlD _ _ _ _ rfl v v2 (by kernel_rfl) (by kernel_rfl)) O3 ?_
        refine rgd_pure 11 (some 6) rfl rfl (.bool (decide (v = v2))) (by kernel_rfl) (by kernel_rfl) (by kernel_rfl) (fun _ _ _ _ h => h) (by kernel_rfl) (fun _ => by kernel_rfl) O3 ?_
        refine wpAnyH_done (by kernel_rfl) ?_ _
        simp only [Act.put, List.setIfInBounds_toArray, List.set_cons_zero, List.set_cons_succ]
        go_wp2
        exact bodyPost_ret (v := .bool (decide (v = v2))) (by kernel_rfl) (by kernel_rfl) ⟨⟨_, rfl⟩, PW3.out, RW3.out, BW3.out⟩
end Go.Proofs.Ytfgjcgonlpbdbaa
