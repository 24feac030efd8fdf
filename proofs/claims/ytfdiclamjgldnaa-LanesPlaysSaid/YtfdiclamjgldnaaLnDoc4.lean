/- The document's lanes: Peek. -/
import Derived.Test.YtfdiclamjgldnaaLnDoc3
import Derived.Lib.ConvBytes
import Derived.Deep.DeepCutAuto
namespace Go.Proofs.Ytfdiclamjgldnaa
open Go Go.RowKit Go.Conc
set_option linter.unusedVariables false

def seenP (x : Pc) : List UInt8 := if x.b = [] then [] else x.b.set (x.at_ % x.b.length) (x.b.getD (x.at_ % x.b.length) 0 ^^^ x.by_)
theorem seenP_len (x : Pc) : (seenP x).length = x.b.length := by
  unfold seenP
  split
  · next h => rw [h]
  · simp
/-- the bytes behind the first k places -/
def seenTo (x : Pc) (k : Nat) : List UInt8 := if x.at_ % x.b.length < k then x.b.set (x.at_ % x.b.length) (x.b.getD (x.at_ % x.b.length) 0 ^^^ x.by_) else x.b
theorem seenTo_zero (x : Pc) : seenTo x 0 = x.b := by simp [seenTo]
theorem seenTo_end (x : Pc) : seenTo x x.b.length = seenP x := by
  unfold seenTo seenP
  by_cases h : x.b = []
  · rw [if_pos h, if_neg (by rw [h]; simp), h]
  · rw [if_neg h, if_pos (Nat.mod_lt _ (List.length_pos_iff.2 h))]
theorem seenTo_len (x : Pc) (k : Nat) : (seenTo x k).length = x.b.length := by unfold seenTo; split <;> simp
/-- bytes of the call's own, wherever the row is marked -/
structure BRow (w : World) (B g : Nat) (ds : List UInt8) : Prop where
  base : B ≤ g ∧ g < w.heap.size
  cell : ∀ j, j < ds.length → w.cell? ⟨g, j, none⟩ = some (.int .u8 ((ds.getD j 0).toNat : Int))
  free : ∀ j, j < ds.length → w.frozen? ⟨g, j, none⟩ = false
theorem BRow.lies {w : World} {B g : Nat} {ds : List UInt8} (h : BRow w B g ds) : Lies w (some ⟨g, 0, none⟩) ds := fun _ =>
  ⟨g, 0, rfl, fun j hj => by rw [Nat.zero_add]; exact h.cell j hj⟩
theorem BRow.of_heap {w w' : World} {B g : Nat} {ds : List UInt8} (h : BRow w B g ds) (hb : w'.heap[g]? = w.heap[g]?) (hs : g < w'.heap.size) : BRow w' B g ds :=
  ⟨⟨h.base.1, hs⟩, fun j hj => (World.cell?_of_block (w := w) (a := ⟨g, j, none⟩) hb).trans (h.cell j hj), fun j hj => (World.frozen?_of_block (w := w) (a := ⟨g, j, none⟩) hb).trans (h.free j hj)⟩
theorem BRow.set {w : World} {B g : Nat} {ds : List UInt8} (h : BRow w B g ds) (k : Nat) (hk : k < ds.length) (b : UInt8) : BRow (w.setCell ⟨g, k, none⟩ (.int .u8 (b.toNat : Int))) B g (ds.set k b) := by
  refine ⟨⟨h.base.1, by simpa [World.setCell] using h.base.2⟩, fun j hj => ?_, fun j hj => ?_⟩
  · rw [List.length_set] at hj
    by_cases e : k = j
    · subst e
      rw [World.cell?_setCell_same _ _ _ (h.cell k hk)]
      simp [List.getD, hk]
    · rw [World.cell?_setCell_other _ _ _ _ (fun q : (⟨g, k, none⟩ : Addr) = ⟨g, j, none⟩ => e (by injection q)), h.cell j hj, List.getD_eq_getElem?_getD, List.getD_eq_getElem?_getD, List.getElem?_set_ne e]
  · rw [List.length_set] at hj
    rw [World.frozen?_setCell]
    exact h.free j hj
theorem seenTo_other (x : Pc) (k : Nat) (h : ¬ k = x.at_ % x.b.length) : seenTo x (k + 1) = seenTo x k := by
  unfold seenTo
  by_cases q : x.at_ % x.b.length < k
  · rw [if_pos (by omega), if_pos q]
  · rw [if_neg (by omega), if_neg q]
theorem seenTo_here (x : Pc) : seenTo x (x.at_ % x.b.length) = x.b := by unfold seenTo; rw [if_neg (by omega)]
theorem seenTo_next (x : Pc) : seenTo x (x.at_ % x.b.length + 1) = x.b.set (x.at_ % x.b.length) (x.b.getD (x.at_ % x.b.length) 0 ^^^ x.by_) := by unfold seenTo; rw [if_pos (by omega)]
theorem exec_idxP {o : Oper} {a : Act} (x y : Operand) (ho : o.op = .indexAddr 27 x y) (b f len cap k : Nat) (hx : a.eval x = .slice (some ⟨b, f, none⟩) len cap) (hy : a.eval y = .int .i64 (k : Int)) (hk : k < len) (w : World) :
    (execOp a.eval o).run Try.prog w = .ok (.value (.pointer (some ⟨b, f + k * 5, none⟩))) w := by
  have hu : Try.prog.underlying 27 = some (.slice (Try.prog.elem 27)) := by kernel_rfl
  have hz : (sizeOf (Try.prog.elem 27)).run Try.prog w = .ok 5 w := by kernel_rfl
  unfold execOp
  simp only [ho, hx, hy]
  refine run_value_of ?_
  rw [run_indexAt_slice (h := hu), if_pos (by omega), hz]
  simp only [Result.andThen_ok, Int.toNat_natCast]
  cases k <;> simp [Addr.add]
theorem BRow.conv (w : World) (B : Nat) (hB : B ≤ w.heap.size) (l : List UInt8) : BRow (Lib.bytesWorld w 5 ⟨l.toArray⟩) B w.heap.size l := by
  refine ⟨⟨hB, by rw [Lib.bytesWorld_size]; omega⟩, fun j hj => ?_, fun j hj => ?_⟩
  · rw [Lib.bytesWorld_cell w _ _ j (show j < (⟨l.toArray⟩ : ByteArray).size from by simpa [ByteArray.size] using hj)]
  · unfold World.frozen?
    rw [show (Lib.bytesWorld w 5 ⟨l.toArray⟩).heap[(⟨w.heap.size, j, none⟩ : Addr).block]? = _ from Lib.bytesWorld_at_new w _ _]
    have : j < (Lib.bytesCells w 5 ⟨l.toArray⟩).size := by
      have h1 := Lib.bytesWorld_cell w 5 ⟨l.toArray⟩ j (show j < (⟨l.toArray⟩ : ByteArray).size from by simpa [ByteArray.size] using hj)
      rw [cell_of_row _ _ _ _ _ _ (Lib.bytesWorld_at_new w _ _)] at h1
      exact (Array.getElem?_eq_some_iff.1 h1).1
    simp only [decide_eq_true_eq]
    simp; omega
theorem below_conv (w : World) (s : ByteArray) : Below w.heap.size w (Lib.bytesWorld w 5 s) :=
  ⟨by simp [Lib.bytesWorld, World.freeze]; rfl, by simp [Lib.bytesWorld, World.freeze], by simp [Lib.bytesWorld, World.freeze]; rfl, by rw [Lib.bytesWorld_size]; omega, fun k hk => Lib.bytesWorld_at_old w _ _ k hk⟩
def PeekR (L : List Pc) (d : Wy) (K : Int) (w : World) (e : Ending) (w' : World) : Prop :=
  Below w.heap.size w w' ∧ ((e = .returned (.tuple #[.slice none 0 0, .int .i64 10]) ∧ (K < 0 ∨ (on d L).length ≤ K)) ∨
    ∃ x p c, 0 ≤ K ∧ (on d L)[K.toNat]? = some x ∧ e = .returned (.tuple #[.slice p x.b.length c, .int .i64 0]) ∧ Lies w' p (seenP x) ∧ x.b.length ≤ c ∧ (p = none → x.b = []))
set_option maxHeartbeats 4000000 in
set_option maxRecDepth 100000 in
theorem refPeek_is (B R : Nat) (n : Int) (L : List Pc) (S Lo : Int) (f t K : Int) (w : World) (h : Rl w B R n L S Lo) (hl : L.length ≤ 100) (hk : InN n (f, t)) :
    Calls Try.prog 25 #[.pointer (some ⟨R, 0, none⟩), .int .i64 f, .int .i64 t, .int .i64 K] w (PeekR L (f, t) K w) := by
  obtain ⟨V, ho, hr, _⟩ := h.obj
  have c0 : w.cell? ⟨R, 0, none⟩ = some (.int .i64 n) := by rw [cell_of_row w R 0 _ _ _ ho]; rfl
  have WY := Lib.hid (refWay_yes R n f t w c0 hk)
  have FI := Lib.hid (refFind_is B R n L S Lo f t K w h hl)
  have H := Lib.hid h
  clear h ho hr c0
  go_enter Try.func25, Try.ntmps25
  go_wp2_with fail
  refine WY.out.mono ?_
  rintro e w' ⟨rfl, rfl⟩
  go_wp2_with fail
  refine FI.out.mono ?_
  rintro e w1 ⟨r, rfl, hfr, hb1⟩
  have B1 := Lib.hid hb1
  rcases hfr with ⟨i, rfl, hK0, hat⟩ | ⟨rfl, hKo⟩
  · have hx0 := atW_get hat
    obtain ⟨hi, hxk, _⟩ := hat
    have hx := hx0 L[i] (List.getElem?_eq_getElem hi)
    have hok := H.out.ok L[i] (List.getElem_mem hi)
    have h1 := H.out.below hb1
    obtain ⟨V, ho, hr, _⟩ := h1.obj
    obtain ⟨p, c, rfl, _, _, hp, _⟩ := own_pat hr
    obtain ⟨g, o, rfl, hg, hc⟩ := hp.at hi
    have c1 : w1.cell? ⟨R, 1, none⟩ = some (.slice (some ⟨g, o, none⟩) L.length c) := by rw [cell_of_row w1 R 1 _ _ _ ho]; rfl
    have hRl := h1.lt
    have HX := Lib.hid hx
    obtain ⟨ok1, ok2⟩ := hok
    have hiI : (i : Int) < L.length := by omega
    have hi0 : ¬ (i : Int) < 0 := by omega
    clear hx hx0 hxk h1 ho hr hp H FI WY hb1
    generalize L[i] = x at hc HX ok1 ok2
    have a2 := hc 2 _ rfl; have a3 := hc 3 _ rfl; have a4 := hc 4 _ rfl
    clear hc
    have hsz : (⟨x.b.toArray⟩ : ByteArray).size = x.b.length := by simp [ByteArray.size]
    have hcv := fun V : World => Lib.run_convert_string_bytes (P := Try.prog) V 9 30 5 ⟨x.b.toArray⟩ Try.underlying9 Try.underlying30 Try.underlying5
    simp only [hsz] at hcv
    have BR : Hid (BRow (Lib.bytesWorld w1 5 ⟨x.b.toArray⟩) w.heap.size w1.heap.size x.b) := BRow.conv w1 _ B1.out.size x.b
    have bc := below_conv w1 ⟨x.b.toArray⟩
    have b2 : Below w.heap.size w (Lib.bytesWorld w1 5 ⟨x.b.toArray⟩) := B1.out.trans (bc.mono B1.out.size)
    have d1 := (bc.cell (p := ⟨R, 1, none⟩) hRl).trans c1
    have d2 := (bc.cell (p := ⟨g, o + i * 5 + 2, none⟩) hg).trans a2
    have d3 := (bc.cell (p := ⟨g, o + i * 5 + 3, none⟩) hg).trans a3
    have d4 := (bc.cell (p := ⟨g, o + i * 5 + 4, none⟩) hg).trans a4
    have hlt2 : w1.heap.size < (Lib.bytesWorld w1 5 ⟨x.b.toArray⟩).heap.size := by rw [Lib.bytesWorld_size]; omega
    have hRG : R ≠ w1.heap.size := by omega
    have hgG : g ≠ w1.heap.size := by omega
    have D1 := Lib.hid d1; have D3 := Lib.hid d3; have D4 := Lib.hid d4; have B2 := Lib.hid b2
    have HL2 := Lib.hid hlt2; have HRG := Lib.hid hRG; have HGG := Lib.hid hgG
    clear d1 d2 d3 d4 b2 bc B1 hlt2 hRG hgG a3 a4
    go_upto_region 7 with fail
    generalize Lib.bytesWorld w1 5 ⟨x.b.toArray⟩ = w2 at *
    have hG := B2.out.size
    have HCG : Hid (x.b.length ≤ grownCap w1 x.b.length 0 5) := by
      exact grownCap_ge _ _ _ _
    generalize grownCap w1 x.b.length 0 5 = cg at *
    generalize w1.heap.size = G at *
    clear hcv c1 a2
    go_wp2
    go_loopw [36] (fun v wr => ∃ k : Nat, k ≤ x.b.length ∧ v = .int .i64 k ∧ BRow wr w.heap.size G (seenTo x k) ∧ w2.grownBy wr (some G)) (fun v _ => x.b.length - (intOf v).toNat)
    case atStart => exact ⟨0, Nat.zero_le _, rfl, by rw [seenTo_zero]; exact BR.out, ⟨rfl, rfl, rfl, Nat.le_refl _, fun _ _ _ => rfl⟩⟩
    case round =>
      obtain ⟨k, hk, rfl, hbr, hgr⟩ := hrel
      have BK := Lib.hid hbr; have GK := Lib.hid hgr
      clear hbr hgr
      by_cases hlt : k < x.b.length
      · have hltI : (k : Int) < x.b.length := by omega
        have e1 := GK.out.cell D1.out (fun q => HRG.out (Option.some.inj q))
        have e3 := GK.out.cell D3.out (fun q => HGG.out (Option.some.inj q))
        have e4 := GK.out.cell D4.out (fun q => HGG.out (Option.some.inj q))
        obtain ⟨T, hT⟩ : ∃ T, T = x.at_ % x.b.length := ⟨_, rfl⟩
        have hrem : (x.at_ : Int).tmod (x.b.length : Int) = (T : Int) := by rw [hT, Int.tmod_eq_emod_of_nonneg (by omega)]; simp
        have hTl : T < x.b.length := by rw [hT]; exact Nat.mod_lt _ (by omega)
        have hTi : IntKind.i64.wrap (T : Int) = (T : Int) := by rw [IntKind.wrap_i64]; omega
        have hn0 : ¬ (x.b.length : Int) = 0 := by omega
        have hn1 : ¬ x.b.length = 0 := by omega
        by_cases hkT : k = T
        · subst hkT
          have bk := BK.out
          have s1 : seenTo x k = x.b := by rw [hT]; exact seenTo_here x
          have s2 : seenTo x (k + 1) = x.b.set k (x.b.getD k 0 ^^^ x.by_) := by rw [hT]; exact seenTo_next x
          rw [s1] at bk
          have b1 : wr.drew.cell? ⟨G, k, none⟩ = some (.int .u8 ((x.b.getD k 0).toNat : Int)) := bk.cell k hlt
          have f1 : wr.drew.frozen? ⟨G, k, none⟩ = false := bk.free k hlt
          have BN : Hid (BRow (wr.drew.setCell ⟨G, k, none⟩ (.int .u8 ((x.b.getD k 0 ^^^ x.by_).toNat : Int))) w.heap.size G (seenTo x (k + 1))) := by
            have bd : BRow wr.drew w.heap.size G x.b := bk.of_heap rfl bk.base.2
            have := bd.set k hlt (x.b.getD k 0 ^^^ x.by_)
            rw [s2]
            exact this
          have GN : Hid (w2.grownBy (wr.drew.setCell ⟨G, k, none⟩ (.int .u8 ((x.b.getD k 0 ^^^ x.by_).toNat : Int))) (some G)) :=
            grown_trans' (grown_trans' GK.out (grown_of_below (Below.refl _ wr).drew (some G))) (grown_setCell _ _ _ _)
          have HTT := Lib.hid hT
          clear bk BK GK hT s1 s2
          generalize x.b.getD k 0 = u at *
          generalize x.by_ = y at *
          generalize hN : x.b.length = N at *
          clear hN
          have S0 : wr.drew.cell? ⟨R, 1, none⟩ = some (.slice (some ⟨g, o, none⟩) L.length c) ∧ wr.drew.cell? ⟨g, o + i * 5 + 4, none⟩ = some (.int .u8 (y.toNat : Int)) := ⟨e1, e4⟩
          have hKT : ((k : Int) == (k : Int)) = true := by simp
          generalize k = T at *
          go_wp2
          refine rg_last (m := 17) (S := fun w' => w'.cell? ⟨R, 1, none⟩ = some (.slice (some ⟨g, o, none⟩) L.length c) ∧ w'.cell? ⟨g, o + i * 5 + 4, none⟩ = some (.int .u8 (y.toNat : Int))) (by kernel_rfl) rfl ?_
          refine rgd_pure 0 (some 52) rfl rfl (.slice (some ⟨G, 0, none⟩) N cg) (by kernel_rfl) (by kernel_rfl) (by kernel_rfl) (fun _ _ _ _ h => h) (by kernel_rfl) (fun _ => by kernel_rfl) S0 ?_
          refine rgd_pure 1 (some 53) rfl rfl (.int .i64 (T : Int)) (by kernel_rfl) (by kernel_rfl) (by kernel_rfl) (fun _ _ _ _ h => h) (by kernel_rfl) (fun _ => by kernel_rfl) S0 ?_
          refine rgd_pure 2 (some 54) rfl rfl (.slice (some ⟨G, 0, none⟩) N cg) (by kernel_rfl) (by kernel_rfl) (by kernel_rfl) (fun _ _ _ _ h => h) (by kernel_rfl) (fun _ => by kernel_rfl) S0 ?_
          refine rgd_pure 3 (some 55) rfl rfl (.int .i64 (T : Int)) (by kernel_rfl) (by kernel_rfl) (by kernel_rfl) (fun _ _ _ _ h => h) (by kernel_rfl) (fun _ => by kernel_rfl) S0 ?_
          refine rgd_index 4 (some 56) rfl rfl (by kernel_rfl) (by kernel_rfl) (by kernel_rfl) (fun _ _ _ _ h => h) (by kernel_rfl) 30 _ _ rfl (by kernel_rfl) (fun w => by kernel_rfl) G 0 N cg T (by kernel_rfl) (by kernel_rfl) hlt S0 ?_
          rw [Nat.zero_add]
          refine rgd_pure 6 (some 58) rfl rfl (.pointer (some ⟨R, 0, none⟩)) (by kernel_rfl) (by kernel_rfl) (by kernel_rfl) (fun _ _ _ _ h => h) (by kernel_rfl) (fun _ => by kernel_rfl) S0 ?_
          refine rgd_pure 7 (some 59) rfl rfl (.pointer (some ⟨R, 0, none⟩)) (by kernel_rfl) (by kernel_rfl) (by kernel_rfl) (fun _ _ _ _ h => h) (by kernel_rfl) (fun _ => by kernel_rfl) S0 ?_
          refine rgd_pure 8 (some 60) rfl rfl (.pointer (some ⟨R, 1, none⟩)) (by kernel_rfl) (by kernel_rfl) (by kernel_rfl) (fun _ _ _ _ h => h) (by kernel_rfl) (fun _ => by kernel_rfl) S0 ?_
          refine rgd_load 9 (some 61) rfl rfl (by kernel_rfl) (by kernel_rfl) (by kernel_rfl) (fun _ _ _ _ h => h) (by kernel_rfl) _ _ rfl Try.underlying27 rfl ⟨R, 1, none⟩ (.slice (some ⟨g, o, none⟩) L.length c) (by kernel_rfl) (fun _ h => h.1) S0 ?_
          refine rgd_pure 10 (some 62) rfl rfl (.int .i64 (i : Int)) (by kernel_rfl) (by kernel_rfl) (by kernel_rfl) (fun _ _ _ _ h => h) (by kernel_rfl) (fun _ => by kernel_rfl) S0 ?_
          refine rgd_pure 11 (some 63) rfl rfl (.pointer (some ⟨g, o + i * 5, none⟩)) (by kernel_rfl) (by kernel_rfl) (by kernel_rfl) (fun _ _ _ _ h => h) (by kernel_rfl) (exec_idxP _ _ rfl g o L.length c i (by kernel_rfl) (by kernel_rfl) (by omega)) S0 ?_
          refine rgd_pure 12 (some 64) rfl rfl (.pointer (some ⟨g, o + i * 5 + 4, none⟩)) (by kernel_rfl) (by kernel_rfl) (by kernel_rfl) (fun _ _ _ _ h => h) (by kernel_rfl) (fun _ => by kernel_rfl) S0 ?_
          refine rgd_load 13 (some 65) rfl rfl (by kernel_rfl) (by kernel_rfl) (by kernel_rfl) (fun _ _ _ _ h => h) (by kernel_rfl) _ _ rfl Try.underlying5 rfl ⟨g, o + i * 5 + 4, none⟩ (.int .u8 (y.toNat : Int)) (by kernel_rfl) (fun _ h => h.2) S0 ?_
          refine rgd_run 5 (some 57) (by kernel_rfl) rfl rfl (by kernel_rfl) (.int .u8 (u.toNat : Int)) wr.drew (exec_load1 _ _ rfl Try.underlying5 rfl _ _ (by kernel_rfl) b1) S0 ?_
          refine rgd_pure 14 (some 66) rfl rfl (.int .u8 ((u ^^^ y).toNat : Int)) (by kernel_rfl) (by kernel_rfl) (by kernel_rfl) (fun _ _ _ _ h => h) (by kernel_rfl) (exec_xor8 _ _ _ _ rfl u y (by kernel_rfl) (by kernel_rfl)) S0 ?_
          refine rgd_index 15 (some 67) rfl rfl (by kernel_rfl) (by kernel_rfl) (by kernel_rfl) (fun _ _ _ _ h => h) (by kernel_rfl) 30 _ _ rfl (by kernel_rfl) (fun w => by kernel_rfl) G 0 N cg T (by kernel_rfl) (by kernel_rfl) hlt S0 ?_
          rw [Nat.zero_add]
          refine rgd_do 16 none (by kernel_rfl) rfl rfl (by kernel_rfl) _ (exec_storeI _ _ _ rfl size5 ⟨G, T, none⟩ .u8 ((u ^^^ y).toNat : Int) _ (by kernel_rfl) (by kernel_rfl) b1 f1) ⟨?_, ?_⟩ ?_
          · exact (World.cell?_of_block (w := wr.drew) (Below.heap_setCell wr.drew ⟨G, T, none⟩ _ R HRG.out)).trans S0.1
          · exact (World.cell?_of_block (w := wr.drew) (Below.heap_setCell wr.drew ⟨G, T, none⟩ _ g HGG.out)).trans S0.2
          rename_i Q1 hK1
          refine wpAnyH_done (by kernel_rfl) ?_ _
          simp only [Exit.then, Exit.inBlock]
          refine hK1 _ _ ?_
          simp only [Act.put, List.setIfInBounds_toArray, List.set_cons_zero, List.set_cons_succ]
          clear S0 b1 f1 e1 e3 e4
          go_wp2
          go_roundw
          case rel => exact ⟨T + 1, by omega, by go_num, BN.out, GN.out⟩
          case measure => simp [intOf]; omega
        · have hkT2 : ((k : Int) == (T : Int)) = false := by simp; omega
          have BN : Hid (BRow wr w.heap.size G (seenTo x (k + 1))) := by rw [seenTo_other x k (by rw [← hT]; exact hkT)]; exact BK.out
          clear hT
          go_wp2
          go_roundw
          case rel => exact ⟨k + 1, by omega, by go_num, BN.out, GK.out⟩
          case measure => simp [intOf]; omega
      · obtain rfl : k = x.b.length := by omega
        have R1 : Hid (PeekR L (f, t) K w (.returned (.tuple #[.slice (some ⟨G, 0, none⟩) x.b.length cg, .int .i64 0])) wr) := by
          have h1 := BK.out.lies
          rw [seenTo_end] at h1
          have h2 := GK.out
          refine ⟨B2.out.trans ((Below.refl w.heap.size w2).grown h2 hG (fun q hq => by obtain rfl := Option.some.inj hq; exact BK.out.base.1)), .inr ⟨x, _, cg, hK0, HX.out, rfl, h1, HCG.out, fun q => by cases q⟩⟩
        go_wp2
        go_ret2
        exact R1.out
  · clear H FI WY
    go_wp2
    go_ret2
    exact ⟨B1.out, .inl ⟨rfl, hKo⟩⟩
end Go.Proofs.Ytfdiclamjgldnaa
