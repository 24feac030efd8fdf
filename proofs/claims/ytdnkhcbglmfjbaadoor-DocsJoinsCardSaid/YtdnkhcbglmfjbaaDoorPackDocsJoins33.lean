/- The statement DocsJoins, proved for every input that its row reads: part 33 of 54. -/
import Derived.Test.YtdnkhcbglmfjbaaDoorPackDocsJoins32
import Derived.Test.YtdnkhcbglmfjbaaDoorPackDocsJoins30
/- docs.left: the writes of a state that another one has, too, or does not know. -/
namespace Go.Proofs.YtdnkhcbglmfjbaaDoor
open Go Go.RowKit
set_option linter.unusedVariables false
set_option maxRecDepth 1000000

/-- what left's closure looks at: a map in a cell, and a state -/
def LeftIn (H r G : Nat) (M : List Wr) (F : Nat → Int) (v : Value) (w : World) : Prop := WSet w r M ∧ w.cell? ⟨H, 0, none⟩ = some (.map (some r)) ∧ Sx w G F v
theorem LeftIn.later {H r G : Nat} {M : List Wr} {F : Nat → Int} {v : Value} {w w' : World} (h : LeftIn H r G M F v w) (hb : Below w.heap.size w w') : LeftIn H r G M F v w' := ⟨h.1.later hb, cell_hold2 h.2.1 hb, h.2.2.later hb⟩
noncomputable def leftGoes (M : List Wr) (F : Nat → Int) (y : Wr) : Bool := !inW M y && hasB F y.rep y.n
set_option maxHeartbeats 1000000 in
theorem left_tell (H r G : Nat) (M : List Wr) (F : Nat → Int) (v : Value) (y : Wr) (w : World) (h : LeftIn H r G M F v w) : Calls Tryd.prog 40 #[.agg y.cells.toArray, .pointer (some ⟨H, 0, none⟩), .pointer (some ⟨G, 0, none⟩)] w (RetBool w (leftGoes M F y)) := by
  obtain ⟨b, hb⟩ : ∃ b, inW M y = b := ⟨_, rfl⟩
  obtain ⟨c, hc⟩ : ∃ c, hasB F y.rep y.n = c := ⟨_, rfl⟩
  have HS := Lib.hid (fun V : World => has_is F y.rep y.n V)
  rw [hc] at HS
  have e1 : leftGoes M F y = (!b && c) := by unfold leftGoes; rw [hb, hc]
  rw [e1]
  have LK : Hid (∀ V : World, LeftIn H r G M F v V → (Instr.lookup 68 (.map (some r)) (.agg y.cells.toArray) true).run Tryd.prog V = .ok (.tuple #[.agg #[], .bool b]) V) := Lib.hid fun V hV => by have := run_wlook hV.1 y; rw [hb] at this; exact this
  have H0 := Lib.hid h
  clear h hb hc e1
  go_enter Tryd.func40, Tryd.ntmps40
  go_wp2_with (refine wpList_gbox rfl _ rfl y.cells.toArray rfl ?_)
  intro g w1 l1 h1 hb1
  have L1 := Lib.hid (H0.out.later hb1); have B1 := Lib.hid hb1; have Y1 := Lib.hid (range_of_block h1)
  have m1 := L1.out.2.1
  have lk := LK.out w1 L1.out
  clear h1 hb1
  obtain ⟨k0, k1, k2, k3, k4, k5⟩ := wr_cells Y1.out
  simp only [Nat.zero_add] at k0 k1 k2 k3 k4 k5
  obtain ⟨yr, yn, yt, yd, yf, yx⟩ := y
  simp only at k0 k1 k2 k3 k4 k5
  have lk2 : (Instr.lookup 68 (.map (some r)) (.agg #[.int .i64 yr, .int .i64 yn, .int .i64 yt, .string yd, .int .i64 yf, .string yx]) true).run Tryd.prog w1 = .ok (.tuple #[.agg #[], .bool b]) w1 := lk
  clear lk
  have SV : Hid (∀ V : World, Below w1.heap.size w1 V → V.rangeAt G 0 (vf F).toList) := Lib.hid fun V hV => (L1.out.2.2.later hV).vec
  have j0 := cell_hold2 k0 (below_alloc w1 (.cells #[] 69))
  have j1 := cell_hold2 k1 (below_alloc w1 (.cells #[] 69))
  cases b with
  | true =>
    go_wp2
    go_ret
    exact ⟨rfl, thenBelow B1.out (below_alloc _ _)⟩
  | false =>
    go_wp2_with (refine wpList_gloadG (by rfl) _ rfl G 0 rfl _ (SV.out _ (below_alloc _ _)) _ Tryd.underlying23 rfl (sizeVcl F) ?_)
    refine (HS.out _).mono ?_
    rintro e w2 ⟨rfl, hb2⟩
    have B2 := Lib.hid (thenBelow B1.out (thenBelow (below_alloc _ _) hb2))
    clear hb2
    go_wp2
    go_ret
    exact ⟨rfl, B2.out⟩
theorem left_enter (args : Array Value) (w : World) : (callFunc 40 args).run Tryd.prog w = .ok (.enter 40 args) w := by kernel_rfl
theorem left_tells (H r G : Nat) (M : List Wr) (F : Nat → Int) (v : Value) (B : Nat) (w0 : World) (h : LeftIn H r G M F v w0) (hB : B = w0.heap.size) : TellW 40 #[.pointer (some ⟨H, 0, none⟩), .pointer (some ⟨G, 0, none⟩)] (leftGoes M F) B (fun w => Below B w0 w) where
  enter := left_enter
  tell := fun y w hw => left_tell H r G M F v y w (by subst hB; exact h.later hw)
  keep := fun w w' h1 h2 => h1.trans h2
/-- the writes of L that another state, of writes M that knows F, has, too, or does not know -/
noncomputable def leftW (L M : List Wr) (F : Nat → Int) : List Wr := L.filter (fun x => !leftGoes M F x)
set_option maxHeartbeats 4000000 in
theorem left_is (F0 : Nat → Int) (p : Option Addr) (c : Nat) (L : List Wr) (F : Nat → Int) (q : Option Addr) (d : Nat) (M : List Wr) (w : World) (h : WrsAt w p L) (ho : ∀ a, p = some a → ∃ b o, a = ⟨b, o, none⟩) (hn : L.length ≤ 10000) (h2 : WrsAt w q M) (hn2 : M.length ≤ 10000) :
    Calls Tryd.prog 18 #[.agg (scs F0 (.slice p L.length c)), .agg (scs F (.slice q M.length d))] w (LeftW w (leftW L M F)) := by
  have HW := Lib.hid h; have HP := Lib.hid ho; have HM := Lib.hid h2
  clear h ho h2
  go_enter Tryd.func18, Tryd.ntmps18
  go_wp2_with (refine wpList_gbox rfl _ rfl (scs F0 (.slice p L.length c)) rfl ?_)
  intro g2 w1 l2 h2 hb1
  have S1 : Hid (Sx w1 g2 F0 (.slice p L.length c)) := Lib.hid h2
  have B1 := Lib.hid hb1
  clear h2 hb1
  go_wp2_with (refine wpList_gbox rfl _ rfl (scs F (.slice q M.length d)) rfl ?_)
  intro g3 w2 l3 h3 hb2
  have S2 := Lib.hid (S1.out.later hb2); have B2 := Lib.hid (thenBelow B1.out hb2)
  have T2 : Hid (Sx w2 g3 F (.slice q M.length d)) := Lib.hid h3
  clear h3 hb2 S1
  have hmm : (Instr.makeMap 68 none).run Tryd.prog w2 = .ok (.map (some w2.heap.size)) (w2.alloc (.map #[] 0)) := by
    unfold Instr.makeMap
    simp only [Sem.run_bind, run_underlying Tryd.underlying68, Result.andThen_ok]
    rfl
  have b3 : Below w2.heap.size w2 ((w2.alloc (.map #[] 0)).alloc (.cells #[.map (some w2.heap.size)] 68)) := thenBelow (below_alloc _ _) (below_alloc _ _)
  have s3 := (T2.out.later b3).slot
  have L3 : Hid (LeftIn (w2.heap.size + 1) w2.heap.size g3 (M.take 0) F (.slice q M.length d) ((w2.alloc (.map #[] 0)).alloc (.cells #[.map (some w2.heap.size)] 68))) := Lib.hid ⟨(wset_new w2).later (below_alloc _ _), by
    have h1 := heap_alloc_new (w2.alloc (.map #[] 0)) (.cells #[.map (some w2.heap.size)] 68)
    rw [show (w2.alloc (.map #[] 0)).heap.size = w2.heap.size + 1 by simp] at h1
    exact cell_of_row _ _ 0 _ _ _ h1, T2.out.later b3⟩
  have B3 := Lib.hid b3
  clear b3
  go_wp2_with fail
  clear s3 hmm
  generalize ((w2.alloc (.map #[] 0)).alloc (.cells #[.map (some w2.heap.size)] 68)) = w3 at L3 B3 ⊢
  have hH : w2.heap.size ≠ w2.heap.size + 1 := by omega
  obtain ⟨r, hr⟩ : ∃ r, w2.heap.size = r := ⟨_, rfl⟩
  rw [hr] at L3 hH ⊢
  obtain ⟨H, hHH⟩ : ∃ H, r + 1 = H := ⟨_, rfl⟩
  rw [hHH] at L3 hH ⊢
  have hrr : w2.heap.size ≤ r := by omega
  have lg3 := T2.out.lt
  have hg3r : g3 ≠ r := by omega
  clear hr hHH
  go_loopw [12] (fun i wr => ∃ j : Nat, j ≤ M.length ∧ i = .int .i64 j ∧ Hid (LeftIn H r g3 (M.take j) F (.slice q M.length d) wr) ∧ Hid (Below w2.heap.size w2 wr)) (fun i _ => M.length - (intOf i).toNat)
  case atStart => exact ⟨0, Nat.zero_le _, rfl, L3, B3⟩
  case round =>
    obtain ⟨j, hj, rfl, LL, BB⟩ := hrel
    clear L3 B3
    by_cases hjl : j < M.length
    · have hjl' : (j : Int) < M.length := by omega
      obtain ⟨b, o, rfl, hlt, hr⟩ := (HM.out.below (thenBelow B2.out BB.out)).at hjl
      obtain ⟨k0, k1, k2, k3, k4, k5⟩ := wr_cells hr
      have TK : Hid (M.take (j + 1) = M.take j ++ [M[j]]) := Lib.hid (List.take_succ_eq_append_getElem hjl)
      clear hr hlt
      obtain ⟨y, hy⟩ : ∃ y, M[j] = y := ⟨_, rfl⟩
      rw [hy] at k0 k1 k2 k3 k4 k5 TK
      clear hy
      obtain ⟨yr, yn, yt, yd, yf, yx⟩ := y
      simp only at k0 k1 k2 k3 k4 k5
      have b7 := below_alloc wr (.cells #[.int .i64 yr, .int .i64 yn, .int .i64 yt, .string yd, .int .i64 yf, .string yx] 34)
      have L7 := LL.out.later b7
      have c7 := L7.2.1
      obtain ⟨w8, hu, d8, g8⟩ := run_wput L7.1 ⟨yr, yn, yt, yd, yf, yx⟩
      have hu' : (Instr.mapUpdate 68 (.map (some r)) (.agg #[.int .i64 yr, .int .i64 yn, .int .i64 yt, .string yd, .int .i64 yf, .string yx]) (.agg #[])).run Tryd.prog (wr.alloc (.cells #[.int .i64 yr, .int .i64 yn, .int .i64 yt, .string yd, .int .i64 yf, .string yx] 34)) = .ok () w8 := hu
      have B7 := thenBelow BB.out b7
      have B8 := Lib.hid (B7.trans (grown_below g8 B7.size hrr))
      have L8 : Hid (LeftIn H r g3 (M.take (j + 1)) F (.slice (some ⟨b, o, none⟩) M.length d) w8) := Lib.hid ⟨by rw [TK.out]; exact d8, g8.cell c7 (by simp; omega), L7.2.2.kept g8 (by simp; omega)⟩
      clear b7 hu d8 g8 L7 B7
      go_wp2
      go_roundw
      case rel => exact ⟨j + 1, by omega, by go_num, L8, B8⟩
      case measure => simp [intOf]; omega
    · obtain rfl : j = M.length := by omega
      have hjl' : ¬ ((M.length : Nat) : Int) < M.length := by omega
      rw [List.take_length] at LL
      have s2 := (S2.out.later BB.out).slot
      have WO := Lib.hid (withoutW_is 40 #[.pointer (some ⟨H, 0, none⟩), .pointer (some ⟨g3, 0, none⟩)] (leftGoes M F) (fun U => Below wr.heap.size wr U) p c L wr (left_tells H r g3 M F _ wr.heap.size wr LL.out rfl) (Below.refl _ _) (HW.out.below (thenBelow B2.out BB.out)) HP.out hn)
      go_wp2_with fail
      refine WO.out.mono ?_
      rintro e w9 ⟨v9, rfl, o9, b9⟩
      have B9 := Lib.hid (thenBelow (thenBelow B2.out BB.out) b9)
      have O9 := Lib.hid (own_base o9 (thenBelow B2.out BB.out).size)
      clear o9 b9 s2
      go_wp2
      go_ret
      exact ⟨_, rfl, O9.out, B9.out⟩
end Go.Proofs.YtdnkhcbglmfjbaaDoor
/- docs.once: writes, each where it stands first. -/
namespace Go.Proofs.YtdnkhcbglmfjbaaDoor
open Go Go.RowKit
set_option linter.unusedVariables false
set_option maxRecDepth 1000000

noncomputable def onceStep (acc : List Wr) (x : Wr) : List Wr := if inW acc x then acc else acc ++ [x]
noncomputable def onceW (L : List Wr) : List Wr := L.foldl onceStep []
theorem onceW_snoc (L : List Wr) (x : Wr) : onceW (L ++ [x]) = onceStep (onceW L) x := by simp [onceW, List.foldl_append]
theorem onceStep_len (acc : List Wr) (x : Wr) : (onceStep acc x).length ≤ acc.length + 1 := by unfold onceStep; split <;> simp
theorem wcl_snoc1 (l : List Wr) (x : Wr) : wcl (l ++ [x]) = wcl l ++ x.cells := by rw [wcl_append]; simp [wcl]
set_option maxHeartbeats 4000000 in
theorem once_is (q : Option Addr) (d : Nat) (L : List Wr) (w : World) (h : WrsAt w q L) (hn : L.length ≤ 10000) :
    Calls Tryd.prog 16 #[.slice q L.length d] w (LeftW w (onceW L)) := by
  have HM := Lib.hid h
  clear h
  have hmm : (Instr.makeMap 68 none).run Tryd.prog w = .ok (.map (some w.heap.size)) (w.alloc (.map #[] 0)) := by
    unfold Instr.makeMap
    simp only [Sem.run_bind, run_underlying Tryd.underlying68, Result.andThen_ok]
    rfl
  go_enter Tryd.func16, Tryd.ntmps16
  have D3 := Lib.hid (wset_new w)
  have B3 := Lib.hid (below_alloc w (.map #[] 0))
  have hsz : (w.alloc (.map #[] 0)).heap.size = w.heap.size + 1 := by simp
  go_wp2_with fail
  clear hmm
  generalize w.alloc (.map #[] 0) = w3 at D3 B3 hsz ⊢
  obtain ⟨r, hr⟩ : ∃ r, w.heap.size = r := ⟨_, rfl⟩
  rw [hr] at D3 hsz ⊢
  have hrr : w.heap.size ≤ r := by omega
  clear hr
  go_loopw [4, 12] (fun v i wr => ∃ (j : Nat) (K : List Wr), j ≤ L.length ∧ i = .int .i64 j ∧ Hid (K = onceW (L.take j)) ∧ K.length ≤ j ∧ Hid (WSet wr r K) ∧ Hid (wr.ownsRow (r + 1) 34 6 v K.length (wcl K)) ∧ Hid (Below w.heap.size w wr)) (fun _ i _ => L.length - (intOf i).toNat)
  case atStart => exact ⟨0, [], Nat.zero_le _, rfl, Lib.hid rfl, Nat.le_refl _, D3, Lib.hid ⟨rfl, .inl ⟨rfl, rfl⟩⟩, B3⟩
  case round =>
    obtain ⟨j, K, hj, rfl, HK, hKj, DS, OK, BB⟩ := hrel
    clear D3 B3
    obtain ⟨p4, c4, rfl⟩ := own_slice OK.out
    have hrl := DS.out.lt
    by_cases hjl : j < L.length
    · have hjl' : (j : Int) < L.length := by omega
      obtain ⟨b, o, rfl, hlt, hr⟩ := (HM.out.below BB.out).at hjl
      obtain ⟨k0, k1, k2, k3, k4, k5⟩ := wr_cells hr
      have TK : Hid (L.take (j + 1) = L.take j ++ [L[j]]) := Lib.hid (List.take_succ_eq_append_getElem hjl)
      clear hr hlt
      obtain ⟨y, hy⟩ : ∃ y, L[j] = y := ⟨_, rfl⟩
      rw [hy] at k0 k1 k2 k3 k4 k5 TK
      clear hy
      obtain ⟨bz, hbz⟩ : ∃ q, inW K y = q := ⟨_, rfl⟩
      have KN : Hid (onceW (L.take (j + 1)) = if bz then K else K ++ [y]) := Lib.hid (by rw [TK.out, onceW_snoc, ← HK.out, onceStep, hbz])
      have HBZ := Lib.hid hbz
      obtain ⟨yr, yn, yt, yd, yf, yx⟩ := y
      simp only at k0 k1 k2 k3 k4 k5
      have b7 := below_alloc wr (.cells #[.int .i64 yr, .int .i64 yn, .int .i64 yt, .string yd, .int .i64 yf, .string yx] 34)
      have D7 := DS.out.later b7
      have lk0 := run_wlook D7 ⟨yr, yn, yt, yd, yf, yx⟩
      rw [hbz] at lk0
      have lk : (Instr.lookup 68 (.map (some r)) (.agg #[.int .i64 yr, .int .i64 yn, .int .i64 yt, .string yd, .int .i64 yf, .string yx]) true).run Tryd.prog (wr.alloc (.cells #[.int .i64 yr, .int .i64 yn, .int .i64 yt, .string yd, .int .i64 yf, .string yx] 34)) = .ok (.tuple #[.agg #[], .bool bz]) (wr.alloc (.cells #[.int .i64 yr, .int .i64 yn, .int .i64 yt, .string yd, .int .i64 yf, .string yx] 34)) := lk0
      have b8 := below_alloc (wr.alloc (.cells #[.int .i64 yr, .int .i64 yn, .int .i64 yt, .string yd, .int .i64 yf, .string yx] 34)) (.cells #[] 69)
      have b78 := thenBelow b7 b8
      have D8 := D7.later b8
      have O8 := Lib.hid (own_later OK.out b78)
      clear hbz TK lk0
      cases bz with
      | true =>
        have B8 := Lib.hid (thenBelow BB.out b78)
        have DD := Lib.hid D8
        have KN2 : Hid (K = onceW (L.take (j + 1))) := Lib.hid (by rw [KN.out]; rfl)
        clear b7 b8 b78 D7 D8
        go_wp2
        go_roundw
        case rel => exact ⟨j + 1, K, by omega, by go_num, KN2, by omega, DD, O8, B8⟩
        case measure => simp [intOf]; omega
      | false =>
        obtain ⟨w8, hu, d8, g8⟩ := run_wput D8 ⟨yr, yn, yt, yd, yf, yx⟩
        have hu' : (Instr.mapUpdate 68 (.map (some r)) (.agg #[.int .i64 yr, .int .i64 yn, .int .i64 yt, .string yd, .int .i64 yf, .string yx]) (.agg #[])).run Tryd.prog ((wr.alloc (.cells #[.int .i64 yr, .int .i64 yn, .int .i64 yt, .string yd, .int .i64 yf, .string yx] 34)).alloc (.cells #[] 69)) = .ok () w8 := hu
        have B9 := Lib.hid ((thenBelow BB.out b78).trans (grown_below g8 (thenBelow BB.out b78).size hrr))
        have DD := Lib.hid d8
        have O9 : Hid (w8.ownsRow (r + 1) 34 6 (.slice p4 K.length c4) K.length (wcl K)) := Lib.hid (own_blk O8.out fun b hb => by
          obtain ⟨h1, h2⟩ := O8.out.lt b hb
          exact g8.block b h2 (by simp; omega))
        have hz8 : r + 1 ≤ w8.heap.size := by have := d8.lt; omega
        have ne8 : Hid (∀ b, (Value.slice p4 K.length c4).ownBlock = some b → b ≠ r) := Lib.hid fun b hb => by have := (O9.out.lt b hb).1; omega
        have z8 : wr.heap.size < w8.heap.size := by have h1 := g8.size; simp at h1; omega
        have x8 := fun (k : Nat) (v : Value) (hk : wr.heap.size ≠ r) (h1 : ((wr.alloc (.cells #[.int .i64 yr, .int .i64 yn, .int .i64 yt, .string yd, .int .i64 yf, .string yx] 34)).alloc (.cells #[] 69)).cell? ⟨wr.heap.size, k, none⟩ = some v) => g8.cell h1 (by simpa using hk)
        have hkr : wr.heap.size ≠ r := by omega
        have X8 : Hid (w8.rangeAt wr.heap.size 0 (Wr.cells ⟨yr, yn, yt, yd, yf, yx⟩)) := Lib.hid fun k v hv => by
          have h1 := range_below (range_of_block (heap_alloc_new wr (.cells #[.int .i64 yr, .int .i64 yn, .int .i64 yt, .string yd, .int .i64 yf, .string yx] 34))) b8 k v hv
          rw [Nat.zero_add] at h1 ⊢
          exact x8 k v hkr h1
        obtain ⟨m0, m1, m2, m3, m4, m5⟩ := wr_cells X8.out
        simp only [Nat.zero_add] at m0 m1 m2 m3 m4 m5
        have KN2 : Hid (K ++ [⟨yr, yn, yt, yd, yf, yx⟩] = onceW (L.take (j + 1))) := Lib.hid (by rw [KN.out]; rfl)
        clear b7 b8 b78 D7 D8 hu d8 g8 x8
        go_wp2_with (refine wpList_wr _ rfl _ _ rfl (r + 1) K.length _ _ rfl O9.out ⟨yr, yn, yt, yd, yf, yx⟩ rfl (by omega) hz8 ?_)
        intro v9 w9 o9 g9
        have B10 := Lib.hid (B9.out.trans ((Below.refl w.heap.size w8).grown g9 (by omega) (fun k hk => by have := (O9.out.lt k hk).1; omega)))
        have D10 := Lib.hid (DD.out.kept g9 (fun e => ne8.out r e.symm rfl))
        have O10 : Hid (w9.ownsRow (r + 1) 34 6 v9 (K ++ [(⟨yr, yn, yt, yd, yf, yx⟩ : Wr)]).length (wcl (K ++ [(⟨yr, yn, yt, yd, yf, yx⟩ : Wr)]))) := Lib.hid (by rw [wcl_snoc1, List.length_append]; exact o9)
        clear o9 g9
        go_wp2
        go_roundw
        case rel => exact ⟨j + 1, _, by omega, by go_num, KN2, by rw [List.length_append]; simp; omega, D10, O10, B10⟩
        case measure => simp [intOf]; omega
    · obtain rfl : j = L.length := by omega
      have hjl' : ¬ ((L.length : Nat) : Int) < L.length := by omega
      rw [List.take_length] at HK
      go_wp2
      go_ret
      exact ⟨_, rfl, by rw [← HK.out]; exact own_base OK.out (by omega), BB.out⟩
end Go.Proofs.YtdnkhcbglmfjbaaDoor
