/- Write of any page that is there, of a device whose power is on: any bytes, none too. (genpgwr2.py writes it) -/
import Derived.Test.YtfgjcgonlpbdbaaPgWr
import Derived.Laws.IdiomCopy
namespace Go.Proofs.Ytfgjcgonlpbdbaa
open Go Go.RowKit
set_option linter.unusedVariables false

theorem setRow_self (w : World) (g : Nat) (cs : Array Value) (t : TypeId) (h : w.heap[g]? = some (.cells cs t (0, 0))) : w.setRow g cs = w := by
  obtain ⟨hg, he⟩ := Array.getElem?_eq_some_iff.1 h
  have e : (w.setRow g cs).heap = w.heap := by
    unfold World.setRow
    apply Array.ext
    · simp
    · intro i h1 h2
      simp only []
      rw [Array.getElem_modify]
      by_cases q : g = i
      · subst q; rw [if_pos rfl, he]
      · rw [if_neg q]
  have e2 : w.setRow g cs = { w with heap := (w.setRow g cs).heap } := rfl
  rw [e2, e]
theorem copy_pad (w : World) (g : Nat) (bp : Option Addr) (bc : Nat) (bs : List UInt8) (ty : TypeId) (hl : Lies w bp bs) (hlen : bs.length ≤ 128) (hg : w.heap[g]? = some (.cells Try.zeroCells69 69 (0, 0))) :
    (Builtin.copy_ #[31, 31] ty #[.slice (some ⟨g, 0, none⟩) 128 128, .slice bp bs.length bc]).run Try.prog w = .ok (goInt bs.length) (w.setRow g (bys (padded bs)).toArray) := by
  by_cases h0 : bs = []
  · subst h0
    have e : (bys (padded [])).toArray = Try.zeroCells69 := by kernel_rfl
    rw [e, setRow_self w g _ _ hg]
    exact run_copy_none w _ _ _ 5 _ _ _ _ _ _ Try.underlying31 (by kernel_rfl) (by simp)
  · obtain ⟨b, o, rfl, hc⟩ := hl h0
    rw [run_copy_row (P := Try.prog) w _ _ _ 5 g 0 128 128 ⟨b, o, none⟩ bs.length bc _ _ (bys bs) Try.underlying31 (by kernel_rfl) hg ?_ ?_ ?_ ?_]
    · have hcs : ((Try.zeroCells69).toList.take 0 ++ bys bs ++ (Try.zeroCells69).toList.drop (0 + (bys bs).length)).toArray = (bys (padded bs)).toArray := by
        rw [show (Try.zeroCells69).toList = List.replicate 128 (.int .u8 0) from by kernel_rfl]
        rw [pad_cells]; rfl
      rw [hcs, bys_length]
    · rw [bys_length]; exact (Nat.min_eq_left hlen).symm
    · intro j v hv
      obtain ⟨hj, he⟩ := List.getElem?_eq_some_iff.1 hv
      rw [bys_length] at hj
      have := hc j hj
      rw [Addr.add_mid, this, ← he]
      simp [bys, List.getD, hj]
    · rw [bys_length, Nat.zero_add]; exact hlen
    · intro v hv
      obtain ⟨x, -, rfl⟩ := List.mem_map.1 hv
      rfl
set_option maxHeartbeats 4000000 in
set_option maxRecDepth 100000 in
theorem write_absent0 (T D P M n : Nat) (pg old : Nat → List UInt8) (lo : List (Nat × Nat)) (c : Nat) (dead : Bool) (fuse : Int) (i : Nat) (bp : Option Addr) (bc : Nat) (bs : List UInt8) (w : World) (h : Dk w D P M n pg dead fuse) (hw : Was w M n old lo c) (had : actD dead fuse = false) (hi : i < n) (hb : Lies w bp bs) (hnb : ∀ b o, bp = some ⟨b, o, none⟩ → some b ≠ some D) (hlen : bs.length ≤ 128) (hT : T ≤ D ∧ T ≤ P ∧ T ≤ M) (hTw : T ≤ w.heap.size) (hn0 : ¬ inW lo i) :
    Calls Try.prog 14 #[.pointer (some ⟨D, 0, none⟩), .int .i64 i, .slice bp bs.length bc] w (WroteG T w D P M n pg old lo c (actF dead fuse) i bs) := by
  have MD := Lib.hid (made_is _ n w h.sized h.pos.1)
  have WI := Lib.hid (within_is _ n i w h.sized true (by simp; omega))
  have AC := Lib.hid (act_all D P M n pg dead fuse w h)
  unfold Acted at AC
  rw [had] at AC
  simp only [Bool.false_eq_true, if_false] at AC
  generalize actF dead fuse = f1 at AC ⊢
  have hDM : some M ≠ some D := fun e => h.ne.2.1 (Option.some.inj e).symm
  have HW := Lib.hid hw; have HB0 := Lib.hid hb; have NB := Lib.hid hnb
  have hpl := h.len i hi
  have hl : ∀ e ∈ wasL old lo, e.1 ≠ (i : Int) := wasL_key fun e he q => hn0 ⟨e, he, by omega⟩
  have hlen' : ¬ (bs.length : Int) > 128 := by omega
  have HLE := Lib.hid hlen; have HTT := Lib.hid hT
  clear h hw hb hlen hT hnb had
  go_enter Try.func14, Try.ntmps14
  go_wp2_with fail
  refine MD.out.mono ?_
  rintro e w' ⟨rfl, rfl⟩
  clear MD
  go_wp2_with fail
  refine WI.out.mono ?_
  rintro e w' ⟨rfl, rfl⟩
  clear WI
  go_wp2_with fail
  refine AC.out.mono ?_
  rintro e w1 ⟨rfl, hdk, hg⟩
  have H := Lib.hid hdk
  have WS := Lib.hid (HW.out.at (hg.block M HW.out.mlt hDM))
  have BW := Lib.hid ((Below.refl T w).grown hg hTw (fun k hk => by cases hk; exact HTT.out.1))
  have HB := Lib.hid (HB0.out.kept2 hg (fun b o e => NB.out b o e))
  obtain ⟨c0, c1, c2, c3⟩ := d_cells hdk.obj
  have hz1 := hg.size
  clear AC hdk hg
  go_wp2_with fail
  have hTw1 : T ≤ w1.heap.size := Nat.le_trans hTw hz1
  rw [run_lookup_absent Try.underlying54 keyI (zeroPgV w1) WS.out.map i hl]
  rw [Result.andThen_ok, Oper.upon_value]
  rename_i hK
  refine hK _ _ ?_
  clear hK
  refine wpList_val rfl (.tuple #[.agg zeroCells8, .bool false]) w1 (by kernel_rfl) ?_
  refine wpList_val rfl (.agg zeroCells8) w1 (by kernel_rfl) ?_
  refine wpList_val rfl (.bool false) w1 (by kernel_rfl) ?_
  have A1 : Below w1.heap.size w1 (w1.alloc (.cells zeroCells8 69)) := (Below.refl _ _).alloc (Nat.le_refl _) _
  have H1 := heap_alloc_new w1 (.cells zeroCells8 69)
  refine wpList_val rfl (.pointer (some ⟨w1.heap.size, 0, none⟩)) (w1.alloc (.cells zeroCells8 69)) (by kernel_rfl) ?_
  generalize hw1 : w1.alloc (.cells zeroCells8 69) = wa at A1 H1 ⊢
  refine wpList_store_mid rfl 69 _ _ rfl w1.heap.size 0 zeroCells8 (by kernel_rfl) (by kernel_rfl) ?_ sizePg (by kernel_rfl) ?_
  · intro j hj
    have : wa.heap[w1.heap.size]? = some (.cells zeroCells8 69 (0, 0)) := H1
    constructor
    · rw [cell_of_row wa w1.heap.size (0 + j) _ _ _ this, Array.getElem?_eq_getElem (by rw [Nat.zero_add]; exact hj)]
      rfl
    · unfold World.frozen?
      simp [this]
  have A2 : Below w1.heap.size w1 (wa.setCells w1.heap.size 0 zeroCells8.toList) := below_setCells _ (Nat.le_refl _) _ _ _ _ A1
  generalize wa.setCells w1.heap.size 0 zeroCells8.toList = w2 at A2 ⊢
  refine wpList_val rfl (.bool false) w2 (by kernel_rfl) ?_
  refine wpList_nil ?_
  go_wp2_with fail
  have D2 := H.out.below A2
  have M2 : w2.drew.heap[M]? = some (.map (ents (wasL old lo)).toArray c) := (A2.block M (Array.getElem?_eq_some_iff.1 WS.out.map).1).trans WS.out.map
  obtain ⟨-, ne1, ne2⟩ := H.out.ne
  refine rg_start (n := 13) (S := fun w' => Dk w' D P M n pg false f1) (by kernel_rfl) rfl D2.drew ?_
  refine rgd_pure 0 (some 41) rfl rfl (.pointer (some ⟨D, 0, none⟩)) (by kernel_rfl) (by kernel_rfl) (by kernel_rfl) (fun _ _ _ _ h => h) (by kernel_rfl) (fun _ => by kernel_rfl) D2.drew ?_
  refine rgd_pure 1 (some 42) rfl rfl (.pointer (some ⟨D, 0, none⟩)) (by kernel_rfl) (by kernel_rfl) (by kernel_rfl) (fun _ _ _ _ h => h) (by kernel_rfl) (fun _ => by kernel_rfl) D2.drew ?_
  refine rgd_pure 2 (some 43) rfl rfl (.pointer (some ⟨D, 3, none⟩)) (by kernel_rfl) (by kernel_rfl) (by kernel_rfl) (fun _ _ _ _ h => h) (by kernel_rfl) (fun _ => by kernel_rfl) D2.drew ?_
  refine rgd_load 3 (some 44) rfl rfl (by kernel_rfl) (by kernel_rfl) (by kernel_rfl) (fun _ _ _ _ h => h) (by kernel_rfl) _ _ rfl Try.underlying54 rfl ⟨D, 3, none⟩ (.map (some M)) (by kernel_rfl) (fun w1 h => (d_cells h.obj).2.2.2) D2.drew ?_
  refine rgd_pure 4 (some 45) rfl rfl (.int .i64 (i : Int)) (by kernel_rfl) (by kernel_rfl) (by kernel_rfl) (fun _ _ _ _ h => h) (by kernel_rfl) (fun _ => by kernel_rfl) D2.drew ?_
  refine rgd_pure 5 (some 46) rfl rfl (.pointer (some ⟨D, 0, none⟩)) (by kernel_rfl) (by kernel_rfl) (by kernel_rfl) (fun _ _ _ _ h => h) (by kernel_rfl) (fun _ => by kernel_rfl) D2.drew ?_
  refine rgd_pure 6 (some 47) rfl rfl (.pointer (some ⟨D, 0, none⟩)) (by kernel_rfl) (by kernel_rfl) (by kernel_rfl) (fun _ _ _ _ h => h) (by kernel_rfl) (fun _ => by kernel_rfl) D2.drew ?_
  refine rgd_pure 7 (some 48) rfl rfl (.pointer (some ⟨D, 2, none⟩)) (by kernel_rfl) (by kernel_rfl) (by kernel_rfl) (fun _ _ _ _ h => h) (by kernel_rfl) (fun _ => by kernel_rfl) D2.drew ?_
  refine rgd_load 8 (some 49) rfl rfl (by kernel_rfl) (by kernel_rfl) (by kernel_rfl) (fun _ _ _ _ h => h) (by kernel_rfl) _ _ rfl Try.underlying53 rfl ⟨D, 2, none⟩ (.slice (some ⟨P, 0, none⟩) n n) (by kernel_rfl) (fun w1 h => (d_cells h.obj).2.2.1) D2.drew ?_
  refine rgd_pure 9 (some 50) rfl rfl (.int .i64 (i : Int)) (by kernel_rfl) (by kernel_rfl) (by kernel_rfl) (fun _ _ _ _ h => h) (by kernel_rfl) (fun _ => by kernel_rfl) D2.drew ?_
  refine rg_indexN 10 (some 51) rfl rfl (by kernel_rfl) (by kernel_rfl) (by kernel_rfl) (fun _ _ _ _ h => h) (by kernel_rfl) _ _ _ rfl Try.underlying53 128 sizePgE P n n i (by kernel_rfl) (by kernel_rfl) hi D2.drew ?_
  refine rg_loadRow 11 (some 52) rfl rfl (by kernel_rfl) (by kernel_rfl) (by kernel_rfl) (fun _ _ _ _ h => h) (by kernel_rfl) _ _ rfl Try.underlying69 rfl P (128 * i) (bys (pg i)) (by rw [bys_length, hpl]; exact sizePg) (by kernel_rfl) (fun w1 h => h.has i hi) D2.drew ?_
  refine rg_do 12 (by kernel_rfl) rfl (by kernel_rfl) (mapTo w2.drew M (.map (ents (wasL old lo ++ [((i : Int), .agg (bys (pg i)).toArray, c)])).toArray (c + 1))) (exec_update _ _ _ rfl _ _ _ (by kernel_rfl) (by kernel_rfl) (by kernel_rfl) _ (run_update_absent Try.underlying54 keyI M2 (i : Int) _ hl)) (D2.drew.grown (mapTo_grown _ _ _) (by simp [ne1]) (by simp [ne2])) ?_
  refine wpAnyH_done (by kernel_rfl) ?_ _
  have D3 := D2.drew.grown (mapTo_grown w2.drew M (.map (ents (wasL old lo ++ [((i : Int), .agg (bys (pg i)).toArray, c)])).toArray (c + 1))) (by simp [ne1]) (by simp [ne2])
  have M3 := mapTo_at (o' := .map (ents (wasL old lo ++ [((i : Int), .agg (bys (pg i)).toArray, c)])).toArray (c + 1)) M2
  have T3 : Below T w1 (mapTo w2.drew M (.map (ents (wasL old lo ++ [((i : Int), .agg (bys (pg i)).toArray, c)])).toArray (c + 1))) := (A2.drew.mono hTw1).grown (mapTo_grown _ _ _) (Nat.le_trans hTw1 A2.size) (fun k hk => by cases hk; exact HTT.out.2.2)
  have L3 := ((HB.out.below A2).drew).turn M2 (.map (ents (wasL old lo ++ [((i : Int), .agg (bys (pg i)).toArray, c)])).toArray (c + 1))
  generalize mapTo w2.drew M (.map (ents (wasL old lo ++ [((i : Int), .agg (bys (pg i)).toArray, c)])).toArray (c + 1)) = w3 at D3 M3 T3 L3 ⊢
  go_wp2_with fail
  have B4 : Below w3.heap.size w3 (w3.alloc (.cells Try.zeroCells69 69)) := (Below.refl _ _).alloc (Nat.le_refl _) _
  have H4 : (w3.alloc (.cells Try.zeroCells69 69)).heap[w3.heap.size]? = some (.cells Try.zeroCells69 69 (0, 0)) := heap_alloc_new w3 _
  rw [copy_pad (w3.alloc (.cells Try.zeroCells69 69)) w3.heap.size bp bc bs _ (L3.below B4) HLE.out H4]
  rw [Result.andThen_ok, Oper.upon_value]
  rename_i hK
  refine hK _ _ ?_
  clear hK
  have hpd := padded_length HLE.out
  have B5 : Below w3.heap.size w3 ((w3.alloc (.cells Try.zeroCells69 69)).setRow w3.heap.size (bys (padded bs)).toArray) := B4.trans ⟨rfl, rfl, rfl, by simp [World.setRow], fun k hk => setRow_other _ _ _ _ (by omega)⟩
  have R5 : ((w3.alloc (.cells Try.zeroCells69 69)).setRow w3.heap.size (bys (padded bs)).toArray).rangeAt w3.heap.size 0 (bys (padded bs)) := by
    intro j v hv
    rw [cell_setRow_same _ _ _ _ _ _ _ H4, Nat.zero_add]
    simpa using hv
  generalize (w3.alloc (.cells Try.zeroCells69 69)).setRow w3.heap.size (bys (padded bs)).toArray = w4 at B5 R5 ⊢
  have D4 := D3.below B5
  have M4 : w4.heap[M]? = some (.map (ents (wasL old lo ++ [((i : Int), .agg (bys (pg i)).toArray, c)])).toArray (c + 1)) := (B5.block M (Array.getElem?_eq_some_iff.1 M3).1).trans M3
  have T4 : Below T w1 w4 := T3.trans (B5.mono (Nat.le_trans hTw1 T3.size))
  have SS : w4.drew.cell? ⟨D, 2, none⟩ = some (.slice (some ⟨P, 0, none⟩) n n) ∧ w4.drew.rangeAt w3.heap.size 0 (bys (padded bs)) := ⟨(d_cells D4.drew.obj).2.2.1, R5⟩
  have TH : w4.drew.there P (128 * i) (bys (padded bs)).toArray.size := by
    intro k hk
    have := D4.drew.may (128 * i + k) (by rw [List.size_toArray, bys_length, hpd] at hk; omega)
    rwa [Nat.zero_add] at this
  have OC : (bys (padded bs)).toArray.all (·.oneCell') = true := all_oneCell_toArray (fun v hv => by
    obtain ⟨x, -, rfl⟩ := List.mem_map.1 hv
    rfl)
  have hPlt : P < w3.heap.size := D3.plt
  have S5 : (w4.drew.setCells P (128 * i) (bys (padded bs))).cell? ⟨D, 2, none⟩ = some (.slice (some ⟨P, 0, none⟩) n n) ∧ (w4.drew.setCells P (128 * i) (bys (padded bs))).rangeAt w3.heap.size 0 (bys (padded bs)) :=
    ⟨(d_cells (D4.drew.stored i hi _ hpd).obj).2.2.1, World.rangeAt_setCells_apart SS.2 _ _ _ (Or.inl (by omega))⟩
  clear H4 B4
  have M5 := (heap_setCells_other P M (by omega) (bys (padded bs)) (128 * i) w4.drew).trans M4
  have W5 : WroteG T w D P M n pg old lo c f1 i bs (.returned (.int .i64 0)) (w4.drew.setCells P (128 * i) (bys (padded bs))) :=
    ⟨rfl, D4.drew.stored i hi _ hpd, Was.put WS.out hn0 hi hpl M5, BW.out.trans (below_setCells _ HTT.out.2.1 _ _ _ _ T4.drew)⟩
  go_wp2_with fail
  refine rg_start (n := 8) (S := fun w' => w'.cell? ⟨D, 2, none⟩ = some (.slice (some ⟨P, 0, none⟩) n n) ∧ w'.rangeAt w3.heap.size 0 (bys (padded bs))) (by kernel_rfl) rfl SS ?_
  refine rgd_pure 0 (some 56) rfl rfl (.pointer (some ⟨D, 0, none⟩)) (by kernel_rfl) (by kernel_rfl) (by kernel_rfl) (fun _ _ _ _ h => h) (by kernel_rfl) (fun _ => by kernel_rfl) SS ?_
  refine rgd_pure 1 (some 57) rfl rfl (.pointer (some ⟨D, 0, none⟩)) (by kernel_rfl) (by kernel_rfl) (by kernel_rfl) (fun _ _ _ _ h => h) (by kernel_rfl) (fun _ => by kernel_rfl) SS ?_
  refine rgd_pure 2 (some 58) rfl rfl (.pointer (some ⟨D, 2, none⟩)) (by kernel_rfl) (by kernel_rfl) (by kernel_rfl) (fun _ _ _ _ h => h) (by kernel_rfl) (fun _ => by kernel_rfl) SS ?_
  refine rgd_load 3 (some 59) rfl rfl (by kernel_rfl) (by kernel_rfl) (by kernel_rfl) (fun _ _ _ _ h => h) (by kernel_rfl) _ _ rfl Try.underlying53 rfl ⟨D, 2, none⟩ (.slice (some ⟨P, 0, none⟩) n n) (by kernel_rfl) (fun w1 h => h.1) SS ?_
  refine rgd_pure 4 (some 60) rfl rfl (.int .i64 (i : Int)) (by kernel_rfl) (by kernel_rfl) (by kernel_rfl) (fun _ _ _ _ h => h) (by kernel_rfl) (fun _ => by kernel_rfl) SS ?_
  refine rg_loadRow 5 (some 61) rfl rfl (by kernel_rfl) (by kernel_rfl) (by kernel_rfl) (fun _ _ _ _ h => h) (by kernel_rfl) _ _ rfl Try.underlying69 rfl w3.heap.size 0 (bys (padded bs)) (by rw [bys_length, hpd]; exact sizePg) (by kernel_rfl) (fun w1 h => h.2) SS ?_
  refine rg_indexN 6 (some 62) rfl rfl (by kernel_rfl) (by kernel_rfl) (by kernel_rfl) (fun _ _ _ _ h => h) (by kernel_rfl) _ _ _ rfl Try.underlying53 128 sizePgE P n n i (by kernel_rfl) (by kernel_rfl) hi SS ?_
  refine rg_do 7 (by kernel_rfl) rfl (by kernel_rfl) (w4.drew.setCells P (128 * i) (bys (padded bs))) (exec_storeRow 69 _ _ rfl P (128 * i) (bys (padded bs)).toArray (by kernel_rfl) (by kernel_rfl) TH (by rw [List.size_toArray, bys_length, hpd]; exact sizePg) OC) S5 ?_
  refine wpAnyH_done (by kernel_rfl) ?_ _
  generalize w4.drew.setCells P (128 * i) (bys (padded bs)) = w5 at W5 ⊢
  go_wp2_with fail
  exact bodyPost_ret (v := .int .i64 0) (by kernel_rfl) (by kernel_rfl) W5

set_option maxHeartbeats 4000000 in
set_option maxRecDepth 100000 in
theorem write_present0 (T D P M n : Nat) (pg old : Nat → List UInt8) (lo : List (Nat × Nat)) (c : Nat) (dead : Bool) (fuse : Int) (i : Nat) (bp : Option Addr) (bc : Nat) (bs : List UInt8) (w : World) (h : Dk w D P M n pg dead fuse) (hw : Was w M n old lo c) (had : actD dead fuse = false) (hi : i < n) (hb : Lies w bp bs) (hnb : ∀ b o, bp = some ⟨b, o, none⟩ → some b ≠ some D) (hlen : bs.length ≤ 128) (hT : T ≤ D ∧ T ≤ P ∧ T ≤ M) (hTw : T ≤ w.heap.size) (hex : inW lo i) :
    Calls Try.prog 14 #[.pointer (some ⟨D, 0, none⟩), .int .i64 i, .slice bp bs.length bc] w (WroteG T w D P M n pg old lo c (actF dead fuse) i bs) := by
  have MD := Lib.hid (made_is _ n w h.sized h.pos.1)
  have WI := Lib.hid (within_is _ n i w h.sized true (by simp; omega))
  have AC := Lib.hid (act_all D P M n pg dead fuse w h)
  unfold Acted at AC
  rw [had] at AC
  simp only [Bool.false_eq_true, if_false] at AC
  generalize actF dead fuse = f1 at AC ⊢
  have hDM : some M ≠ some D := fun e => h.ne.2.1 (Option.some.inj e).symm
  have HW := Lib.hid hw; have HB0 := Lib.hid hb; have NB := Lib.hid hnb
  have hpl := h.len i hi
  have hol : (old i).length = 128 := by obtain ⟨e, he, rfl⟩ := hex; exact hw.len e he
  have hlen' : ¬ (bs.length : Int) > 128 := by omega
  have HLE := Lib.hid hlen; have HTT := Lib.hid hT
  clear h hw hb hlen hT hnb had
  go_enter Try.func14, Try.ntmps14
  go_wp2_with fail
  refine MD.out.mono ?_
  rintro e w' ⟨rfl, rfl⟩
  clear MD
  go_wp2_with fail
  refine WI.out.mono ?_
  rintro e w' ⟨rfl, rfl⟩
  clear WI
  go_wp2_with fail
  refine AC.out.mono ?_
  rintro e w1 ⟨rfl, hdk, hg⟩
  have H := Lib.hid hdk
  have WS := Lib.hid (HW.out.at (hg.block M HW.out.mlt hDM))
  have BW := Lib.hid ((Below.refl T w).grown hg hTw (fun k hk => by cases hk; exact HTT.out.1))
  have HB := Lib.hid (HB0.out.kept2 hg (fun b o e => NB.out b o e))
  obtain ⟨c0, c1, c2, c3⟩ := d_cells hdk.obj
  have hz1 := hg.size
  clear AC hdk hg
  go_wp2_with fail
  have hTw1 : T ≤ w1.heap.size := Nat.le_trans hTw hz1
  rw [WS.out.run_here Try.underlying54 keyI i hex]
  rw [Result.andThen_ok, Oper.upon_value]
  rename_i hK
  refine hK _ _ ?_
  clear hK
  refine wpList_val rfl (.tuple #[.agg (bys (old i)).toArray, .bool true]) w1 (by kernel_rfl) ?_
  refine wpList_val rfl (.agg (bys (old i)).toArray) w1 (by kernel_rfl) ?_
  refine wpList_val rfl (.bool true) w1 (by kernel_rfl) ?_
  have A1 : Below w1.heap.size w1 (w1.alloc (.cells zeroCells8 69)) := (Below.refl _ _).alloc (Nat.le_refl _) _
  have H1 := heap_alloc_new w1 (.cells zeroCells8 69)
  refine wpList_val rfl (.pointer (some ⟨w1.heap.size, 0, none⟩)) (w1.alloc (.cells zeroCells8 69)) (by kernel_rfl) ?_
  generalize hw1 : w1.alloc (.cells zeroCells8 69) = wa at A1 H1 ⊢
  refine wpList_store_mid rfl 69 _ _ rfl w1.heap.size 0 (bys (old i)).toArray (by kernel_rfl) (by kernel_rfl) ?_ (by rw [List.size_toArray, bys_length, hol]; exact sizePg) (all_oneCell_toArray (bys_one _)) ?_
  · intro j hj
    have : wa.heap[w1.heap.size]? = some (.cells zeroCells8 69 (0, 0)) := H1
    constructor
    · rw [cell_of_row wa w1.heap.size (0 + j) _ _ _ this, Array.getElem?_eq_getElem (by rw [List.size_toArray, bys_length, hol] at hj; rw [Nat.zero_add]; exact hj)]
      rfl
    · unfold World.frozen?
      simp [this]
  have A2 : Below w1.heap.size w1 (wa.setCells w1.heap.size 0 (bys (old i)).toArray.toList) := below_setCells _ (Nat.le_refl _) _ _ _ _ A1
  generalize wa.setCells w1.heap.size 0 (bys (old i)).toArray.toList = w2 at A2 ⊢
  refine wpList_val rfl (.bool true) w2 (by kernel_rfl) ?_
  refine wpList_nil ?_
  go_wp2_with fail
  have D3 := H.out.below A2
  have M3 := (A2.block M (Array.getElem?_eq_some_iff.1 WS.out.map).1).trans WS.out.map
  have T3 : Below T w1 w2 := A2.mono hTw1
  have L3 := HB.out.below A2
  obtain ⟨-, ne1, ne2⟩ := H.out.ne
  go_wp2_with fail
  have B4 : Below w2.heap.size w2 (w2.alloc (.cells Try.zeroCells69 69)) := (Below.refl _ _).alloc (Nat.le_refl _) _
  have H4 : (w2.alloc (.cells Try.zeroCells69 69)).heap[w2.heap.size]? = some (.cells Try.zeroCells69 69 (0, 0)) := heap_alloc_new w2 _
  rw [copy_pad (w2.alloc (.cells Try.zeroCells69 69)) w2.heap.size bp bc bs _ (L3.below B4) HLE.out H4]
  rw [Result.andThen_ok, Oper.upon_value]
  rename_i hK
  refine hK _ _ ?_
  clear hK
  have hpd := padded_length HLE.out
  have B5 : Below w2.heap.size w2 ((w2.alloc (.cells Try.zeroCells69 69)).setRow w2.heap.size (bys (padded bs)).toArray) := B4.trans ⟨rfl, rfl, rfl, by simp [World.setRow], fun k hk => setRow_other _ _ _ _ (by omega)⟩
  have R5 : ((w2.alloc (.cells Try.zeroCells69 69)).setRow w2.heap.size (bys (padded bs)).toArray).rangeAt w2.heap.size 0 (bys (padded bs)) := by
    intro j v hv
    rw [cell_setRow_same _ _ _ _ _ _ _ H4, Nat.zero_add]
    simpa using hv
  generalize (w2.alloc (.cells Try.zeroCells69 69)).setRow w2.heap.size (bys (padded bs)).toArray = w4 at B5 R5 ⊢
  have D4 := D3.below B5
  have M4 : w4.heap[M]? = some (.map (ents (wasL old lo)).toArray c) := (B5.block M (Array.getElem?_eq_some_iff.1 M3).1).trans M3
  have T4 : Below T w1 w4 := T3.trans (B5.mono (Nat.le_trans hTw1 T3.size))
  have SS : w4.drew.cell? ⟨D, 2, none⟩ = some (.slice (some ⟨P, 0, none⟩) n n) ∧ w4.drew.rangeAt w2.heap.size 0 (bys (padded bs)) := ⟨(d_cells D4.drew.obj).2.2.1, R5⟩
  have TH : w4.drew.there P (128 * i) (bys (padded bs)).toArray.size := by
    intro k hk
    have := D4.drew.may (128 * i + k) (by rw [List.size_toArray, bys_length, hpd] at hk; omega)
    rwa [Nat.zero_add] at this
  have OC : (bys (padded bs)).toArray.all (·.oneCell') = true := all_oneCell_toArray (fun v hv => by
    obtain ⟨x, -, rfl⟩ := List.mem_map.1 hv
    rfl)
  have hPlt : P < w2.heap.size := D3.plt
  have S5 : (w4.drew.setCells P (128 * i) (bys (padded bs))).cell? ⟨D, 2, none⟩ = some (.slice (some ⟨P, 0, none⟩) n n) ∧ (w4.drew.setCells P (128 * i) (bys (padded bs))).rangeAt w2.heap.size 0 (bys (padded bs)) :=
    ⟨(d_cells (D4.drew.stored i hi _ hpd).obj).2.2.1, World.rangeAt_setCells_apart SS.2 _ _ _ (Or.inl (by omega))⟩
  clear H4 B4
  have M5 := (heap_setCells_other P M (by omega) (bys (padded bs)) (128 * i) w4.drew).trans M4
  have W5 : WroteG T w D P M n pg old lo c f1 i bs (.returned (.int .i64 0)) (w4.drew.setCells P (128 * i) (bys (padded bs))) :=
    ⟨rfl, D4.drew.stored i hi _ hpd, Was.stays hex ⟨M5, WS.out.key, WS.out.born, WS.out.lt, WS.out.len⟩, BW.out.trans (below_setCells _ HTT.out.2.1 _ _ _ _ T4.drew)⟩
  go_wp2_with fail
  refine rg_start (n := 8) (S := fun w' => w'.cell? ⟨D, 2, none⟩ = some (.slice (some ⟨P, 0, none⟩) n n) ∧ w'.rangeAt w2.heap.size 0 (bys (padded bs))) (by kernel_rfl) rfl SS ?_
  refine rgd_pure 0 (some 56) rfl rfl (.pointer (some ⟨D, 0, none⟩)) (by kernel_rfl) (by kernel_rfl) (by kernel_rfl) (fun _ _ _ _ h => h) (by kernel_rfl) (fun _ => by kernel_rfl) SS ?_
  refine rgd_pure 1 (some 57) rfl rfl (.pointer (some ⟨D, 0, none⟩)) (by kernel_rfl) (by kernel_rfl) (by kernel_rfl) (fun _ _ _ _ h => h) (by kernel_rfl) (fun _ => by kernel_rfl) SS ?_
  refine rgd_pure 2 (some 58) rfl rfl (.pointer (some ⟨D, 2, none⟩)) (by kernel_rfl) (by kernel_rfl) (by kernel_rfl) (fun _ _ _ _ h => h) (by kernel_rfl) (fun _ => by kernel_rfl) SS ?_
  refine rgd_load 3 (some 59) rfl rfl (by kernel_rfl) (by kernel_rfl) (by kernel_rfl) (fun _ _ _ _ h => h) (by kernel_rfl) _ _ rfl Try.underlying53 rfl ⟨D, 2, none⟩ (.slice (some ⟨P, 0, none⟩) n n) (by kernel_rfl) (fun w1 h => h.1) SS ?_
  refine rgd_pure 4 (some 60) rfl rfl (.int .i64 (i : Int)) (by kernel_rfl) (by kernel_rfl) (by kernel_rfl) (fun _ _ _ _ h => h) (by kernel_rfl) (fun _ => by kernel_rfl) SS ?_
  refine rg_loadRow 5 (some 61) rfl rfl (by kernel_rfl) (by kernel_rfl) (by kernel_rfl) (fun _ _ _ _ h => h) (by kernel_rfl) _ _ rfl Try.underlying69 rfl w2.heap.size 0 (bys (padded bs)) (by rw [bys_length, hpd]; exact sizePg) (by kernel_rfl) (fun w1 h => h.2) SS ?_
  refine rg_indexN 6 (some 62) rfl rfl (by kernel_rfl) (by kernel_rfl) (by kernel_rfl) (fun _ _ _ _ h => h) (by kernel_rfl) _ _ _ rfl Try.underlying53 128 sizePgE P n n i (by kernel_rfl) (by kernel_rfl) hi SS ?_
  refine rg_do 7 (by kernel_rfl) rfl (by kernel_rfl) (w4.drew.setCells P (128 * i) (bys (padded bs))) (exec_storeRow 69 _ _ rfl P (128 * i) (bys (padded bs)).toArray (by kernel_rfl) (by kernel_rfl) TH (by rw [List.size_toArray, bys_length, hpd]; exact sizePg) OC) S5 ?_
  refine wpAnyH_done (by kernel_rfl) ?_ _
  generalize w4.drew.setCells P (128 * i) (bys (padded bs)) = w5 at W5 ⊢
  go_wp2_with fail
  exact bodyPost_ret (v := .int .i64 0) (by kernel_rfl) (by kernel_rfl) W5

theorem write_go0 (T D P M n : Nat) (pg old : Nat → List UInt8) (lo : List (Nat × Nat)) (c : Nat) (dead : Bool) (fuse : Int) (i : Nat) (bp : Option Addr) (bc : Nat) (bs : List UInt8) (w : World) (h : Dk w D P M n pg dead fuse) (hw : Was w M n old lo c) (had : actD dead fuse = false) (hi : i < n) (hb : Lies w bp bs) (hnb : ∀ b o, bp = some ⟨b, o, none⟩ → some b ≠ some D) (hlen : bs.length ≤ 128) (hT : T ≤ D ∧ T ≤ P ∧ T ≤ M) (hTw : T ≤ w.heap.size) :
    Calls Try.prog 14 #[.pointer (some ⟨D, 0, none⟩), .int .i64 i, .slice bp bs.length bc] w (WroteG T w D P M n pg old lo c (actF dead fuse) i bs) := by
  by_cases hx : inW lo i
  · exact write_present0 T D P M n pg old lo c dead fuse i bp bc bs w h hw had hi hb hnb hlen hT hTw hx
  · exact write_absent0 T D P M n pg old lo c dead fuse i bp bc bs w h hw had hi hb hnb hlen hT hTw hx
end Go.Proofs.Ytfgjcgonlpbdbaa
