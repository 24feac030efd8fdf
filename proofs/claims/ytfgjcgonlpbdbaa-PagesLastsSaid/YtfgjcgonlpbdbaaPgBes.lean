/- What the program's Write and Sync leave as it was: all but the device's three blocks. (genpgbes.py writes it) -/
import Derived.Test.YtfgjcgonlpbdbaaPgOwn
namespace Go.Proofs.Ytfgjcgonlpbdbaa
open Go Go.RowKit
set_option linter.unusedVariables false

/-- nothing that was there has turned, but three blocks -/
structure Bes (D P M : Nat) (a w : World) : Prop where
  os : w.os = a.os
  tape : w.tape = a.tape
  output : w.output = a.output
  size : a.heap.size ≤ w.heap.size
  block : ∀ k, k < a.heap.size → k ≠ D → k ≠ P → k ≠ M → w.heap[k]? = a.heap[k]?
section
variable {D P M : Nat} {a w w' : World}
theorem Bes.refl (D P M : Nat) (a : World) : Bes D P M a a := ⟨rfl, rfl, rfl, Nat.le_refl _, fun _ _ _ _ _ => rfl⟩
theorem Bes.of (h : Below a.heap.size a w) : Bes D P M a w := ⟨h.os, h.tape, h.output, h.size, fun k hk _ _ _ => h.block k hk⟩
theorem Bes.trans (h : Bes D P M a w) (k : Bes D P M w w') : Bes D P M a w' :=
  ⟨k.os.trans h.os, k.tape.trans h.tape, k.output.trans h.output, Nat.le_trans h.size k.size, fun i hi h1 h2 h3 => (k.block i (Nat.lt_of_lt_of_le hi h.size) h1 h2 h3).trans (h.block i hi h1 h2 h3)⟩
theorem Bes.andThen (h : Bes D P M a w) (k : Below w.heap.size w w') : Bes D P M a w' := h.trans (Bes.of k)
theorem Bes.drew (h : Bes D P M a w) : Bes D P M a w.drew := h.andThen (Below.refl _ _).drew
theorem Bes.grown {row : Option Nat} (h : Bes D P M a w) (hg : w.grownBy w' row) (hs : a.heap.size ≤ w.heap.size) (hr : ∀ k, row = some k → k = D ∨ k = P ∨ k = M ∨ a.heap.size ≤ k) : Bes D P M a w' :=
  ⟨hg.os.trans h.os, hg.tape.trans h.tape, hg.output.trans h.output, Nat.le_trans h.size hg.size, fun i hi h1 h2 h3 => (hg.block i (Nat.lt_of_lt_of_le hi hs) (fun e => by have := hr i e.symm; omega)).trans (h.block i hi h1 h2 h3)⟩
theorem Bes.setCells (h : Bes D P M a w) (x : Nat) (hx : x = D ∨ x = P ∨ x = M) (vs : List Value) (o : Nat) : Bes D P M a (w.setCells x o vs) := by
  have q := below_setCells x (Nat.le_refl x) vs o w w (Below.refl x w)
  refine ⟨q.os.trans h.os, q.tape.trans h.tape, q.output.trans h.output, Nat.le_trans h.size q.size, fun i hi h1 h2 h3 => ?_⟩
  rw [heap_setCells_other x i (by omega) vs o w]
  exact h.block i hi h1 h2 h3
/-- of a number up to which none of the three lies -/
theorem Bes.below (h : Bes D P M a w) {T : Nat} (hT : T ≤ D ∧ T ≤ P ∧ T ≤ M) (hs : T ≤ a.heap.size) : Below T a w :=
  ⟨h.os, h.tape, h.output, h.size, fun k hk => h.block k (by omega) (by omega) (by omega) (by omega)⟩
theorem LiesI.bes {q : Option Addr} {ks : List Int} (h : LiesI a q ks) (hq : ks ≠ [] → ∀ x o, q = some ⟨x, o, none⟩ → x ≠ D ∧ x ≠ P ∧ x ≠ M) (hb : Bes D P M a w) : LiesI w q ks := by
  intro h0
  obtain ⟨x, o, e1, e2, hc⟩ := h.at (List.length_pos_iff.2 h0)
  obtain ⟨n1, n2, n3⟩ := hq h0 x o e1
  exact ⟨x, o, e1, fun j hj => by rw [World.cell?_of_block (hb.block x e2 n1 n2 n3)]; exact hc j hj⟩
end
def WroteB (T : Nat) (w : World) (D P M n : Nat) (pg old : Nat → List UInt8) (lo : List (Nat × Nat)) (c : Nat) (f1 : Int) (i : Nat) (bs : List UInt8) (e : Ending) (w' : World) : Prop :=
  e = .returned (.int .i64 0) ∧ Dk w' D P M n (upd pg i (padded bs)) false f1 ∧ Was w' M n (oldW pg old lo i) (loW lo i c) (cW lo i c) ∧ Bes D P M w w'
def SyncB (w : World) (D P M n : Nat) (pg old : Nat → List UInt8) (lo : List (Nat × Nat)) (c : Nat) (dead : Bool) (fuse : Int) (e : Ending) (w' : World) : Prop :=
  e = .returned (.int .i64 (if actD dead fuse = true then 9 else 0)) ∧ Dk w' D P M n pg (actD dead fuse) (actF dead fuse) ∧ Was w' M n old (if actD dead fuse = true then lo else []) c ∧ Bes D P M w w'
set_option maxHeartbeats 4000000 in
set_option maxRecDepth 100000 in
theorem write_absentB (T D P M n : Nat) (pg old : Nat → List UInt8) (lo : List (Nat × Nat)) (c : Nat) (dead : Bool) (fuse : Int) (i : Nat) (bp : Option Addr) (bc : Nat) (bs : List UInt8) (w : World) (h : Dk w D P M n pg dead fuse) (hw : Was w M n old lo c) (had : actD dead fuse = false) (hi : i < n) (hb : Lies w bp bs) (hnb : bs ≠ [] → ∀ b o, bp = some ⟨b, o, none⟩ → some b ≠ some D) (hlen : bs.length ≤ 128) (hT : T ≤ D ∧ T ≤ P ∧ T ≤ M) (hTw : T ≤ w.heap.size) (hn0 : ¬ inW lo i) :
    Calls Try.prog 14 #[.pointer (some ⟨D, 0, none⟩), .int .i64 i, .slice bp bs.length bc] w (WroteB T w D P M n pg old lo c (actF dead fuse) i bs) := by
  have MD := Lib.hid (made_is _ n w h.sized h.pos.1)
  have WI := Lib.hid (within_is _ n i w h.sized true (by simp; omega))
  have AC := Lib.hid (act_all D P M n pg dead fuse w h)
  unfold Acted at AC
  rw [had] at AC
  simp only [Bool.false_eq_true, if_false] at AC
  generalize actF dead fuse = f1 at AC ⊢
  have hDM : some M ≠ some D := fun e => h.ne.2.1 (Option.some.inj e).symm
  have HW := Lib.hid hw; have HB0 := Lib.hid hb; have NB := Lib.hid hnb
  have hpl := h.len i hi
  have hl : ∀ e ∈ wasL old lo, e.1 ≠ (i : Int) := wasL_key fun e he q => hn0 ⟨e, he, by omega⟩
  have hlen' : ¬ (bs.length : Int) > 128 := by omega
  have HLE := Lib.hid hlen; have HTT := Lib.hid hT
  clear h hw hb hlen hT hnb had
  go_enter Try.func14, Try.ntmps14
  go_wp2_with fail
  refine MD.out.mono ?_
  rintro e w' ⟨rfl, rfl⟩
  clear MD
  go_wp2_with fail
  refine WI.out.mono ?_
  rintro e w' ⟨rfl, rfl⟩
  clear WI
  go_wp2_with fail
  refine AC.out.mono ?_
  rintro e w1 ⟨rfl, hdk, hg⟩
  have H := Lib.hid hdk
  have WS := Lib.hid (HW.out.at (hg.block M HW.out.mlt hDM))
  have BW := Lib.hid ((Bes.refl D P M w).grown hg (Nat.le_refl _) (fun k hk => by cases hk; simp))
  have HB := Lib.hid ((show Lies w1 bp bs from fun h0 => (HB0.out.kept2 hg (fun b o e => NB.out h0 b o e)) h0))
  obtain ⟨c0, c1, c2, c3⟩ := d_cells hdk.obj
  have hz1 := hg.size
  clear AC hdk hg
  go_wp2_with fail
  have hTw1 : T ≤ w1.heap.size := Nat.le_trans hTw hz1
  rw [run_lookup_absent Try.underlying54 keyI (zeroPgV w1) WS.out.map i hl]
  rw [Result.andThen_ok, Oper.upon_value]
  rename_i hK
  refine hK _ _ ?_
  clear hK
  refine wpList_val rfl (.tuple #[.agg zeroCells8, .bool false]) w1 (by kernel_rfl) ?_
  refine wpList_val rfl (.agg zeroCells8) w1 (by kernel_rfl) ?_
  refine wpList_val rfl (.bool false) w1 (by kernel_rfl) ?_
  have A1 : Below w1.heap.size w1 (w1.alloc (.cells zeroCells8 69)) := (Below.refl _ _).alloc (Nat.le_refl _) _
  have H1 := heap_alloc_new w1 (.cells zeroCells8 69)
  refine wpList_val rfl (.pointer (some ⟨w1.heap.size, 0, none⟩)) (w1.alloc (.cells zeroCells8 69)) (by kernel_rfl) ?_
  generalize hw1 : w1.alloc (.cells zeroCells8 69) = wa at A1 H1 ⊢
  refine wpList_store_mid rfl 69 _ _ rfl w1.heap.size 0 zeroCells8 (by kernel_rfl) (by kernel_rfl) ?_ sizePg (by kernel_rfl) ?_
  · intro j hj
    have : wa.heap[w1.heap.size]? = some (.cells zeroCells8 69 (0, 0)) := H1
    constructor
    · rw [cell_of_row wa w1.heap.size (0 + j) _ _ _ this, Array.getElem?_eq_getElem (by rw [Nat.zero_add]; exact hj)]
      rfl
    · unfold World.frozen?
      simp [this]
  have A2 : Below w1.heap.size w1 (wa.setCells w1.heap.size 0 zeroCells8.toList) := below_setCells _ (Nat.le_refl _) _ _ _ _ A1
  generalize wa.setCells w1.heap.size 0 zeroCells8.toList = w2 at A2 ⊢
  refine wpList_val rfl (.bool false) w2 (by kernel_rfl) ?_
  refine wpList_nil ?_
  go_wp2_with fail
  have D2 := H.out.below A2
  have M2 : w2.drew.heap[M]? = some (.map (ents (wasL old lo)).toArray c) := (A2.block M (Array.getElem?_eq_some_iff.1 WS.out.map).1).trans WS.out.map
  obtain ⟨-, ne1, ne2⟩ := H.out.ne
  refine rg_start (n := 13) (S := fun w' => Dk w' D P M n pg false f1) (by kernel_rfl) rfl D2.drew ?_
  refine rgd_pure 0 (some 41) rfl rfl (.pointer (some ⟨D, 0, none⟩)) (by kernel_rfl) (by kernel_rfl) (by kernel_rfl) (fun _ _ _ _ h => h) (by kernel_rfl) (fun _ => by kernel_rfl) D2.drew ?_
  refine rgd_pure 1 (some 42) rfl rfl (.pointer (some ⟨D, 0, none⟩)) (by kernel_rfl) (by kernel_rfl) (by kernel_rfl) (fun _ _ _ _ h => h) (by kernel_rfl) (fun _ => by kernel_rfl) D2.drew ?_
  refine rgd_pure 2 (some 43) rfl rfl (.pointer (some ⟨D, 3, none⟩)) (by kernel_rfl) (by kernel_rfl) (by kernel_rfl) (fun _ _ _ _ h => h) (by kernel_rfl) (fun _ => by kernel_rfl) D2.drew ?_
  refine rgd_load 3 (some 44) rfl rfl (by kernel_rfl) (by kernel_rfl) (by kernel_rfl) (fun _ _ _ _ h => h) (by kernel_rfl) _ _ rfl Try.underlying54 rfl ⟨D, 3, none⟩ (.map (some M)) (by kernel_rfl) (fun w1 h => (d_cells h.obj).2.2.2) D2.drew ?_
  refine rgd_pure 4 (some 45) rfl rfl (.int .i64 (i : Int)) (by kernel_rfl) (by kernel_rfl) (by kernel_rfl) (fun _ _ _ _ h => h) (by kernel_rfl) (fun _ => by kernel_rfl) D2.drew ?_
  refine rgd_pure 5 (some 46) rfl rfl (.pointer (some ⟨D, 0, none⟩)) (by kernel_rfl) (by kernel_rfl) (by kernel_rfl) (fun _ _ _ _ h => h) (by kernel_rfl) (fun _ => by kernel_rfl) D2.drew ?_
  refine rgd_pure 6 (some 47) rfl rfl (.pointer (some ⟨D, 0, none⟩)) (by kernel_rfl) (by kernel_rfl) (by kernel_rfl) (fun _ _ _ _ h => h) (by kernel_rfl) (fun _ => by kernel_rfl) D2.drew ?_
  refine rgd_pure 7 (some 48) rfl rfl (.pointer (some ⟨D, 2, none⟩)) (by kernel_rfl) (by kernel_rfl) (by kernel_rfl) (fun _ _ _ _ h => h) (by kernel_rfl) (fun _ => by kernel_rfl) D2.drew ?_
  refine rgd_load 8 (some 49) rfl rfl (by kernel_rfl) (by kernel_rfl) (by kernel_rfl) (fun _ _ _ _ h => h) (by kernel_rfl) _ _ rfl Try.underlying53 rfl ⟨D, 2, none⟩ (.slice (some ⟨P, 0, none⟩) n n) (by kernel_rfl) (fun w1 h => (d_cells h.obj).2.2.1) D2.drew ?_
  refine rgd_pure 9 (some 50) rfl rfl (.int .i64 (i : Int)) (by kernel_rfl) (by kernel_rfl) (by kernel_rfl) (fun _ _ _ _ h => h) (by kernel_rfl) (fun _ => by kernel_rfl) D2.drew ?_
  refine rg_indexN 10 (some 51) rfl rfl (by kernel_rfl) (by kernel_rfl) (by kernel_rfl) (fun _ _ _ _ h => h) (by kernel_rfl) _ _ _ rfl Try.underlying53 128 sizePgE P n n i (by kernel_rfl) (by kernel_rfl) hi D2.drew ?_
  refine rg_loadRow 11 (some 52) rfl rfl (by kernel_rfl) (by kernel_rfl) (by kernel_rfl) (fun _ _ _ _ h => h) (by kernel_rfl) _ _ rfl Try.underlying69 rfl P (128 * i) (bys (pg i)) (by rw [bys_length, hpl]; exact sizePg) (by kernel_rfl) (fun w1 h => h.has i hi) D2.drew ?_
  refine rg_do 12 (by kernel_rfl) rfl (by kernel_rfl) (mapTo w2.drew M (.map (ents (wasL old lo ++ [((i : Int), .agg (bys (pg i)).toArray, c)])).toArray (c + 1))) (exec_update _ _ _ rfl _ _ _ (by kernel_rfl) (by kernel_rfl) (by kernel_rfl) _ (run_update_absent Try.underlying54 keyI M2 (i : Int) _ hl)) (D2.drew.grown (mapTo_grown _ _ _) (by simp [ne1]) (by simp [ne2])) ?_
  refine wpAnyH_done (by kernel_rfl) ?_ _
  have D3 := D2.drew.grown (mapTo_grown w2.drew M (.map (ents (wasL old lo ++ [((i : Int), .agg (bys (pg i)).toArray, c)])).toArray (c + 1))) (by simp [ne1]) (by simp [ne2])
  have M3 := mapTo_at (o' := .map (ents (wasL old lo ++ [((i : Int), .agg (bys (pg i)).toArray, c)])).toArray (c + 1)) M2
  have T3 : Bes D P M w1 (mapTo w2.drew M (.map (ents (wasL old lo ++ [((i : Int), .agg (bys (pg i)).toArray, c)])).toArray (c + 1))) := (Bes.of A2.drew).grown (mapTo_grown _ _ _) A2.size (fun k hk => by cases hk; simp)
  have L3 := ((HB.out.below A2).drew).turn M2 (.map (ents (wasL old lo ++ [((i : Int), .agg (bys (pg i)).toArray, c)])).toArray (c + 1))
  generalize mapTo w2.drew M (.map (ents (wasL old lo ++ [((i : Int), .agg (bys (pg i)).toArray, c)])).toArray (c + 1)) = w3 at D3 M3 T3 L3 ⊢
  go_wp2_with fail
  have B4 : Below w3.heap.size w3 (w3.alloc (.cells Try.zeroCells69 69)) := (Below.refl _ _).alloc (Nat.le_refl _) _
  have H4 : (w3.alloc (.cells Try.zeroCells69 69)).heap[w3.heap.size]? = some (.cells Try.zeroCells69 69 (0, 0)) := heap_alloc_new w3 _
  rw [copy_pad (w3.alloc (.cells Try.zeroCells69 69)) w3.heap.size bp bc bs _ (L3.below B4) HLE.out H4]
  rw [Result.andThen_ok, Oper.upon_value]
  rename_i hK
  refine hK _ _ ?_
  clear hK
  have hpd := padded_length HLE.out
  have B5 : Below w3.heap.size w3 ((w3.alloc (.cells Try.zeroCells69 69)).setRow w3.heap.size (bys (padded bs)).toArray) := B4.trans ⟨rfl, rfl, rfl, by simp [World.setRow], fun k hk => setRow_other _ _ _ _ (by omega)⟩
  have R5 : ((w3.alloc (.cells Try.zeroCells69 69)).setRow w3.heap.size (bys (padded bs)).toArray).rangeAt w3.heap.size 0 (bys (padded bs)) := by
    intro j v hv
    rw [cell_setRow_same _ _ _ _ _ _ _ H4, Nat.zero_add]
    simpa using hv
  generalize (w3.alloc (.cells Try.zeroCells69 69)).setRow w3.heap.size (bys (padded bs)).toArray = w4 at B5 R5 ⊢
  have D4 := D3.below B5
  have M4 : w4.heap[M]? = some (.map (ents (wasL old lo ++ [((i : Int), .agg (bys (pg i)).toArray, c)])).toArray (c + 1)) := (B5.block M (Array.getElem?_eq_some_iff.1 M3).1).trans M3
  have T4 : Bes D P M w1 w4 := T3.andThen B5
  have SS : w4.drew.cell? ⟨D, 2, none⟩ = some (.slice (some ⟨P, 0, none⟩) n n) ∧ w4.drew.rangeAt w3.heap.size 0 (bys (padded bs)) := ⟨(d_cells D4.drew.obj).2.2.1, R5⟩
  have TH : w4.drew.there P (128 * i) (bys (padded bs)).toArray.size := by
    intro k hk
    have := D4.drew.may (128 * i + k) (by rw [List.size_toArray, bys_length, hpd] at hk; omega)
    rwa [Nat.zero_add] at this
  have OC : (bys (padded bs)).toArray.all (·.oneCell') = true := all_oneCell_toArray (fun v hv => by
    obtain ⟨x, -, rfl⟩ := List.mem_map.1 hv
    rfl)
  have hPlt : P < w3.heap.size := D3.plt
  have S5 : (w4.drew.setCells P (128 * i) (bys (padded bs))).cell? ⟨D, 2, none⟩ = some (.slice (some ⟨P, 0, none⟩) n n) ∧ (w4.drew.setCells P (128 * i) (bys (padded bs))).rangeAt w3.heap.size 0 (bys (padded bs)) :=
    ⟨(d_cells (D4.drew.stored i hi _ hpd).obj).2.2.1, World.rangeAt_setCells_apart SS.2 _ _ _ (Or.inl (by omega))⟩
  clear H4 B4
  have M5 := (heap_setCells_other P M (by omega) (bys (padded bs)) (128 * i) w4.drew).trans M4
  have W5 : WroteB T w D P M n pg old lo c f1 i bs (.returned (.int .i64 0)) (w4.drew.setCells P (128 * i) (bys (padded bs))) :=
    ⟨rfl, D4.drew.stored i hi _ hpd, Was.put WS.out hn0 hi hpl M5, BW.out.trans (T4.drew.setCells P (Or.inr (Or.inl rfl)) _ _)⟩
  go_wp2_with fail
  refine rg_start (n := 8) (S := fun w' => w'.cell? ⟨D, 2, none⟩ = some (.slice (some ⟨P, 0, none⟩) n n) ∧ w'.rangeAt w3.heap.size 0 (bys (padded bs))) (by kernel_rfl) rfl SS ?_
  refine rgd_pure 0 (some 56) rfl rfl (.pointer (some ⟨D, 0, none⟩)) (by kernel_rfl) (by kernel_rfl) (by kernel_rfl) (fun _ _ _ _ h => h) (by kernel_rfl) (fun _ => by kernel_rfl) SS ?_
  refine rgd_pure 1 (some 57) rfl rfl (.pointer (some ⟨D, 0, none⟩)) (by kernel_rfl) (by kernel_rfl) (by kernel_rfl) (fun _ _ _ _ h => h) (by kernel_rfl) (fun _ => by kernel_rfl) SS ?_
  refine rgd_pure 2 (some 58) rfl rfl (.pointer (some ⟨D, 2, none⟩)) (by kernel_rfl) (by kernel_rfl) (by kernel_rfl) (fun _ _ _ _ h => h) (by kernel_rfl) (fun _ => by kernel_rfl) SS ?_
  refine rgd_load 3 (some 59) rfl rfl (by kernel_rfl) (by kernel_rfl) (by kernel_rfl) (fun _ _ _ _ h => h) (by kernel_rfl) _ _ rfl Try.underlying53 rfl ⟨D, 2, none⟩ (.slice (some ⟨P, 0, none⟩) n n) (by kernel_rfl) (fun w1 h => h.1) SS ?_
  refine rgd_pure 4 (some 60) rfl rfl (.int .i64 (i : Int)) (by kernel_rfl) (by kernel_rfl) (by kernel_rfl) (fun _ _ _ _ h => h) (by kernel_rfl) (fun _ => by kernel_rfl) SS ?_
  refine rg_loadRow 5 (some 61) rfl rfl (by kernel_rfl) (by kernel_rfl) (by kernel_rfl) (fun _ _ _ _ h => h) (by kernel_rfl) _ _ rfl Try.underlying69 rfl w3.heap.size 0 (bys (padded bs)) (by rw [bys_length, hpd]; exact sizePg) (by kernel_rfl) (fun w1 h => h.2) SS ?_
  refine rg_indexN 6 (some 62) rfl rfl (by kernel_rfl) (by kernel_rfl) (by kernel_rfl) (fun _ _ _ _ h => h) (by kernel_rfl) _ _ _ rfl Try.underlying53 128 sizePgE P n n i (by kernel_rfl) (by kernel_rfl) hi SS ?_
  refine rg_do 7 (by kernel_rfl) rfl (by kernel_rfl) (w4.drew.setCells P (128 * i) (bys (padded bs))) (exec_storeRow 69 _ _ rfl P (128 * i) (bys (padded bs)).toArray (by kernel_rfl) (by kernel_rfl) TH (by rw [List.size_toArray, bys_length, hpd]; exact sizePg) OC) S5 ?_
  refine wpAnyH_done (by kernel_rfl) ?_ _
  generalize w4.drew.setCells P (128 * i) (bys (padded bs)) = w5 at W5 ⊢
  go_wp2_with fail
  exact bodyPost_ret (v := .int .i64 0) (by kernel_rfl) (by kernel_rfl) W5

set_option maxHeartbeats 4000000 in
set_option maxRecDepth 100000 in
theorem write_presentB (T D P M n : Nat) (pg old : Nat → List UInt8) (lo : List (Nat × Nat)) (c : Nat) (dead : Bool) (fuse : Int) (i : Nat) (bp : Option Addr) (bc : Nat) (bs : List UInt8) (w : World) (h : Dk w D P M n pg dead fuse) (hw : Was w M n old lo c) (had : actD dead fuse = false) (hi : i < n) (hb : Lies w bp bs) (hnb : bs ≠ [] → ∀ b o, bp = some ⟨b, o, none⟩ → some b ≠ some D) (hlen : bs.length ≤ 128) (hT : T ≤ D ∧ T ≤ P ∧ T ≤ M) (hTw : T ≤ w.heap.size) (hex : inW lo i) :
    Calls Try.prog 14 #[.pointer (some ⟨D, 0, none⟩), .int .i64 i, .slice bp bs.length bc] w (WroteB T w D P M n pg old lo c (actF dead fuse) i bs) := by
  have MD := Lib.hid (made_is _ n w h.sized h.pos.1)
  have WI := Lib.hid (within_is _ n i w h.sized true (by simp; omega))
  have AC := Lib.hid (act_all D P M n pg dead fuse w h)
  unfold Acted at AC
  rw [had] at AC
  simp only [Bool.false_eq_true, if_false] at AC
  generalize actF dead fuse = f1 at AC ⊢
  have hDM : some M ≠ some D := fun e => h.ne.2.1 (Option.some.inj e).symm
  have HW := Lib.hid hw; have HB0 := Lib.hid hb; have NB := Lib.hid hnb
  have hpl := h.len i hi
  have hol : (old i).length = 128 := by obtain ⟨e, he, rfl⟩ := hex; exact hw.len e he
  have hlen' : ¬ (bs.length : Int) > 128 := by omega
  have HLE := Lib.hid hlen; have HTT := Lib.hid hT
  clear h hw hb hlen hT hnb had
  go_enter Try.func14, Try.ntmps14
  go_wp2_with fail
  refine MD.out.mono ?_
  rintro e w' ⟨rfl, rfl⟩
  clear MD
  go_wp2_with fail
  refine WI.out.mono ?_
  rintro e w' ⟨rfl, rfl⟩
  clear WI
  go_wp2_with fail
  refine AC.out.mono ?_
  rintro e w1 ⟨rfl, hdk, hg⟩
  have H := Lib.hid hdk
  have WS := Lib.hid (HW.out.at (hg.block M HW.out.mlt hDM))
  have BW := Lib.hid ((Bes.refl D P M w).grown hg (Nat.le_refl _) (fun k hk => by cases hk; simp))
  have HB := Lib.hid ((show Lies w1 bp bs from fun h0 => (HB0.out.kept2 hg (fun b o e => NB.out h0 b o e)) h0))
  obtain ⟨c0, c1, c2, c3⟩ := d_cells hdk.obj
  have hz1 := hg.size
  clear AC hdk hg
  go_wp2_with fail
  have hTw1 : T ≤ w1.heap.size := Nat.le_trans hTw hz1
  rw [WS.out.run_here Try.underlying54 keyI i hex]
  rw [Result.andThen_ok, Oper.upon_value]
  rename_i hK
  refine hK _ _ ?_
  clear hK
  refine wpList_val rfl (.tuple #[.agg (bys (old i)).toArray, .bool true]) w1 (by kernel_rfl) ?_
  refine wpList_val rfl (.agg (bys (old i)).toArray) w1 (by kernel_rfl) ?_
  refine wpList_val rfl (.bool true) w1 (by kernel_rfl) ?_
  have A1 : Below w1.heap.size w1 (w1.alloc (.cells zeroCells8 69)) := (Below.refl _ _).alloc (Nat.le_refl _) _
  have H1 := heap_alloc_new w1 (.cells zeroCells8 69)
  refine wpList_val rfl (.pointer (some ⟨w1.heap.size, 0, none⟩)) (w1.alloc (.cells zeroCells8 69)) (by kernel_rfl) ?_
  generalize hw1 : w1.alloc (.cells zeroCells8 69) = wa at A1 H1 ⊢
  refine wpList_store_mid rfl 69 _ _ rfl w1.heap.size 0 (bys (old i)).toArray (by kernel_rfl) (by kernel_rfl) ?_ (by rw [List.size_toArray, bys_length, hol]; exact sizePg) (all_oneCell_toArray (bys_one _)) ?_
  · intro j hj
    have : wa.heap[w1.heap.size]? = some (.cells zeroCells8 69 (0, 0)) := H1
    constructor
    · rw [cell_of_row wa w1.heap.size (0 + j) _ _ _ this, Array.getElem?_eq_getElem (by rw [List.size_toArray, bys_length, hol] at hj; rw [Nat.zero_add]; exact hj)]
      rfl
    · unfold World.frozen?
      simp [this]
  have A2 : Below w1.heap.size w1 (wa.setCells w1.heap.size 0 (bys (old i)).toArray.toList) := below_setCells _ (Nat.le_refl _) _ _ _ _ A1
  generalize wa.setCells w1.heap.size 0 (bys (old i)).toArray.toList = w2 at A2 ⊢
  refine wpList_val rfl (.bool true) w2 (by kernel_rfl) ?_
  refine wpList_nil ?_
  go_wp2_with fail
  have D3 := H.out.below A2
  have M3 := (A2.block M (Array.getElem?_eq_some_iff.1 WS.out.map).1).trans WS.out.map
  have T3 : Bes D P M w1 w2 := Bes.of A2
  have L3 := HB.out.below A2
  obtain ⟨-, ne1, ne2⟩ := H.out.ne
  go_wp2_with fail
  have B4 : Below w2.heap.size w2 (w2.alloc (.cells Try.zeroCells69 69)) := (Below.refl _ _).alloc (Nat.le_refl _) _
  have H4 : (w2.alloc (.cells Try.zeroCells69 69)).heap[w2.heap.size]? = some (.cells Try.zeroCells69 69 (0, 0)) := heap_alloc_new w2 _
  rw [copy_pad (w2.alloc (.cells Try.zeroCells69 69)) w2.heap.size bp bc bs _ (L3.below B4) HLE.out H4]
  rw [Result.andThen_ok, Oper.upon_value]
  rename_i hK
  refine hK _ _ ?_
  clear hK
  have hpd := padded_length HLE.out
  have B5 : Below w2.heap.size w2 ((w2.alloc (.cells Try.zeroCells69 69)).setRow w2.heap.size (bys (padded bs)).toArray) := B4.trans ⟨rfl, rfl, rfl, by simp [World.setRow], fun k hk => setRow_other _ _ _ _ (by omega)⟩
  have R5 : ((w2.alloc (.cells Try.zeroCells69 69)).setRow w2.heap.size (bys (padded bs)).toArray).rangeAt w2.heap.size 0 (bys (padded bs)) := by
    intro j v hv
    rw [cell_setRow_same _ _ _ _ _ _ _ H4, Nat.zero_add]
    simpa using hv
  generalize (w2.alloc (.cells Try.zeroCells69 69)).setRow w2.heap.size (bys (padded bs)).toArray = w4 at B5 R5 ⊢
  have D4 := D3.below B5
  have M4 : w4.heap[M]? = some (.map (ents (wasL old lo)).toArray c) := (B5.block M (Array.getElem?_eq_some_iff.1 M3).1).trans M3
  have T4 : Bes D P M w1 w4 := T3.andThen B5
  have SS : w4.drew.cell? ⟨D, 2, none⟩ = some (.slice (some ⟨P, 0, none⟩) n n) ∧ w4.drew.rangeAt w2.heap.size 0 (bys (padded bs)) := ⟨(d_cells D4.drew.obj).2.2.1, R5⟩
  have TH : w4.drew.there P (128 * i) (bys (padded bs)).toArray.size := by
    intro k hk
    have := D4.drew.may (128 * i + k) (by rw [List.size_toArray, bys_length, hpd] at hk; omega)
    rwa [Nat.zero_add] at this
  have OC : (bys (padded bs)).toArray.all (·.oneCell') = true := all_oneCell_toArray (fun v hv => by
    obtain ⟨x, -, rfl⟩ := List.mem_map.1 hv
    rfl)
  have hPlt : P < w2.heap.size := D3.plt
  have S5 : (w4.drew.setCells P (128 * i) (bys (padded bs))).cell? ⟨D, 2, none⟩ = some (.slice (some ⟨P, 0, none⟩) n n) ∧ (w4.drew.setCells P (128 * i) (bys (padded bs))).rangeAt w2.heap.size 0 (bys (padded bs)) :=
    ⟨(d_cells (D4.drew.stored i hi _ hpd).obj).2.2.1, World.rangeAt_setCells_apart SS.2 _ _ _ (Or.inl (by omega))⟩
  clear H4 B4
  have M5 := (heap_setCells_other P M (by omega) (bys (padded bs)) (128 * i) w4.drew).trans M4
  have W5 : WroteB T w D P M n pg old lo c f1 i bs (.returned (.int .i64 0)) (w4.drew.setCells P (128 * i) (bys (padded bs))) :=
    ⟨rfl, D4.drew.stored i hi _ hpd, Was.stays hex ⟨M5, WS.out.key, WS.out.born, WS.out.lt, WS.out.len⟩, BW.out.trans (T4.drew.setCells P (Or.inr (Or.inl rfl)) _ _)⟩
  go_wp2_with fail
  refine rg_start (n := 8) (S := fun w' => w'.cell? ⟨D, 2, none⟩ = some (.slice (some ⟨P, 0, none⟩) n n) ∧ w'.rangeAt w2.heap.size 0 (bys (padded bs))) (by kernel_rfl) rfl SS ?_
  refine rgd_pure 0 (some 56) rfl rfl (.pointer (some ⟨D, 0, none⟩)) (by kernel_rfl) (by kernel_rfl) (by kernel_rfl) (fun _ _ _ _ h => h) (by kernel_rfl) (fun _ => by kernel_rfl) SS ?_
  refine rgd_pure 1 (some 57) rfl rfl (.pointer (some ⟨D, 0, none⟩)) (by kernel_rfl) (by kernel_rfl) (by kernel_rfl) (fun _ _ _ _ h => h) (by kernel_rfl) (fun _ => by kernel_rfl) SS ?_
  refine rgd_pure 2 (some 58) rfl rfl (.pointer (some ⟨D, 2, none⟩)) (by kernel_rfl) (by kernel_rfl) (by kernel_rfl) (fun _ _ _ _ h => h) (by kernel_rfl) (fun _ => by kernel_rfl) SS ?_
  refine rgd_load 3 (some 59) rfl rfl (by kernel_rfl) (by kernel_rfl) (by kernel_rfl) (fun _ _ _ _ h => h) (by kernel_rfl) _ _ rfl Try.underlying53 rfl ⟨D, 2, none⟩ (.slice (some ⟨P, 0, none⟩) n n) (by kernel_rfl) (fun w1 h => h.1) SS ?_
  refine rgd_pure 4 (some 60) rfl rfl (.int .i64 (i : Int)) (by kernel_rfl) (by kernel_rfl) (by kernel_rfl) (fun _ _ _ _ h => h) (by kernel_rfl) (fun _ => by kernel_rfl) SS ?_
  refine rg_loadRow 5 (some 61) rfl rfl (by kernel_rfl) (by kernel_rfl) (by kernel_rfl) (fun _ _ _ _ h => h) (by kernel_rfl) _ _ rfl Try.underlying69 rfl w2.heap.size 0 (bys (padded bs)) (by rw [bys_length, hpd]; exact sizePg) (by kernel_rfl) (fun w1 h => h.2) SS ?_
  refine rg_indexN 6 (some 62) rfl rfl (by kernel_rfl) (by kernel_rfl) (by kernel_rfl) (fun _ _ _ _ h => h) (by kernel_rfl) _ _ _ rfl Try.underlying53 128 sizePgE P n n i (by kernel_rfl) (by kernel_rfl) hi SS ?_
  refine rg_do 7 (by kernel_rfl) rfl (by kernel_rfl) (w4.drew.setCells P (128 * i) (bys (padded bs))) (exec_storeRow 69 _ _ rfl P (128 * i) (bys (padded bs)).toArray (by kernel_rfl) (by kernel_rfl) TH (by rw [List.size_toArray, bys_length, hpd]; exact sizePg) OC) S5 ?_
  refine wpAnyH_done (by kernel_rfl) ?_ _
  generalize w4.drew.setCells P (128 * i) (bys (padded bs)) = w5 at W5 ⊢
  go_wp2_with fail
  exact bodyPost_ret (v := .int .i64 0) (by kernel_rfl) (by kernel_rfl) W5

theorem write_goB (T D P M n : Nat) (pg old : Nat → List UInt8) (lo : List (Nat × Nat)) (c : Nat) (dead : Bool) (fuse : Int) (i : Nat) (bp : Option Addr) (bc : Nat) (bs : List UInt8) (w : World) (h : Dk w D P M n pg dead fuse) (hw : Was w M n old lo c) (had : actD dead fuse = false) (hi : i < n) (hb : Lies w bp bs) (hnb : bs ≠ [] → ∀ b o, bp = some ⟨b, o, none⟩ → some b ≠ some D) (hlen : bs.length ≤ 128) (hT : T ≤ D ∧ T ≤ P ∧ T ≤ M) (hTw : T ≤ w.heap.size) :
    Calls Try.prog 14 #[.pointer (some ⟨D, 0, none⟩), .int .i64 i, .slice bp bs.length bc] w (WroteB T w D P M n pg old lo c (actF dead fuse) i bs) := by
  by_cases hx : inW lo i
  · exact write_presentB T D P M n pg old lo c dead fuse i bp bc bs w h hw had hi hb hnb hlen hT hTw hx
  · exact write_absentB T D P M n pg old lo c dead fuse i bp bc bs w h hw had hi hb hnb hlen hT hTw hx
set_option maxHeartbeats 4000000 in
set_option maxRecDepth 100000 in
theorem sync_allB (T D P M n : Nat) (pg old : Nat → List UInt8) (lo : List (Nat × Nat)) (c : Nat) (dead : Bool) (fuse : Int) (w : World) (h : Dk w D P M n pg dead fuse) (hw : Was w M n old lo c) (hT : T ≤ M ∧ T ≤ D) (hTw : T ≤ w.heap.size) :
    Calls Try.prog 17 #[.pointer (some ⟨D, 0, none⟩)] w (SyncB w D P M n pg old lo c dead fuse) := by
  have MD := Lib.hid (made_is _ n w h.sized h.pos.1)
  have AC := Lib.hid (act_all D P M n pg dead fuse w h)
  have hDM : some M ≠ some D := fun e => h.ne.2.1 (Option.some.inj e).symm
  have HW := Lib.hid hw
  unfold SyncB
  unfold Acted at AC
  generalize actD dead fuse = d1 at AC ⊢
  generalize actF dead fuse = f1 at AC ⊢
  clear h hw
  cases d1 with
  | true =>
    simp only [if_true] at AC ⊢
    go_enter Try.func17, Try.ntmps17
    go_wp2_with fail
    refine MD.out.mono ?_
    rintro e w' ⟨rfl, rfl⟩
    clear MD
    go_wp2_with fail
    refine AC.out.mono ?_
    rintro e w1 ⟨rfl, hdk, hg⟩
    have DK := Lib.hid hdk
    have WS := Lib.hid (HW.out.at (hg.block M HW.out.mlt hDM))
    have BW := Lib.hid ((Bes.refl D P M w).grown hg (Nat.le_refl _) (fun k hk => by cases hk; simp))
    clear hdk hg AC
    go_wp2
    exact bodyPost_ret (v := .int .i64 9) (by kernel_rfl) (by kernel_rfl) ⟨rfl, DK.out, WS.out, BW.out⟩
  | false =>
    simp only [Bool.false_eq_true, if_false] at AC ⊢
    go_enter Try.func17, Try.ntmps17
    go_wp2_with fail
    refine MD.out.mono ?_
    rintro e w' ⟨rfl, rfl⟩
    clear MD
    go_wp2_with fail
    refine AC.out.mono ?_
    rintro e w1 ⟨rfl, hdk, hg⟩
    have DK := Lib.hid hdk
    have WS := Lib.hid (HW.out.at (hg.block M HW.out.mlt hDM))
    have BW := Lib.hid ((Bes.refl D P M w).grown hg (Nat.le_refl _) (fun k hk => by cases hk; simp))
    obtain ⟨c0, c1, c2, c3⟩ := d_cells hdk.obj
    obtain ⟨-, ne1, ne2⟩ := hdk.ne
    clear hdk hg AC
    go_wp2_with fail
    rw [run_clear WS.out.map Try.underlying54 _]
    rw [Result.andThen_ok, Oper.upon_value]
    rename_i hK
    refine hK _ _ ?_
    clear hK
    have DK2 := Lib.hid (DK.out.grown (mapTo_grown w1 M (.map (ents []).toArray c)) (by simp [ne1]) (by simp [ne2]))
    have WS2 : Hid (Was (mapTo w1 M (.map (ents []).toArray c)) M n old [] c) := Was.nil (mapTo_at WS.out.map)
    have BW2 := Lib.hid (BW.out.grown (mapTo_grown w1 M (.map (ents []).toArray c)) BW.out.size (fun k hk => by cases hk; simp))
    generalize mapTo w1 M (.map (ents []).toArray c) = w2 at DK2 WS2 BW2 ⊢
    clear c0 c1 c2 c3
    go_wp2
    exact bodyPost_ret (v := .int .i64 0) (by kernel_rfl) (by kernel_rfl) ⟨rfl, DK2.out, WS2.out, BW2.out⟩
end Go.Proofs.Ytfgjcgonlpbdbaa
