/- Write of a page that was not written since the last sync. -/
import Derived.Test.YtfgjcgonlpbdbaaPgOps
namespace Go.Proofs.Ytfgjcgonlpbdbaa
open Go Go.RowKit Region
set_option linter.unusedVariables false

theorem Dk.grown {w w' : World} {D P M n : Nat} {pg : Nat → List UInt8} {dead : Bool} {fuse : Int} {row : Option Nat} (h : Dk w D P M n pg dead fuse) (hg : w.grownBy w' row) (h1 : some D ≠ row) (h2 : some P ≠ row) : Dk w' D P M n pg dead fuse :=
  ⟨(hg.block D h.lt h1).trans h.obj, h.pos, h.fz, h.len, fun i hi j v hj => hg.cell (h.has i hi j v hj) h2,
    fun j hj => ⟨by
      obtain ⟨v, hv⟩ := Option.isSome_iff_exists.1 (h.may j hj).1
      rw [hg.cell hv h2]; rfl, by
      have := (h.may j hj).2
      unfold World.frozen? at this ⊢
      rw [show w'.heap[(⟨P, 0 + j, none⟩ : Addr).block]? = w.heap[(⟨P, 0 + j, none⟩ : Addr).block]? from hg.block P h.plt h2]
      exact this⟩, h.ne⟩
theorem Dk.drew {w : World} {D P M n : Nat} {pg : Nat → List UInt8} {dead : Bool} {fuse : Int} (h : Dk w D P M n pg dead fuse) : Dk w.drew D P M n pg dead fuse := h.below (Below.refl _ _).drew
theorem below_setCells {B : Nat} (b : Nat) (hb : B ≤ b) : ∀ (vs : List Value) (o : Nat) (a w : World), Below B a w → Below B a (w.setCells b o vs)
  | [], _, _, _, h => h
  | v :: r, o, a, w, h => below_setCells b hb r (o + 1) a _ (h.setCell hb v)
theorem Lies.turn {w : World} {p : Option Addr} {l : List UInt8} (h : Lies w p l) {M : Nat} {e : Array MapEntry} {c : Nat} (hM : w.heap[M]? = some (.map e c)) (ob : Obj) : Lies (mapTo w M ob) p l := by
  intro h0
  obtain ⟨b, o, rfl, hc⟩ := h h0
  refine ⟨b, o, rfl, fun i hi => ?_⟩
  have hx := hc i hi
  have ne : b ≠ M := by
    intro e; subst e
    simp [World.cell?, hM] at hx
  exact (mapTo_grown w M ob).cell hx (by simp [ne])
/-- bytes with noughts behind them -/
def padded (bs : List UInt8) : List UInt8 := bs ++ List.replicate (128 - bs.length) 0
def upd (pg : Nat → List UInt8) (i : Nat) (p : List UInt8) : Nat → List UInt8 := fun j => if j = i then p else pg j
theorem pad_cells (m : Nat) (bs : List UInt8) : (List.replicate m (Value.int .u8 0)).take 0 ++ bys bs ++ (List.replicate m (Value.int .u8 0)).drop (0 + (bys bs).length) = bys (bs ++ List.replicate (m - bs.length) 0) := by
  simp [bys]
theorem padded_length {bs : List UInt8} (h : bs.length ≤ 128) : (padded bs).length = 128 := by
  simp [padded]; omega
theorem heap_setCells_other (b k : Nat) (hk : k ≠ b) : ∀ (vs : List Value) (o : Nat) (w : World), (w.setCells b o vs).heap[k]? = w.heap[k]?
  | [], _, _ => rfl
  | v :: r, o, w => (heap_setCells_other b k hk r (o + 1) _).trans (Below.heap_setCell w ⟨b, o, none⟩ v k hk)
theorem Dk.stored {w : World} {D P M n : Nat} {pg : Nat → List UInt8} {dead : Bool} {fuse : Int} (h : Dk w D P M n pg dead fuse) (i : Nat) (hi : i < n) (p : List UInt8) (hp : p.length = 128) : Dk (w.setCells P (128 * i) (bys p)) D P M n (upd pg i p) dead fuse :=
  ⟨(heap_setCells_other P D h.ne.1 _ _ _).trans h.obj, h.pos, h.fz, fun j hj => by
    unfold upd; split
    · exact hp
    · exact h.len j hj, fun j hj => by
    unfold upd; split
    · rename_i e; subst e
      refine World.rangeAt_setCells_same _ _ _ _ fun k hk => ?_
      have := h.may (128 * j + k) (by rw [bys_length, hp] at hk; omega)
      rwa [Nat.zero_add] at this
    · rename_i e
      refine World.rangeAt_setCells_apart (h.has j hj) _ _ _ ?_
      rw [bys_length, bys_length, hp, h.len j hj]
      omega, World.there_setCells h.may _ _ _, h.ne⟩
/-- what Write comes to -/
def Wrote (T : Nat) (w : World) (D P M n : Nat) (pg : Nat → List UInt8) (l : List (Int × Value × Nat)) (c i : Nat) (bs : List UInt8) (e : Ending) (w' : World) : Prop :=
  e = .returned (.int .i64 0) ∧ Dk w' D P M n (upd pg i (padded bs)) false (-1) ∧ w'.heap[M]? = some (.map (ents (l ++ [((i : Int), .agg (bys (pg i)).toArray, c)])).toArray (c + 1)) ∧ Below T w w'

set_option maxHeartbeats 4000000 in
set_option maxRecDepth 100000 in
theorem write_new (T D P M n : Nat) (pg : Nat → List UInt8) (l : List (Int × Value × Nat)) (c i : Nat) (bp : Option Addr) (bc : Nat) (bs : List UInt8) (w : World) (h : Dk w D P M n pg false (-1)) (hm : w.heap[M]? = some (.map (ents l).toArray c)) (hl : ∀ e ∈ l, e.1 ≠ (i : Int)) (hi : i < n) (hb : Lies w bp bs) (hlen : bs.length ≤ 128) (h0 : 0 < bs.length) (hT : T ≤ D ∧ T ≤ P ∧ T ≤ M) (hTw : T ≤ w.heap.size) :
    Calls Try.prog 14 #[.pointer (some ⟨D, 0, none⟩), .int .i64 i, .slice bp bs.length bc] w (Wrote T w D P M n pg l c i bs) := by
  have MD := Lib.hid (made_is _ n w h.sized h.pos.1)
  have WI := Lib.hid (within_is _ n i w h.sized true (by simp; omega))
  have AC := Lib.hid (act_free D P M n pg (-1) w h (by omega))
  have H := Lib.hid h; have HM := Lib.hid hm; have HB := Lib.hid hb
  obtain ⟨c0, c1, c2, c3⟩ := d_cells h.obj
  have hpl := h.len i hi
  have hlen' : ¬ (bs.length : Int) > 128 := by omega
  have HLE := Lib.hid hlen; have HTT := Lib.hid hT
  clear h hm hb hlen hT
  go_enter Try.func14, Try.ntmps14
  go_wp2_with fail
  refine MD.out.mono ?_
  rintro e w' ⟨rfl, rfl⟩
  clear MD
  go_wp2_with fail
  refine WI.out.mono ?_
  rintro e w' ⟨rfl, rfl⟩
  clear WI
  go_wp2_with fail
  refine AC.out.mono ?_
  rintro e w' ⟨rfl, rfl⟩
  clear AC
  go_wp2_with fail
  rw [run_lookup_absent Try.underlying54 keyI (zeroPgV w) HM.out i hl]
  rw [Result.andThen_ok, Oper.upon_value]
  rename_i hK
  refine hK _ _ ?_
  clear hK
  refine wpList_val rfl (.tuple #[.agg zeroCells8, .bool false]) w (by kernel_rfl) ?_
  refine wpList_val rfl (.agg zeroCells8) w (by kernel_rfl) ?_
  refine wpList_val rfl (.bool false) w (by kernel_rfl) ?_
  have A1 : Below w.heap.size w (w.alloc (.cells zeroCells8 69)) := (Below.refl _ _).alloc (Nat.le_refl _) _
  have H1 := heap_alloc_new w (.cells zeroCells8 69)
  refine wpList_val rfl (.pointer (some ⟨w.heap.size, 0, none⟩)) (w.alloc (.cells zeroCells8 69)) (by kernel_rfl) ?_
  generalize hw1 : w.alloc (.cells zeroCells8 69) = w1 at A1 H1 ⊢
  refine wpList_store_mid rfl 69 _ _ rfl w.heap.size 0 zeroCells8 (by kernel_rfl) (by kernel_rfl) ?_ sizePg (by kernel_rfl) ?_
  · intro j hj
    have : w1.heap[w.heap.size]? = some (.cells zeroCells8 69 (0, 0)) := H1
    constructor
    · rw [cell_of_row w1 w.heap.size (0 + j) _ _ _ this, Array.getElem?_eq_getElem (by rw [Nat.zero_add]; exact hj)]
      rfl
    · unfold World.frozen?
      simp [this]
  have A2 : Below w.heap.size w (w1.setCells w.heap.size 0 zeroCells8.toList) := below_setCells _ (Nat.le_refl _) _ _ _ _ A1
  generalize w1.setCells w.heap.size 0 zeroCells8.toList = w2 at A2 ⊢
  refine wpList_val rfl (.bool false) w2 (by kernel_rfl) ?_
  refine wpList_nil ?_
  go_wp2_with fail
  have D2 := H.out.below A2
  have M2 : w2.drew.heap[M]? = some (.map (ents l).toArray c) := (A2.block M (Array.getElem?_eq_some_iff.1 HM.out).1).trans HM.out
  obtain ⟨-, ne1, ne2⟩ := H.out.ne
  refine rg_start (n := 13) (S := fun w' => Dk w' D P M n pg false (-1)) (by kernel_rfl) rfl D2.drew ?_
  refine rgd_pure 0 (some 41) rfl rfl (.pointer (some ⟨D, 0, none⟩)) (by kernel_rfl) (by kernel_rfl) (by kernel_rfl) (fun _ _ _ _ h => h) (by kernel_rfl) (fun _ => by kernel_rfl) D2.drew ?_
  refine rgd_pure 1 (some 42) rfl rfl (.pointer (some ⟨D, 0, none⟩)) (by kernel_rfl) (by kernel_rfl) (by kernel_rfl) (fun _ _ _ _ h => h) (by kernel_rfl) (fun _ => by kernel_rfl) D2.drew ?_
  refine rgd_pure 2 (some 43) rfl rfl (.pointer (some ⟨D, 3, none⟩)) (by kernel_rfl) (by kernel_rfl) (by kernel_rfl) (fun _ _ _ _ h => h) (by kernel_rfl) (fun _ => by kernel_rfl) D2.drew ?_
  refine rgd_load 3 (some 44) rfl rfl (by kernel_rfl) (by kernel_rfl) (by kernel_rfl) (fun _ _ _ _ h => h) (by kernel_rfl) _ _ rfl Try.underlying54 rfl ⟨D, 3, none⟩ (.map (some M)) (by kernel_rfl) (fun w h => (d_cells h.obj).2.2.2) D2.drew ?_
  refine rgd_pure 4 (some 45) rfl rfl (.int .i64 (i : Int)) (by kernel_rfl) (by kernel_rfl) (by kernel_rfl) (fun _ _ _ _ h => h) (by kernel_rfl) (fun _ => by kernel_rfl) D2.drew ?_
  refine rgd_pure 5 (some 46) rfl rfl (.pointer (some ⟨D, 0, none⟩)) (by kernel_rfl) (by kernel_rfl) (by kernel_rfl) (fun _ _ _ _ h => h) (by kernel_rfl) (fun _ => by kernel_rfl) D2.drew ?_
  refine rgd_pure 6 (some 47) rfl rfl (.pointer (some ⟨D, 0, none⟩)) (by kernel_rfl) (by kernel_rfl) (by kernel_rfl) (fun _ _ _ _ h => h) (by kernel_rfl) (fun _ => by kernel_rfl) D2.drew ?_
  refine rgd_pure 7 (some 48) rfl rfl (.pointer (some ⟨D, 2, none⟩)) (by kernel_rfl) (by kernel_rfl) (by kernel_rfl) (fun _ _ _ _ h => h) (by kernel_rfl) (fun _ => by kernel_rfl) D2.drew ?_
  refine rgd_load 8 (some 49) rfl rfl (by kernel_rfl) (by kernel_rfl) (by kernel_rfl) (fun _ _ _ _ h => h) (by kernel_rfl) _ _ rfl Try.underlying53 rfl ⟨D, 2, none⟩ (.slice (some ⟨P, 0, none⟩) n n) (by kernel_rfl) (fun w h => (d_cells h.obj).2.2.1) D2.drew ?_
  refine rgd_pure 9 (some 50) rfl rfl (.int .i64 (i : Int)) (by kernel_rfl) (by kernel_rfl) (by kernel_rfl) (fun _ _ _ _ h => h) (by kernel_rfl) (fun _ => by kernel_rfl) D2.drew ?_
  refine rg_indexN 10 (some 51) rfl rfl (by kernel_rfl) (by kernel_rfl) (by kernel_rfl) (fun _ _ _ _ h => h) (by kernel_rfl) _ _ _ rfl Try.underlying53 128 sizePgE P n n i (by kernel_rfl) (by kernel_rfl) hi D2.drew ?_
  refine rg_loadRow 11 (some 52) rfl rfl (by kernel_rfl) (by kernel_rfl) (by kernel_rfl) (fun _ _ _ _ h => h) (by kernel_rfl) _ _ rfl Try.underlying69 rfl P (128 * i) (bys (pg i)) (by rw [bys_length, hpl]; exact sizePg) (by kernel_rfl) (fun w h => h.has i hi) D2.drew ?_
  refine rg_do 12 (by kernel_rfl) rfl (by kernel_rfl) (mapTo w2.drew M (.map (ents (l ++ [((i : Int), .agg (bys (pg i)).toArray, c)])).toArray (c + 1))) (exec_update _ _ _ rfl _ _ _ (by kernel_rfl) (by kernel_rfl) (by kernel_rfl) _ (run_update_absent Try.underlying54 keyI M2 (i : Int) _ hl)) (D2.drew.grown (mapTo_grown _ _ _) (by simp [ne1]) (by simp [ne2])) ?_
  refine wpAnyH_done (by kernel_rfl) ?_ _
  have D3 := D2.drew.grown (mapTo_grown w2.drew M (.map (ents (l ++ [((i : Int), .agg (bys (pg i)).toArray, c)])).toArray (c + 1))) (by simp [ne1]) (by simp [ne2])
  have M3 := mapTo_at (o' := .map (ents (l ++ [((i : Int), .agg (bys (pg i)).toArray, c)])).toArray (c + 1)) M2
  have T3 : Below T w (mapTo w2.drew M (.map (ents (l ++ [((i : Int), .agg (bys (pg i)).toArray, c)])).toArray (c + 1))) := (A2.drew.mono hTw).grown (mapTo_grown _ _ _) (Nat.le_trans hTw A2.size) (fun k hk => by cases hk; exact HTT.out.2.2)
  have L3 := ((HB.out.below A2).drew).turn M2 (.map (ents (l ++ [((i : Int), .agg (bys (pg i)).toArray, c)])).toArray (c + 1))
  generalize mapTo w2.drew M (.map (ents (l ++ [((i : Int), .agg (bys (pg i)).toArray, c)])).toArray (c + 1)) = w3 at D3 M3 T3 L3 ⊢
  go_wp2_with fail
  obtain ⟨b, o, rfl, hblt, hc⟩ := L3.at h0
  have B4 : Below w3.heap.size w3 (w3.alloc (.cells Try.zeroCells69 69)) := (Below.refl _ _).alloc (Nat.le_refl _) _
  have H4 : (w3.alloc (.cells Try.zeroCells69 69)).heap[w3.heap.size]? = some (.cells Try.zeroCells69 69 (0, 0)) := heap_alloc_new w3 _
  rw [run_copy_row Try.prog (w3.alloc (.cells Try.zeroCells69 69)) _ _ _ 5 w3.heap.size 0 128 128 ⟨b, o, none⟩ bs.length bc _ _ (bys bs) Try.underlying31 (by kernel_rfl) H4 ?_ ?_ ?_ ?_]
  rw [Result.andThen_ok, Oper.upon_value]
  rename_i hK
  refine hK _ _ ?_
  clear hK
  have hpd := padded_length HLE.out
  have hcs : ((Try.zeroCells69).toList.take 0 ++ bys bs ++ (Try.zeroCells69).toList.drop (0 + (bys bs).length)).toArray = (bys (padded bs)).toArray := by
    rw [show (Try.zeroCells69).toList = List.replicate 128 (.int .u8 0) from by kernel_rfl]
    rw [pad_cells]; rfl
  rw [hcs]
  have B5 : Below w3.heap.size w3 ((w3.alloc (.cells Try.zeroCells69 69)).setRow w3.heap.size (bys (padded bs)).toArray) := B4.trans ⟨rfl, rfl, rfl, by simp [World.setRow], fun k hk => setRow_other _ _ _ _ (by omega)⟩
  have R5 : ((w3.alloc (.cells Try.zeroCells69 69)).setRow w3.heap.size (bys (padded bs)).toArray).rangeAt w3.heap.size 0 (bys (padded bs)) := by
    intro j v hv
    rw [cell_setRow_same _ _ _ _ _ _ _ H4, Nat.zero_add]
    simpa using hv
  generalize (w3.alloc (.cells Try.zeroCells69 69)).setRow w3.heap.size (bys (padded bs)).toArray = w4 at B5 R5 ⊢
  have D4 := D3.below B5
  have M4 : w4.heap[M]? = some (.map (ents (l ++ [((i : Int), .agg (bys (pg i)).toArray, c)])).toArray (c + 1)) := (B5.block M (Array.getElem?_eq_some_iff.1 M3).1).trans M3
  have T4 : Below T w w4 := T3.trans (B5.mono (Nat.le_trans hTw T3.size))
  have SS : w4.drew.cell? ⟨D, 2, none⟩ = some (.slice (some ⟨P, 0, none⟩) n n) ∧ w4.drew.rangeAt w3.heap.size 0 (bys (padded bs)) := ⟨(d_cells D4.drew.obj).2.2.1, R5⟩
  have TH : w4.drew.there P (128 * i) (bys (padded bs)).toArray.size := by
    intro k hk
    have := D4.drew.may (128 * i + k) (by rw [List.size_toArray, bys_length, hpd] at hk; omega)
    rwa [Nat.zero_add] at this
  have OC : (bys (padded bs)).toArray.all (·.oneCell') = true := all_oneCell_toArray (fun v hv => by
    obtain ⟨x, -, rfl⟩ := List.mem_map.1 hv
    rfl)
  have hPlt : P < w3.heap.size := D3.plt
  have S5 : (w4.drew.setCells P (128 * i) (bys (padded bs))).cell? ⟨D, 2, none⟩ = some (.slice (some ⟨P, 0, none⟩) n n) ∧ (w4.drew.setCells P (128 * i) (bys (padded bs))).rangeAt w3.heap.size 0 (bys (padded bs)) :=
    ⟨(d_cells (D4.drew.stored i hi _ hpd).obj).2.2.1, World.rangeAt_setCells_apart SS.2 _ _ _ (Or.inl (by omega))⟩
  clear hcs H4 B4
  have W5 : Wrote T w D P M n pg l c i bs (.returned (.int .i64 0)) (w4.drew.setCells P (128 * i) (bys (padded bs))) :=
    ⟨rfl, D4.drew.stored i hi _ hpd, (heap_setCells_other P M (by omega) _ _ _).trans M4, below_setCells _ HTT.out.2.1 _ _ _ _ T4.drew⟩
  go_wp2_with fail
  refine rg_start (n := 8) (S := fun w' => w'.cell? ⟨D, 2, none⟩ = some (.slice (some ⟨P, 0, none⟩) n n) ∧ w'.rangeAt w3.heap.size 0 (bys (padded bs))) (by kernel_rfl) rfl SS ?_
  refine rgd_pure 0 (some 56) rfl rfl (.pointer (some ⟨D, 0, none⟩)) (by kernel_rfl) (by kernel_rfl) (by kernel_rfl) (fun _ _ _ _ h => h) (by kernel_rfl) (fun _ => by kernel_rfl) SS ?_
  refine rgd_pure 1 (some 57) rfl rfl (.pointer (some ⟨D, 0, none⟩)) (by kernel_rfl) (by kernel_rfl) (by kernel_rfl) (fun _ _ _ _ h => h) (by kernel_rfl) (fun _ => by kernel_rfl) SS ?_
  refine rgd_pure 2 (some 58) rfl rfl (.pointer (some ⟨D, 2, none⟩)) (by kernel_rfl) (by kernel_rfl) (by kernel_rfl) (fun _ _ _ _ h => h) (by kernel_rfl) (fun _ => by kernel_rfl) SS ?_
  refine rgd_load 3 (some 59) rfl rfl (by kernel_rfl) (by kernel_rfl) (by kernel_rfl) (fun _ _ _ _ h => h) (by kernel_rfl) _ _ rfl Try.underlying53 rfl ⟨D, 2, none⟩ (.slice (some ⟨P, 0, none⟩) n n) (by kernel_rfl) (fun w h => h.1) SS ?_
  refine rgd_pure 4 (some 60) rfl rfl (.int .i64 (i : Int)) (by kernel_rfl) (by kernel_rfl) (by kernel_rfl) (fun _ _ _ _ h => h) (by kernel_rfl) (fun _ => by kernel_rfl) SS ?_
  refine rg_loadRow 5 (some 61) rfl rfl (by kernel_rfl) (by kernel_rfl) (by kernel_rfl) (fun _ _ _ _ h => h) (by kernel_rfl) _ _ rfl Try.underlying69 rfl w3.heap.size 0 (bys (padded bs)) (by rw [bys_length, hpd]; exact sizePg) (by kernel_rfl) (fun w h => h.2) SS ?_
  refine rg_indexN 6 (some 62) rfl rfl (by kernel_rfl) (by kernel_rfl) (by kernel_rfl) (fun _ _ _ _ h => h) (by kernel_rfl) _ _ _ rfl Try.underlying53 128 sizePgE P n n i (by kernel_rfl) (by kernel_rfl) hi SS ?_
  refine rg_do 7 (by kernel_rfl) rfl (by kernel_rfl) (w4.drew.setCells P (128 * i) (bys (padded bs))) (exec_storeRow 69 _ _ rfl P (128 * i) (bys (padded bs)).toArray (by kernel_rfl) (by kernel_rfl) TH (by rw [List.size_toArray, bys_length, hpd]; exact sizePg) OC) S5 ?_
  refine wpAnyH_done (by kernel_rfl) ?_ _
  generalize w4.drew.setCells P (128 * i) (bys (padded bs)) = w5 at W5 ⊢
  go_wp2_with fail
  exact bodyPost_ret (v := .int .i64 0) (by kernel_rfl) (by kernel_rfl) W5
  · rw [bys_length]; exact (Nat.min_eq_left HLE.out).symm
  · intro j v hv
    obtain ⟨hj, he⟩ := List.getElem?_eq_some_iff.1 hv
    rw [bys_length] at hj
    have := hc j hj
    rw [Addr.add_mid, World.cell?_alloc_lt (h := hblt), this, ← he]
    simp [bys, List.getD, hj]
  · rw [bys_length, Nat.zero_add]; exact HLE.out
  · intro v hv
    obtain ⟨x, -, rfl⟩ := List.mem_map.1 hv
    rfl
end Go.Proofs.Ytfgjcgonlpbdbaa
