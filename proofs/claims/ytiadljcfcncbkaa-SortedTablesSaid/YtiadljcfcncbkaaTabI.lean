/- sorted's tables of ints by ints: what lies there; Seek, Put, Get, Len, Keys. -/
import Derived.Test.YtiadljcfcncbkaaSrtInsert
import Derived.Test.YtiadljcfcncbkaaSrtLib2
import Derived.Test.YtiadljcfcncbkaaHpPush
namespace Go.Proofs.Ytiadljcfcncbkaa
open Go Go.RowKit
set_option linter.unusedVariables false

/-- a table at a, its keys and what stands by them in rows of the call's own -/
def TabI (B a : Nat) (K V : List Int) (w : World) : Prop :=
  ∃ vk vv, w.heap[a]? = some (Obj.cells #[vk, vv] 47 (0, 0)) ∧ w.ownsRow B 3 1 vk K.length (ints K) ∧ w.ownsRow B 3 1 vv V.length (ints V) ∧ (vk.ownBlock = none ∨ vk.ownBlock ≠ vv.ownBlock)
theorem TabI.below {B a : Nat} {K V : List Int} {w w' : World} (h : TabI B a K V w) (hb : Below w.heap.size w w') : TabI B a K V w' := by
  obtain ⟨vk, vv, h1, h2, h3, h4⟩ := h
  exact ⟨vk, vv, (hb.block a (Array.getElem?_eq_some_iff.1 h1).1).trans h1, ownI_later h2 hb, ownI_later h3 hb, h4⟩
set_option maxHeartbeats 1000000
set_option maxRecDepth 100000
theorem tabLen_is (B a : Nat) (K V : List Int) (w : World) (h : TabI B a K V w) : Calls Try.prog 22 #[.pointer (some ⟨a, 0, none⟩)] w fun e w' => e = .returned (.int .i64 (K.length : Int)) ∧ w' = w := by
  obtain ⟨vk, vv, h1, h2, h3, h4⟩ := h
  obtain ⟨q, c, rfl⟩ := ownV_slice h2
  have c0 := (cell_of_row w a 0 _ _ _ h1).trans (show _ = some (Value.slice q K.length c) from rfl)
  clear h1 h2 h3 h4
  go_enter Try.func22, Try.ntmps22
  go_wp2
  go_ret
  exact ⟨rfl, rfl⟩
/-- BinarySearch of keys that rise -/
theorem binI_is (B : Nat) (K : List Int) (v : Value) (x : Int) (w : World) (hown : w.ownsRow B 3 1 v K.length (ints K)) (hr : Rise K) (hn : K.length ≤ 1000000) :
    Calls Try.prog 61 #[v, .int .i64 x] w fun e w' => e = .returned (.tuple #[.int .i64 (posI K x : Nat), .bool (decide (x ∈ K))]) ∧ Below w.heap.size w w' := by
  obtain ⟨_, q, c, rfl, _, hl, hq⟩ := own_liesI hown
  by_cases h0 : K = []
  · subst h0
    refine (Try.slices_BinarySearch_int_empty q c x w).mono ?_
    rintro e w' ⟨rfl, h⟩
    refine ⟨rfl, ?_⟩
    first
      | (subst h; exact Below.refl _ _)
      | (obtain ⟨k, rfl⟩ := h; exact below_drewN (Below.refl _ _) k)
  · obtain ⟨b, o, rfl, hc⟩ := hl h0
    have h := Try.slices_BinarySearch_int b o K.length c K x w (Nat.le_refl _) (by omega) hc (by rw [List.take_length]; exact rise_le hr)
    rw [List.take_length] at h
    refine h.mono ?_
    rintro e w' ⟨rfl, k, rfl⟩
    refine ⟨?_, below_drewN (Below.refl _ _) k⟩
    have e1 : K.contains x = decide (x ∈ K) := by simp
    rw [e1]; rfl
theorem tabSeek_is (B a : Nat) (K V : List Int) (x : Int) (w : World) (h : TabI B a K V w) (hr : Rise K) (hn : K.length ≤ 1000000) : Calls Try.prog 42 #[.pointer (some ⟨a, 0, none⟩), .int .i64 x] w fun e w' => e = .returned (.tuple #[.int .i64 (posI K x : Nat), .bool (decide (x ∈ K))]) ∧ Below w.heap.size w w' := by
  obtain ⟨vk, vv, h1, h2, h3, h4⟩ := h
  have c0 := (cell_of_row w a 0 _ _ _ h1).trans (show _ = some vk from rfl)
  have BS := Lib.hid (binI_is B K vk x w h2 hr hn)
  clear h1 h2 h3 h4 hr
  generalize posI K x = p at BS
  generalize decide (x ∈ K) = bb at BS
  go_enter Try.func42, Try.ntmps42
  go_wp2_with fail
  refine BS.out.mono ?_
  rintro e w1 ⟨rfl, hb⟩
  have B1 := Lib.hid hb
  clear hb c0
  go_wp2_with fail
  exact bodyPost_ret (results_tmp2 rfl _ _ _) rfl ⟨rfl, B1.out⟩
theorem tabGet_is (B a : Nat) (K V : List Int) (x : Int) (w : World) (h : TabI B a K V w) (hr : Rise K) (hl : V.length = K.length) (hn : K.length ≤ 1000000) (hx : x ∈ K) : Calls Try.prog 25 #[.pointer (some ⟨a, 0, none⟩), .int .i64 x] w fun e w' => e = .returned (.tuple #[.int .i64 (V.getD (posI K x) 0), .bool true]) ∧ Below w.heap.size w w' := by
  have SK := Lib.hid (tabSeek_is B a K V x w h hr hn)
  have HT := Lib.hid h
  have hp := pos_lt hr hx
  rw [decide_eq_true hx] at SK
  clear h
  generalize posI K x = p at SK hp ⊢
  obtain ⟨y, hy⟩ : ∃ y, V.getD p 0 = y := ⟨_, rfl⟩
  rw [hy]
  have HY := Lib.hid hy
  clear hy
  go_enter Try.func25, Try.ntmps25
  go_wp2_with fail
  refine SK.out.mono ?_
  rintro e w1 ⟨rfl, hb⟩
  obtain ⟨vk, vv, h1, h2, h3, h4⟩ := HT.out.below hb
  obtain ⟨_, q, c, rfl, _, hq, _⟩ := own_liesI h3
  obtain ⟨b1, o1, rfl, _, q1⟩ := hq.at (by omega)
  have r1 := q1 p (by omega)
  rw [HY.out] at r1
  have c1 := (cell_of_row w1 a 1 _ _ _ h1).trans (show _ = some (Value.slice (some ⟨b1, o1, none⟩) V.length c) from rfl)
  have hpV : (p : Int) < V.length := by omega
  have hpV2 : p < V.length := by omega
  have B1 := Lib.hid hb
  clear h1 h2 h3 h4 hq q1 hb SK HT hl
  go_wp2_with fail
  exact bodyPost_ret (results_tmp2 rfl _ _ _) rfl ⟨rfl, B1.out⟩
theorem tabKeys_is (B a : Nat) (K V : List Int) (w : World) (h : TabI B a K V w) (hn : K.length ≤ 100000) : Calls Try.prog 24 #[.pointer (some ⟨a, 0, none⟩)] w fun e w' => ∃ p c, e = .returned (.slice p K.length c) ∧ LiesI w' p K ∧ Below w.heap.size w w' := by
  obtain ⟨vk, vv, h1, h2, h3, h4⟩ := h
  have c0 := (cell_of_row w a 0 _ _ _ h1).trans (show _ = some vk from rfl)
  have CL : Calls Try.prog 51 #[vk] w fun e w' => ∃ p c, e = .returned (.slice p K.length c) ∧ LiesI w' p K ∧ Below w.heap.size w w' := by
    obtain ⟨_, q, c, rfl, _, hl, hq⟩ := own_liesI h2
    cases q with
    | none =>
      obtain ⟨rfl, rfl⟩ := hq rfl
      refine (Try.slices_Clone_int_nil 0 0 w).mono ?_
      rintro e w' ⟨rfl, rfl⟩
      exact ⟨_, _, rfl, LiesI.nil _ _, Below.refl _ _⟩
    | some ad =>
      by_cases h0 : K = []
      · subst h0
        refine (Try.slices_Clone_int_zero ad c w).mono ?_
        rintro e w' ⟨v', rfl, ho, _, hb⟩
        obtain ⟨_, p, c', rfl, _, hp, _⟩ := own_liesI (l := []) ho
        exact ⟨_, _, rfl, hp, hb⟩
      · obtain ⟨b, o, e, hc⟩ := hl h0
        injection e with e
        subst e
        refine (Try.slices_Clone_int b o K.length c K w (Nat.le_refl _) (by omega) hc).mono ?_
        rintro e w' ⟨v', rfl, ho, _, hb⟩
        rw [List.take_length] at ho
        obtain ⟨_, p, c', rfl, _, hp, _⟩ := own_liesI (l := K) ho
        exact ⟨_, _, rfl, hp, hb⟩
  have CLH := Lib.hid CL
  clear h1 h2 h3 h4 CL
  go_enter Try.func24, Try.ntmps24
  go_wp2_with fail
  refine CLH.out.mono ?_
  rintro e w1 ⟨p, c, rfl, hp, hb⟩
  have HP := Lib.hid hp; have HB := Lib.hid hb
  clear hp hb
  go_wp2_with fail
  go_ret
  exact ⟨_, _, rfl, HP.out, HB.out⟩
/-- maps stay -/
def MapsStay (w w' : World) : Prop := ∀ (k : Nat) es c, w.heap[k]? = some (Obj.map es c) → w'.heap[k]? = some (Obj.map es c)
theorem MapsStay.trans {w w1 w2 : World} (h : MapsStay w w1) (k : MapsStay w1 w2) : MapsStay w w2 := fun i es c hi => k i es c (h i es c hi)
theorem mapsStay_below {w w' : World} (hb : Below w.heap.size w w') : MapsStay w w' := fun k es c hk => (hb.block k (Array.getElem?_eq_some_iff.1 hk).1).trans hk
theorem mapsStay_own {w w' : World} {B n : Nat} {e : TypeId} {v : Value} {xs : List Value} (h : w.ownsRow B e 1 v n xs) (hg : w.grownBy w' v.ownBlock) : MapsStay w w' := fun k es c hk => by
  refine (hg.block k (Array.getElem?_eq_some_iff.1 hk).1 ?_).trans hk
  rcases h.2 with ⟨rfl, _⟩ | ⟨g, cap, cur, rfl, _, hgc, _⟩
  · simp [Value.ownBlock]
  · intro e'
    simp [Value.ownBlock] at e'
    subst e'
    rw [hk] at hgc
    cases hgc
theorem mapsStay_set {w : World} {a : Nat} {cs : Array Value} {t : TypeId} {m : Nat × Nat} (ha : w.heap[a]? = some (Obj.cells cs t m)) (j : Nat) (v : Value) : MapsStay w (w.setCell ⟨a, j, none⟩ v) := fun k es c hk => by
  refine (Below.heap_setCell _ _ _ k ?_).trans hk
  intro e
  have e' : k = a := e
  rw [e', ha] at hk
  cases hk
theorem own_setInt {w : World} {B g n cap : Nat} {l : List Int} (h : w.ownsRow B 3 1 (.slice (some ⟨g, 0, none⟩) n cap) n (ints l)) (p : Nat) (y : Int) (hp : p < n) : (w.setCell ⟨g, p, none⟩ (.int .i64 y)).ownsRow B 3 1 (.slice (some ⟨g, 0, none⟩) n cap) n (ints (l.set p y)) := by
  obtain ⟨hB, hn, hm, hl, hgs, f, hf, hx⟩ := own_rowIs h
  rw [ints_length] at hl
  have h1 := hf.set p (.int .i64 y)
  refine rowIs_own h1 hB hn hm (by rw [ints_length, List.length_set]; exact hl) (fun j hj => ?_)
  have e : ints (l.set p y) = (ints l).set p (.int .i64 y) := by simp [ints, List.map_set]
  rw [e, List.getElem?_set]
  by_cases hjp : p = j
  · subst hjp; simp [ints_length, hl, hj]
  · rw [if_neg hjp, hx j hj]
    simp [Ne.symm hjp]
theorem ne_at2 {w : World} {B : Nat} {e : TypeId} {u v v' : Value} {n N : Nat} {xs : List Value} (h : w.ownsRow B e 1 u n xs) (hn : u.ownBlock = none ∨ u.ownBlock ≠ v.ownBlock) (ha : AtRow v v' N) (hN : w.heap.size ≤ N) : u.ownBlock = none ∨ u.ownBlock ≠ v'.ownBlock := by
  rcases h.2 with ⟨rfl, _⟩ | ⟨g, cap, cur, rfl, _, hg, _⟩
  · exact .inl rfl
  · have hlt := (Array.getElem?_eq_some_iff.1 hg).1
    rcases ha with ha | ⟨k, hk, ha⟩
    · rcases hn with hn | hn
      · exact .inl hn
      · exact .inr (by rw [ha]; exact hn)
    · right
      rw [ha]
      simp only [Value.ownBlock]
      intro e; injection e with e; omega
theorem ne_sym {u v : Value} (h : u.ownBlock = none ∨ u.ownBlock ≠ v.ownBlock) : v.ownBlock = none ∨ v.ownBlock ≠ u.ownBlock := by
  rcases h with h | h
  · cases e : v.ownBlock with
    | none => exact .inl rfl
    | some x => exact .inr (by rw [h]; simp)
  · exact .inr (fun e => h e.symm)
theorem own_allocI {w : World} {B n : Nat} {v : Value} {xs : List Value} (h : w.ownsRow B 3 1 v n xs) (x : Int) : v.ownBlock ≠ some w.heap.size := fun e => by have := (h.lt _ e).2; omega
theorem tabPut_is (B a : Nat) (K V : List Int) (x y : Int) (w : World) (h : TabI B a K V w) (hr : Rise K) (hl : V.length = K.length) (hn : K.length ≤ 1000) (haB : a < B) (hB : B ≤ w.heap.size) :
    Calls Try.prog 21 #[.pointer (some ⟨a, 0, none⟩), .int .i64 x, .int .i64 y] w fun e w' => e = .returned (.bool (!decide (x ∈ K))) ∧ TabI B a (keyPut K x) (valPut K V x y) w' ∧ Below a w w' ∧ MapsStay w w' := by
  have SK := Lib.hid (tabSeek_is B a K V x w h hr (by omega))
  have HT := Lib.hid h
  have hpl := posI_le K x
  have PK := Lib.hid (fun hx : x ∈ K => pos_lt hr hx)
  have KP := Lib.hid (show keyPut K x = if x ∈ K then K else insI K (posI K x) x from rfl)
  have VP := Lib.hid (show valPut K V x y = if x ∈ K then V.set (posI K x) y else insI V (posI K x) y from rfl)
  generalize keyPut K x = K2 at KP ⊢
  generalize valPut K V x y = V2 at VP ⊢
  generalize posI K x = p at SK hpl PK KP VP ⊢
  clear h hr
  by_cases hx : x ∈ K
  · have hK2 : K2 = K := by rw [KP.out, if_pos hx]
    have hV2 : V2 = V.set p y := by rw [VP.out, if_pos hx]
    subst hK2; subst hV2
    have hp := PK.out hx
    have HX := Lib.hid hx
    rw [decide_eq_true hx] at SK ⊢
    clear hx KP VP PK
    go_enter Try.func21, Try.ntmps21
    go_wp2_with fail
    refine SK.out.mono ?_
    rintro e w1 ⟨rfl, hb⟩
    obtain ⟨vk, vv, h1, h2, h3, h4⟩ := HT.out.below hb
    obtain ⟨g, c, rfl, hBg, _⟩ := ownV_some h3 (by omega)
    have c1 := (cell_of_row w1 a 1 _ _ _ h1).trans (show _ = some (Value.slice (some ⟨g, 0, none⟩) V.length c) from rfl)
    have hgc : ∃ u, w1.cell? ⟨g, p, none⟩ = some u := by
      obtain ⟨_, _, _, _, _, f, ⟨cs, e1, e2, e3⟩, _⟩ := own_rowIs h3
      exact ⟨_, (cell_of_row w1 g p _ _ _ e1).trans (e3 p (by omega))⟩
    obtain ⟨u, hu⟩ := hgc
    have hfr := World.ownsRow.frozenAt h3 p
    have hpV : (p : Int) < V.length := by omega
    have hpV2 : p < V.length := by omega
    have hga : g ≠ a := by omega
    have O3 := own_setInt h3 p y hpV2
    have hgs := (h3.lt g rfl).2
    have O2 := World.ownsRow.kept h2 (set_grown w1 g p (.int .i64 y)) (h4.imp id fun h e => h (by rw [e]; rfl))
    have H1 := (Below.heap_setCell w1 ⟨g, p, none⟩ (.int .i64 y) a hga.symm).trans h1
    have hb2 := (hb.mono (show a ≤ w.heap.size by omega)).setCell (p := ⟨g, p, none⟩) (show a ≤ g by omega) (.int .i64 y)
    have hms : MapsStay w (w1.setCell ⟨g, p, none⟩ (.int .i64 y)) := (mapsStay_below hb).trans (mapsStay_own h3 (set_grown w1 g p (.int .i64 y)))
    have T2 := Lib.hid (show TabI B a K2 (V.set p y) (w1.setCell ⟨g, p, none⟩ (.int .i64 y)) from ⟨vk, _, H1, O2, by rw [List.length_set]; exact O3, h4⟩)
    have B2 := Lib.hid hb2; have M2 := Lib.hid hms
    clear h1 h2 h3 h4 O3 O2 H1 hb hb2 hms SK HT hl hn
    go_wp2
    go_ret
    exact ⟨rfl, T2.out, B2.out, M2.out⟩
  · have hK2 : K2 = insI K p x := by rw [KP.out, if_neg hx]
    have hV2 : V2 = insI V p y := by rw [VP.out, if_neg hx]
    subst hK2; subst hV2
    rw [decide_eq_false hx] at SK ⊢
    clear hx KP VP PK
    go_enter Try.func21, Try.ntmps21
    go_wp2_with fail
    refine SK.out.mono ?_
    rintro e w1 ⟨rfl, hb⟩
    obtain ⟨vk, vv, h1, h2, h3, h4⟩ := HT.out.below hb
    have hB1 : B ≤ w1.heap.size := Nat.le_trans hB hb.size
    have ha1 := (Array.getElem?_eq_some_iff.1 h1).1
    have c0 := (cell_of_row w1 a 0 _ _ _ h1).trans (show _ = some vk from rfl)
    have H1 := Lib.hid h1; have H2 := Lib.hid h2; have H3 := Lib.hid h3; have H4 := Lib.hid h4; have BB := Lib.hid hb
    clear h1 h2 h3 h4 hb SK HT
    go_wp2_with fail
    have hvA := heap_alloc_new w1 (.cells #[.int .i64 x] 3)
    have zA : (w1.alloc (.cells #[.int .i64 x] 3)).heap.size = w1.heap.size + 1 := by simp
    have hbA : Below w1.heap.size w1 (w1.alloc (.cells #[.int .i64 x] 3)) := (Below.refl _ w1).alloc (Nat.le_refl _) _
    have O2A := H2.out.alloc (.cells #[.int .i64 x] 3)
    have O3A := H3.out.alloc (.cells #[.int .i64 x] 3)
    refine (insertI_is B p K vk (w1.alloc (.cells #[.int .i64 x] 3)) w1.heap.size x O2A hpl (by omega) (by omega) hvA (own_allocI H2.out x)).mono ?_
    rintro e w2 ⟨vk2, rfl, ho2, hg2, ha2⟩
    rw [ints_insV, ints_length] at ho2
    have hne1 : some a ≠ vk.ownBlock := fun e => by have := (H2.out.lt a e.symm).1; omega
    have h1_2 := (hg2.block a (by omega) hne1).trans ((hbA.block a ha1).trans H1.out)
    have O3_2 := World.ownsRow.kept O3A hg2 (ne_sym H4.out)
    have hn2 := ne_at2 O3A (ne_sym H4.out) ha2 (Nat.le_refl _)
    have hb2 := (((BB.out.mono (show a ≤ w.heap.size by omega)).trans (hbA.mono (show a ≤ w1.heap.size by omega))).grown hg2 (by omega) (fun k hk => by have := (O2A.lt k hk).1; omega))
    have hm2 := ((mapsStay_below BB.out).trans (mapsStay_below hbA)).trans (mapsStay_own O2A hg2)
    have z2 := hg2.size
    obtain ⟨q2, c2, rfl⟩ := ownV_slice ho2
    have c0' := (cell_of_row w2 a 0 _ _ _ h1_2).trans (show _ = some vk from rfl)
    have f0' := frozen_of_row w2 a 0 _ _ h1_2
    have h1_3 := set_cellsH h1_2 0 (.slice q2 (insI K p x).length c2)
    simp only [List.setIfInBounds_toArray, List.set_cons_succ, List.set_cons_zero] at h1_3
    have hna2 : (Value.slice q2 (insI K p x).length c2).ownBlock = none ∨ (Value.slice q2 (insI K p x).length c2).ownBlock ≠ some a := .inr (fun e => by have := (ho2.lt a e).1; omega)
    have hna3 : vv.ownBlock = none ∨ vv.ownBlock ≠ some a := .inr (fun e => by have := (O3_2.lt a e).1; omega)
    have O2_3 := World.ownsRow.kept ho2 (set_grown w2 a 0 (.slice q2 (insI K p x).length c2)) hna2
    have O3_3 := World.ownsRow.kept O3_2 (set_grown w2 a 0 (.slice q2 (insI K p x).length c2)) hna3
    have hb3 := hb2.setCell (p := ⟨a, 0, none⟩) (Nat.le_refl a) (.slice q2 (insI K p x).length c2)
    have hm3 := hm2.trans (mapsStay_set h1_2 0 (.slice q2 (insI K p x).length c2))
    have z3 : (w2.setCell ⟨a, 0, none⟩ (.slice q2 (insI K p x).length c2)).heap.size = w2.heap.size := by simp
    have c1_3 := (cell_of_row _ a 1 _ _ _ h1_3).trans (show _ = some vv from rfl)
    have P1 := Lib.hid h1_3; have P2 := Lib.hid O2_3; have P3 := Lib.hid O3_3; have P4 := Lib.hid hn2; have P5 := Lib.hid hb3; have P6 := Lib.hid hm3
    have hB3 : B ≤ (w2.setCell ⟨a, 0, none⟩ (.slice q2 (insI K p x).length c2)).heap.size := by rw [z3]; omega
    clear hvA zA hbA O2A O3A ho2 hg2 ha2 h1_2 O3_2 hn2 hb2 hm2 z2 h1_3 O2_3 O3_3 hb3 hm3 z3 c0 hna2 hna3 hne1 H1 H2 H3 H4 BB
    have HLn := Lib.hid hl
    obtain ⟨N2, hN2⟩ : ∃ N2, (insI K p x).length = N2 := ⟨_, rfl⟩
    rw [hN2] at c1_3 P1 P2 P4 P5 P6 hB3 ⊢
    have HN2 := Lib.hid hN2
    clear hl hN2
    go_wp2_with fail
    have z3 : (w2.setCell ⟨a, 0, none⟩ (.slice q2 N2 c2)).heap.size = w2.heap.size := by simp
    have P3' : Hid ((w2.setCell ⟨a, 0, none⟩ (.slice q2 N2 c2)).ownsRow B 3 1 vv V.length (ints V)) := by
      have h := P3.out
      rw [HN2.out] at h
      exact Lib.hid h
    clear P3 c1_3
    generalize w2.setCell ⟨a, 0, none⟩ (.slice q2 N2 c2) = w3 at P1 P2 P3' P5 P6 hB3 z3 ⊢
    rw [← z3]
    clear z3
    have ha3 := (Array.getElem?_eq_some_iff.1 P1.out).1
    have hvB := heap_alloc_new w3 (.cells #[.int .i64 y] 3)
    have zB : (w3.alloc (.cells #[.int .i64 y] 3)).heap.size = w3.heap.size + 1 := by simp
    have hbB : Below w3.heap.size w3 (w3.alloc (.cells #[.int .i64 y] 3)) := (Below.refl _ w3).alloc (Nat.le_refl _) _
    have O2B := P2.out.alloc (.cells #[.int .i64 y] 3)
    have O3B := P3'.out.alloc (.cells #[.int .i64 y] 3)
    have hVK := HLn.out
    refine (insertI_is B p V vv (w3.alloc (.cells #[.int .i64 y] 3)) w3.heap.size y O3B (by omega) (by omega) (by omega) hvB (own_allocI P3'.out y)).mono ?_
    rintro e w4 ⟨vv2, rfl, ho4, hg4, ha4⟩
    rw [ints_insV, ints_length] at ho4
    have hne4 : some a ≠ vv.ownBlock := fun e => by have := (P3'.out.lt a e.symm).1; omega
    have h1_4 := (hg4.block a (by omega) hne4).trans ((hbB.block a ha3).trans P1.out)
    have O2_4 := World.ownsRow.kept O2B hg4 (ne_sym P4.out)
    have hn4 := ne_at2 O2B (ne_sym P4.out) ha4 (Nat.le_refl _)
    have hb4 := ((P5.out.trans (hbB.mono (show a ≤ w3.heap.size by omega))).grown hg4 (by omega) (fun k hk => by have := (O3B.lt k hk).1; omega))
    have hm4 := (P6.out.trans (mapsStay_below hbB)).trans (mapsStay_own O3B hg4)
    obtain ⟨q4, c4, rfl⟩ := ownV_slice ho4
    have c1' := (cell_of_row w4 a 1 _ _ _ h1_4).trans (show _ = some vv from rfl)
    have f1' := frozen_of_row w4 a 1 _ _ h1_4
    have h1_5 := set_cellsH h1_4 1 (.slice q4 (insI V p y).length c4)
    simp only [List.setIfInBounds_toArray, List.set_cons_succ, List.set_cons_zero] at h1_5
    have hna4 : (Value.slice q4 (insI V p y).length c4).ownBlock = none ∨ (Value.slice q4 (insI V p y).length c4).ownBlock ≠ some a := .inr (fun e => by have := (ho4.lt a e).1; omega)
    have hna5 : (Value.slice q2 N2 c2).ownBlock = none ∨ (Value.slice q2 N2 c2).ownBlock ≠ some a := .inr (fun e => by have := (O2_4.lt a e).1; omega)
    have O3_5 := World.ownsRow.kept ho4 (set_grown w4 a 1 (.slice q4 (insI V p y).length c4)) hna4
    have O2_5 := World.ownsRow.kept O2_4 (set_grown w4 a 1 (.slice q4 (insI V p y).length c4)) hna5
    have hb5 := hb4.setCell (p := ⟨a, 1, none⟩) (Nat.le_refl a) (.slice q4 (insI V p y).length c4)
    have hm5 := hm4.trans (mapsStay_set h1_4 1 (.slice q4 (insI V p y).length c4))
    have T5 := Lib.hid (show TabI B a (insI K p x) (insI V p y) (w4.setCell ⟨a, 1, none⟩ (.slice q4 (insI V p y).length c4)) from ⟨_, _, h1_5, by rw [HN2.out]; exact O2_5, O3_5, hn4⟩)
    have B5 := Lib.hid hb5; have M5 := Lib.hid hm5
    clear hvB zB hbB O2B O3B ho4 hg4 ha4 h1_4 O2_4 hn4 hb4 hm4 h1_5 O3_5 O2_5 hb5 hm5 hna4 hna5 hne4 hVK P1 P2 P3' P4 P5 P6 HN2 HLn
    go_wp2
    go_ret
    exact ⟨rfl, T5.out, B5.out, M5.out⟩
end Go.Proofs.Ytiadljcfcncbkaa
