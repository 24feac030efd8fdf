/- sorted's tables of ints by texts: what lies there; Seek, Get, Len, Keys. -/
import Derived.Test.YtiadljcfcncbkaaSrtInsertS
import Derived.Test.YtiadljcfcncbkaaTabSPlain
import Derived.Test.YtiadljcfcncbkaaTabI
import Derived.Shelf.Spec.SearchS
namespace Go.Proofs.Ytiadljcfcncbkaa
open Go Go.RowKit
set_option linter.unusedVariables false

def kS (l : Tb.Rows ByteArray) : List ByteArray := l.map (·.1)
def vI (l : Tb.Rows ByteArray) : List Int := l.map (·.2)
theorem kS_len (l : Tb.Rows ByteArray) : (kS l).length = l.length := by simp [kS]
theorem vI_len (l : Tb.Rows ByteArray) : (vI l).length = l.length := by simp [vI]
/-- a table at a, its rows -/
def TabS (B a : Nat) (l : Tb.Rows ByteArray) (w : World) : Prop :=
  ∃ vk vv, w.heap[a]? = some (Obj.cells #[vk, vv] 26 (0, 0)) ∧ w.ownsRow B 9 1 vk (kS l).length (strs (kS l)) ∧ w.ownsRow B 3 1 vv (vI l).length (ints (vI l)) ∧ (vk.ownBlock = none ∨ vk.ownBlock ≠ vv.ownBlock)
theorem TabS.below {B a : Nat} {l : Tb.Rows ByteArray} {w w' : World} (h : TabS B a l w) (hb : Below w.heap.size w w') : TabS B a l w' := by
  obtain ⟨vk, vv, h1, h2, h3, h4⟩ := h
  exact ⟨vk, vv, (hb.block a (Array.getElem?_eq_some_iff.1 h1).1).trans h1, ownI_later h2 hb, ownI_later h3 hb, h4⟩
set_option maxHeartbeats 1000000
set_option maxRecDepth 100000
theorem tabLenS_is (B a : Nat) (l : Tb.Rows ByteArray) (w : World) (h : TabS B a l w) : Calls Try.prog 16 #[.pointer (some ⟨a, 0, none⟩)] w fun e w' => e = .returned (.int .i64 (l.length : Int)) ∧ w' = w := by
  obtain ⟨vk, vv, h1, h2, h3, h4⟩ := h
  obtain ⟨q, c, rfl⟩ := ownV_slice h2
  rw [kS_len] at h1
  have c0 := (cell_of_row w a 0 _ _ _ h1).trans (show _ = some (Value.slice q l.length c) from rfl)
  clear h1 h2 h3 h4
  go_enter Try.func16, Try.ntmps16
  go_wp2
  go_ret
  exact ⟨rfl, rfl⟩
/-- BinarySearch of keys that rise -/
theorem binS_is (B : Nat) (l A Bs : Tb.Rows ByteArray) (v : Value) (x : ByteArray) (w : World) (hown : w.ownsRow B 9 1 v (kS l).length (strs (kS l))) (hr : Tb.Rise ltB l) (s : Tb.Sp ltB l x A Bs) (bb : Bool) (hbb : bb = true ↔ x ∈ kS l) (hn : l.length ≤ 1000000) :
    Calls Try.prog 44 #[v, .string x] w fun e w' => e = .returned (.tuple #[.int .i64 (A.length : Nat), .bool bb]) ∧ Below w.heap.size w w' := by
  obtain ⟨_, q, c, rfl, _, hl, hq⟩ := own_liesS hown
  by_cases h0 : l = []
  · subst h0
    have hA : A = [] := by
      have := s.eq
      cases A with
      | nil => rfl
      | cons a A => simp at this
    subst hA
    obtain rfl : bb = false := by cases bb with | false => rfl | true => exact absurd (hbb.1 rfl) (by simp [kS])
    refine (Any2.slices_BinarySearch_string_empty Try.laysNm226 q c x w).mono ?_
    rintro e w' ⟨rfl, h⟩
    refine ⟨rfl, ?_⟩
    first
      | (subst h; exact Below.refl _ _)
      | (obtain ⟨k, rfl⟩ := h; exact below_drewN (Below.refl _ _) k)
  · have h0' : kS l ≠ [] := by simpa [kS] using h0
    obtain ⟨b, o, rfl, hc⟩ := hl h0'
    obtain ⟨Sx, hSx⟩ : ∃ Sx : Nat → ByteArray, Sx = fun t => if t < (kS l).length then (kS l).getD t ByteArray.empty else x := ⟨_, rfl⟩
    have h := Any2.slices_BinarySearch_string Try.laysNm226 b o (kS l).length c Sx x w (by rw [kS_len]; omega) (fun j hj => by rw [hSx]; simp only [hj, if_true]; exact hc j hj)
    have hAl : A.length ≤ (kS l).length := by rw [kS_len, s.eq]; simp
    have gA : ∀ t (ht : t < A.length), Sx t = A[t].1 := fun t ht => by
      rw [hSx]; simp only [show t < (kS l).length by omega, if_true]
      unfold kS; rw [s.eq, List.map_append, List.getD_eq_getElem?_getD, List.getElem?_append_left (by simpa using ht), List.getElem?_map, List.getElem?_eq_getElem ht]; rfl
    have gB : ∀ t, A.length ≤ t → Sx t = x ∨ ∃ r ∈ Bs, Sx t = r.1 := fun t ht => by
      by_cases h2 : t < (kS l).length
      · right
        have h3 : t - A.length < Bs.length := by rw [kS_len, s.eq, List.length_append] at h2; omega
        refine ⟨Bs[t - A.length], List.getElem_mem h3, ?_⟩
        rw [hSx]; simp only [h2, if_true]
        unfold kS; rw [s.eq, List.map_append, List.getD_eq_getElem?_getD, List.getElem?_append_right (by simpa using ht), List.getElem?_map, List.length_map, List.getElem?_eq_getElem h3]; rfl
      · left; rw [hSx]; simp only [h2, if_false]
    have hgo : Lib.bsGo (fun t => Op.bytesLess (Sx t).toList x.toList) (kS l).length 0 (kS l).length = A.length := by
      refine Lib.bsGo_spec _ A.length (fun t ht => ?_) (fun t ht => ?_) _ _ _ (by omega) (by omega) hAl
      · have := s.below A[t] (List.getElem_mem ht)
        rw [← gA t ht] at this
        exact this
      · rcases gB t ht with e | ⟨r, hr2, e⟩
        · have := lin_B.irr x
          rw [← e] at this
          show Op.bytesLess (Sx t).toList x.toList = false
          rw [e]; rw [e] at this; exact this
        · have := s.not r hr2
          rw [← e] at this
          exact this
    rw [hgo] at h
    have hbool : decide (A.length < (kS l).length ∧ Sx A.length = x) = bb := by
      rw [Bool.eq_iff_iff, decide_eq_true_eq, hbb]
      constructor
      · rintro ⟨h1, h2⟩
        rw [← h2, hSx]; simp only [h1, if_true]
        rw [List.getD_eq_getElem?_getD, List.getElem?_eq_getElem h1]; exact List.getElem_mem h1
      · intro hx
        rcases s.cases lin_B hr with ⟨h1, _⟩ | ⟨v, B', e', _⟩
        · exact absurd hx h1
        · have hlt : A.length < (kS l).length := by rw [kS_len, s.eq, e']; simp
          refine ⟨hlt, ?_⟩
          rw [hSx]; simp only [hlt, if_true]
          unfold kS; rw [s.eq, e']; simp [List.getD]
    rw [hbool] at h
    refine h.mono ?_
    rintro e w' ⟨rfl, k, rfl⟩
    exact ⟨rfl, below_drewN (Below.refl _ _) k⟩
theorem tabSeekS_is (B a : Nat) (l A Bs : Tb.Rows ByteArray) (x : ByteArray) (w : World) (h : TabS B a l w) (hr : Tb.Rise ltB l) (s : Tb.Sp ltB l x A Bs) (bb : Bool) (hbb : bb = true ↔ x ∈ kS l) (hn : l.length ≤ 1000000) : Calls Try.prog 10 #[.pointer (some ⟨a, 0, none⟩), .string x] w fun e w' => e = .returned (.tuple #[.int .i64 (A.length : Nat), .bool bb]) ∧ Below w.heap.size w w' := by
  obtain ⟨vk, vv, h1, h2, h3, h4⟩ := h
  have c0 := (cell_of_row w a 0 _ _ _ h1).trans (show _ = some vk from rfl)
  have BS := Lib.hid (binS_is B l A Bs vk x w h2 hr s bb hbb hn)
  clear h1 h2 h3 h4 hr s hbb
  generalize A.length = p at BS ⊢
  go_enter Try.func10, Try.ntmps10
  go_wp2_with fail
  refine BS.out.mono ?_
  rintro e w1 ⟨rfl, hb⟩
  have B1 := Lib.hid hb
  clear hb c0
  go_wp2_with fail
  exact bodyPost_ret (results_tmp2 rfl _ _ _) rfl ⟨rfl, B1.out⟩
/-- Get of what is not there -/
theorem tabGetS_no (B a : Nat) (l A Bs : Tb.Rows ByteArray) (x : ByteArray) (w : World) (h : TabS B a l w) (hr : Tb.Rise ltB l) (s : Tb.Sp ltB l x A Bs) (hn : l.length ≤ 1000000) (hx : x ∉ kS l) : Calls Try.prog 13 #[.pointer (some ⟨a, 0, none⟩), .string x] w fun e w' => e = .returned (.tuple #[.int .i64 0, .bool false]) ∧ Below w.heap.size w w' := by
  have SK := Lib.hid (tabSeekS_is B a l A Bs x w h hr s false ⟨(fun h => nomatch h), fun h => absurd h hx⟩ hn)
  clear h hr s hx
  generalize A.length = p at SK
  go_enter Try.func13, Try.ntmps13
  go_wp2_with fail
  refine SK.out.mono ?_
  rintro e w1 ⟨rfl, hb⟩
  have B1 := Lib.hid hb
  clear hb SK
  go_wp2_with fail
  exact bodyPost_ret (results_tmp2 rfl _ _ _) rfl ⟨rfl, B1.out⟩
theorem tabGetS_is (B a : Nat) (l A Bs : Tb.Rows ByteArray) (x : ByteArray) (y : Int) (w : World) (h : TabS B a l w) (hr : Tb.Rise ltB l) (s : Tb.Sp ltB l x A ((x, y) :: Bs)) (hn : l.length ≤ 1000000) : Calls Try.prog 13 #[.pointer (some ⟨a, 0, none⟩), .string x] w fun e w' => e = .returned (.tuple #[.int .i64 y, .bool true]) ∧ Below w.heap.size w w' := by
  have hx : x ∈ kS l := s.mem_iff
  have SK := Lib.hid (tabSeekS_is B a l A _ x w h hr s true ⟨fun _ => hx, fun _ => rfl⟩ hn)
  have HT := Lib.hid h
  have hp : A.length < (vI l).length := by rw [vI_len, s.eq]; simp
  have hy : (vI l).getD A.length 0 = y := by unfold vI; rw [s.eq]; simp [List.getD]
  clear h hr s hx
  generalize A.length = p at SK hp hy
  have HY := Lib.hid hy
  clear hy
  go_enter Try.func13, Try.ntmps13
  go_wp2_with fail
  refine SK.out.mono ?_
  rintro e w1 ⟨rfl, hb⟩
  obtain ⟨vk, vv, h1, h2, h3, h4⟩ := HT.out.below hb
  obtain ⟨_, q, c, rfl, _, hq, _⟩ := own_liesI h3
  obtain ⟨b1, o1, rfl, _, q1⟩ := hq.at (by omega)
  have r1 := q1 p (by omega)
  rw [HY.out] at r1
  have c1 := (cell_of_row w1 a 1 _ _ _ h1).trans (show _ = some (Value.slice (some ⟨b1, o1, none⟩) (vI l).length c) from rfl)
  have hpV : (p : Int) < (vI l).length := by omega
  have B1 := Lib.hid hb
  clear h1 h2 h3 h4 hq q1 hb SK HT
  generalize (vI l).length = N at hp hpV c1
  go_wp2_with fail
  exact bodyPost_ret (results_tmp2 rfl _ _ _) rfl ⟨rfl, B1.out⟩
theorem tabKeysS_is (B a : Nat) (l : Tb.Rows ByteArray) (w : World) (h : TabS B a l w) (hn : l.length ≤ 100000) : Calls Try.prog 18 #[.pointer (some ⟨a, 0, none⟩)] w fun e w' => ∃ p c, e = .returned (.slice p (kS l).length c) ∧ LiesS w' p (kS l) ∧ Below w.heap.size w w' := by
  obtain ⟨vk, vv, h1, h2, h3, h4⟩ := h
  have c0 := (cell_of_row w a 0 _ _ _ h1).trans (show _ = some vk from rfl)
  have hkl := kS_len l
  have CL : Calls Try.prog 48 #[vk] w fun e w' => ∃ p c, e = .returned (.slice p (kS l).length c) ∧ LiesS w' p (kS l) ∧ Below w.heap.size w w' := by
    obtain ⟨_, q, c, rfl, _, hl, hq⟩ := own_liesS h2
    cases q with
    | none =>
      obtain ⟨e0, rfl⟩ := hq rfl
      rw [e0]
      refine (Try.slices_Clone_string_nil 0 0 w).mono ?_
      rintro e w' ⟨rfl, rfl⟩
      exact ⟨_, _, rfl, LiesS.nil _ _, Below.refl _ _⟩
    | some ad =>
      by_cases h0 : kS l = []
      · rw [h0]
        refine (Try.slices_Clone_string_zero ad c w).mono ?_
        rintro e w' ⟨v', rfl, ho, _, hb⟩
        obtain ⟨_, p, c', rfl, _, hp, _⟩ := own_liesS (l := []) ho
        exact ⟨_, _, rfl, hp, hb⟩
      · obtain ⟨b, o, e, hc⟩ := hl h0
        injection e with e
        subst e
        refine (Try.slices_Clone_string b o (kS l).length c (kS l) w (Nat.le_refl _) (by omega) hc).mono ?_
        rintro e w' ⟨v', rfl, ho, _, hb⟩
        rw [List.take_length] at ho
        obtain ⟨_, p, c', rfl, _, hp, _⟩ := own_liesS (l := kS l) ho
        exact ⟨_, _, rfl, hp, hb⟩
  have CLH := Lib.hid CL
  clear h1 h2 h3 h4 CL
  generalize kS l = K at CLH ⊢
  go_enter Try.func18, Try.ntmps18
  go_wp2_with fail
  refine CLH.out.mono ?_
  rintro e w1 ⟨p, c, rfl, hp, hb⟩
  have HP := Lib.hid hp; have HB := Lib.hid hb
  clear hp hb
  go_wp2_with fail
  go_ret
  exact ⟨_, _, rfl, HP.out, HB.out⟩
end Go.Proofs.Ytiadljcfcncbkaa
