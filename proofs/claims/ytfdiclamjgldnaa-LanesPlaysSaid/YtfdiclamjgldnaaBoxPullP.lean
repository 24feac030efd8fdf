/- A box of pointers to messages: Pull. -/
import Derived.Test.YtfdiclamjgldnaaBoxIsP
import Derived.OneCell
import Derived.Outline
namespace Go.Proofs.Ytfdiclamjgldnaa
open Go Go.RowKit Go.Conc

/-- the first i of a list but the k-th -/
def leftK {α : Type} (k : Int) (i : Nat) (l : List α) : List α := if 0 ≤ k ∧ k < i then (l.take i).eraseIdx k.toNat else l.take i
/-- the k-th, if it was among the first i -/
def goneK (k : Int) (i : Nat) (gs : List Nat) : Option Addr := if 0 ≤ k ∧ k < i then some ⟨gs.getD k.toNat 0, 0, none⟩ else none
theorem take_more {α : Type} (l : List α) (d : α) {i : Nat} (h : i < l.length) : l.take (i + 1) = l.take i ++ [l.getD i d] := (take_next l d i h).symm
theorem leftK_is {α : Type} (l : List α) {k : Int} {i : Nat} (h : (i : Int) = k) (hi : i < l.length) : leftK k (i + 1) l = leftK k i l := by
  subst h
  unfold leftK
  rw [if_pos (by omega), if_neg (by omega)]
  simp only [Int.toNat_natCast]
  rw [take_more l (l[i]) hi, List.eraseIdx_append_of_length_le (by rw [List.length_take]; omega)]
  have : (l.take i).length = i := by rw [List.length_take]; omega
  rw [this]; simp
theorem leftK_not {α : Type} (l : List α) (d : α) {k : Int} {i : Nat} (h : ¬ (i : Int) = k) (hi : i < l.length) : leftK k (i + 1) l = leftK k i l ++ [l.getD i d] := by
  unfold leftK
  by_cases hk : 0 ≤ k ∧ k < i
  · rw [if_pos (by omega), if_pos hk, take_more l d hi, List.eraseIdx_append_of_lt_length (by rw [List.length_take]; omega)]
  · rw [if_neg (by omega), if_neg hk, take_more l d hi]
theorem goneK_is (gs : List Nat) {k : Int} {i : Nat} (h : (i : Int) = k) : goneK k (i + 1) gs = some ⟨gs.getD i 0, 0, none⟩ := by
  subst h
  unfold goneK
  rw [if_pos (by omega)]; simp
theorem goneK_not (gs : List Nat) {k : Int} {i : Nat} (h : ¬ (i : Int) = k) : goneK k (i + 1) gs = goneK k i gs := by
  unfold goneK
  by_cases hk : 0 ≤ k ∧ k < i
  · rw [if_pos (by omega), if_pos hk]
  · rw [if_neg (by omega), if_neg hk]
theorem leftK_zero {α : Type} (k : Int) (l : List α) : leftK k 0 l = [] := by unfold leftK; split <;> simp
theorem leftK_len {α : Type} (k : Int) (i : Nat) (l : List α) : (leftK k i l).length ≤ i := by
  unfold leftK
  split
  · refine Nat.le_trans (List.length_eraseIdx_le _ _) ?_
    rw [List.length_take]; omega
  · rw [List.length_take]; omega
theorem leftK_mem {α : Type} {k : Int} {i : Nat} {l : List α} {x : α} (h : x ∈ leftK k i l) : x ∈ l := by
  unfold leftK at h
  split at h
  · exact List.mem_of_mem_take (List.mem_of_mem_eraseIdx h)
  · exact List.mem_of_mem_take h
theorem Vals.erase {V : Type} {enc : V → Value} {w : World} : ∀ {gs : List Nat} {vs : List V} (_ : Vals enc w gs vs) (k : Nat), Vals enc w (gs.eraseIdx k) (vs.eraseIdx k)
  | [], [], _, _ => trivial
  | _ :: _, _ :: _, h, 0 => h.2
  | _ :: _, _ :: _, h, k + 1 => ⟨h.1, Vals.erase h.2 k⟩
  | [], _ :: _, h, _ => h.elim
  | _ :: _, [], h, _ => h.elim
theorem Vals.left {V : Type} {enc : V → Value} {w : World} {gs : List Nat} {vs : List V} (h : Vals enc w gs vs) (k : Int) : Vals enc w (leftK k gs.length gs) (leftK k vs.length vs) := by
  have hl := h.len
  unfold leftK
  rw [List.take_length, List.take_length, hl]
  split
  · exact Vals.erase h _
  · exact h

/-- the closure's variables: where it is, which is wanted, and what was taken -/
structure PullSt (w : World) (B Ba Bk Bp : Nat) (i k : Int) (pv : Option Addr) : Prop where
  cur : w.heap[Ba]? = some (.cells #[.int .i64 i] 3 (0, 0))
  want : w.heap[Bk]? = some (.cells #[.int .i64 k] 3 (0, 0))
  took : w.heap[Bp]? = some (.cells #[.pointer pv] 78 (0, 0))
  ba : B ≤ Ba
  bk : B ≤ Bk
  bp : B ≤ Bp
  ak : Ba ≠ Bk
  ap : Ba ≠ Bp
  kp : Bk ≠ Bp
theorem PullSt.grown {w w' : World} {B Ba Bk Bp C : Nat} {i k : Int} {pv : Option Addr} (h : PullSt w B Ba Bk Bp i k pv) (hg : w.grownBy w' (some C)) (hC : C < B) : PullSt w' B Ba Bk Bp i k pv := by
  have f : ∀ b, B ≤ b → some b ≠ some C := fun b hb e => by have := Option.some.inj e; omega
  exact ⟨(hg.block Ba (lt_of_block h.cur) (f _ h.ba)).trans h.cur, (hg.block Bk (lt_of_block h.want) (f _ h.bk)).trans h.want, (hg.block Bp (lt_of_block h.took) (f _ h.bp)).trans h.took, h.ba, h.bk, h.bp, h.ak, h.ap, h.kp⟩

set_option maxHeartbeats 2000000 in
theorem pullF_is (g B Ba Bk Bp i : Nat) (k : Int) (pv : Option Addr) (w : World) (h : PullSt w B Ba Bk Bp i k pv) (hik : (i : Int) = k) (hi : i ≤ 4096) :
    Calls Try.prog 41 #[.pointer (some ⟨g, 0, none⟩), .pointer (some ⟨Ba, 0, none⟩), .pointer (some ⟨Bk, 0, none⟩), .pointer (some ⟨Bp, 0, none⟩)] w fun e w' => e = .returned (.bool false) ∧ PullSt w' B Ba Bk Bp (i + 1 : Nat) k (some ⟨g, 0, none⟩) ∧ Below B w w' := by
  have c1 := cell_of_one h.cur; have f1 := free_of_one h.cur
  have c2 := cell_of_one h.want; have c3 := cell_of_one h.took; have f3 := free_of_one h.took
  have H := Lib.hid h
  have hap := h.ap; have hak := h.ak; have hkp := h.kp
  have hpa : Bp ≠ Ba := fun e => hap e.symm
  clear h
  subst hik
  go_enter Try.func41, Try.ntmps41
  go_wp2
  have c4 : (w.setCell ⟨Bp, 0, none⟩ (.pointer (some ⟨g, 0, none⟩))).cell? ⟨Ba, 0, none⟩ = some (.int .i64 (i : Int)) := (World.cell?_of_block (Below.heap_setCell w ⟨Bp, 0, none⟩ _ Ba hap)).trans c1
  go_ret
  refine ⟨rfl, ⟨?_, ?_, ?_, H.out.ba, H.out.bk, H.out.bp, hak, hap, hkp⟩, ((Below.refl B w).setCell (p := ⟨Bp, 0, none⟩) H.out.bp _).setCell (p := ⟨Ba, 0, none⟩) H.out.ba _⟩
  · have := one_setCell (w := w.setCell ⟨Bp, 0, none⟩ (.pointer (some ⟨g, 0, none⟩))) (b := Ba) (u := .int .i64 ((i + 1 : Nat) : Int)) ((Below.heap_setCell w ⟨Bp, 0, none⟩ _ Ba hap).trans H.out.cur)
    simpa using this
  · exact (Below.heap_setCell _ ⟨Ba, 0, none⟩ _ Bk (fun e => hak e.symm)).trans ((Below.heap_setCell w ⟨Bp, 0, none⟩ _ Bk hkp).trans H.out.want)
  · exact (Below.heap_setCell _ ⟨Ba, 0, none⟩ _ Bp hpa).trans (one_setCell H.out.took)
set_option maxHeartbeats 2000000 in
theorem pullF_not (g B Ba Bk Bp i : Nat) (k : Int) (pv : Option Addr) (w : World) (h : PullSt w B Ba Bk Bp i k pv) (hik : ¬ (i : Int) = k) (hi : i ≤ 4096) :
    Calls Try.prog 41 #[.pointer (some ⟨g, 0, none⟩), .pointer (some ⟨Ba, 0, none⟩), .pointer (some ⟨Bk, 0, none⟩), .pointer (some ⟨Bp, 0, none⟩)] w fun e w' => e = .returned (.bool true) ∧ PullSt w' B Ba Bk Bp (i + 1 : Nat) k pv ∧ Below B w w' := by
  have c1 := cell_of_one h.cur; have f1 := free_of_one h.cur
  have c2 := cell_of_one h.want
  have H := Lib.hid h
  have hap := h.ap; have hak := h.ak; have hkp := h.kp
  clear h
  have hbm : ((i : Int) != k) = true := by simp [hik]
  go_enter Try.func41, Try.ntmps41
  go_wp2
  go_ret
  refine ⟨rfl, ⟨?_, ?_, ?_, H.out.ba, H.out.bk, H.out.bp, hak, hap, hkp⟩, (Below.refl B w).setCell (p := ⟨Ba, 0, none⟩) H.out.ba _⟩
  · have := one_setCell (w := w) (b := Ba) (u := .int .i64 ((i + 1 : Nat) : Int)) H.out.cur
    simpa using this
  · exact (Below.heap_setCell _ ⟨Ba, 0, none⟩ _ Bk (fun e => hak e.symm)).trans H.out.want
  · exact (Below.heap_setCell _ ⟨Ba, 0, none⟩ _ Bp (fun e => hap e.symm)).trans H.out.took

def RoundPull (a C cap B Ba Bk Bp : Nat) (gs : List Nat) (k : Int) (w : World) (e : Ending) (w' : World) : Prop :=
  (∃ v, e = .returned v) ∧ Bx w' a C cap (leftK k gs.length gs) ∧ PullSt w' B Ba Bk Bp gs.length k (goneK k gs.length gs) ∧ Part B (some C) w w'
set_option maxHeartbeats 4000000 in
theorem roundPull (a C cap B Ba Bk Bp : Nat) (gs : List Nat) (k : Int) (w : World) (h : Bx w a C cap gs) (hs : PullSt w B Ba Bk Bp 0 k none) (hcap : cap ≤ 4096) (ha : a < B) (hC : C < B) (hBz : B ≤ w.heap.size) :
    Calls Try.prog 40 #[.pointer (some ⟨a, 0, none⟩), .func (.func 41) #[] #[.pointer (some ⟨Ba, 0, none⟩), .pointer (some ⟨Bk, 0, none⟩), .pointer (some ⟨Bp, 0, none⟩)]] w (RoundPull a C cap B Ba Bk Bp gs k w) := by
  have LN := Lib.hid (lenP a C cap gs w h)
  have hle := h.le
  have H := Lib.hid h; have HS := Lib.hid hs
  have HB : Hid (B ≤ w.heap.size) := hBz
  clear h hs hBz
  go_enter Try.func40, Try.ntmps40
  go_wp2_with fail
  refine LN.out.mono ?_
  rintro e w' ⟨rfl, rfl⟩
  clear LN
  go_wp2
  go_loopw [7] (fun i wr => ∃ j : Nat, j ≤ gs.length ∧ i = .int .i64 j ∧ Bx wr a C cap (gs.drop j ++ leftK k j gs) ∧ PullSt wr B Ba Bk Bp j k (goneK k j gs) ∧ Part B (some C) w wr) (fun i _ => gs.length - (intOf i).toNat)
  case atStart => exact ⟨0, Nat.zero_le _, rfl, by rw [leftK_zero]; simpa using H.out, by have : goneK k 0 gs = none := (by unfold goneK; rw [if_neg (by omega)]); rw [this]; exact HS.out, Part.refl _ _ _⟩
  case round =>
    obtain ⟨j, hj, rfl, hb, hp, hpt⟩ := hrel
    have HB0 : Hid (B ≤ wr.heap.size) := by have h1 := HB.out; have h2 := hpt.size; show B ≤ wr.heap.size; omega
    have BX := Lib.hid hb; have PS := Lib.hid hp; have PT := Lib.hid hpt
    clear hb hp hpt
    by_cases hlt : j < gs.length
    · have hlt' : (j : Int) < gs.length := by omega
      have b0 : Bx wr a C cap (gs.getD j 0 :: (gs.drop (j + 1) ++ leftK k j gs)) := by
        have := BX.out; rw [rot_cut gs j hlt] at this; exact this
      have T := Lib.hid (takeP_yes a C cap (gs.drop (j + 1) ++ leftK k j gs) (gs.getD j 0) wr b0)
      have HLL : Hid ((gs.drop (j + 1) ++ leftK k j gs).length < cap) := by
        have h1 := leftK_len k j gs
        show (gs.drop (j + 1) ++ leftK k j gs).length < cap
        rw [List.length_append, List.length_drop]; omega
      clear b0 BX
      have G1 : ∀ w1 : World, wr.grownBy w1 (some C) → B ≤ w1.heap.size := fun w1 h1 => Nat.le_trans HB0.out h1.size
      have HG1 := Lib.hid G1
      clear G1
      by_cases hjk : (j : Int) = k
      · have E1 := Lib.hid (leftK_is gs hjk hlt); have E2 := Lib.hid (goneK_is gs hjk)
        have HJK := Lib.hid hjk
        generalize gs.getD j 0 = g at T E2
        clear hjk
        go_wp2_with fail
        refine T.out.mono ?_
        rintro e w1 ⟨rfl, hb1, hg1⟩
        have B1 := Lib.hid hb1; have P1 := Lib.hid (PT.out.trans (Part.of_grown hg1 HB0.out))
        have F := Lib.hid (pullF_is g B Ba Bk Bp j k _ w1 (PS.out.grown hg1 hC) HJK.out (by omega))
        have hz1 := HG1.out w1 hg1
        clear hb1 hg1 T PT PS
        go_wp2_with fail
        refine F.out.mono ?_
        rintro e w2 ⟨rfl, hs2, hb2⟩
        have S2 := Lib.hid hs2
        have B2 := Lib.hid (B1.out.belowB hb2 hC ha)
        have P2 := Lib.hid (P1.out.trans (Part.of_below hb2))
        clear hs2 hb2 F B1 P1
        go_wp2
        go_roundw
        case rel => exact ⟨j + 1, by omega, by go_num, by rw [E1.out]; exact B2.out, by rw [E2.out]; exact S2.out, P2.out⟩
        case measure => simp [intOf]; omega
      · have E1 := Lib.hid (leftK_not gs 0 hjk hlt); have E2 := Lib.hid (goneK_not gs hjk)
        have HJK := Lib.hid hjk
        generalize gs.getD j 0 = g at T E1
        clear hjk
        go_wp2_with fail
        refine T.out.mono ?_
        rintro e w1 ⟨rfl, hb1, hg1⟩
        have B1 := Lib.hid hb1; have P1 := Lib.hid (PT.out.trans (Part.of_grown hg1 HB0.out))
        have F := Lib.hid (pullF_not g B Ba Bk Bp j k _ w1 (PS.out.grown hg1 hC) HJK.out (by omega))
        have hz1 := HG1.out w1 hg1
        clear hb1 hg1 T PT PS
        go_wp2_with fail
        refine F.out.mono ?_
        rintro e w2 ⟨rfl, hs2, hb2⟩
        have S2 := Lib.hid hs2
        have B2 := Lib.hid (B1.out.belowB hb2 hC ha)
        have P2 := Lib.hid (P1.out.trans (Part.of_below hb2))
        have hz2 : B ≤ w2.heap.size := Nat.le_trans hz1 hb2.size
        have P := Lib.hid (putP_yes a C cap (gs.drop (j + 1) ++ leftK k j gs) g w2 B2.out HLL.out)
        rw [List.append_assoc, ← E1.out] at P
        clear hs2 hb2 F B1 P1
        go_wp2_with fail
        refine P.out.mono ?_
        rintro e w3 ⟨rfl, hb3, hg3⟩
        have B3 := Lib.hid hb3
        have S3 := Lib.hid (S2.out.grown hg3 hC)
        have P3 := Lib.hid (P2.out.trans (Part.of_grown hg3 hz2))
        clear hb3 hg3 P S2 P2 B2
        go_wp2
        go_roundw
        case rel => exact ⟨j + 1, by omega, by go_num, B3.out, by rw [E2.out]; exact S3.out, P3.out⟩
        case measure => simp [intOf]; omega
    · obtain rfl : j = gs.length := by omega
      have R : Hid (Bx wr a C cap (leftK k gs.length gs)) := by
        have := BX.out; rwa [List.drop_length, List.nil_append] at this
      go_wp2
      go_end0
      exact ⟨⟨_, rfl⟩, R.out, PS.out, PT.out⟩

/-- whether there is a k-th -/
def inK (k : Int) (n : Nat) : Bool := decide (0 ≤ k ∧ k < n)
def PullTo (a C cap : Nat) (gs : List Nat) (vs : List (Option Addr)) (k : Int) (w : World) (e : Ending) (w' : World) : Prop :=
  e = .returned (.tuple #[encP (if inK k vs.length then vs.getD k.toNat none else none), .bool (inK k vs.length)]) ∧ Bx w' a C cap (leftK k gs.length gs) ∧ Vals encP w' (leftK k gs.length gs) (leftK k vs.length vs) ∧ w.grownBy w' (some C)
set_option maxHeartbeats 4000000 in
theorem pull_is (a C cap : Nat) (gs : List Nat) (vs : List (Option Addr)) (k : Int) (w : World) (h : Bx w a C cap gs) (hv : Vals encP w gs vs) (hcap : cap ≤ 4096) :
    Calls Try.prog 32 #[.pointer (some ⟨a, 0, none⟩), .int .i64 k] w (PullTo a C cap gs vs k w) := by
  have R := Lib.hid (fun w1 (hb : Below w.heap.size w w1) (hs : PullSt w1 w.heap.size (w.heap.size + 2) w.heap.size (w.heap.size + 1) 0 k none) => roundPull a C cap w.heap.size (w.heap.size + 2) w.heap.size (w.heap.size + 1) gs k w1 (h.below hb) hs hcap h.alt h.lt hb.size)
  have H := Lib.hid h; have HV := Lib.hid hv
  clear h hv
  go_enter Try.func32, Try.ntmps32
  go_wp2_with fail
  refine (R.out _ ?hb ?hs).mono ?_
  case hb => exact (((Below.refl _ _).alloc (Nat.le_refl _) _).alloc (by simp) _).alloc (by simp; omega) _
  case hs =>
    have e0 := heap_alloc_new w (.cells #[.int .i64 k] 3)
    have e1 := heap_alloc_new (w.alloc (.cells #[.int .i64 k] 3)) (.cells #[.pointer none] 78)
    have e2 := heap_alloc_new ((w.alloc (.cells #[.int .i64 k] 3)).alloc (.cells #[.pointer none] 78)) (.cells #[.int .i64 0] 3)
    simp only [World.size_alloc] at e1 e2
    refine ⟨e2, ?_, ?_, by omega, Nat.le_refl _, by omega, by omega, by omega, by omega⟩
    · exact (Below.heap_alloc _ _ _ (by simp; omega)).trans ((Below.heap_alloc _ _ _ (by simp)).trans e0)
    · exact (Below.heap_alloc _ _ _ (by simp)).trans e1
  rintro e w2 ⟨⟨v, rfl⟩, hx, hs, hp0⟩
  have hp : Part w.heap.size (some C) w w2 := (Part.of_below ((((Below.refl _ _).alloc (Nat.le_refl _) _).alloc (by simp) _).alloc (by simp; omega) _)).trans hp0
  clear hp0
  have S2 := Lib.hid hs
  have ct := cell_of_one hs.took
  have HX := Lib.hid hx; have HP := Lib.hid hp
  have VS : Hid (Vals encP w2 gs vs) := HV.out.part HP.out (by obtain ⟨s, r, hc⟩ := H.out.chan; exact ⟨_, _, _, _, _, _, hc⟩) HV.out.lt
  clear hx hs hp R
  by_cases hk : 0 ≤ k ∧ k < gs.length
  · obtain ⟨n, rfl⟩ := Int.eq_ofNat_of_zero_le hk.1
    have hn : n < gs.length := by omega
    have hnv : n < vs.length := by have := HV.out.len; omega
    have eg : goneK (n : Int) gs.length gs = some ⟨gs.getD n 0, 0, none⟩ := by unfold goneK; rw [if_pos hk]; simp
    rw [eg] at ct
    have O := Lib.hid (openP_some (gs.getD n 0) (vs.getD n none) w2 (VS.out.at none n hn))
    have ei : inK (n : Int) vs.length = true := by simp [inK]; omega
    have E : Hid (∀ w', w2 = w' → PullTo a C cap gs vs (n : Int) w (.returned (.tuple #[encP (vs.getD n none), .bool true])) w') := by
      rintro w' rfl
      exact ⟨by rw [ei]; simp, HX.out, VS.out.left _, ((Part.grown HP.out))⟩
    clear eg ei hk
    generalize gs.getD n 0 = g at O ct
    generalize vs.getD n none = v at O E
    unfold encP at O E
    go_wp2_with fail
    refine O.out.mono ?_
    rintro e w' ⟨rfl, hw⟩
    go_wp2
    go_ret2
    exact E.out _ hw
  · have eg : goneK k gs.length gs = none := by unfold goneK; rw [if_neg hk]
    rw [eg] at ct
    have O := Lib.hid (openP_none w2)
    have ei : inK k vs.length = false := by have := HV.out.len; simp [inK]; omega
    have E : Hid (∀ w', w2 = w' → PullTo a C cap gs vs k w (.returned (.tuple #[encP none, .bool false])) w') := by
      rintro w' rfl
      exact ⟨by rw [ei]; simp, HX.out, VS.out.left _, ((Part.grown HP.out))⟩
    clear eg ei hk
    unfold encP at O E
    go_wp2_with fail
    refine O.out.mono ?_
    rintro e w' ⟨rfl, hw⟩
    go_wp2
    go_ret2
    exact E.out _ hw
end Go.Proofs.Ytfdiclamjgldnaa
