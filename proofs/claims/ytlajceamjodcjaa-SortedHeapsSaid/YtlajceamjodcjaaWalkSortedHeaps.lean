/- SortedHeaps: the walk. -/
import Derived.Test.YtlajceamjodcjaaSrtHeapsP
import Derived.Test.YtlajceamjodcjaaSrtAwake
import Derived.Test.YtlajceamjodcjaaSrtAt
import Derived.Test.YtlajceamjodcjaaSrtMergesP
import Derived.Test.YtlajceamjodcjaaSrtLib2
namespace Go.Proofs.Ytlajceamjodcjaa
open Go Go.RowKit Hp
set_option linter.unusedVariables false

/-- what lies while a heap by keys is put into and taken from: the box of its order at b, the heap behind it -/
structure HpW (w : World) (b : Nat) (h : List E) (t : Nat) (l : List Int) (v : Value) : Prop where
  box : InBox b 27 #[] w
  at_ : HeapAt (b + 1) (b + 1) 69 #[.pointer (some ⟨b, 0, none⟩)] h t w
  own : w.ownsRow (b + 2) 3 1 v l.length (ints l)
theorem key_tell (b : Nat) : Tell 69 #[.pointer (some ⟨b, 0, none⟩)] (Hp.steady lessKey) (fun _ => True) (fun w => True ∧ InBox b 27 #[] w) :=
  steady_tell _ _ lessKey (fun _ => True) (fun _ => True) less_tell (fun _ _ _ _ => trivial) b
theorem low_box (b : Nat) : Low (b + 1) (fun w => True ∧ InBox b 27 #[] w) := fun w w' h hb => ⟨trivial, (hb.block b (by omega)).trans h.2⟩
theorem HpW.below {w w' : World} {b t : Nat} {h : List E} {l : List Int} {v : Value} (i : HpW w b h t l v) (hb : Below w.heap.size w w') : HpW w' b h t l v :=
  ⟨(hb.block b (Array.getElem?_eq_some_iff.1 i.box).1).trans i.box, heap_same i.at_ (fun k cs t m hk _ => (hb.block k (Array.getElem?_eq_some_iff.1 hk).1).trans hk), ownI_later i.own hb⟩
/-- the row of numbers is another one -/
theorem HpW.row {w w' : World} {b t : Nat} {h : List E} {l l' : List Int} {v v' : Value} (i : HpW w b h t l v) (hb : Below (b + 2) w w') (hs : StaysV 3 w w') (ho : w'.ownsRow (b + 2) 3 1 v' l'.length (ints l')) : HpW w' b h t l' v' :=
  ⟨(hb.block b (by omega)).trans i.box, heap_same i.at_ (fun k cs t m hk ht => hs k cs t m hk ht), ho⟩
/-- the heap is another one -/
theorem HpW.heap {w w' : World} {b t t' : Nat} {h h' : List E} {l : List Int} {v : Value} (i : HpW w b h t l v) (hh : HeapAt (b + 1) (b + 1) 69 #[.pointer (some ⟨b, 0, none⟩)] h' t' w') (hb : Below (b + 1) w w') (ha : Apart (b + 1) w w') : HpW w' b h' t' l v :=
  ⟨(hb.block b (by omega)).trans i.box, hh, own_apart i.own ha i.at_⟩
theorem HpW.lt {w : World} {b t : Nat} {h : List E} {l : List Int} {v : Value} (i : HpW w b h t l v) : b + 2 ≤ w.heap.size := by
  obtain ⟨u, hu, _⟩ := i.at_
  have := (Array.getElem?_eq_some_iff.1 hu).1
  omega
theorem isOne64 : One Try.prog 24 3 (.int .i64 0) 8 := ⟨Try.underlying24, infoI64, rfl, by decide, by decide⟩
/-- another row -/
def NeRow (u v : Value) : Prop := u.ownBlock = none ∨ u.ownBlock ≠ v.ownBlock
theorem NeRow.symm {u v : Value} (h : NeRow u v) : NeRow v u := by
  rcases h with h | h
  · cases e : v.ownBlock with
    | none => exact .inl e
    | some x => exact .inr (by rw [h, e]; simp)
  · exact .inr (fun e => h e.symm)
theorem ne_fresh {w w1 : World} {B : Nat} {e e' : TypeId} {v u : Value} {n m : Nat} {xs ys : List Value} (h : w.ownsRow B e 1 v n xs) (h1 : w1.ownsRow w.heap.size e' 1 u m ys) : NeRow v u := by
  rcases own_block h with h2 | ⟨g, _, h2, _, hlt, _⟩
  · exact .inl h2
  · right
    rw [h2]
    rcases own_block h1 with h3 | ⟨g1, _, h3, hB, _, _⟩
    · rw [h3]; simp
    · rw [h3]; intro e; injection e with e; omega
theorem ne_at {w : World} {B : Nat} {e : TypeId} {u v v' : Value} {n : Nat} {xs : List Value} (h : w.ownsRow B e 1 u n xs) (hn : NeRow u v) (ha : AtRow v v' w.heap.size) : NeRow u v' := by
  rcases own_block h with h2 | ⟨g, _, h2, _, hlt, _⟩
  · exact .inl h2
  · rcases ha with ha | ⟨k, hk, ha⟩
    · rcases hn with hn | hn
      · exact .inl hn
      · exact .inr (by rw [ha]; exact hn)
    · right; rw [h2, ha]; intro e; injection e with e; omega
theorem own_below {w w' : World} {B n : Nat} {e : TypeId} {v : Value} {xs : List Value} (h : w.ownsRow B e 1 v n xs) (hg : w.grownBy w' v.ownBlock) (hB : B ≤ w.heap.size) : Below B w w' :=
  (Below.refl B w).grown hg hB (fun k hk => (h.lt k hk).1)
set_option maxHeartbeats 2000000
set_option maxRecDepth 100000
theorem sortedHeaps_walk (p : Option Addr) (c : Nat) (l : List Int) (pt : Option Addr) (ct : Nat) (lt : List Int) (w : World) (hl : CameI w p c l) (hlt : CameI w pt ct lt) : Calls Try.prog 5 #[.slice p l.length c, .slice pt lt.length ct] w fun e w' => e = .returned (.bool true) ∧ Below w.heap.size w w' := by
  have CL := Lib.hid hl.lies; have CT := Lib.hid hlt.lies
  have hlc := hl.le; have hlr := hl.reach; have htc := hlt.le; have htr := hlt.reach
  clear hl hlt
  go_enter Try.func5, Try.ntmps5
  go_wp2_with fail
  refine (newHeap_is 27 #[] w).mono ?_
  rintro e w1 ⟨rfl, hbox, hh1, hb1, _⟩
  have W1 := Lib.hid (show HpW w1 w.heap.size [] 0 [] (.slice none 0 0) from ⟨hbox, hh1, ⟨rfl, .inl ⟨rfl, rfl⟩⟩⟩)
  have B1 := Lib.hid hb1
  clear hbox hh1 hb1
  go_wp2_with fail
  go_loopw [6, 19] (fun v i wr => ∃ (k : Nat) (h : List E) (t : Nat) (li : List Int), k ≤ l.length ∧ k ≤ 200 ∧ i = .int .i64 k ∧ HpW wr w.heap.size h t li v ∧ HasI h li ∧ h.length ≤ k ∧ t = k ∧ Below w.heap.size w wr) (fun _ i _ => l.length - (intOf i).toNat)
  case atStart => exact ⟨0, [], 0, [], Nat.zero_le _, Nat.zero_le _, rfl, W1.out, HasI.nil, Nat.le_refl _, rfl, B1.out⟩
  case round =>
    obtain ⟨k, h, t, li, hkl, hk2, rfl, hw, hi, hhk, rfl, hb⟩ := hrel
    have HW := Lib.hid hw; have HI := Lib.hid hi; have BB := Lib.hid hb
    clear hw hi hb W1 B1
    by_cases hlt1 : t < l.length
    · have hlt' : (t : Int) < l.length := by omega
      obtain ⟨b1, o1, rfl, _, q1⟩ := (CL.out.below BB.out).at (by omega)
      have r1 := q1 t hlt1
      clear q1
      generalize l.getD t 0 = x at r1
      by_cases h200 : t < 200
      · have h200' : ¬ (t : Int) ≥ 200 := by omega
        have HL := HI.out.len
        go_wp2_with fail
        refine (push_is _ _ _ _ (Hp.steady lessKey) (fun _ => True) _ (key_tell w.heap.size) (low_box w.heap.size) h t x wr HW.out.at_ (Nat.le_refl _) (fun _ _ => trivial) trivial ⟨trivial, HW.out.box⟩ (by omega) (by omega)).mono ?_
        rintro e w2 ⟨rfl, hh2, hb2, ha2⟩
        have W2 := Lib.hid (HW.out.heap hh2 hb2 ha2)
        have I2 := Lib.hid (HI.out.push x (t : Int))
        have B2 := Lib.hid (BB.out.trans (hb2.mono (Nat.le_succ _)))
        clear hh2 hb2 ha2 HW HI BB
        generalize Hp.rise (Hp.steady lessKey) (h ++ [(x, (t : Int))]) = h2 at W2 I2
        have hz2 := W2.out.lt
        go_wp2_with (at_builtin; refine wpList_one isOne64 w2 rfl _ _ rfl (w.heap.size + 2) li.length (ints li) u6 rfl W2.out.own (.int .i64 x) rfl rfl (by omega) hz2 ?_)
        intro v3 w3 hown3 hb3 hs3
        have W3 := Lib.hid (W2.out.row (l' := li ++ [x]) hb3 hs3 (by rw [List.length_append, ints_append]; exact hown3))
        have B3 := Lib.hid (B2.out.trans (hb3.mono (by omega)))
        clear hown3 hb3 hs3 W2 B2
        have HL2 := I2.out.len
        have hl2 : (li ++ [x]).length = li.length + 1 := by simp
        generalize li ++ [x] = l2 at W3 I2 HL2 hl2
        by_cases htt : t < lt.length
        · have htt' : (t : Int) < lt.length := by omega
          obtain ⟨b5, o5, rfl, _, q5⟩ := (CT.out.below B3.out).at (by omega)
          have r5 := q5 t htt
          clear q5
          generalize lt.getD t 0 = y at r5
          have h0 : 0 < h2.length := by omega
          have hm : h2.length ≤ t + 1 := by omega
          clear r1 HL hl2
          go_wp2_with fail
          case roundEnd =>
            refine ⟨⟨t + 1, h2, t + 1, l2, by omega, by omega, by go_num, W3.out, I2.out, hm, rfl, B3.out⟩, ?_⟩
            simp [intOf]; omega
          refine (pop_any _ _ _ _ (Hp.steady lessKey) (fun _ => True) _ (key_tell w.heap.size) (low_box w.heap.size) h2 (t + 1) w3 W3.out.at_ (Nat.le_refl _) (fun _ _ => trivial) ⟨trivial, W3.out.box⟩ (by omega)).mono ?_
          rintro e w4 ⟨rfl, hh4, hb4, ha4⟩
          rw [decide_eq_true h0]
          have W4 := Lib.hid (W3.out.heap hh4 hb4 ha4)
          have PF := Lib.hid (I2.out.first); have PP := Lib.hid (I2.out.pop h0).1; have PT := Lib.hid (I2.out.take h0)
          have B4 := Lib.hid (B3.out.trans (hb4.mono (Nat.le_succ _)))
          have hl4 : (Hp.left (Hp.steady lessKey) h2).length = h2.length - 1 := left_len _ _
          clear hh4 hb4 ha4 W3 I2 B3
          generalize Hp.left (Hp.steady lessKey) h2 = h4 at W4 PT hl4
          generalize (h2.getD 0 d).1 = z at PF PP PT
          obtain ⟨_, q4, c4, rfl, _, hq4, _⟩ := own_liesI W4.out.own
          have Q4 := Lib.hid hq4
          clear hq4
          go_wp2_with fail
          refine (refSort_is q4 c4 l2 w4 Q4.out (by omega)).mono ?_
          rintro e w5 ⟨v5, rfl, hown5, hb5⟩
          obtain ⟨_, q5, c5, rfl, _, hq5, _⟩ := own_liesI hown5
          have hsl := sortK_len l2
          obtain ⟨b6, o6, rfl, _, q6⟩ := hq5.at (by omega)
          have r6 := q6 0 (by omega)
          rw [Nat.add_zero] at r6
          have hs0 : (sortK l2).getD 0 0 ∈ l2 := (mem_sortK l2 _).1 (by rw [List.getD_eq_getElem?_getD, List.getElem?_eq_getElem (show 0 < (sortK l2).length by omega)]; exact List.getElem_mem _)
          have hs1 := PF.out _ hs0
          generalize (sortK l2).getD 0 0 = s at r6 hs1
          have W5 := Lib.hid (W4.out.below hb5); have B5 := Lib.hid (thenBelow B4.out hb5)
          have Q5 := Lib.hid (Q4.out.below hb5)
          have hS1 := Lib.hid hs1
          have hsl' : (0 : Int) < (sortK l2).length := by omega
          clear hown5 hb5 hq5 q6 hs0 hs1 W4 B4 Q4 PF
          go_wp2_with fail
          have LT := less_tell.tell s z w5 trivial trivial trivial
          simp only [show decide (key10 s < key10 z) = false from hS1.out] at LT
          refine LT.mono ?_
          rintro e w6 ⟨rfl, hb6⟩
          have W6 := Lib.hid (W5.out.below hb6); have B6 := Lib.hid (thenBelow B5.out hb6)
          have Q6 := Lib.hid (Q5.out.below hb6)
          have hx0 := idxI_lt l2 z PP.out
          clear LT hb6 r6 W5 B5 Q5
          go_wp2_with fail
          refine (index_in q4 c4 l2 z w6 Q6.out PP.out (by omega)).mono ?_
          rintro e w7 ⟨rfl, rfl⟩
          generalize idxI l2 z = m at PT hx0
          have hm0 : ¬ (m : Int) < 0 := by omega
          go_wp2_with fail
          refine (deleteI_is _ m l2 _ w7 W6.out.own hx0 (by omega)).mono ?_
          rintro e w8 ⟨v8, rfl, hown8, _, hg8⟩
          have W8 := Lib.hid (W6.out.row ((Below.refl _ _).grown hg8 W6.out.lt (fun k hk => (W6.out.own.lt k hk).1)) (staysV_of W6.out.own hg8) hown8)
          have B8 := Lib.hid (B6.out.trans ((Below.refl w.heap.size w7).grown hg8 (by have := W6.out.lt; omega) (fun k hk => by have := (W6.out.own.lt k hk).1; omega)))
          clear hown8 hg8 W6 B6 Q6 PP
          have hl8 : (l2.eraseIdx m).length = l2.length - 1 := by rw [List.length_eraseIdx]; simp [hx0]
          generalize l2.eraseIdx m = l8 at W8 PT hl8
          go_wp2
          go_roundw
          case rel => exact ⟨t + 1, h4, t + 1, l8, by omega, by omega, by go_num, W8.out, PT.out, by omega, rfl, B8.out⟩
          case measure => simp [intOf]; omega
        · have htt' : ¬ (t : Int) < lt.length := by omega
          go_wp2
          go_roundw
          case rel => exact ⟨t + 1, h2, t + 1, l2, by omega, by omega, by go_num, W3.out, I2.out, by omega, rfl, B3.out⟩
          case measure => simp [intOf]; omega
      · have h200' : (t : Int) ≥ 200 := by omega
        have HL := HI.out.len
        clear CL CT
        have W1 := HW; have I1 := Lib.hid HI.out.out
        have hz1 := HW.out.lt
        clear HW HI
        go_wp2_with fail
        go_loopw [12] (fun v wq => ∃ (h2 : List E) (out : List Int), HpW wq w.heap.size h2 t li u6 ∧ OutI h2 out li ∧ wq.ownsRow (w.heap.size + 2) 3 1 v out.length (ints out) ∧ NeRow u6 v ∧ Below w.heap.size w wq) (fun v _ => 300 - slLen v)
        case atStart => exact ⟨h, [], W1.out, I1.out, ⟨rfl, .inl ⟨rfl, rfl⟩⟩, (show NeRow (.slice none 0 0) u6 from .inl rfl).symm, BB.out⟩
        case round =>
          obtain ⟨h2, out, hw2, hi2, ho2, hne2, hb2⟩ := hrel
          have W2 := Lib.hid hw2; have I2 := Lib.hid hi2; have O2 := Lib.hid ho2; have N2 := Lib.hid hne2; have B2 := Lib.hid hb2
          have hlen := hi2.len
          have hz2 := hw2.lt
          clear hw2 hi2 ho2 hne2 hb2 W1 I1 BB
          cases h2 with
          | cons e0 h2 =>
            have h0 : 0 < (e0 :: h2).length := by simp
            rw [List.length_cons] at hlen
            go_wp2_with fail
            refine (pop_any _ _ _ _ (Hp.steady lessKey) (fun _ => True) _ (key_tell w.heap.size) (low_box w.heap.size) (e0 :: h2) t wr W2.out.at_ (Nat.le_refl _) (fun _ _ => trivial) ⟨trivial, W2.out.box⟩ (by rw [List.length_cons]; omega)).mono ?_
            rintro e w4 ⟨rfl, hh4, hb4, ha4⟩
            rw [decide_eq_true h0]
            have W4 := Lib.hid (W2.out.heap hh4 hb4 ha4)
            have O4 := Lib.hid (own_apart O2.out ha4 W2.out.at_)
            have I4 := Lib.hid (I2.out.step h0)
            have B4 := Lib.hid (B2.out.trans (hb4.mono (Nat.le_succ _)))
            clear hh4 hb4 ha4 W2 I2 B2 O2
            generalize Hp.left (Hp.steady lessKey) (e0 :: h2) = h4 at W4 I4
            generalize ((e0 :: h2).getD 0 d).1 = z at I4
            obtain ⟨q2, c2, rfl⟩ := ownV_slice O4.out
            have hz4 := W4.out.lt
            have hnot : ¬ ((out.length : Int) > 200) := by omega
            go_wp2_with (at_builtin; refine wpList_oneAt Try.underlying24 infoI64 rfl (by decide) w4 rfl _ _ rfl (w.heap.size + 2) out.length (ints out) (.slice q2 out.length c2) rfl O4.out (.int .i64 z) rfl rfl (by omega) hz4 ?_)
            intro v5 w5 hown5 hb5 hg5 ha5
            have W5 := Lib.hid (W4.out.row hb5 (staysV_of O4.out hg5) (W4.out.own.kept hg5 N2.out))
            have N5 := Lib.hid (ne_at W4.out.own N2.out ha5)
            have B5 := Lib.hid (B4.out.trans (hb5.mono (by omega)))
            have O5 : Hid (w5.ownsRow (w.heap.size + 2) 3 1 v5 (out ++ [z]).length (ints (out ++ [z]))) := by
              show w5.ownsRow (w.heap.size + 2) 3 1 v5 (out ++ [z]).length (ints (out ++ [z]))
              rw [List.length_append, ints_append]; exact hown5
            have hs5 : slLen v5 = out.length + 1 := slLen_own hown5
            clear hown5 hb5 hg5 ha5 W4 N2 B4 O4
            go_wp2
            go_roundw
            case rel => exact ⟨h4, out ++ [z], W5.out, I4.out, O5.out, N5.out, B5.out⟩
            case measure => rw [hs5]; simp only [slLen]; omega
          | nil =>
            rw [List.length_nil, Nat.add_zero] at hlen
            have hol : out.length ≤ 200 := by omega
            have hll : li.length ≤ 200 := by omega
            clear hlen HL
            go_wp2_with fail
            refine (pop_none _ _ _ _ t wr W2.out.at_).mono ?_
            rintro e w4 ⟨rfl, rfl⟩
            obtain ⟨_, q2, c2, rfl, _, hq2, _⟩ := own_liesI O2.out
            have hq2' := Lib.hid hq2
            clear hq2
            go_wp2_with fail
            refine (refKeys_is q2 c2 out w4 hq2'.out (by omega)).mono ?_
            rintro e w5 ⟨v5, rfl, hown5, hb5⟩
            have W5 := Lib.hid (W2.out.below hb5); have O5 := Lib.hid (ownI_later O2.out hb5); have B5 := Lib.hid (thenBelow B2.out hb5)
            have NO := Lib.hid (ne_fresh O2.out hown5); have NI := Lib.hid (ne_fresh W2.out.own hown5)
            have K5 := Lib.hid (show w5.ownsRow (w.heap.size + 2) 3 1 v5 (keysOf out).length (ints (keysOf out)) from own_mono hown5 hz2)
            have hz5 := Nat.le_trans hz2 hb5.size
            have PK := Lib.hid I2.out.keys
            have HSM := Lib.hid (show sortI out = sortI li from sorted_same (by simpa using I2.out.perm))
            have hks : (keysOf out).length ≤ 200 := by simp only [keysOf, List.length_map]; exact hol
            clear hown5 hb5 W2 O2 B2 I2 hq2'
            go_wp2_with fail
            refine (sortI_is _ out _ w5 O5.out (by omega)).mono ?_
            rintro e w6 ⟨rfl, ho6, hg6⟩
            have hb6 := own_below O5.out hg6 hz5
            have W6 := Lib.hid (W5.out.row hb6 (staysV_of O5.out hg6) (W5.out.own.kept hg6 N2.out))
            have K6 := Lib.hid (K5.out.kept hg6 NO.out.symm)
            have O6 := Lib.hid ho6
            have B6 := Lib.hid (B5.out.trans (hb6.mono (by omega)))
            have hz6 := Nat.le_trans hz5 hb6.size
            clear ho6 hg6 hb6 W5 K5 O5 B5
            go_wp2_with fail
            refine (sortI_is _ li u6 w6 W6.out.own (by omega)).mono ?_
            rintro e w7 ⟨rfl, ho7, hg7⟩
            have hb7 := own_below W6.out.own hg7 hz6
            have O7 := Lib.hid (O6.out.kept hg7 N2.out.symm)
            have K7 := Lib.hid (K6.out.kept hg7 NI.out.symm)
            have W7 := Lib.hid (W6.out.row hb7 (staysV_of W6.out.own hg7) ho7)
            have B7 := Lib.hid (B6.out.trans (hb7.mono (by omega)))
            clear ho7 hg7 hb7 W6 K6 O6 B6 NO NI N2
            rw [HSM.out] at O7
            have hsl : (sortI li).length ≤ 200 := by rw [show (sortI li).length = li.length from List.length_mergeSort _]; exact hll
            obtain ⟨_, qk, ck, rfl, _, hqk, _⟩ := own_liesI K7.out
            obtain ⟨_, qo, co, hqe, _, hqo, _⟩ := own_liesI O7.out
            obtain ⟨_, qi, ci, rfl, _, hqi, _⟩ := own_liesI W7.out.own
            have HQK := Lib.hid hqk; have HQO := Lib.hid hqo; have HQI := Lib.hid hqi
            clear hqk hqo hqi K7 O7 HSM
            injection hqe with hqe1 hqe2 hqe3
            subst hqe1; subst hqe3
            have HQ2 := Lib.hid hqe2
            clear hqe2
            go_wp2_with fail
            refine (isSorted_is qk ck (keysOf out) w7 HQK.out PK.out (by omega)).mono ?_
            rintro e w8 ⟨rfl, hb8⟩
            have W8 := Lib.hid (W7.out.below hb8); have B8 := Lib.hid (thenBelow B7.out hb8)
            have HQO8 := Lib.hid (HQO.out.below hb8); have HQI8 := Lib.hid (HQI.out.below hb8)
            clear hb8 W7 B7 HQO HQI HQK PK
            go_wp2_with fail
            rw [HQ2.out]
            refine (equalI_any q2 qi c2 ci (sortI li) w8 HQO8.out HQI8.out (by omega)).mono ?_
            rintro e w9 ⟨rfl, hb9⟩
            have W9 := Lib.hid (W8.out.below hb9); have B9 := Lib.hid (thenBelow B8.out hb9)
            clear hb9 W8 B8 HQO8 HQI8
            go_wp2_with fail
            refine (heapLen_is _ _ _ _ _ t w9 W9.out.at_).mono ?_
            rintro e w9 ⟨rfl, rfl⟩
            clear W9
            go_wp2_with fail
            refine (awake6 w9).mono ?_
            rintro e w10 ⟨rfl, hb10⟩
            have B10 := Lib.hid (thenBelow B9.out hb10)
            clear hb10 B9
            go_wp2_with fail
            go_ret
            exact ⟨ret_bool rfl, B10.out⟩
    · have hlt' : ¬ (t : Int) < l.length := by omega
      have HL := HI.out.len
      clear CL CT
      have W1 := HW; have I1 := Lib.hid HI.out.out
      have hz1 := HW.out.lt
      clear HW HI
      go_wp2_with fail
      go_loopw [12] (fun v wq => ∃ (h2 : List E) (out : List Int), HpW wq w.heap.size h2 t li u6 ∧ OutI h2 out li ∧ wq.ownsRow (w.heap.size + 2) 3 1 v out.length (ints out) ∧ NeRow u6 v ∧ Below w.heap.size w wq) (fun v _ => 300 - slLen v)
      case atStart => exact ⟨h, [], W1.out, I1.out, ⟨rfl, .inl ⟨rfl, rfl⟩⟩, (show NeRow (.slice none 0 0) u6 from .inl rfl).symm, BB.out⟩
      case round =>
        obtain ⟨h2, out, hw2, hi2, ho2, hne2, hb2⟩ := hrel
        have W2 := Lib.hid hw2; have I2 := Lib.hid hi2; have O2 := Lib.hid ho2; have N2 := Lib.hid hne2; have B2 := Lib.hid hb2
        have hlen := hi2.len
        have hz2 := hw2.lt
        clear hw2 hi2 ho2 hne2 hb2 W1 I1 BB
        cases h2 with
        | cons e0 h2 =>
          have h0 : 0 < (e0 :: h2).length := by simp
          rw [List.length_cons] at hlen
          go_wp2_with fail
          refine (pop_any _ _ _ _ (Hp.steady lessKey) (fun _ => True) _ (key_tell w.heap.size) (low_box w.heap.size) (e0 :: h2) t wr W2.out.at_ (Nat.le_refl _) (fun _ _ => trivial) ⟨trivial, W2.out.box⟩ (by rw [List.length_cons]; omega)).mono ?_
          rintro e w4 ⟨rfl, hh4, hb4, ha4⟩
          rw [decide_eq_true h0]
          have W4 := Lib.hid (W2.out.heap hh4 hb4 ha4)
          have O4 := Lib.hid (own_apart O2.out ha4 W2.out.at_)
          have I4 := Lib.hid (I2.out.step h0)
          have B4 := Lib.hid (B2.out.trans (hb4.mono (Nat.le_succ _)))
          clear hh4 hb4 ha4 W2 I2 B2 O2
          generalize Hp.left (Hp.steady lessKey) (e0 :: h2) = h4 at W4 I4
          generalize ((e0 :: h2).getD 0 d).1 = z at I4
          obtain ⟨q2, c2, rfl⟩ := ownV_slice O4.out
          have hz4 := W4.out.lt
          have hnot : ¬ ((out.length : Int) > 200) := by omega
          go_wp2_with (at_builtin; refine wpList_oneAt Try.underlying24 infoI64 rfl (by decide) w4 rfl _ _ rfl (w.heap.size + 2) out.length (ints out) (.slice q2 out.length c2) rfl O4.out (.int .i64 z) rfl rfl (by omega) hz4 ?_)
          intro v5 w5 hown5 hb5 hg5 ha5
          have W5 := Lib.hid (W4.out.row hb5 (staysV_of O4.out hg5) (W4.out.own.kept hg5 N2.out))
          have N5 := Lib.hid (ne_at W4.out.own N2.out ha5)
          have B5 := Lib.hid (B4.out.trans (hb5.mono (by omega)))
          have O5 : Hid (w5.ownsRow (w.heap.size + 2) 3 1 v5 (out ++ [z]).length (ints (out ++ [z]))) := by
            show w5.ownsRow (w.heap.size + 2) 3 1 v5 (out ++ [z]).length (ints (out ++ [z]))
            rw [List.length_append, ints_append]; exact hown5
          have hs5 : slLen v5 = out.length + 1 := slLen_own hown5
          clear hown5 hb5 hg5 ha5 W4 N2 B4 O4
          go_wp2
          go_roundw
          case rel => exact ⟨h4, out ++ [z], W5.out, I4.out, O5.out, N5.out, B5.out⟩
          case measure => rw [hs5]; simp only [slLen]; omega
        | nil =>
          rw [List.length_nil, Nat.add_zero] at hlen
          have hol : out.length ≤ 200 := by omega
          have hll : li.length ≤ 200 := by omega
          clear hlen HL
          go_wp2_with fail
          refine (pop_none _ _ _ _ t wr W2.out.at_).mono ?_
          rintro e w4 ⟨rfl, rfl⟩
          obtain ⟨_, q2, c2, rfl, _, hq2, _⟩ := own_liesI O2.out
          have hq2' := Lib.hid hq2
          clear hq2
          go_wp2_with fail
          refine (refKeys_is q2 c2 out w4 hq2'.out (by omega)).mono ?_
          rintro e w5 ⟨v5, rfl, hown5, hb5⟩
          have W5 := Lib.hid (W2.out.below hb5); have O5 := Lib.hid (ownI_later O2.out hb5); have B5 := Lib.hid (thenBelow B2.out hb5)
          have NO := Lib.hid (ne_fresh O2.out hown5); have NI := Lib.hid (ne_fresh W2.out.own hown5)
          have K5 := Lib.hid (show w5.ownsRow (w.heap.size + 2) 3 1 v5 (keysOf out).length (ints (keysOf out)) from own_mono hown5 hz2)
          have hz5 := Nat.le_trans hz2 hb5.size
          have PK := Lib.hid I2.out.keys
          have HSM := Lib.hid (show sortI out = sortI li from sorted_same (by simpa using I2.out.perm))
          have hks : (keysOf out).length ≤ 200 := by simp only [keysOf, List.length_map]; exact hol
          clear hown5 hb5 W2 O2 B2 I2 hq2'
          go_wp2_with fail
          refine (sortI_is _ out _ w5 O5.out (by omega)).mono ?_
          rintro e w6 ⟨rfl, ho6, hg6⟩
          have hb6 := own_below O5.out hg6 hz5
          have W6 := Lib.hid (W5.out.row hb6 (staysV_of O5.out hg6) (W5.out.own.kept hg6 N2.out))
          have K6 := Lib.hid (K5.out.kept hg6 NO.out.symm)
          have O6 := Lib.hid ho6
          have B6 := Lib.hid (B5.out.trans (hb6.mono (by omega)))
          have hz6 := Nat.le_trans hz5 hb6.size
          clear ho6 hg6 hb6 W5 K5 O5 B5
          go_wp2_with fail
          refine (sortI_is _ li u6 w6 W6.out.own (by omega)).mono ?_
          rintro e w7 ⟨rfl, ho7, hg7⟩
          have hb7 := own_below W6.out.own hg7 hz6
          have O7 := Lib.hid (O6.out.kept hg7 N2.out.symm)
          have K7 := Lib.hid (K6.out.kept hg7 NI.out.symm)
          have W7 := Lib.hid (W6.out.row hb7 (staysV_of W6.out.own hg7) ho7)
          have B7 := Lib.hid (B6.out.trans (hb7.mono (by omega)))
          clear ho7 hg7 hb7 W6 K6 O6 B6 NO NI N2
          rw [HSM.out] at O7
          have hsl : (sortI li).length ≤ 200 := by rw [show (sortI li).length = li.length from List.length_mergeSort _]; exact hll
          obtain ⟨_, qk, ck, rfl, _, hqk, _⟩ := own_liesI K7.out
          obtain ⟨_, qo, co, hqe, _, hqo, _⟩ := own_liesI O7.out
          obtain ⟨_, qi, ci, rfl, _, hqi, _⟩ := own_liesI W7.out.own
          have HQK := Lib.hid hqk; have HQO := Lib.hid hqo; have HQI := Lib.hid hqi
          clear hqk hqo hqi K7 O7 HSM
          injection hqe with hqe1 hqe2 hqe3
          subst hqe1; subst hqe3
          have HQ2 := Lib.hid hqe2
          clear hqe2
          go_wp2_with fail
          refine (isSorted_is qk ck (keysOf out) w7 HQK.out PK.out (by omega)).mono ?_
          rintro e w8 ⟨rfl, hb8⟩
          have W8 := Lib.hid (W7.out.below hb8); have B8 := Lib.hid (thenBelow B7.out hb8)
          have HQO8 := Lib.hid (HQO.out.below hb8); have HQI8 := Lib.hid (HQI.out.below hb8)
          clear hb8 W7 B7 HQO HQI HQK PK
          go_wp2_with fail
          rw [HQ2.out]
          refine (equalI_any q2 qi c2 ci (sortI li) w8 HQO8.out HQI8.out (by omega)).mono ?_
          rintro e w9 ⟨rfl, hb9⟩
          have W9 := Lib.hid (W8.out.below hb9); have B9 := Lib.hid (thenBelow B8.out hb9)
          clear hb9 W8 B8 HQO8 HQI8
          go_wp2_with fail
          refine (heapLen_is _ _ _ _ _ t w9 W9.out.at_).mono ?_
          rintro e w9 ⟨rfl, rfl⟩
          clear W9
          go_wp2_with fail
          refine (awake6 w9).mono ?_
          rintro e w10 ⟨rfl, hb10⟩
          have B10 := Lib.hid (thenBelow B9.out hb10)
          clear hb10 B9
          go_wp2_with fail
          go_ret
          exact ⟨ret_bool rfl, B10.out⟩
end Go.Proofs.Ytlajceamjodcjaa
