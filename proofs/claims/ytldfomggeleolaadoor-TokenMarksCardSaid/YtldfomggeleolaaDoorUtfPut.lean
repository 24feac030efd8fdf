/- The contract of utf's Put. -/
import Derived.Test.YtldfomggeleolaaDoorUtfNext
import Derived.Outline
namespace Go.Proofs.YtldfomggeleolaaDoor
open Go Go.RowKit

/-- a row of another type stays as it is when bytes of the call's own are appended to -/
def Stays (e : TypeId) (w w' : World) : Prop := ∀ (X : Nat) (cs : Array Value) (ty : TypeId) (m : Nat × Nat), w.heap[X]? = some (Obj.cells cs ty m) → ty ≠ e → w'.heap[X]? = some (Obj.cells cs ty m)
theorem stays_of {w w' : World} {B : Nat} {e : TypeId} {v : Value} {n : Nat} {xs : List Value} (hown : w.ownsRow B e 1 v n xs) (hg : w.grownBy w' v.ownBlock) : Stays e w w' := by
  intro X cs ty m hX hne
  have hlt : X < w.heap.size := (Array.getElem?_eq_some_iff.1 hX).1
  rw [hg.block X hlt ?_]
  · exact hX
  · rcases hown.2 with ⟨rfl, _⟩ | ⟨g, cap, cur, rfl, _, q3, _⟩
    · intro h; cases h
    · intro h
      have hXg : X = g := by simpa [Value.ownBlock] using h
      subst hXg
      rw [q3] at hX
      simp only [Option.some.injEq, Obj.cells.injEq] at hX
      exact hne hX.2.1.symm

section
variable {P : Program} {t e : TypeId} {ops : Array Oper} {rest : List Oper} {o : Oper} {a : Act} {Q : Exit → Act → World → Prop}
theorem wpList_byteX (U : U8 P t e) (w : World) (hg : o.guard = none) (s x : Operand) (ho : o.op = .call { callee := .builtin .append, args := #[s, x], argTypes := #[t, t] })
    (B n : Nat) (l : List UInt8) (v : Value) (hs : a.eval s = v) (hown : w.ownsRow B e 1 v n (bys l)) (X : Int) (b : UInt8) (hx : a.eval x = .slice (some ⟨w.heap.size, 0, none⟩) 1 1) (hX : X = (b.toNat : Int))
    (hlen : n + 1 ≤ 140737488355328) (hB : B ≤ w.heap.size)
    (h : ∀ v' w', w'.ownsRow B e 1 v' (n + 1) (bys (l ++ [b])) → Below B w w' → Stays e w w' → wpList P ops Q rest (a.put o.dst v') w') : wpList P ops Q (o :: rest) a (w.alloc (.cells #[.int .u8 X] e)) := by
  obtain ⟨i0, hi, hz0, hz1, hz2⟩ := info_parts U.info
  refine wpList_append_own _ hg s x t ho B e i0 (.int .u8 0) 1 1 U.slice hi hz0 hz1 hz2 rfl (by decide) v n (bys l) hs (hown.alloc _) ⟨w.heap.size, 0, none⟩ 1 1 (bys [b]) hx rfl ?_ (bys_one _) (by unfold maxLen; omega) (by omega) (by simp; omega) ?_
  · intro j u hu
    match j, hu with
    | 0, hu => simp [bys] at hu; subst hu; subst hX; simp [Addr.add]
  · intro v' w' h1 h2 _
    refine h v' w' (by rw [bys_append]; exact h1) ?_ ?_
    · exact ((Below.refl B w).alloc hB _).grown h2 (by simp; omega) (fun k hk => (hown.lt k hk).1)
    · intro X cs ty m hX hne
      refine stays_of (hown.alloc _) h2 X cs ty m ?_ hne
      rw [((Below.refl w.heap.size w).alloc (Nat.le_refl _) _).block X (Array.getElem?_eq_some_iff.1 hX).1]
      exact hX
theorem step_byteX (U : U8 P t e) {w : World} {K : Act → World → Prop} {E : Prop} {Q : Exit → Act → World → Prop} (hg : o.guard = none) (s x : Operand) (ho : o.op = .call { callee := .builtin .append, args := #[s, x], argTypes := #[t, t] })
    (B n : Nat) (l : List UInt8) (v : Value) (hs : a.eval s = v) (hown : w.ownsRow B e 1 v n (bys l)) (ad : Addr) (b : UInt8) (hx : a.eval x = .slice (some ad) 1 1) (hX : w.cell? ad = some (.int .u8 (b.toNat : Int)))
    (hlen : n + 1 ≤ 140737488355328) (hB : B ≤ w.heap.size)
    (h : ∀ v' w', w'.ownsRow B e 1 v' (n + 1) (bys (l ++ [b])) → Below B w w' → Stays e w w' → K (a.put o.dst v') w') :
    if Region.wanted o (yielded ops a.tmps) = true then Oper.wp P o a w K Q else E := by
  obtain ⟨i0, hi, hz0, hz1, hz2⟩ := info_parts U.info
  have hnews : ∀ j u, (bys [b])[j]? = some u → w.cell? (ad.add j) = some u := by
    intro j u hu
    match j, hu with
    | 0, hu => simp [bys] at hu; subst hu; rw [show ad.add 0 = ad from by cases ad; simp [Addr.add]]; exact hX
  have hw : Region.wanted o (yielded ops a.tmps) = true := by simp [Region.wanted, hg]
  rw [if_pos hw]
  obtain ⟨v', w', hrun, h1, h2, _⟩ := run_append_own (P := P) w B t o.type e i0 (.int .u8 0) 1 1 U.slice hi hz0 hz1 hz2 rfl (by decide) v n (bys l) hown ad 1 1 (bys [b]) rfl hnews (bys_one _) (by unfold maxLen; omega) (by omega) hB
  unfold Oper.wp
  simp [execOp, ho, resolve, invoke, builtin, hs, hx, hrun, Result.andThen]
  exact h v' w' (by rw [bys_append]; exact h1) ((Below.refl B w).grown h2 hB (fun k hk => (hown.lt k hk).1)) (stays_of hown h2)
end

namespace Utf
def tailB (r : Nat) (k i : Nat) : UInt8 := UInt8.ofNat (128 + r / 64 ^ (k - 1 - i) % 64)
def encK (r k : Nat) : List UInt8 := UInt8.ofNat (lead k + r / 64 ^ k) :: (List.range k).map (tailB r k)
def enc (r : Int) : List UInt8 := if sg r then encK r.toNat (sh r) else []
end Utf

theorem shapes_three {w : World} (h : Shapes w) (k : Nat) (hk : k ≤ 3) : ∃ L : Int, w.cell? ⟨0, k * 3, none⟩ = some (.int .i64 L) ∧ w.cell? ⟨0, k * 3 + 1, none⟩ = some (.int .i64 (Utf.lead k : Nat)) ∧ w.cell? ⟨0, k * 3 + 2, none⟩ = some (.int .i64 k) := by
  match k, hk with
  | 0, _ => exact ⟨_, h.c0, h.c1, h.c2⟩
  | 1, _ => exact ⟨_, h.c3, h.c4, h.c5⟩
  | 2, _ => exact ⟨_, h.c6, h.c7, h.c8⟩
  | 3, _ => exact ⟨_, h.c9, h.c10, h.c11⟩

theorem own_later {w w' : World} {B : Nat} {ty : TypeId} {n : Nat} {v : Value} {xs : List Value} (h : w.ownsRow B ty 1 v n xs) (hb : Below w.heap.size w w') : w'.ownsRow B ty 1 v n xs := by
  refine ⟨h.1, ?_⟩
  rcases h.2 with q | ⟨g, cap, cur, q1, q2, q3, q4⟩
  · exact .inl q
  · exact .inr ⟨g, cap, cur, q1, q2, by rw [hb.block g (Array.getElem?_eq_some_iff.1 q3).1]; exact q3, q4⟩
theorem shr_i64 (P : Program) (m k : Nat) (hk : k ≤ 3) (w : World) : Sem.run P (Op.shift BinOp.shr IntKind.i64 (m : Int) IntKind.i64 (IntKind.i64.wrap (6 * (k : Int)))) w = .ok (.int .i64 ((m / 64 ^ k : Nat) : Int)) w := by
  have e1 : IntKind.i64.wrap (6 * (k : Int)) = ((6 * k : Nat) : Int) := by rw [IntWalk.i64_in _ (by omega)]; omega
  rw [e1]
  unfold Op.shift
  rw [if_neg (by omega)]
  have e2 : min (6 * k) IntKind.i64.bits = 6 * k := by simp [IntKind.bits]; omega
  simp only [Int.toNat_natCast, e2]
  rw [Sem.run_pure]
  have : (m : Int).fdiv (2 ^ (6 * k)) = ((m / 64 ^ k : Nat) : Int) := by
    rw [show ((2 : Int) ^ (6 * k)) = ((64 ^ k : Nat) : Int) from by rw [Int.pow_mul]; simp, Int.fdiv_eq_ediv_of_nonneg _ (Int.natCast_nonneg _)]; simp
  simp only [this]
theorem lead_or (k q : Nat) (hk : k = 0 ∧ q < 192 ∨ k = 1 ∧ q < 32 ∨ k = 2 ∧ q < 16 ∨ k = 3 ∧ q < 8) : Utf.lead k ||| q = Utf.lead k + q := by
  unfold Utf.lead
  rcases hk with ⟨rfl, h⟩ | ⟨rfl, h⟩ | ⟨rfl, h⟩ | ⟨rfl, h⟩
  · simp
  · exact nat_join 5 192 q (by decide) (by simpa using h)
  · exact nat_join 4 224 q (by decide) (by simpa using h)
  · exact nat_join 3 240 q (by decide) (by simpa using h)
theorem lead_part (r : Nat) (hr : r ≤ 1114111) : Utf.sh (r : Int) = 0 ∧ r / 64 ^ Utf.sh (r : Int) < 192 ∨ Utf.sh (r : Int) = 1 ∧ r / 64 ^ Utf.sh (r : Int) < 32 ∨ Utf.sh (r : Int) = 2 ∧ r / 64 ^ Utf.sh (r : Int) < 16 ∨ Utf.sh (r : Int) = 3 ∧ r / 64 ^ Utf.sh (r : Int) < 8 := by
  have h : Utf.sh (r : Int) = 0 ∧ r ≤ 127 ∨ Utf.sh (r : Int) = 1 ∧ 127 < r ∧ r ≤ 2047 ∨ Utf.sh (r : Int) = 2 ∧ 2047 < r ∧ r ≤ 65535 ∨ Utf.sh (r : Int) = 3 ∧ 65535 < r := by
    unfold Utf.sh; (repeat' split) <;> omega
  rcases h with ⟨e, h⟩ | ⟨e, h⟩ | ⟨e, h⟩ | ⟨e, h⟩ <;> rw [e] <;> simp <;> omega
theorem lead_sum (k q : Nat) (hk : k = 0 ∧ q < 192 ∨ k = 1 ∧ q < 32 ∨ k = 2 ∧ q < 16 ∨ k = 3 ∧ q < 8) : Utf.lead k + q < 256 := by
  unfold Utf.lead
  rcases hk with ⟨rfl, h⟩ | ⟨rfl, h⟩ | ⟨rfl, h⟩ | ⟨rfl, h⟩ <;> simp <;> omega
theorem encK_take0 (m k : Nat) : (Utf.encK m k).take (1 + 0) = [UInt8.ofNat (Utf.lead k + m / 64 ^ k)] := rfl
theorem encK_taken (m k j : Nat) (hj : j < k) : (Utf.encK m k).take (1 + (j + 1)) = (Utf.encK m k).take (1 + j) ++ [Utf.tailB m k j] := by
  have hl : 1 + j < (Utf.encK m k).length := by simp [Utf.encK]; omega
  rw [show 1 + (j + 1) = (1 + j) + 1 from by omega, List.take_succ_eq_append_getElem hl]
  congr 2
  simp [Utf.encK, show 1 + j = j + 1 from by omega]
theorem or128 (t : Nat) (h : t < 64) : bits .or .i64 128 (t : Int) = ((128 + t : Nat) : Int) := by
  rw [show (128 : Int) = ((128 : Nat) : Int) from rfl, i64_or_nat _ _ (by omega) (by omega), nat_join 6 128 t (by decide) (by simpa using h)]
theorem and63 (q : Nat) (h : q ≤ 1114111) : bits .and .i64 (q : Int) 63 = ((q % 64 : Nat) : Int) := by
  rw [show (63 : Int) = ((63 : Nat) : Int) from rfl, i64_and_nat _ _ (by omega) (by omega), show (63 : Nat) = 2 ^ 6 - 1 from rfl, Nat.and_two_pow_sub_one_eq_mod]

set_option maxHeartbeats 2000000 in
set_option maxRecDepth 100000 in
theorem put_is (p : Option Addr) (c : Nat) (l : List UInt8) (r : Int) (w : World) (h : Lies w p l) (hp : p = none → l = [] ∧ c = 0) (hlen : l.length ≤ 140737488355000) (hT : Shapes w) :
    Calls Tryd.prog 30 #[.slice p l.length c, .int .i64 r] w (RetOwn w 5 (l ++ Utf.enc r)) := by
  have H := Lib.hid h; have HT := Lib.hid hT; have HP := Lib.hid hp
  have his := sign_is r
  clear h hT hp
  cases hsv : Utf.sg r with
  | false =>
    have hE : Hid (Utf.enc r = []) := by unfold Utf.enc; rw [hsv]; rfl
    rw [hsv] at his
    clear hsv
    go_enter Tryd.func30, Tryd.ntmps30
    go_wp2_with (at_builtin; refine wpList_bytes isU8 _ rfl _ _ rfl w.heap.size 0 [] _ rfl (World.ownsRow_nil _ _ _ _) p l.length c l rfl H.out rfl (fun e => ⟨by rw [(HP.out e).1]; rfl, (HP.out e).2⟩) (by omega) (Nat.le_refl _) ?_)
    intro v w1 hown hb
    have hown1 : w1.ownsRow w.heap.size 5 1 v l.length (bys l) := by simpa using hown
    have O1 := Lib.hid hown1; have B1 := Lib.hid hb
    clear hown hown1 hb
    go_wp2_with fail
    refine (his w1).mono ?_
    rintro e w' ⟨rfl, rfl⟩
    go_wp2
    go_ret
    rw [hE.out, List.append_nil]
    exact RetOwn.of_own O1.out rfl B1.out
  | true =>
    have hE : Utf.enc r = Utf.encK r.toNat (Utf.sh r) := by unfold Utf.enc; rw [hsv]; rfl
    have hr : 0 ≤ r ∧ r ≤ 1114111 := by unfold Utf.sg at hsv; simp only [decide_eq_true_eq] at hsv; omega
    rw [hsv] at his
    have hsh := fun w h => shaped_is r w h hr.2
    have hkl := Utf.sh_le r
    obtain ⟨k, hk⟩ : ∃ k, k = Utf.sh r := ⟨_, rfl⟩
    rw [← hk] at hE hsh hkl
    have HE := Lib.hid hE; have HK := Lib.hid hk
    obtain ⟨hr1, hr2⟩ := hr
    clear hsv hE hk
    go_enter Tryd.func30, Tryd.ntmps30
    go_wp2_with (at_builtin; refine wpList_bytes isU8 _ rfl _ _ rfl w.heap.size 0 [] _ rfl (World.ownsRow_nil _ _ _ _) p l.length c l rfl H.out rfl (fun e => ⟨by rw [(HP.out e).1]; rfl, (HP.out e).2⟩) (by omega) (Nat.le_refl _) ?_)
    intro v w1 hown hb
    have hown1 : w1.ownsRow w.heap.size 5 1 v l.length (bys l) := by simpa using hown
    have O1 := Lib.hid hown1; have B1 := Lib.hid hb
    have T1 := Lib.hid (HT.out.below hb)
    obtain ⟨L, q0, q1, q2⟩ := shapes_three T1.out k hkl
    have hs1 := hsh w1 T1.out
    clear hown hown1 hb hsh
    go_wp2_with fail
    refine (his w1).mono ?_
    rintro e w' ⟨rfl, rfl⟩
    go_wp2_with fail
    refine hs1.mono ?_
    rintro e w' ⟨rfl, rfl⟩
    clear hs1
    obtain ⟨m, rfl⟩ := Int.eq_ofNat_of_zero_le hr1
    rw [Int.toNat_natCast] at HE
    have hpart := lead_part m (by omega)
    rw [← HK.out] at hpart
    have hor0 := lead_or k _ hpart
    have hsum := lead_sum k _ hpart
    have s2 := shr_i64 Tryd.prog m k hkl
    obtain ⟨q, hq⟩ : ∃ q, q = m / 64 ^ k := ⟨_, rfl⟩
    obtain ⟨ld, hld⟩ : ∃ ld, ld = Utf.lead k := ⟨_, rfl⟩
    have hqm : q ≤ m := by rw [hq]; exact Nat.div_le_self _ _
    rw [← hq, ← hld] at hor0 hsum
    rw [← hq] at s2
    rw [← hld] at q1
    obtain ⟨b, hb⟩ : ∃ b, b = UInt8.ofNat (ld + q) := ⟨_, rfl⟩
    have hbn : b.toNat = ld + q := by rw [hb, UInt8.toNat_ofNat', Nat.mod_eq_of_lt hsum]
    have hor : bits BinOp.or IntKind.i64 (ld : Int) (q : Int) = (b.toNat : Int) := by
      rw [i64_or_nat _ _ (by omega) (by omega), hor0, hbn]
    have hwr : IntKind.u8.wrap (b.toNat : Int) = (b.toNat : Int) := wraps_u8 _ (Int.natCast_nonneg _) (by have := b.toNat_lt; omega)
    have hbl : b.toNat < 256 := b.toNat_lt
    have HBL : Hid ([b] = (Utf.encK m k).take (1 + 0)) := by rw [encK_take0, ← hq, ← hld, ← hb]; exact rfl
    have HPART := Lib.hid hpart
    clear hpart hq hld hb hbn hor0
    go_wp2_with fail
    have X1 := Lib.hid (heap_alloc_new w1 (Obj.cells #[Value.int IntKind.i64 L, Value.int IntKind.i64 (ld : Int), Value.int IntKind.i64 (k : Int)] 72))
    have O2 := Lib.hid (O1.out.alloc (Obj.cells #[Value.int IntKind.i64 L, Value.int IntKind.i64 (ld : Int), Value.int IntKind.i64 (k : Int)] 72))
    have B2 := Lib.hid (B1.out.alloc B1.out.size (Obj.cells #[Value.int IntKind.i64 L, Value.int IntKind.i64 (ld : Int), Value.int IntKind.i64 (k : Int)] 72))
    clear q0 q1 q2
    generalize (w1.alloc (Obj.cells #[Value.int IntKind.i64 L, Value.int IntKind.i64 (ld : Int), Value.int IntKind.i64 (k : Int)] 72)) = w2 at X1 O2 B2 ⊢
    generalize w1.heap.size = X at X1 ⊢
    have r1 : w2.cell? ⟨X, 1, none⟩ = some (.int .i64 (ld : Int)) := by rw [cell_of_row w2 X 1 _ _ _ X1.out]; rfl
    have r2 : w2.cell? ⟨X, 2, none⟩ = some (.int .i64 (k : Int)) := by rw [cell_of_row w2 X 2 _ _ _ X1.out]; rfl
    have hsz2 := B2.out.size
    go_region_law (refine step_byteX isU8 rfl (.tmp 18) (.tmp 28) rfl w.heap.size l.length l v (by simp [Act.eval, Act.put]) (own_later O2.out (by first | exact ((Below.refl _ _).alloc (Nat.le_refl _) _).drew | exact (Below.refl _ _).drew.alloc (Nat.le_refl _) _)) ⟨w2.heap.size, 0, none⟩ b (by simp [Act.eval, Act.put]) (by simp) (by omega) (by simp; omega) ?_; intro v3 w3 hown3 hb3 hst3)
    all_goals
      have hXlt := (Array.getElem?_eq_some_iff.1 X1.out).1
      have X3 := Lib.hid (hst3 X _ _ _ (((((Below.refl w2.heap.size w2).alloc (Nat.le_refl _) _).drew).block X hXlt).trans X1.out) (by decide))
      have B3 : Hid (Below w.heap.size w w3) := B2.out.trans ((((Below.refl _ _).alloc hsz2 _).drew).trans hb3)
      have O3 : Hid (w3.ownsRow w.heap.size 5 1 v3 (l.length + 1 + 0) (bys (l ++ (Utf.encK m k).take (1 + 0)))) := by
        have := HBL.out
        show w3.ownsRow w.heap.size 5 1 v3 (l.length + 1 + 0) (bys (l ++ (Utf.encK m k).take (1 + 0)))
        rw [← this]; exact hown3
      clear hown3 hb3 hst3 hor hwr s2 r1 r2 hbl HBL O2 B2 X1
      have r2 : w3.cell? ⟨X, 2, none⟩ = some (.int .i64 (k : Int)) := by rw [cell_of_row w3 X 2 _ _ _ X3.out]; rfl
      go_wp2
      clear r2
      go_loopw [5, 32] (fun u i wr => ∃ j : Nat, j ≤ k ∧ i = .int .i64 j ∧ wr.ownsRow w.heap.size 5 1 u (l.length + 1 + j) (bys (l ++ (Utf.encK m k).take (1 + j))) ∧ Below w.heap.size w wr ∧ wr.heap[X]? = w3.heap[X]?) (fun _ i _ => k - (intOf i).toNat)
      case atStart => exact ⟨0, Nat.zero_le _, rfl, O3.out, B3.out, rfl⟩
      case round =>
        obtain ⟨j, hj, rfl, hown, hb, hX⟩ := hrel
        have XW := Lib.hid (hX.trans X3.out)
        have HX := Lib.hid hX
        clear hX
        by_cases hjk : j < k
        · have hsz := hb.size
          have r2 : wr.cell? ⟨X, 2, none⟩ = some (.int .i64 (k : Int)) := by rw [cell_of_row wr X 2 _ _ _ XW.out]; rfl
          have htk := Lib.hid (encK_taken m k j hjk)
          obtain ⟨d, hd⟩ : ∃ d, d = Utf.tailB m k j := ⟨_, rfl⟩
          rw [← hd] at htk
          have hdn : d.toNat = 128 + m / 64 ^ (k - 1 - j) % 64 := by
            rw [hd]; unfold Utf.tailB
            rw [UInt8.toNat_ofNat', Nat.mod_eq_of_lt (by omega)]
          have hsq : (m : Int) / 2 ^ (6 * (k - 1 - j)) = ((m / 64 ^ (k - 1 - j) : Nat) : Int) := by
            rw [show ((2 : Int) ^ (6 * (k - 1 - j))) = ((64 ^ (k - 1 - j) : Nat) : Int) from by rw [Int.pow_mul]; simp]; simp
          have hqm' : m / 64 ^ (k - 1 - j) ≤ m := Nat.div_le_self _ _
          obtain ⟨q', hq'⟩ : ∃ q', q' = m / 64 ^ (k - 1 - j) := ⟨_, rfl⟩
          rw [← hq'] at hdn hsq hqm'
          have ha := and63 q' (by omega)
          obtain ⟨t, ht⟩ : ∃ t, t = q' % 64 := ⟨_, rfl⟩
          rw [← ht] at ha hdn
          have htb : t < 64 := by omega
          have ho := or128 t htb
          rw [← hdn] at ho
          have hdb := d.toNat_lt
          have BW := Lib.hid hb
          clear hd hdn hq' ht hb
          go_wp2_with (at_builtin; refine wpList_byteX isU8 _ rfl _ _ rfl w.heap.size (l.length + 1 + j) (l ++ (Utf.encK m k).take (1 + j)) _ rfl hown _ d rfl rfl (by omega) (by omega) ?_)
          intro v' w' hown' hb' hst'
          have O' := Lib.hid hown'; have B' := Lib.hid (BW.out.trans hb')
          have HX' : Hid (w'.heap[X]? = w3.heap[X]?) := (hst' X _ _ _ XW.out (by decide)).trans X3.out.symm
          clear hown hown' hb' hst' r2
          go_wp2
          go_roundw
          case rel => exact ⟨j + 1, by omega, by go_num, by rw [htk.out]; exact O'.out, B'.out, HX'.out⟩
          case measure => simp [intOf]; omega
        · obtain rfl : j = k := by omega
          go_wp2
          go_ret
          rw [HE.out]
          rw [List.take_of_length_le (by simp [Utf.encK]; omega)] at hown
          exact RetOwn.of_own hown rfl hb
end Go.Proofs.YtldfomggeleolaaDoor
