/- The statement DocsJoins, proved for every input that its row reads: part 18 of 54. -/
import Derived.Test.YtdnkhcbglmfjbaaDoorPackDocsJoins17
import Derived.Outline
/- The contract of utf's Valid; the example that each law of layer 3 ends with. -/
namespace Go.Proofs.YtdnkhcbglmfjbaaDoor
open Go Go.RowKit

namespace Utf
theorem nx_step (s : ByteArray) (p : Nat) (h : p < s.size) : 1 ≤ (nx s p).2 ∧ (nx s p).2 ≤ 4 ∧ p + (nx s p).2 ≤ s.size := by
  unfold nx
  split
  · rename_i h1
    have h2 := h1.1
    have := led_le (gt s p)
    simp only
    omega
  · simp only
    omega
theorem nx_small (s : ByteArray) (p : Nat) : -1 ≤ (nx s p).1 ∧ (nx s p).1 ≤ 1114111 := by
  unfold nx
  split
  · rename_i h1
    have h2 := h1.2.2.1
    unfold sg at h2
    simp only [decide_eq_true_eq] at h2
    simp only
    omega
  · simp only
    omega
def vd (s : ByteArray) : Nat → Nat → Bool
  | 0, _ => true
  | f + 1, p => if p < s.size then (if (nx s p).1 < 0 then false else vd s f (p + (nx s p).2)) else true
def valid (s : ByteArray) : Bool := vd s s.size 0
theorem vd_end (s : ByteArray) (f p : Nat) (h : s.size ≤ p) : vd s f p = true := by
  cases f with
  | zero => rfl
  | succ f => rw [vd, if_neg (by omega)]
theorem vd_no (s : ByteArray) (f p : Nat) (h : p < s.size) (hf : s.size ≤ p + f) (hn : (nx s p).1 < 0) : vd s f p = false := by
  cases f with
  | zero => omega
  | succ f => rw [vd, if_pos h, if_pos hn]
theorem vd_step (s : ByteArray) (f p : Nat) (h : p < s.size) (hf : s.size ≤ p + f) (hn : ¬ (nx s p).1 < 0) : vd s f p = vd s (f - 1) (p + (nx s p).2) := by
  cases f with
  | zero => omega
  | succ f => rw [vd, if_pos h, if_neg hn]; rfl
end Utf

set_option maxHeartbeats 1000000 in
theorem utfValid_is (s : ByteArray) (w : World) (hs : s.size ≤ 140737488351232) (hT : Shapes w) :
    Calls Tryd.prog 64 #[.string s] w fun e w' => e = .returned (.bool (Utf.valid s)) ∧ w = w' := by
  obtain ⟨b, hb⟩ : ∃ b, b = Utf.valid s := ⟨_, rfl⟩
  rw [← hb]
  have HB : Hid (b = Utf.vd s s.size 0) := hb
  have HT := Lib.hid hT
  clear hb hT
  go_enter Tryd.func64, Tryd.ntmps64
  go_wp2
  go_loop [3] (fun i => ∃ p f : Nat, p ≤ s.size ∧ s.size ≤ p + f ∧ i = .int .i64 p ∧ b = Utf.vd s f p) (fun i => s.size - (intOf i).toNat)
  case atStart => exact ⟨0, s.size, Nat.zero_le _, by omega, rfl, HB.out⟩
  case round =>
    obtain ⟨p, f, hp, hf, rfl, hbv⟩ := hrel
    have BV := Lib.hid hbv
    clear hbv
    by_cases hps : p < s.size
    · have hn := next_in s p w hps hs HT.out
      have hst := Utf.nx_step s p hps
      have hv := fun h => Utf.vd_no s f p hps hf h
      have hv2 := fun h => Utf.vd_step s f p hps hf h
      have HV := Lib.hid hv; have HV2 := Lib.hid hv2
      clear hv hv2
      generalize (Utf.nx s p).1 = x at hn HV HV2
      generalize (Utf.nx s p).2 = n at hn hst HV2
      obtain ⟨n1, n2, n3⟩ := hst
      have hp' : (p : Int) < s.size := by omega
      by_cases hx : x < 0
      · have HE := Lib.hid (HV.out hx)
        go_wp2_with fail
        refine hn.mono ?_
        rintro e w' ⟨rfl, rfl⟩
        clear hn
        go_wp2
        go_ret
        exact ⟨ret_bool (by rw [BV.out, HE.out]), rfl⟩
      · have HE := Lib.hid (HV2.out hx)
        go_wp2_with fail
        refine hn.mono ?_
        rintro e w' ⟨rfl, rfl⟩
        clear hn
        go_wp2
        go_round
        case rel => exact ⟨p + n, f - 1, by omega, by omega, by go_num, by rw [BV.out, HE.out]⟩
        case measure => simp [intOf]; omega
    · have HE := Lib.hid (Utf.vd_end s f p (by omega))
      have hp' : ¬ (p : Int) < s.size := by omega
      go_wp2
      go_ret
      exact ⟨ret_bool (by rw [BV.out, HE.out]), rfl⟩

theorem utfEx1 : Utf.nx ⟨#[195, 169]⟩ 0 = (233, 2) := by decide +kernel
theorem utfEx2 : Utf.valid ⟨#[97, 195, 169]⟩ = true := by decide +kernel
theorem utfEx3 : Utf.valid ⟨#[255]⟩ = false := by decide +kernel

end Go.Proofs.YtdnkhcbglmfjbaaDoor
/- The contract of utf's Put. -/
namespace Go.Proofs.YtdnkhcbglmfjbaaDoor
open Go Go.RowKit

/-- a row of another type stays as it is when bytes of the call's own are appended to -/
def Stays (e : TypeId) (w w' : World) : Prop := ∀ (X : Nat) (cs : Array Value) (ty : TypeId) (m : Nat × Nat), w.heap[X]? = some (Obj.cells cs ty m) → ty ≠ e → w'.heap[X]? = some (Obj.cells cs ty m)
theorem stays_of {w w' : World} {B : Nat} {e : TypeId} {v : Value} {n : Nat} {xs : List Value} (hown : w.ownsRow B e 1 v n xs) (hg : w.grownBy w' v.ownBlock) : Stays e w w' := by
  intro X cs ty m hX hne
  have hlt : X < w.heap.size := (Array.getElem?_eq_some_iff.1 hX).1
  rw [hg.block X hlt ?_]
  · exact hX
  · rcases hown.2 with ⟨rfl, _⟩ | ⟨g, cap, cur, rfl, _, q3, _⟩
    · intro h; cases h
    · intro h
      have hXg : X = g := by simpa [Value.ownBlock] using h
      subst hXg
      rw [q3] at hX
      simp only [Option.some.injEq, Obj.cells.injEq] at hX
      exact hne hX.2.1.symm

section
variable {P : Program} {t e : TypeId} {ops : Array Oper} {rest : List Oper} {o : Oper} {a : Act} {Q : Exit → Act → World → Prop}
theorem wpList_byteX (U : U8 P t e) (w : World) (hg : o.guard = none) (s x : Operand) (ho : o.op = .call { callee := .builtin .append, args := #[s, x], argTypes := #[t, t] })
    (B n : Nat) (l : List UInt8) (v : Value) (hs : a.eval s = v) (hown : w.ownsRow B e 1 v n (bys l)) (X : Int) (b : UInt8) (hx : a.eval x = .slice (some ⟨w.heap.size, 0, none⟩) 1 1) (hX : X = (b.toNat : Int))
    (hlen : n + 1 ≤ 140737488355328) (hB : B ≤ w.heap.size)
    (h : ∀ v' w', w'.ownsRow B e 1 v' (n + 1) (bys (l ++ [b])) → Below B w w' → Stays e w w' → wpList P ops Q rest (a.put o.dst v') w') : wpList P ops Q (o :: rest) a (w.alloc (.cells #[.int .u8 X] e)) := by
  obtain ⟨i0, hi, hz0, hz1, hz2⟩ := info_parts U.info
  refine wpList_append_own _ hg s x t ho B e i0 (.int .u8 0) 1 1 U.slice hi hz0 hz1 hz2 rfl (by decide) v n (bys l) hs (hown.alloc _) ⟨w.heap.size, 0, none⟩ 1 1 (bys [b]) hx rfl ?_ (bys_one _) (by unfold maxLen; omega) (by omega) (by simp; omega) ?_
  · intro j u hu
    match j, hu with
    | 0, hu => simp [bys] at hu; subst hu; subst hX; simp [Addr.add]
  · intro v' w' h1 h2 _
    refine h v' w' (by rw [bys_append]; exact h1) ?_ ?_
    · exact ((Below.refl B w).alloc hB _).grown h2 (by simp; omega) (fun k hk => (hown.lt k hk).1)
    · intro X cs ty m hX hne
      refine stays_of (hown.alloc _) h2 X cs ty m ?_ hne
      rw [((Below.refl w.heap.size w).alloc (Nat.le_refl _) _).block X (Array.getElem?_eq_some_iff.1 hX).1]
      exact hX
theorem step_byteX (U : U8 P t e) {w : World} {K : Act → World → Prop} {E : Prop} {Q : Exit → Act → World → Prop} (hg : o.guard = none) (s x : Operand) (ho : o.op = .call { callee := .builtin .append, args := #[s, x], argTypes := #[t, t] })
    (B n : Nat) (l : List UInt8) (v : Value) (hs : a.eval s = v) (hown : w.ownsRow B e 1 v n (bys l)) (ad : Addr) (b : UInt8) (hx : a.eval x = .slice (some ad) 1 1) (hX : w.cell? ad = some (.int .u8 (b.toNat : Int)))
    (hlen : n + 1 ≤ 140737488355328) (hB : B ≤ w.heap.size)
    (h : ∀ v' w', w'.ownsRow B e 1 v' (n + 1) (bys (l ++ [b])) → Below B w w' → Stays e w w' → K (a.put o.dst v') w') :
    if Region.wanted o (yielded ops a.tmps) = true then Oper.wp P o a w K Q else E := by
  obtain ⟨i0, hi, hz0, hz1, hz2⟩ := info_parts U.info
  have hnews : ∀ j u, (bys [b])[j]? = some u → w.cell? (ad.add j) = some u := by
    intro j u hu
    match j, hu with
    | 0, hu => simp [bys] at hu; subst hu; rw [show ad.add 0 = ad from by cases ad; simp [Addr.add]]; exact hX
  have hw : Region.wanted o (yielded ops a.tmps) = true := by simp [Region.wanted, hg]
  rw [if_pos hw]
  obtain ⟨v', w', hrun, h1, h2, _⟩ := run_append_own (P := P) w B t o.type e i0 (.int .u8 0) 1 1 U.slice hi hz0 hz1 hz2 rfl (by decide) v n (bys l) hown ad 1 1 (bys [b]) rfl hnews (bys_one _) (by unfold maxLen; omega) (by omega) hB
  unfold Oper.wp
  simp [execOp, ho, resolve, invoke, builtin, hs, hx, hrun, Result.andThen]
  exact h v' w' (by rw [bys_append]; exact h1) ((Below.refl B w).grown h2 hB (fun k hk => (hown.lt k hk).1)) (stays_of hown h2)
end

namespace Utf
def tailB (r : Nat) (k i : Nat) : UInt8 := UInt8.ofNat (128 + r / 64 ^ (k - 1 - i) % 64)
def encK (r k : Nat) : List UInt8 := UInt8.ofNat (lead k + r / 64 ^ k) :: (List.range k).map (tailB r k)
def enc (r : Int) : List UInt8 := if sg r then encK r.toNat (sh r) else []
end Utf

theorem shapes_three {w : World} (h : Shapes w) (k : Nat) (hk : k ≤ 3) : ∃ L : Int, w.cell? ⟨0, k * 3, none⟩ = some (.int .i64 L) ∧ w.cell? ⟨0, k * 3 + 1, none⟩ = some (.int .i64 (Utf.lead k : Nat)) ∧ w.cell? ⟨0, k * 3 + 2, none⟩ = some (.int .i64 k) := by
  match k, hk with
  | 0, _ => exact ⟨_, h.c0, h.c1, h.c2⟩
  | 1, _ => exact ⟨_, h.c3, h.c4, h.c5⟩
  | 2, _ => exact ⟨_, h.c6, h.c7, h.c8⟩
  | 3, _ => exact ⟨_, h.c9, h.c10, h.c11⟩

theorem utfOwn_later {w w' : World} {B : Nat} {ty : TypeId} {n : Nat} {v : Value} {xs : List Value} (h : w.ownsRow B ty 1 v n xs) (hb : Below w.heap.size w w') : w'.ownsRow B ty 1 v n xs := by
  refine ⟨h.1, ?_⟩
  rcases h.2 with q | ⟨g, cap, cur, q1, q2, q3, q4⟩
  · exact .inl q
  · exact .inr ⟨g, cap, cur, q1, q2, by rw [hb.block g (Array.getElem?_eq_some_iff.1 q3).1]; exact q3, q4⟩
theorem shr_i64 (P : Program) (m k : Nat) (hk : k ≤ 3) (w : World) : Sem.run P (Op.shift BinOp.shr IntKind.i64 (m : Int) IntKind.i64 (IntKind.i64.wrap (6 * (k : Int)))) w = .ok (.int .i64 ((m / 64 ^ k : Nat) : Int)) w := by
  have e1 : IntKind.i64.wrap (6 * (k : Int)) = ((6 * k : Nat) : Int) := by rw [IntWalk.i64_in _ (by omega)]; omega
  rw [e1]
  unfold Op.shift
  rw [if_neg (by omega)]
  have e2 : min (6 * k) IntKind.i64.bits = 6 * k := by simp [IntKind.bits]; omega
  simp only [Int.toNat_natCast, e2]
  rw [Sem.run_pure]
  have : (m : Int).fdiv (2 ^ (6 * k)) = ((m / 64 ^ k : Nat) : Int) := by
    rw [show ((2 : Int) ^ (6 * k)) = ((64 ^ k : Nat) : Int) from by rw [Int.pow_mul]; simp, Int.fdiv_eq_ediv_of_nonneg _ (Int.natCast_nonneg _)]; simp
  simp only [this]
theorem lead_or (k q : Nat) (hk : k = 0 ∧ q < 192 ∨ k = 1 ∧ q < 32 ∨ k = 2 ∧ q < 16 ∨ k = 3 ∧ q < 8) : Utf.lead k ||| q = Utf.lead k + q := by
  unfold Utf.lead
  rcases hk with ⟨rfl, h⟩ | ⟨rfl, h⟩ | ⟨rfl, h⟩ | ⟨rfl, h⟩
  · simp
  · exact nat_join 5 192 q (by decide) (by simpa using h)
  · exact nat_join 4 224 q (by decide) (by simpa using h)
  · exact nat_join 3 240 q (by decide) (by simpa using h)
theorem lead_part (r : Nat) (hr : r ≤ 1114111) : Utf.sh (r : Int) = 0 ∧ r / 64 ^ Utf.sh (r : Int) < 192 ∨ Utf.sh (r : Int) = 1 ∧ r / 64 ^ Utf.sh (r : Int) < 32 ∨ Utf.sh (r : Int) = 2 ∧ r / 64 ^ Utf.sh (r : Int) < 16 ∨ Utf.sh (r : Int) = 3 ∧ r / 64 ^ Utf.sh (r : Int) < 8 := by
  have h : Utf.sh (r : Int) = 0 ∧ r ≤ 127 ∨ Utf.sh (r : Int) = 1 ∧ 127 < r ∧ r ≤ 2047 ∨ Utf.sh (r : Int) = 2 ∧ 2047 < r ∧ r ≤ 65535 ∨ Utf.sh (r : Int) = 3 ∧ 65535 < r := by
    unfold Utf.sh; (repeat' split) <;> omega
  rcases h with ⟨e, h⟩ | ⟨e, h⟩ | ⟨e, h⟩ | ⟨e, h⟩ <;> rw [e] <;> simp <;> omega
theorem lead_sum (k q : Nat) (hk : k = 0 ∧ q < 192 ∨ k = 1 ∧ q < 32 ∨ k = 2 ∧ q < 16 ∨ k = 3 ∧ q < 8) : Utf.lead k + q < 256 := by
  unfold Utf.lead
  rcases hk with ⟨rfl, h⟩ | ⟨rfl, h⟩ | ⟨rfl, h⟩ | ⟨rfl, h⟩ <;> simp <;> omega
theorem encK_take0 (m k : Nat) : (Utf.encK m k).take (1 + 0) = [UInt8.ofNat (Utf.lead k + m / 64 ^ k)] := rfl
theorem encK_taken (m k j : Nat) (hj : j < k) : (Utf.encK m k).take (1 + (j + 1)) = (Utf.encK m k).take (1 + j) ++ [Utf.tailB m k j] := by
  have hl : 1 + j < (Utf.encK m k).length := by simp [Utf.encK]; omega
  rw [show 1 + (j + 1) = (1 + j) + 1 from by omega, List.take_succ_eq_append_getElem hl]
  congr 2
  simp [Utf.encK, show 1 + j = j + 1 from by omega]
theorem or128 (t : Nat) (h : t < 64) : bits .or .i64 128 (t : Int) = ((128 + t : Nat) : Int) := by
  rw [show (128 : Int) = ((128 : Nat) : Int) from rfl, i64_or_nat _ _ (by omega) (by omega), nat_join 6 128 t (by decide) (by simpa using h)]
theorem and63 (q : Nat) (h : q ≤ 1114111) : bits .and .i64 (q : Int) 63 = ((q % 64 : Nat) : Int) := by
  rw [show (63 : Int) = ((63 : Nat) : Int) from rfl, i64_and_nat _ _ (by omega) (by omega), show (63 : Nat) = 2 ^ 6 - 1 from rfl, Nat.and_two_pow_sub_one_eq_mod]

end Go.Proofs.YtdnkhcbglmfjbaaDoor
