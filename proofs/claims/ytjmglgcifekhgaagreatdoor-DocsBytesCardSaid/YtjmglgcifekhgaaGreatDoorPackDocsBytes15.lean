/- The statement DocsBytes, proved for every input that its row reads: part 15 of 54. -/
import Derived.Test.YtjmglgcifekhgaaGreatDoorPackDocsBytes14
import Derived.Outline
/- The contract of utf's Valid; the example that each law of layer 3 ends with. -/
namespace Go.Proofs.YtjmglgcifekhgaaGreatDoor
open Go Go.RowKit

namespace Utf
theorem nx_step (s : ByteArray) (p : Nat) (h : p < s.size) : 1 ≤ (nx s p).2 ∧ (nx s p).2 ≤ 4 ∧ p + (nx s p).2 ≤ s.size := by
  unfold nx
  split
  · rename_i h1
    have h2 := h1.1
    have := led_le (gt s p)
    simp only
    omega
  · simp only
    omega
theorem nx_small (s : ByteArray) (p : Nat) : -1 ≤ (nx s p).1 ∧ (nx s p).1 ≤ 1114111 := by
  unfold nx
  split
  · rename_i h1
    have h2 := h1.2.2.1
    unfold sg at h2
    simp only [decide_eq_true_eq] at h2
    simp only
    omega
  · simp only
    omega
def vd (s : ByteArray) : Nat → Nat → Bool
  | 0, _ => true
  | f + 1, p => if p < s.size then (if (nx s p).1 < 0 then false else vd s f (p + (nx s p).2)) else true
def valid (s : ByteArray) : Bool := vd s s.size 0
theorem vd_end (s : ByteArray) (f p : Nat) (h : s.size ≤ p) : vd s f p = true := by
  cases f with
  | zero => rfl
  | succ f => rw [vd, if_neg (by omega)]
theorem vd_no (s : ByteArray) (f p : Nat) (h : p < s.size) (hf : s.size ≤ p + f) (hn : (nx s p).1 < 0) : vd s f p = false := by
  cases f with
  | zero => omega
  | succ f => rw [vd, if_pos h, if_pos hn]
theorem vd_step (s : ByteArray) (f p : Nat) (h : p < s.size) (hf : s.size ≤ p + f) (hn : ¬ (nx s p).1 < 0) : vd s f p = vd s (f - 1) (p + (nx s p).2) := by
  cases f with
  | zero => omega
  | succ f => rw [vd, if_pos h, if_neg hn]; rfl
end Utf

set_option maxHeartbeats 1000000 in
theorem utfValid_is (s : ByteArray) (w : World) (hs : s.size ≤ 140737488351232) (hT : Shapes w) :
    Calls Tryz.prog 93 #[.string s] w fun e w' => e = .returned (.bool (Utf.valid s)) ∧ w = w' := by
  obtain ⟨b, hb⟩ : ∃ b, b = Utf.valid s := ⟨_, rfl⟩
  rw [← hb]
  have HB : Hid (b = Utf.vd s s.size 0) := hb
  have HT := Lib.hid hT
  clear hb hT
  go_enter Tryz.func93, Tryz.ntmps93
  go_wp2
  go_loop [3] (fun i => ∃ p f : Nat, p ≤ s.size ∧ s.size ≤ p + f ∧ i = .int .i64 p ∧ b = Utf.vd s f p) (fun i => s.size - (intOf i).toNat)
  case atStart => exact ⟨0, s.size, Nat.zero_le _, by omega, rfl, HB.out⟩
  case round =>
    obtain ⟨p, f, hp, hf, rfl, hbv⟩ := hrel
    have BV := Lib.hid hbv
    clear hbv
    by_cases hps : p < s.size
    · have hn := next_in s p w hps hs HT.out
      have hst := Utf.nx_step s p hps
      have hv := fun h => Utf.vd_no s f p hps hf h
      have hv2 := fun h => Utf.vd_step s f p hps hf h
      have HV := Lib.hid hv; have HV2 := Lib.hid hv2
      clear hv hv2
      generalize (Utf.nx s p).1 = x at hn HV HV2
      generalize (Utf.nx s p).2 = n at hn hst HV2
      obtain ⟨n1, n2, n3⟩ := hst
      have hp' : (p : Int) < s.size := by omega
      by_cases hx : x < 0
      · have HE := Lib.hid (HV.out hx)
        go_wp2_with fail
        refine hn.mono ?_
        rintro e w' ⟨rfl, rfl⟩
        clear hn
        go_wp2
        go_ret
        exact ⟨ret_bool (by rw [BV.out, HE.out]), rfl⟩
      · have HE := Lib.hid (HV2.out hx)
        go_wp2_with fail
        refine hn.mono ?_
        rintro e w' ⟨rfl, rfl⟩
        clear hn
        go_wp2
        go_round
        case rel => exact ⟨p + n, f - 1, by omega, by omega, by go_num, by rw [BV.out, HE.out]⟩
        case measure => simp [intOf]; omega
    · have HE := Lib.hid (Utf.vd_end s f p (by omega))
      have hp' : ¬ (p : Int) < s.size := by omega
      go_wp2
      go_ret
      exact ⟨ret_bool (by rw [BV.out, HE.out]), rfl⟩

theorem utfEx1 : Utf.nx ⟨#[195, 169]⟩ 0 = (233, 2) := by decide +kernel
theorem utfEx2 : Utf.valid ⟨#[97, 195, 169]⟩ = true := by decide +kernel
theorem utfEx3 : Utf.valid ⟨#[255]⟩ = false := by decide +kernel

end Go.Proofs.YtjmglgcifekhgaaGreatDoor
/- The contract of utf's Put. -/
namespace Go.Proofs.YtjmglgcifekhgaaGreatDoor
open Go Go.RowKit

/-- a row of another type stays as it is when bytes of the call's own are appended to -/
def Stays (e : TypeId) (w w' : World) : Prop := ∀ (X : Nat) (cs : Array Value) (ty : TypeId) (m : Nat × Nat), w.heap[X]? = some (Obj.cells cs ty m) → ty ≠ e → w'.heap[X]? = some (Obj.cells cs ty m)
theorem stays_of {w w' : World} {B : Nat} {e : TypeId} {v : Value} {n : Nat} {xs : List Value} (hown : w.ownsRow B e 1 v n xs) (hg : w.grownBy w' v.ownBlock) : Stays e w w' := by
  intro X cs ty m hX hne
  have hlt : X < w.heap.size := (Array.getElem?_eq_some_iff.1 hX).1
  rw [hg.block X hlt ?_]
  · exact hX
  · rcases hown.2 with ⟨rfl, _⟩ | ⟨g, cap, cur, rfl, _, q3, _⟩
    · intro h; cases h
    · intro h
      have hXg : X = g := by simpa [Value.ownBlock] using h
      subst hXg
      rw [q3] at hX
      simp only [Option.some.injEq, Obj.cells.injEq] at hX
      exact hne hX.2.1.symm

section
variable {P : Program} {t e : TypeId} {ops : Array Oper} {rest : List Oper} {o : Oper} {a : Act} {Q : Exit → Act → World → Prop}
theorem wpList_byteX (U : U8 P t e) (w : World) (hg : o.guard = none) (s x : Operand) (ho : o.op = .call { callee := .builtin .append, args := #[s, x], argTypes := #[t, t] })
    (B n : Nat) (l : List UInt8) (v : Value) (hs : a.eval s = v) (hown : w.ownsRow B e 1 v n (bys l)) (X : Int) (b : UInt8) (hx : a.eval x = .slice (some ⟨w.heap.size, 0, none⟩) 1 1) (hX : X = (b.toNat : Int))
    (hlen : n + 1 ≤ 140737488355328) (hB : B ≤ w.heap.size)
    (h : ∀ v' w', w'.ownsRow B e 1 v' (n + 1) (bys (l ++ [b])) → Below B w w' → Stays e w w' → wpList P ops Q rest (a.put o.dst v') w') : wpList P ops Q (o :: rest) a (w.alloc (.cells #[.int .u8 X] e)) := by
  obtain ⟨i0, hi, hz0, hz1, hz2⟩ := info_parts U.info
  refine wpList_append_own _ hg s x t ho B e i0 (.int .u8 0) 1 1 U.slice hi hz0 hz1 hz2 rfl (by decide) v n (bys l) hs (hown.alloc _) ⟨w.heap.size, 0, none⟩ 1 1 (bys [b]) hx rfl ?_ (bys_one _) (by unfold maxLen; omega) (by omega) (by simp; omega) ?_
  · intro j u hu
    match j, hu with
    | 0, hu => simp [bys] at hu; subst hu; subst hX; simp [Addr.add]
  · intro v' w' h1 h2 _
    refine h v' w' (by rw [bys_append]; exact h1) ?_ ?_
    · exact ((Below.refl B w).alloc hB _).grown h2 (by simp; omega) (fun k hk => (hown.lt k hk).1)
    · intro X cs ty m hX hne
      refine stays_of (hown.alloc _) h2 X cs ty m ?_ hne
      rw [((Below.refl w.heap.size w).alloc (Nat.le_refl _) _).block X (Array.getElem?_eq_some_iff.1 hX).1]
      exact hX
theorem step_byteX (U : U8 P t e) {w : World} {K : Act → World → Prop} {E : Prop} {Q : Exit → Act → World → Prop} (hg : o.guard = none) (s x : Operand) (ho : o.op = .call { callee := .builtin .append, args := #[s, x], argTypes := #[t, t] })
    (B n : Nat) (l : List UInt8) (v : Value) (hs : a.eval s = v) (hown : w.ownsRow B e 1 v n (bys l)) (ad : Addr) (b : UInt8) (hx : a.eval x = .slice (some ad) 1 1) (hX : w.cell? ad = some (.int .u8 (b.toNat : Int)))
    (hlen : n + 1 ≤ 140737488355328) (hB : B ≤ w.heap.size)
    (h : ∀ v' w', w'.ownsRow B e 1 v' (n + 1) (bys (l ++ [b])) → Below B w w' → Stays e w w' → K (a.put o.dst v') w') :
    if Region.wanted o (yielded ops a.tmps) = true then Oper.wp P o a w K Q else E := by
  obtain ⟨i0, hi, hz0, hz1, hz2⟩ := info_parts U.info
  have hnews : ∀ j u, (bys [b])[j]? = some u → w.cell? (ad.add j) = some u := by
    intro j u hu
    match j, hu with
    | 0, hu => simp [bys] at hu; subst hu; rw [show ad.add 0 = ad from by cases ad; simp [Addr.add]]; exact hX
  have hw : Region.wanted o (yielded ops a.tmps) = true := by simp [Region.wanted, hg]
  rw [if_pos hw]
  obtain ⟨v', w', hrun, h1, h2, _⟩ := run_append_own (P := P) w B t o.type e i0 (.int .u8 0) 1 1 U.slice hi hz0 hz1 hz2 rfl (by decide) v n (bys l) hown ad 1 1 (bys [b]) rfl hnews (bys_one _) (by unfold maxLen; omega) (by omega) hB
  unfold Oper.wp
  simp [execOp, ho, resolve, invoke, builtin, hs, hx, hrun, Result.andThen]
  exact h v' w' (by rw [bys_append]; exact h1) ((Below.refl B w).grown h2 hB (fun k hk => (hown.lt k hk).1)) (stays_of hown h2)
end

namespace Utf
def tailB (r : Nat) (k i : Nat) : UInt8 := UInt8.ofNat (128 + r / 64 ^ (k - 1 - i) % 64)
def encK (r k : Nat) : List UInt8 := UInt8.ofNat (lead k + r / 64 ^ k) :: (List.range k).map (tailB r k)
def enc (r : Int) : List UInt8 := if sg r then encK r.toNat (sh r) else []
end Utf

theorem shapes_three {w : World} (h : Shapes w) (k : Nat) (hk : k ≤ 3) : ∃ L : Int, w.cell? ⟨0, k * 3, none⟩ = some (.int .i64 L) ∧ w.cell? ⟨0, k * 3 + 1, none⟩ = some (.int .i64 (Utf.lead k : Nat)) ∧ w.cell? ⟨0, k * 3 + 2, none⟩ = some (.int .i64 k) := by
  match k, hk with
  | 0, _ => exact ⟨_, h.c0, h.c1, h.c2⟩
  | 1, _ => exact ⟨_, h.c3, h.c4, h.c5⟩
  | 2, _ => exact ⟨_, h.c6, h.c7, h.c8⟩
  | 3, _ => exact ⟨_, h.c9, h.c10, h.c11⟩

theorem utfOwn_later {w w' : World} {B : Nat} {ty : TypeId} {n : Nat} {v : Value} {xs : List Value} (h : w.ownsRow B ty 1 v n xs) (hb : Below w.heap.size w w') : w'.ownsRow B ty 1 v n xs := by
  refine ⟨h.1, ?_⟩
  rcases h.2 with q | ⟨g, cap, cur, q1, q2, q3, q4⟩
  · exact .inl q
  · exact .inr ⟨g, cap, cur, q1, q2, by rw [hb.block g (Array.getElem?_eq_some_iff.1 q3).1]; exact q3, q4⟩
theorem shr_i64 (P : Program) (m k : Nat) (hk : k ≤ 3) (w : World) : Sem.run P (Op.shift BinOp.shr IntKind.i64 (m : Int) IntKind.i64 (IntKind.i64.wrap (6 * (k : Int)))) w = .ok (.int .i64 ((m / 64 ^ k : Nat) : Int)) w := by
  have e1 : IntKind.i64.wrap (6 * (k : Int)) = ((6 * k : Nat) : Int) := by rw [IntWalk.i64_in _ (by omega)]; omega
  rw [e1]
  unfold Op.shift
  rw [if_neg (by omega)]
  have e2 : min (6 * k) IntKind.i64.bits = 6 * k := by simp [IntKind.bits]; omega
  simp only [Int.toNat_natCast, e2]
  rw [Sem.run_pure]
  have : (m : Int).fdiv (2 ^ (6 * k)) = ((m / 64 ^ k : Nat) : Int) := by
    rw [show ((2 : Int) ^ (6 * k)) = ((64 ^ k : Nat) : Int) from by rw [Int.pow_mul]; simp, Int.fdiv_eq_ediv_of_nonneg _ (Int.natCast_nonneg _)]; simp
  simp only [this]
theorem lead_or (k q : Nat) (hk : k = 0 ∧ q < 192 ∨ k = 1 ∧ q < 32 ∨ k = 2 ∧ q < 16 ∨ k = 3 ∧ q < 8) : Utf.lead k ||| q = Utf.lead k + q := by
  unfold Utf.lead
  rcases hk with ⟨rfl, h⟩ | ⟨rfl, h⟩ | ⟨rfl, h⟩ | ⟨rfl, h⟩
  · simp
  · exact nat_join 5 192 q (by decide) (by simpa using h)
  · exact nat_join 4 224 q (by decide) (by simpa using h)
  · exact nat_join 3 240 q (by decide) (by simpa using h)
theorem lead_part (r : Nat) (hr : r ≤ 1114111) : Utf.sh (r : Int) = 0 ∧ r / 64 ^ Utf.sh (r : Int) < 192 ∨ Utf.sh (r : Int) = 1 ∧ r / 64 ^ Utf.sh (r : Int) < 32 ∨ Utf.sh (r : Int) = 2 ∧ r / 64 ^ Utf.sh (r : Int) < 16 ∨ Utf.sh (r : Int) = 3 ∧ r / 64 ^ Utf.sh (r : Int) < 8 := by
  have h : Utf.sh (r : Int) = 0 ∧ r ≤ 127 ∨ Utf.sh (r : Int) = 1 ∧ 127 < r ∧ r ≤ 2047 ∨ Utf.sh (r : Int) = 2 ∧ 2047 < r ∧ r ≤ 65535 ∨ Utf.sh (r : Int) = 3 ∧ 65535 < r := by
    unfold Utf.sh; (repeat' split) <;> omega
  rcases h with ⟨e, h⟩ | ⟨e, h⟩ | ⟨e, h⟩ | ⟨e, h⟩ <;> rw [e] <;> simp <;> omega
theorem lead_sum (k q : Nat) (hk : k = 0 ∧ q < 192 ∨ k = 1 ∧ q < 32 ∨ k = 2 ∧ q < 16 ∨ k = 3 ∧ q < 8) : Utf.lead k + q < 256 := by
  unfold Utf.lead
  rcases hk with ⟨rfl, h⟩ | ⟨rfl, h⟩ | ⟨rfl, h⟩ | ⟨rfl, h⟩ <;> simp <;> omega
theorem encK_take0 (m k : Nat) : (Utf.encK m k).take (1 + 0) = [UInt8.ofNat (Utf.lead k + m / 64 ^ k)] := rfl
theorem encK_taken (m k j : Nat) (hj : j < k) : (Utf.encK m k).take (1 + (j + 1)) = (Utf.encK m k).take (1 + j) ++ [Utf.tailB m k j] := by
  have hl : 1 + j < (Utf.encK m k).length := by simp [Utf.encK]; omega
  rw [show 1 + (j + 1) = (1 + j) + 1 from by omega, List.take_succ_eq_append_getElem hl]
  congr 2
  simp [Utf.encK, show 1 + j = j + 1 from by omega]
theorem or128 (t : Nat) (h : t < 64) : bits .or .i64 128 (t : Int) = ((128 + t : Nat) : Int) := by
  rw [show (128 : Int) = ((128 : Nat) : Int) from rfl, i64_or_nat _ _ (by omega) (by omega), nat_join 6 128 t (by decide) (by simpa using h)]
theorem and63 (q : Nat) (h : q ≤ 1114111) : bits .and .i64 (q : Int) 63 = ((q % 64 : Nat) : Int) := by
  rw [show (63 : Int) = ((63 : Nat) : Int) from rfl, i64_and_nat _ _ (by omega) (by omega), show (63 : Nat) = 2 ^ 6 - 1 from rfl, Nat.and_two_pow_sub_one_eq_mod]

end Go.Proofs.YtjmglgcifekhgaaGreatDoor
/- What was put is found: the plain part. -/
namespace Go.Proofs.YtjmglgcifekhgaaGreatDoor
open Go Go.RowKit
namespace Utf
theorem gt_arr (l : List UInt8) (i : Nat) : gt ⟨l.toArray⟩ i = (l.getD i 0).toNat := rfl
theorem gt_behind (b m : List UInt8) (i : Nat) : gt ⟨(b ++ m).toArray⟩ (b.length + i) = (m.getD i 0).toNat := by
  rw [gt_arr, List.getD, List.getElem?_append_right (by omega), show b.length + i - b.length = i from by omega]; rfl
theorem encK_len (r k : Nat) : (encK r k).length = k + 1 := by simp [encK]
theorem encK_head (r k : Nat) : (encK r k).getD 0 0 = UInt8.ofNat (lead k + r / 64 ^ k) := rfl
theorem encK_tail (r k i : Nat) (h : i < k) : (encK r k).getD (i + 1) 0 = tailB r k i := by
  simp [encK, List.getD, h]
theorem tailB_nat (r k i : Nat) : (tailB r k i).toNat = 128 + r / 64 ^ (k - 1 - i) % 64 := by
  unfold tailB
  rw [UInt8.toNat_ofNat', Nat.mod_eq_of_lt]
  omega
theorem head_is (r : Nat) (hr : r ≤ 1114111) : (UInt8.ofNat (lead (sh r) + r / 64 ^ (sh r))).toNat = lead (sh r) + r / 64 ^ (sh r) ∧ led (lead (sh r) + r / 64 ^ (sh r)) = sh r := by
  have h : sh (r : Int) = 0 ∧ r ≤ 127 ∨ sh (r : Int) = 1 ∧ 127 < r ∧ r ≤ 2047 ∨ sh (r : Int) = 2 ∧ 2047 < r ∧ r ≤ 65535 ∨ sh (r : Int) = 3 ∧ 65535 < r := by
    unfold sh; (repeat' split) <;> omega
  rw [UInt8.toNat_ofNat']
  rcases h with ⟨e, h⟩ | ⟨e, h⟩ | ⟨e, h⟩ | ⟨e, h⟩ <;> rw [e] <;> unfold lead led <;> simp <;> constructor <;> (repeat' split) <;> omega
theorem found (b : List UInt8) (r : Int) (h : sg r = true) : nx ⟨(b ++ enc r).toArray⟩ b.length = (r, sh r + 1) := by
  have hr : 0 ≤ r ∧ r ≤ 1114111 := by unfold sg at h; simp only [decide_eq_true_eq] at h; omega
  obtain ⟨m, rfl⟩ := Int.eq_ofNat_of_zero_le hr.1
  have he : enc (m : Int) = encK m (sh (m : Int)) := by unfold enc; rw [h]; rfl
  rw [he]
  obtain ⟨h1, h2⟩ := head_is m (by omega)
  have hg : gt ⟨(b ++ encK m (sh (m : Int))).toArray⟩ b.length = lead (sh (m : Int)) + m / 64 ^ (sh (m : Int)) := by
    have := gt_behind b (encK m (sh (m : Int))) 0
    rw [Nat.add_zero] at this
    rw [this, encK_head, h1]
  have hi : ∀ i, i < sh (m : Int) → gt ⟨(b ++ encK m (sh (m : Int))).toArray⟩ (b.length + 1 + i) = 128 + m / 64 ^ (sh (m : Int) - 1 - i) % 64 := fun i hi => by
    rw [show b.length + 1 + i = b.length + (i + 1) from by omega, gt_behind, encK_tail _ _ _ hi, tailB_nat]
  have hsz : (⟨(b ++ encK m (sh (m : Int))).toArray⟩ : ByteArray).size = b.length + (sh (m : Int) + 1) := by
    show (b ++ encK m (sh (m : Int))).toArray.size = _
    simp [encK_len]
  have hacc : acc ⟨(b ++ encK m (sh (m : Int))).toArray⟩ b.length (sh (m : Int)) = m := by
    have hle := sh_le (m : Int)
    generalize hS : (⟨(b ++ encK m (sh (m : Int))).toArray⟩ : ByteArray) = S at hg hi ⊢
    generalize sh (m : Int) = k at hg hi hle h2 ⊢
    have h0 : acc S b.length 0 = m / 64 ^ k := by simp only [acc]; rw [hg, h2]; exact Nat.add_sub_cancel_left _ _
    match k, hle with
    | 0, _ => rw [h0]; simp
    | 1, _ =>
      have a0 := hi 0 (by omega)
      simp only [acc] at h0 ⊢
      rw [h0, a0]
      simp
      omega
    | 2, _ =>
      have a0 := hi 0 (by omega); have a1 := hi 1 (by omega)
      simp only [acc] at h0 ⊢
      rw [h0, a0, a1]
      simp
      omega
    | 3, _ =>
      have a0 := hi 0 (by omega); have a1 := hi 1 (by omega); have a2 := hi 2 (by omega)
      simp only [acc] at h0 ⊢
      rw [h0, a0, a1, a2]
      simp
      omega
  have hok : ok ⟨(b ++ encK m (sh (m : Int))).toArray⟩ b.length := by
    unfold ok
    rw [hg, h2, hacc, hsz]
    refine ⟨by omega, fun j hj => ?_, h, rfl⟩
    unfold cont
    rw [hi j hj]
    omega
  rw [nx_yes hok, hg, h2, hacc]
end Utf
namespace Utf
/-- the number that the document tries with k bytes behind the first -/
def rk (s : ByteArray) (p : Nat) : Nat → Nat
  | 0 => gt s p
  | 1 => gt s p % 32 * 64 + gt s (p + 1) % 64
  | 2 => gt s p % 16 * 4096 + gt s (p + 1) % 64 * 64 + gt s (p + 2) % 64
  | _ => gt s p % 8 * 262144 + gt s (p + 1) % 64 * 4096 + gt s (p + 2) % 64 * 64 + gt s (p + 3) % 64
/-- its bytes are those that stand there -/
def mt (s : ByteArray) (p k : Nat) : Prop := p + k + 1 ≤ s.size ∧ (enc (rk s p k : Nat)).length = k + 1 ∧ ∀ i, i ≤ k → ((enc (rk s p k : Nat)).getD i 0).toNat = gt s (p + i)
theorem sh_cases (r : Nat) : sh (r : Int) = 0 ∧ r ≤ 127 ∨ sh (r : Int) = 1 ∧ 127 < r ∧ r ≤ 2047 ∨ sh (r : Int) = 2 ∧ 2047 < r ∧ r ≤ 65535 ∨ sh (r : Int) = 3 ∧ 65535 < r := by
  unfold sh; (repeat' split) <;> omega
theorem led_cases (f : Nat) : led f = 0 ∧ f < 192 ∨ led f = 1 ∧ 192 ≤ f ∧ f < 224 ∨ led f = 2 ∧ 224 ≤ f ∧ f < 240 ∨ led f = 3 ∧ 240 ≤ f := by
  unfold led; (repeat' split) <;> omega
theorem enc_get0 (m : Nat) (h : sg (m : Int) = true) : ((enc (m : Int)).getD 0 0).toNat = lead (sh (m : Int)) + m / 64 ^ sh (m : Int) := by
  have hr : m ≤ 1114111 := by unfold sg at h; simp only [decide_eq_true_eq] at h; omega
  have he : enc (m : Int) = encK m (sh (m : Int)) := by unfold enc; rw [h]; rfl
  rw [he, encK_head, (head_is m hr).1]
theorem enc_getS (m i : Nat) (h : sg (m : Int) = true) (hi : i < sh (m : Int)) : ((enc (m : Int)).getD (i + 1) 0).toNat = 128 + m / 64 ^ (sh (m : Int) - 1 - i) % 64 := by
  have he : enc (m : Int) = encK m (sh (m : Int)) := by unfold enc; rw [h]; rfl
  rw [he, encK_tail _ _ _ hi, tailB_nat]
theorem enc_lenS (m : Nat) (h : sg (m : Int) = true) : (enc (m : Int)).length = sh (m : Int) + 1 := by
  have he : enc (m : Int) = encK m (sh (m : Int)) := by unfold enc; rw [h]; rfl
  rw [he, encK_len]
theorem acc_rk (s : ByteArray) (p : Nat) (h : ok s p) : acc s p (led (gt s p)) = rk s p (led (gt s p)) := by
  have hg := gt_lt s p
  have h4 := h.2.2.1
  unfold sg at h4
  simp only [decide_eq_true_eq] at h4
  rcases led_cases (gt s p) with ⟨e, b⟩ | ⟨e, b⟩ | ⟨e, b⟩ | ⟨e, b⟩
  · rw [e]
    show gt s p - lead (led (gt s p)) = gt s p
    rw [e]; simp [lead]
  · have a : acc s p 1 = (gt s p - 192) * 64 + gt s (p + 1) % 64 := by simp only [acc]; rw [e]; rfl
    rw [e, a]
    simp only [rk]
    omega
  · have a : acc s p 2 = ((gt s p - 224) * 64 + gt s (p + 1) % 64) * 64 + gt s (p + 2) % 64 := by simp only [acc]; rw [e]; rfl
    rw [e, a]
    simp only [rk]
    omega
  · have a : acc s p 3 = (((gt s p - 240) * 64 + gt s (p + 1) % 64) * 64 + gt s (p + 2) % 64) * 64 + gt s (p + 3) % 64 := by simp only [acc]; rw [e]; rfl
    rw [e, a] at h4
    rw [e, a]
    simp only [rk]
    omega
/-- where a sign begins, the document's way finds it with just so many bytes -/
theorem mt_of_ok (s : ByteArray) (p : Nat) (h : ok s p) : mt s p (led (gt s p)) := by
  have ha := acc_rk s p h
  have hg := gt_lt s p
  have hb0 : acc s p (led (gt s p)) ≤ 1114111 := by
    have h5 := h.2.2.1
    unfold sg at h5
    simp only [decide_eq_true_eq] at h5
    omega
  obtain ⟨h1, h2, h3, h4⟩ := h
  rw [ha] at h3 h4
  have hl := enc_lenS _ h3
  have e0 := enc_get0 _ h3
  have eS := fun i hi => enc_getS _ i h3 hi
  rw [h4] at hl e0 eS
  refine ⟨h1, hl, fun i hi => ?_⟩
  clear hl h3 h4 ha
  rcases led_cases (gt s p) with ⟨e, b⟩ | ⟨e, b⟩ | ⟨e, b⟩ | ⟨e, b⟩ <;> rw [e] at h1 h2 e0 eS hi hb0 ⊢
  · obtain rfl : i = 0 := by omega
    rw [e0]; simp [lead, rk]
  · have c1 := h2 0 (by omega)
    simp only [cont, Nat.add_zero] at c1
    match i, hi with
    | 0, _ => rw [e0]; simp only [lead, rk, Nat.add_zero]; simp; omega
    | 1, _ => rw [eS 0 (by omega)]; simp only [rk]; simp; omega
  · have c1 := h2 0 (by omega); have c2 := h2 1 (by omega)
    simp only [cont, Nat.add_zero, show p + 1 + 1 = p + 2 from rfl] at c1 c2
    match i, hi with
    | 0, _ => rw [e0]; simp only [lead, rk, Nat.add_zero]; simp; omega
    | 1, _ => rw [eS 0 (by omega)]; simp only [rk]; simp; omega
    | 2, _ => rw [eS 1 (by omega)]; simp only [rk]; simp; omega
  · have c1 := h2 0 (by omega); have c2 := h2 1 (by omega); have c3 := h2 2 (by omega)
    simp only [cont, Nat.add_zero, show p + 1 + 1 = p + 2 from rfl, show p + 1 + 2 = p + 3 from rfl] at c1 c2 c3
    have a : acc s p 3 = (((gt s p - 240) * 64 + gt s (p + 1) % 64) * 64 + gt s (p + 2) % 64) * 64 + gt s (p + 3) % 64 := by simp only [acc]; rw [e]; rfl
    rw [a] at hb0
    have hb : gt s p ≤ 247 := by omega
    match i, hi with
    | 0, _ => rw [e0]; simp only [lead, rk, Nat.add_zero]; simp; omega
    | 1, _ => rw [eS 0 (by omega)]; simp only [rk]; simp; omega
    | 2, _ => rw [eS 1 (by omega)]; simp only [rk]; simp; omega
    | 3, _ => rw [eS 2 (by omega)]; simp only [rk]; simp; omega
/-- what the document's way finds is what nx finds -/
theorem ok_of_mt (s : ByteArray) (p k : Nat) (hk : k ≤ 3) (h : mt s p k) : ok s p ∧ led (gt s p) = k ∧ acc s p k = rk s p k := by
  obtain ⟨h1, hl, hb⟩ := h
  obtain ⟨r, hr⟩ : ∃ r, r = rk s p k := ⟨_, rfl⟩
  rw [← hr] at hl hb ⊢
  clear hr
  have hsg : sg (r : Int) = true := by
    refine Classical.byContradiction fun hn => ?_
    have : enc (r : Int) = [] := by unfold enc; rw [if_neg hn]
    rw [this] at hl; simp at hl
  have hrb : r ≤ 1114111 := by unfold sg at hsg; simp only [decide_eq_true_eq] at hsg; omega
  have hsh : sh (r : Int) = k := by have := enc_lenS r hsg; omega
  have e0 := enc_get0 r hsg
  have eS := fun i hi => enc_getS r i hsg hi
  have hhd := (head_is r hrb).2
  rw [hsh] at e0 eS hhd
  have b0 := hb 0 (by omega)
  rw [e0, Nat.add_zero] at b0
  rw [b0] at hhd
  have bS : ∀ i, i < k → gt s (p + 1 + i) = 128 + r / 64 ^ (k - 1 - i) % 64 := fun i hi => by
    rw [← eS i hi, hb (i + 1) (by omega), show p + (i + 1) = p + 1 + i from by omega]
  have hacc : acc s p k = r := by
    have h0 : acc s p 0 = r / 64 ^ k := by simp only [acc]; rw [hhd, ← b0]; exact Nat.add_sub_cancel_left _ _
    rcases (show k = 0 ∨ k = 1 ∨ k = 2 ∨ k = 3 by omega) with rfl | rfl | rfl | rfl
    · rw [h0]; simp
    · have a0 := bS 0 (by omega)
      simp only [acc] at h0 ⊢
      rw [h0, a0]; simp; omega
    · have a0 := bS 0 (by omega); have a1 := bS 1 (by omega)
      simp only [acc] at h0 ⊢
      rw [h0, a0, a1]; simp; omega
    · have a0 := bS 0 (by omega); have a1 := bS 1 (by omega); have a2 := bS 2 (by omega)
      simp only [acc] at h0 ⊢
      rw [h0, a0, a1, a2]; simp; omega
  refine ⟨?_, hhd, hacc⟩
  unfold ok
  rw [hhd, hacc]
  refine ⟨h1, fun j hj => ?_, hsg, hsh⟩
  unfold cont
  rw [bS j hj]
  omega
/-- the document's way: the first length that fits -/
theorem nx_of_mt (s : ByteArray) (p k : Nat) (hk : k ≤ 3) (h : mt s p k) : nx s p = (((rk s p k : Nat) : Int), k + 1) := by
  obtain ⟨h1, h2, h3⟩ := ok_of_mt s p k hk h
  rw [nx_yes h1, h2, h3]
theorem nx_none (s : ByteArray) (p : Nat) (h : ∀ k, k ≤ 3 → p + k + 1 ≤ s.size → ¬ mt s p k) : nx s p = (-1, 1) :=
  nx_no fun hok => h (led (gt s p)) (led_le _) hok.1 (mt_of_ok s p hok)
end Utf
end Go.Proofs.YtjmglgcifekhgaaGreatDoor
/- The contracts of coder's Num, Sign, Text, and of the document's own. -/
namespace Go.Proofs.YtjmglgcifekhgaaGreatDoor
open Go Go.RowKit

theorem int_range {n : Int} (h : (Lit.int .i64 n).wf = true) : -9223372036854775808 ≤ n ∧ n ≤ 9223372036854775807 := by
  simp [Lit.wf, IntKind.min, IntKind.max, IntKind.bits, IntKind.signed] at h; omega

/-- a number of either sign as one of none -/
def zz (n : Int) : Nat := if n < 0 then (2 * (-(n + 1)) + 1).toNat else (2 * n).toNat

theorem zz_lt {n : Int} (h : -9223372036854775808 ≤ n ∧ n ≤ 9223372036854775807) : zz n < 18446744073709551616 := by unfold zz; split <;> omega
theorem xor_ones (a : Nat) (h : a < 18446744073709551616) : a ^^^ 18446744073709551615 = 18446744073709551615 - a := by
  have h1 : (BitVec.ofNat 64 a ^^^ BitVec.allOnes 64).toNat = a ^^^ 18446744073709551615 := by
    rw [BitVec.toNat_xor, BitVec.toNat_ofNat, BitVec.toNat_allOnes, Nat.mod_eq_of_lt h]
  rw [← h1, BitVec.xor_allOnes, BitVec.toNat_not, BitVec.toNat_ofNat, Nat.mod_eq_of_lt h]
theorem zz_bits {n : Int} (h : -9223372036854775808 ≤ n ∧ n ≤ 9223372036854775807) :
    bits BinOp.xor IntKind.u64 (IntKind.u64.wrap (IntKind.u64.wrap n * 2)) (IntKind.u64.wrap (n / 9223372036854775808)) = (zz n : Int) := by
  simp only [IntKind.wrap_u64]
  unfold zz
  by_cases h0 : n < 0
  · rw [if_pos h0]
    have e1 : n % 18446744073709551616 * 2 % 18446744073709551616 = (((2 * n + 18446744073709551616).toNat : Nat) : Int) := by omega
    have e2 : n / 9223372036854775808 % 18446744073709551616 = ((18446744073709551615 : Nat) : Int) := by omega
    rw [e1, e2, u64_xor_nat _ _ (by omega) (by omega), xor_ones _ (by omega)]
    omega
  · rw [if_neg h0]
    have e1 : n % 18446744073709551616 * 2 % 18446744073709551616 = (((2 * n).toNat : Nat) : Int) := by omega
    have e2 : n / 9223372036854775808 % 18446744073709551616 = ((0 : Nat) : Int) := by omega
    rw [e1, e2, u64_xor_nat _ _ (by omega) (by omega), Nat.xor_zero]

set_option maxHeartbeats 1000000 in
theorem num_any (p : Option Addr) (c : Nat) (l : List UInt8) (n : Int) (w : World) (h : Lies w p l) (hp : p = none → l = []) (hlc : l.length ≤ c) (hn : (Lit.int .i64 n).wf = true) (hlen : l.length ≤ 140737488355000) :
    Calls Tryz.prog 20 #[.slice p l.length c, .int .i64 n] w (RetOwn w 5 (l ++ Cod.enc n.toNat)) := by
  have hr := int_range hn
  have hput := put_any w.heap.size (.slice p l.length l.length) l n.toNat w (.inr ⟨p, rfl, h, hp⟩) (Nat.le_refl _) (by omega) hlen
  have HP := Lib.hid hput; clear hput h hp hn
  have hcut := cutOff_any p l.length c hlc w
  by_cases h0 : n < 0
  · have e0 : n.toNat = 0 := by omega
    rw [e0] at HP ⊢
    go_enter Tryz.func20, Tryz.ntmps20
    go_wp2_with (first
      | (go_at_call 51; refine hcut.mono ?_; rintro e w' ⟨rfl, rfl⟩)
      | (go_at_call 50; refine HP.out.mono ?_; rintro e w' ⟨v', rfl, hown, hb⟩))
    go_ret
    exact ⟨v', rfl, hown, hb⟩
  · obtain ⟨m, rfl⟩ := Int.eq_ofNat_of_zero_le (show 0 ≤ n by omega)
    rw [Int.toNat_natCast] at HP ⊢
    go_enter Tryz.func20, Tryz.ntmps20
    go_wp2_with (first
      | (go_at_call 51; refine hcut.mono ?_; rintro e w' ⟨rfl, rfl⟩)
      | (go_at_call 50; refine HP.out.mono ?_; rintro e w' ⟨v', rfl, hown, hb⟩))
    go_ret
    exact ⟨v', rfl, hown, hb⟩

end Go.Proofs.YtjmglgcifekhgaaGreatDoor
/- The contracts of the document's own Bytes, join, Num, Sign, Text. -/
namespace Go.Proofs.YtjmglgcifekhgaaGreatDoor
open Go Go.RowKit

set_option maxHeartbeats 1000000 in
theorem join_any (p1 p2 : Option Addr) (n1 n2 c1 c2 : Nat) (l1 l2 : List UInt8) (w : World) (h1 : Lies w p1 l1) (h2 : Lies w p2 l2) (q1 : p1 = none → l1 = [] ∧ c1 = 0) (q2 : p2 = none → l2 = [] ∧ c2 = 0) (e1 : n1 = l1.length) (e2 : n2 = l2.length)
    (hlen : n1 + n2 ≤ 140737488355328) :
    Calls Tryz.prog 60 #[.slice p1 n1 c1, .slice p2 n2 c2] w (RetOwn w 5 (l1 ++ l2)) := by
  have H1 := Lib.hid h1; have H2 := Lib.hid h2; have Q1 := Lib.hid q1; have Q2 := Lib.hid q2; have E1 := Lib.hid e1; have E2 := Lib.hid e2
  clear h1 h2 q1 q2 e1 e2
  go_enter Tryz.func60, Tryz.ntmps60
  go_wp2_with (at_builtin; refine wpList_bytes isU8 _ rfl (.tmp 6) (.tmp 7) rfl w.heap.size 0 [] _ rfl (World.ownsRow_nil _ _ _ _) p1 n1 c1 l1 rfl H1.out E1.out (fun e => ⟨by rw [E1.out, (Q1.out e).1]; rfl, (Q1.out e).2⟩) (by omega) (Nat.le_refl _) ?_)
  intro v1 w1 hown hb
  have hown1 : w1.ownsRow w.heap.size 5 1 v1 n1 (bys l1) := by simpa using hown
  clear hown
  have hsz := hb.size
  have H2' := Lib.hid (H2.out.below hb)
  go_wp2_with (at_builtin; refine wpList_bytes isU8 _ rfl (.tmp 9) (.tmp 10) rfl w.heap.size n1 l1 _ rfl hown1 p2 n2 c2 l2 rfl H2'.out E2.out (fun e => ⟨by rw [E2.out, (Q2.out e).1]; rfl, (Q2.out e).2⟩) (by omega) (by omega) ?_)
  intro v2 w2 hown2 hb2
  go_wp2
  go_ret
  exact RetOwn.of_own hown2 rfl (hb.trans hb2)

theorem shr_nat (P : Program) (x m : Nat) (hm : m ≤ 64) (w : World) : Sem.run P (Op.shift BinOp.shr IntKind.u64 (x : Int) IntKind.i64 (m : Int)) w = .ok (.int .u64 ((x / 2 ^ m : Nat) : Int)) w := by
  unfold Op.shift
  rw [if_neg (by omega)]
  have e2 : min m IntKind.u64.bits = m := by simp [IntKind.bits]; omega
  simp only [Int.toNat_natCast, e2]
  rw [Sem.run_pure]
  have : (x : Int).fdiv (2 ^ m) = ((x / 2 ^ m : Nat) : Int) := by
    rw [show ((2 : Int) ^ m) = ((2 ^ m : Nat) : Int) from by simp, Int.fdiv_eq_ediv_of_nonneg _ (Int.natCast_nonneg _)]; simp
  simp only [this]

/-- the first byte's ones -/
def sm (j : Nat) : Nat := 256 - 2 ^ (8 - j)
theorem sm_step (j : Nat) (h : j < 8) : ((sm j : Nat) : Int) + 128 / 2 ^ j = ((sm (j + 1) : Nat) : Int) := by
  match j, h with
  | 0, _ => decide
  | 1, _ => decide
  | 2, _ => decide
  | 3, _ => decide
  | 4, _ => decide
  | 5, _ => decide
  | 6, _ => decide
  | 7, _ => decide
theorem sm_le (j : Nat) (h : j ≤ 8) : sm j ≤ 255 := by
  have := (Cod.pow_parts j h).1
  unfold sm; omega

set_option maxHeartbeats 2000000 in
theorem refBytes_any (x : Nat) (hx : x < 18446744073709551616) (w : World) : Calls Tryz.prog 61 #[.int .u64 x] w (RetOwn w 5 (Cod.enc x)) := by
  have h8 := Cod.bh_le x
  obtain ⟨K, hK⟩ : ∃ K, K = Cod.bh x := ⟨_, rfl⟩
  rw [← hK] at h8
  have HK := Lib.hid hK; clear hK
  go_enter Tryz.func61, Tryz.ntmps61
  go_wp2
  go_loop [3, 9] (fun k i => ∃ j : Nat, j ≤ 9 ∧ i = .int .i64 j ∧ k = .int .i64 (min j K : Nat)) (fun _ i => 9 - (intOf i).toNat)
  case atStart => exact ⟨0, Nat.zero_le _, rfl, by simp⟩
  case round =>
    obtain ⟨j, hj, rfl, rfl⟩ := hrel
    by_cases hj8 : j < 8
    · have hd := Cod.bh_div x j hj8
      rw [← HK.out] at hd
      by_cases hjK : j < K
      · have ht : ((x : Int) / 2 ^ (7 + 7 * j) != 0) = true := by
          have h0 : ¬ x / 2 ^ (7 + 7 * j) = 0 := fun e => by have := hd.1 e; omega
          rw [bne_iff_ne]
          intro e
          exact h0 (Int.ofNat_inj.1 (by simpa using e))
        clear hd
        go_wp2
        go_round
        case rel => exact ⟨j + 1, by omega, by go_num, by congr 2; omega⟩
        case measure => simp [intOf]; omega
      · have ht : ((x : Int) / 2 ^ (7 + 7 * j) != 0) = false := by
          have h0 : x / 2 ^ (7 + 7 * j) = 0 := hd.2 (by omega)
          have : ((x : Int) / 2 ^ (7 + 7 * j)) = ((x / 2 ^ (7 + 7 * j) : Nat) : Int) := by simp
          rw [this, h0]; rfl
        clear hd
        go_wp2
        go_round
        case rel => exact ⟨j + 1, by omega, by go_num, by congr 2; omega⟩
        case measure => simp [intOf]; omega
    · by_cases hj9 : j < 9
      · go_wp2
        go_round
        case rel => exact ⟨j + 1, by omega, by go_num, by congr 2; omega⟩
        case measure => simp [intOf]; omega
      · obtain rfl : j = 9 := by omega
        have e9 : min 9 K = K := by omega
        rw [e9]; clear e9
        go_wp2
        go_loop [5, 26] (fun f i => ∃ j : Nat, j ≤ K ∧ i = .int .i64 j ∧ f = .int .i64 (sm j : Nat)) (fun _ i => K - (intOf i).toNat)
        case atStart => exact ⟨0, Nat.zero_le _, rfl, rfl⟩
        case round =>
          obtain ⟨j, hj, rfl, rfl⟩ := hrel
          by_cases hjK : j < K
          · have hs := sm_step j (by omega)
            have hl := sm_le j (by omega)
            have hl' := sm_le (j + 1) (by omega)
            obtain ⟨f, hf⟩ : ∃ f, f = sm j := ⟨_, rfl⟩
            obtain ⟨f', hf'⟩ : ∃ f', f' = sm (j + 1) := ⟨_, rfl⟩
            rw [← hf, ← hf'] at hs
            rw [← hf] at hl ⊢
            have hb1 : (0 : Int) ≤ 128 / 2 ^ j := by
              rw [show ((128 : Int) / 2 ^ j) = ((128 / 2 ^ j : Nat) : Int) from by simp]; exact Int.natCast_nonneg _
            have hb2 : (128 : Int) / 2 ^ j ≤ 255 := by rw [← hf'] at hl'; omega
            have HS := Lib.hid hs; clear hs
            have HF' := Lib.hid hf'; clear hf' hf
            go_wp2
            go_round
            case rel => exact ⟨j + 1, by omega, by go_num, by rw [← HF'.out, ← HS.out]⟩
            case measure => simp [intOf]; omega
          · obtain rfl : j = K := by omega
            have hl := sm_le j h8
            have hhd : Cod.head x j = sm j + x / 2 ^ (8 * j) := by unfold Cod.head sm; rw [Cod.pow256]
            have hh2 := Cod.head_lt x hx
            rw [← HK.out] at hh2
            obtain ⟨f, hf⟩ : ∃ f, f = sm j := ⟨_, rfl⟩
            rw [← hf] at hl hhd ⊢
            clear hf
            obtain ⟨hd, hhde⟩ : ∃ hd, hd = Cod.head x j := ⟨_, rfl⟩
            rw [← hhde] at hhd hh2
            have HHD := Lib.hid hhde; clear hhde
            have hown : (w.alloc (.cells #[.int .u8 ((hd : Nat) : Int)] 5)).ownsRow w.heap.size 5 1 (.slice (some ⟨w.heap.size, 0, none⟩) 1 1) (1 + 0) (bys ((Cod.enc x).take (1 + 0))) := by
              have := World.ownsRow_lit (base := w.heap.size) (e := 5) (size := 1) w #[.int .u8 ((hd : Nat) : Int)] 1 (Nat.le_refl _) (by decide) (by simp)
              have e1 : bys ((Cod.enc x).take (1 + 0)) = [.int .u8 ((hd : Nat) : Int)] := by
                show bys [UInt8.ofNat (Cod.head x (Cod.bh x))] = _
                simp only [bys, List.map_cons, List.map_nil, UInt8.toNat_ofNat', ← HK.out, ← HHD.out]
                rw [Nat.mod_eq_of_lt (show hd < 2 ^ 8 by omega)]
              rw [e1]; simpa using this
            have HO := Lib.hid hown; clear hown
            have hparts : (j < 8 ∧ ((f : Int) + (x : Int) / 2 ^ (8 * j)) = (hd : Int) ∧ 0 ≤ (x : Int) / 2 ^ (8 * j) ∧ (x : Int) / 2 ^ (8 * j) ≤ 255) ∨ (8 ≤ j ∧ f = hd) := by
              by_cases hj8 : j < 8
              · have hq : ((f : Int) + (x : Int) / 2 ^ (8 * j)) = (hd : Int) := by rw [hhd]; simp
                have hq0 : 0 ≤ (x : Int) / 2 ^ (8 * j) := by
                  rw [show ((x : Int) / 2 ^ (8 * j)) = ((x / 2 ^ (8 * j) : Nat) : Int) from by simp]; exact Int.natCast_nonneg _
                exact .inl ⟨hj8, hq, hq0, by omega⟩
              · have e8 : j = 8 := by omega
                have : x / 2 ^ (8 * j) = 0 := by rw [e8]; exact Nat.div_eq_of_lt (by simpa using hx)
                exact .inr ⟨by omega, by omega⟩
            clear hhd
            have HKd := Lib.hid (show j ≤ 8 from h8)
            rcases hparts with ⟨hj8, hq, hq0, hq1⟩ | ⟨hj8, rfl⟩
            all_goals
              go_wp2
              go_loopw [7, 47] (fun u i wr => ∃ m : Nat, m ≤ Cod.bh x ∧ i = .int .i64 m ∧ wr.ownsRow w.heap.size 5 1 u (1 + m) (bys ((Cod.enc x).take (1 + m))) ∧ Below w.heap.size w wr) (fun _ i _ => Cod.bh x - (intOf i).toNat)
              case atStart => exact ⟨0, Nat.zero_le _, rfl, HO.out, (Below.refl _ _).alloc (Nat.le_refl _) _⟩
              case round =>
                obtain ⟨m, hm, rfl, hown, hb⟩ := hrel
                have hmj0 : m ≤ j := by rw [HK.out]; exact hm
                have hsz := hb.size
                by_cases hmj : m < j
                · obtain ⟨d, hd⟩ : ∃ d, d = (Cod.enc x).getD (m + 1) 0 := ⟨_, rfl⟩
                  have hdx : ((x : Int) / 2 ^ (8 * (j - 1 - m)) % 256) = (d.toNat : Int) := by
                    rw [hd, Cod.enc_get x m (by rw [← HK.out]; exact hmj), UInt8.toNat_ofNat', ← HK.out]
                    simp
                  have HD := Lib.hid hd; clear hd
                  have hm1 : m + 1 ≤ Cod.bh x := by rw [← HK.out]; omega
                  have e1 : (Cod.enc x).take (1 + (m + 1)) = (Cod.enc x).take (1 + m) ++ [d] := by
                    rw [show 1 + (m + 1) = (1 + m) + 1 from by omega, take_snoc (by rw [Cod.enc_length, ← HK.out]; omega), show (1 + m) = m + 1 from by omega, ← HD.out]
                  have E1 := Lib.hid e1; clear e1
                  go_wp2_with (at_builtin; refine wpList_byte isU8 _ rfl _ _ rfl w.heap.size (1 + m) ((Cod.enc x).take (1 + m)) _ rfl hown _ d rfl rfl (by omega) (by omega) ?_)
                  intro v' w' hown' hb'
                  clear hown hdx
                  go_wp2
                  go_roundw
                  case rel => exact ⟨m + 1, hm1, by go_num, by rw [E1.out]; simpa only [Nat.add_assoc] using hown', hb.trans hb'⟩
                  case measure => simp [intOf]; omega
                · obtain rfl : m = j := by omega
                  go_wp2
                  go_ret
                  rw [List.take_of_length_le (by rw [Cod.enc_length, ← HK.out]; omega)] at hown
                  exact RetOwn.of_own hown rfl hb
end Go.Proofs.YtjmglgcifekhgaaGreatDoor
/- The contracts of the document's own Num, Sign, Text; and of coder's Text. -/
namespace Go.Proofs.YtjmglgcifekhgaaGreatDoor
open Go Go.RowKit

/-- bytes as a call may be handed them: what came in, or the call's own -/
structure Given (w : World) (p : Option Addr) (c : Nat) (l : List UInt8) : Prop where
  lies : Lies w p l
  le : l.length ≤ c
  none : p = none → l = [] ∧ c = 0
theorem Given.below {w w' : World} {p : Option Addr} {c : Nat} {l : List UInt8} (h : Given w p c l) (hb : Below w.heap.size w w') : Given w' p c l := ⟨h.lies.below hb, h.le, h.none⟩
theorem RetOwn.given {w w' : World} {ty : TypeId} {l : List UInt8} {e : Ending} (h : RetOwn w ty l e w') : ∃ p c, e = .returned (.slice p l.length c) ∧ Given w' p c l ∧ Below w.heap.size w w' := by
  obtain ⟨v, he, ho, hb⟩ := h
  obtain ⟨_, p, c, rfl, h1, _, h3, h4⟩ := own_lies ho
  exact ⟨p, c, he, ⟨h3, h1, h4⟩, hb⟩

theorem enc_len (x : Nat) : (Cod.enc x).length ≤ 9 := by rw [Cod.enc_length]; have := Cod.bh_le x; omega

set_option maxHeartbeats 1000000 in
theorem refNum_any (p : Option Addr) (c : Nat) (l : List UInt8) (n : Int) (w : World) (h : Given w p c l) (hn : (Lit.int .i64 n).wf = true) (hlen : l.length ≤ 140737488355000) :
    Calls Tryz.prog 24 #[.slice p l.length c, .int .i64 n] w (RetOwn w 5 (l ++ Cod.enc n.toNat)) := by
  have hr := int_range hn
  have hby := refBytes_any n.toNat (by omega) w
  have hel := enc_len n.toNat
  have HB := Lib.hid hby; have H := Lib.hid h; clear hby h hn
  by_cases h0 : n < 0
  · have e0 : n.toNat = 0 := by omega
    rw [e0] at HB hel ⊢
    go_enter Tryz.func24, Tryz.ntmps24
    go_wp2_with fail
    refine HB.out.mono ?_
    intro e w1 hr1
    obtain ⟨p1, c1, rfl, g1, b1⟩ := hr1.given
    have G1 := Lib.hid g1; have B1 := Lib.hid b1; clear hr1
    go_wp2_with fail
    refine (join_any p p1 _ _ c c1 l (Cod.enc 0) w1 (H.out.lies.below B1.out) G1.out.lies H.out.none G1.out.none rfl rfl (by omega)).mono ?_
    intro e w2 hr2
    obtain ⟨v, rfl, hown, b2⟩ := hr2.after B1.out
    have O2 := Lib.hid hown; have B2 := Lib.hid b2; clear hown hr2
    go_wp2_with fail
    go_ret
    exact ⟨v, rfl, O2.out, B2.out⟩
  · obtain ⟨m, rfl⟩ := Int.eq_ofNat_of_zero_le (show 0 ≤ n by omega)
    rw [Int.toNat_natCast] at HB hel ⊢
    go_enter Tryz.func24, Tryz.ntmps24
    go_wp2_with fail
    refine HB.out.mono ?_
    intro e w1 hr1
    obtain ⟨p1, c1, rfl, g1, b1⟩ := hr1.given
    have G1 := Lib.hid g1; have B1 := Lib.hid b1; clear hr1
    go_wp2_with fail
    refine (join_any p p1 _ _ c c1 l (Cod.enc m) w1 (H.out.lies.below B1.out) G1.out.lies H.out.none G1.out.none rfl rfl (by omega)).mono ?_
    intro e w2 hr2
    obtain ⟨v, rfl, hown, b2⟩ := hr2.after B1.out
    have O2 := Lib.hid hown; have B2 := Lib.hid b2; clear hown hr2
    go_wp2_with fail
    go_ret
    exact ⟨v, rfl, O2.out, B2.out⟩

set_option maxHeartbeats 1000000 in
theorem text_any (p : Option Addr) (c : Nat) (l : List UInt8) (s : ByteArray) (w : World) (h : Given w p c l) (hlen : l.length + s.size ≤ 140737488355000) :
    Calls Tryz.prog 55 #[.slice p l.length c, .string s] w (RetOwn w 5 (l ++ Cod.enc s.size ++ s.data.toList)) := by
  have hcut := cutOff_any p l.length c h.le w
  have hput := put_any w.heap.size (.slice p l.length l.length) l s.size w (.inr ⟨p, rfl, h.lies, fun e => (h.none e).1⟩) (Nat.le_refl _) (by omega) (by omega)
  have hel := enc_len s.size
  have HP := Lib.hid hput; clear hput h
  go_enter Tryz.func55, Tryz.ntmps55
  go_wp2_with fail
  refine hcut.mono ?_
  rintro e w' ⟨rfl, rfl⟩
  go_wp2_with fail
  refine HP.out.mono ?_
  rintro e w1 ⟨v, rfl, hown, hb⟩
  have hl2 : (l ++ Cod.enc s.size).length ≤ l.length + 9 := by simp; omega
  go_wp2_with (at_builtin; refine wpList_text isU8 Tryz.underlying9 _ rfl _ _ rfl w.heap.size _ (l ++ Cod.enc s.size) _ rfl hown s rfl (by omega) hb.size ?_)
  intro v' w2 hown' hb'
  go_wp2
  go_ret
  exact RetOwn.of_own (by rw [List.append_assoc]; exact hown') rfl (hb.trans hb')
end Go.Proofs.YtjmglgcifekhgaaGreatDoor
