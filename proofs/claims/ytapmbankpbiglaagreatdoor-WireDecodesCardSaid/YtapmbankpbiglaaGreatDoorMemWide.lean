/- Bytes put behind a row of the call's own: more of them than Mem's law bears. No number of a program stands here. -/
import Derived.Test.YtapmbankpbiglaaGreatDoorMem
import Derived.Deep.DeepAppendWide
namespace Go.Proofs.YtapmbankpbiglaaGreatDoor
open Go Go.RowKit
section
variable {P : Program} {t e : TypeId} {ops : Array Oper} {rest : List Oper} {o : Oper} {a : Act} {Q : Exit → Act → World → Prop}
theorem wpList_bytesW (U : U8 P t e) (w : World) (hg : o.guard = none) (s x : Operand) (ho : o.op = .call { callee := .builtin .append, args := #[s, x], argTypes := #[t, t] })
    (B n : Nat) (l : List UInt8) (v : Value) (hs : a.eval s = v) (hown : w.ownsRow B e 1 v n (bys l)) (p : Option Addr) (m c : Nat) (l2 : List UInt8) (hx : a.eval x = .slice p m c) (hl : Lies w p l2) (hm : m = l2.length) (hp : p = none → m = 0 ∧ c = 0)
    (hlen : n + m ≤ 200000000000000) (hB : B ≤ w.heap.size)
    (h : ∀ v' w', w'.ownsRow B e 1 v' (n + m) (bys (l ++ l2)) → Below B w w' → wpList P ops Q rest (a.put o.dst v') w') : wpList P ops Q (o :: rest) a w := by
  obtain ⟨i0, hi, hz0, hz1, hz2⟩ := info_parts U.info
  cases p with
  | none =>
    obtain ⟨rfl, rfl⟩ := hp rfl
    obtain rfl : l2 = [] := List.eq_nil_of_length_eq_zero hm.symm
    exact wpList_append_own_none hg s x t ho B e i0 1 U.slice hi v n (bys l) hs hown hx (h v w (by simpa using hown) (Below.refl _ _))
  | some ad =>
    refine wpList_append_own_wide _ hg s x t ho B e i0 (.int .u8 0) 1 1 U.slice hi hz0 hz1 hz2 rfl (by decide) v n (bys l) hs hown ad m c (bys l2) hx (by rw [bys_length]; omega) ?_ (bys_one _) (by unfold maxLen; omega) (by omega) hB ?_
    · by_cases h0 : l2 = []
      · subst h0; intro j u hu; simp [bys] at hu
      · obtain ⟨b, of, e1, hc⟩ := hl h0
        obtain rfl := Option.some.inj e1
        exact Lies.news hc
    · intro v' w' h1 h2 _
      refine h v' w' (by rw [bys_append]; exact h1) ?_
      exact (Below.refl B w).grown h2 hB (fun k hk => (hown.lt k hk).1)
end
end Go.Proofs.YtapmbankpbiglaaGreatDoor
