/- Since of any, as the walk wants it; what comes of Join. -/
import Derived.Test.YtimfcedkmdbnfaaPastRefJoin
import Derived.Test.YtimfcedkmdbnfaaPastRefSince
namespace Go.Proofs.Ytimfcedkmdbnfaa
open Go Go.RowKit
set_option linter.unusedVariables false

def NewsR (w : World) (l : List Ev) (b : Bool) (e : Ending) (w' : World) : Prop :=
  ∃ q c K, e = .returned (.tuple #[.slice q K.length c, .bool b]) ∧ EvsAt w' q K ∧ evs K = l ∧ Below w.heap.size w w'
/-- what Since tells -/
def sinceOf (l : List Ev) (f v : Nat → Int) (m : Nat) : List Ev := if vle f v = true then newsOf l v m else []
theorem sinceOf_mem {l : List Ev} {f v : Nat → Int} {m : Nat} {e : Ev} (h : e ∈ sinceOf l f v m) : e ∈ l := by
  unfold sinceOf at h
  split at h
  · exact (List.mem_filter.1 (List.mem_of_mem_take h)).1
  · simp at h
theorem sinceOf_len (l : List Ev) (f v : Nat → Int) (m : Nat) : (sinceOf l f v m).length ≤ l.length := by
  unfold sinceOf
  split
  · exact news_len l v m
  · simp
theorem atNone (w : World) : EvsAt w none [] := ⟨fun hn => absurd rfl hn, fun x hx => by simp at hx, fun _ => rfl⟩
theorem sinceA_is (p : Option Addr) (c : Nat) (L : List EvP) (f v : Nat → Int) (w : World) (h : EvsAt w p L) (ho : ∀ a, p = some a → ∃ b o, a = ⟨b, o, none⟩) (hn : L.length ≤ 400) (hg : ∀ x ∈ L, x.e.gone.length ≤ 1000) (most : Int) (hm : -9223372036854775808 ≤ most ∧ most ≤ 9223372036854775807) :
    Calls Try.prog 6 #[.agg (pcs (.slice p L.length c) f), .agg (vf v), .int .i64 most] w (NewsR w (sinceOf (evs L) f v most.toNat) (vle f v)) := by
  cases hf : vle f v with
  | true =>
    refine (sinceM_is p c L f v w h ho hn hg most hm hf).mono ?_
    rintro e w' ⟨q, c', K, rfl, _, h1, _, h2, h3⟩
    exact ⟨q, c', K, rfl, h1, by rw [h2, sinceOf, if_pos hf]; rfl, h3⟩
  | false =>
    refine (sinceN_is p c L f v w h ho hn hg most hf).mono ?_
    rintro e w' ⟨rfl, h3⟩
    exact ⟨none, 0, [], rfl, atNone _, by rw [sinceOf, if_neg (by rw [hf]; simp)]; rfl, h3⟩
theorem refSinceA_is (p : Option Addr) (c : Nat) (L : List EvP) (f v : Nat → Int) (w : World) (h : EvsAt w p L) (hn : L.length ≤ 1000) (most : Int) (hm : -9223372036854775808 ≤ most ∧ most ≤ 9223372036854775807) :
    Calls Try.prog 7 #[.agg (pcs (.slice p L.length c) f), .agg (vf v), .int .i64 most] w (NewsR w (sinceOf (evs L) f v most.toNat) (vle f v)) := by
  cases hf : vle f v with
  | true =>
    refine (refSinceM_is p c L f v w h hn most hm hf).mono ?_
    rintro e w' ⟨v', K, rfl, h1, hmem, h2, h3⟩
    obtain ⟨q, c', rfl, _, hat, _⟩ := own_at h1 (fun x hx => (h.ok x (hmem x hx)).below h3)
    exact ⟨q, c', K, rfl, hat, by rw [h2, sinceOf, if_pos hf], h3⟩
  | false =>
    refine (refSinceN_is p c L f v w most hf).mono ?_
    rintro e w' ⟨rfl, h3⟩
    exact ⟨none, 0, [], rfl, atNone _, by rw [sinceOf, if_neg (by rw [hf]; simp)]; rfl, h3⟩
theorem behindOf_mem (l : List Ev) : ∀ (more : List Ev) (e : Ev), e ∈ behindOf l more → e ∈ l ∨ e ∈ more := by
  intro more
  induction more generalizing l with
  | nil => intro e h; exact .inl h
  | cons x more ih =>
    intro e h
    rcases ih (addEv l x) e h with h1 | h1
    · unfold addEv at h1
      split at h1
      · exact .inl h1
      · rcases List.mem_append.1 h1 with h2 | h2
        · exact .inl h2
        · exact .inr (by rw [List.mem_singleton.1 h2]; exact List.mem_cons_self)
    · exact .inr (List.mem_cons_of_mem _ h1)
theorem gone_of {K : List EvP} {l : List Ev} (he : evs K = l) (hg : ∀ e ∈ l, e.gone.length ≤ 1000) : ∀ x ∈ K, x.e.gone.length ≤ 1000 := fun x hx =>
  hg x.e (by rw [← he]; exact List.mem_map.2 ⟨x, hx, rfl⟩)
theorem exec_eqlT {o : Oper} {a : Act} (yt : TypeId) (x y : Operand) (ho : o.op = .binOp .eql 4 x y yt) (X : Bool) (hx : a.eval x = .bool X) (hy : a.eval y = .bool X) (w : World) :
    (execOp a.eval o).run Try.prog w = .ok (.value (.bool true)) w := by
  have hb : ∀ w : World, (binOp .eql 4 (.bool X) (.bool X)).run Try.prog w = .ok (.bool true) w := fun w => by cases X <;> kernel_rfl
  unfold execOp
  simp only [ho, hx, hy]
  refine run_value_of ?_
  rw [Sem.run_bind]
  have hg : (eqGuard .eql 4 x y (.bool X) (.bool X)).run Try.prog w = .ok () w := by
    unfold eqGuard
    go_simp
  rw [hg]
  exact hb w
/-- a call that tells what is so -/
theorem Tells.yes {w : World} {P : Prop} {e : Ending} {w' : World} (h : Tells w P e w') (hp : P) : e = .returned (.bool true) ∧ Below w.heap.size w w' := by
  obtain ⟨b, rfl, hb, h1⟩ := h
  exact ⟨by rw [hb.2 hp], h1⟩
theorem Tells.two {w2 : World} {P : Prop} {e2 : Ending} {w2' : World} {b : Bool} (h : b = true ↔ P) (h2 : Tells w2 P e2 w2') : e2 = .returned (.bool b) ∧ Below w2.heap.size w2 w2' := by
  obtain ⟨b2, rfl, hb, h1⟩ := h2
  have : b2 = b := by
    cases b <;> cases b2 <;> simp_all
  exact ⟨by rw [this], h1⟩
end Go.Proofs.Ytimfcedkmdbnfaa
