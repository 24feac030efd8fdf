/- A loop over an iterator that tells of each element that it stands where it should behind those that have come. No number of a program stands here.
   The library's law on such loops asks the body at every element whatever; a body that is safe only in the iterator's own order (it slices from where the last one ended) cannot be shown so. Here the iterator's promise R goes with each element. -/
import Derived.RangeFuncNested
namespace Go.Proofs.YtldfomggeleolaaDoor
open Go Go.RowKit
set_option linter.unusedVariables false

/-- an iterator value whose elements come as R says -/
def Led {α : Type} (R : List α → α → Prop) (F : Fence) (n : Nat) (P : Program) (g : Nat) (lb : Array Value) (encs : α → Array Value) (Kp : World → World → Prop) (S Sp : List α → Prop) (w : World) : Prop :=
  ∀ (l : Nat) (J Jx : List α → World → Prop) (V : World), Below w.heap.size w V → AbidesFrom V.heap.size J → AbidesFrom V.heap.size Jx →
    (∀ pre x V1, J pre V1 → R pre x → YieldAt F (n - 1) P l (encs x) V1 fun e V2 => (e = .returned (.bool true) ∧ J (pre ++ [x]) V2 ∧ Kp V1 V2) ∨ (e = .returned (.bool false) ∧ Jx (pre ++ [x]) V2)) →
    J [] V → CallsIn F n P g (#[.func (.yield l) #[] #[]] ++ lb) V fun e V2 => (∃ v, e = .returned v) ∧ ((∃ xs, S xs ∧ J xs V2) ∨ (∃ pre, Sp pre ∧ Jx pre V2))

section
variable {α : Type} {R : List α → α → Prop} {F : Fence} {n : Nat} {P : Program} {g : Operand} {ps : Array Tmp} {assign body : Code} {Q : Exit → Act → World → Prop} {a : Act} {w : World} {gf : Nat} {lb : Array Value} {encs : α → Array Value} {Kp : World → World → Prop} {S Sp : List α → Prop}
  {I : List α → World → Prop} {Ix : Code → List α → World → Prop} {Ax : α → Act → World → Prop}

/-- what an ended round leaves of the loop's record, and of the block beside it -/
theorem round_left {B l : Nat} {r : Loop} {V V3 : World} (hl : B ≤ l) (hn : l ≠ B) (hr : V.heap[l]? = some (.loop { r with state := .busy, pending := none })) (hb : V.heap[B]? = some (.deferred (some []))) (hk : KeepsFrom B V V3) (jump : Option Code) :
    (Instr.endRound l jump).run P V3 = .ok (.bool jump.isNone) (V3.putObj l (.loop { r with state := if jump.isNone then .ready else .done, pending := jump })) ∧ V3.heap[l]? = some (.loop { r with state := .busy, pending := none }) ∧
      (V3.putObj l (.loop { r with state := if jump.isNone then .ready else .done, pending := jump })).heap[l]? = some (.loop { r with state := if jump.isNone then .ready else .done, pending := jump }) ∧
      (V3.putObj l (.loop { r with state := if jump.isNone then .ready else .done, pending := jump })).heap[B]? = some (.deferred (some [])) := by
  have h3 := hk.same l _ hl hr rfl
  refine ⟨?_, h3, World.putObj_heap_same (Array.getElem?_eq_some_iff.1 h3).1, (World.putObj_heap_other (Ne.symm hn)).trans (hk.same B _ (Nat.le_refl _) hb rfl)⟩
  exact run_endRound (r := { r with state := .busy, pending := none }) jump h3

/-- THE LOOP, where each element comes as R says -/
theorem led_loop (hro : F.round = none) (h1 : 1 ≤ n) (hg : a.eval g = .func (.func gf) #[] lb) (hFg : F.fn gf) (eg : ∀ args w, (callFunc gf args).run P w = .ok (.enter gf args) w)
    (hseq : Led R F (n - 1) P gf lb encs Kp S Sp w) (hKt : ∀ {X Y Z : World}, Kp X Y → Kp Y Z → Kp X Z)
    (hKb : ∀ (V : World) (l : Nat) (o o' : Obj), w.heap.size ≤ l → V.heap[l]? = some o → o.isCells = false → o.isWalk = false → Kp V (V.putObj l o')) (hps : ∀ x, (encs x).size = ps.size)
    (hI : OwnFrom w.heap.size I) (hIx : ∀ c, OwnFrom w.heap.size (Ix c)) (h0 : I [] w) (hAx : ∀ x a', OwnFrom w.heap.size (fun (_ : Unit) V => Ax x a' V))
    (hassign : ∀ (l : Nat) (pre : List α) (x : α) (V : World) (K : Act → World → Prop), I pre V → R pre x → (∀ a' V', KeepsFrom w.heap.size V V' → Kp V V' → I pre V' → Ax x a' V' → K a' V') →
      assign.wpIn (F.inRound l) (n - 1 - 1) P (Exit.then K (fun _ _ _ => False)) { tmps := (ps.zip (encs x)).foldl (fun t (p, v) => t.setIfInBounds p v) a.tmps, defers := [] } V)
    (hbody : ∀ (l : Nat) (pre : List α) (x : α) (a' : Act) (V : World), I pre V → R pre x → Ax x a' V → body.wpIn (F.inRound l) (n - 1 - 1) P (ownPostG w.heap.size Kp I Ix (pre ++ [x]) V) a' V)
    (hdone : ∀ (D : Nat) (xs : List α) (V : World), w.heap.size ≤ D → S xs → I xs V → V.heap[D]? = some (.deferred (some [])) → Q .normal { a with defers := { target := .collected D, args := #[] } :: a.defers } V)
    (hstop : ∀ (D : Nat) (c : Code) (pre : List α) (V : World), w.heap.size ≤ D → Sp pre → Ix c pre V → V.heap[D]? = some (.deferred (some [])) → c.wpIn F n P Q { a with defers := { target := .collected D, args := #[] } :: a.defers } V) :
    (Code.rangeFunc g ps assign body).wpIn F n P Q a w := by
  refine wpIn_rangeFunc fun fn hfn => ?_
  rw [hro]
  -- the record, and the block for the rounds' deferred calls
  obtain ⟨r, hr⟩ : ∃ r : Loop, r = { state := .ready, pending := none, fn, tmps := a.tmps, params := ps, assign, body, defers := w.heap.size } := ⟨_, rfl⟩
  obtain ⟨B, hB⟩ : ∃ B, B = w.heap.size := ⟨_, rfl⟩
  obtain ⟨V1, hV1⟩ : ∃ V1, V1 = (w.alloc (.deferred (some []))).alloc (.loop r) := ⟨_, rfl⟩
  have hz1 : V1.heap.size = B + 2 := by rw [hV1, hB]; simp
  have hrec : V1.heap[B + 1]? = some (.loop r) := by
    have := World.alloc_heap_new (w.alloc (.deferred (some []))) (.loop r)
    rw [World.size_alloc, ← hV1, ← hB] at this
    exact this
  have hblk : V1.heap[B]? = some (.deferred (some [])) := by
    rw [hV1, hB]; exact (Below.heap_alloc _ _ _ (by simp)).trans (World.alloc_heap_new w _)
  have hstart : I [] V1 := by rw [hV1]; exact hI.alloc _ (hI.alloc _ h0)
  have hbel : Below w.heap.size w V1 := by rw [hV1]; exact ((Below.refl _ w).alloc (Nat.le_refl _) _).alloc (by simp) _
  refine ⟨B + 1, [{ target := .collected B, args := #[] }], V1, { target := .fn (.func gf) lb, args := #[.func (.yield (B + 1)) #[] #[]] }, V1, gf, #[.func (.yield (B + 1)) #[] #[]] ++ lb, V1, ?_, ?_, ?_, ?_, fun _ => h1, ?_⟩
  · rw [hV1, hr, hB]; exact run_enterLoop_outer _ _ _ _ _
  · simp only [resolve, hg]
    simp [go_sem]
  · intro f' hf'
    simp [Target.leads] at hf'
    subst hf'
    exact hFg
  · simp [invoke, go_sem, eg]
  have away : ∀ {X : World} {row : Option Nat}, (∀ k, row = some k → V1.heap.size ≤ k ∧ ∃ o : Obj, X.heap[k]? = some o ∧ o.isWalk = true) → (∀ k, row = some k → w.heap.size ≤ k ∧ ∃ o : Obj, X.heap[k]? = some o ∧ o.isCells = false) :=
    fun h k e => by obtain ⟨h1, o, h2, h3⟩ := h k e; exact ⟨by rw [hz1] at h1; omega, o, h2, Obj.not_cells_of_walk h3⟩
  refine (hseq (B + 1)
    (fun pre V => I pre V ∧ V.heap[B + 1]? = some (.loop r) ∧ V.heap[B]? = some (.deferred (some [])))
    (fun pre V => ∃ c, Ix c pre V ∧ V.heap[B + 1]? = some (.loop { r with state := .done, pending := some c }) ∧ V.heap[B]? = some (.deferred (some []))) V1 hbel ?_ ?_ ?_ ⟨hstart, hrec, hblk⟩).mono ?_
  · rintro s X Y row ⟨i1, i2, i3⟩ hgr hrow
    exact ⟨hI s X Y row i1 hgr (away hrow), (grownBy_keeps hgr (fun k e => (hrow k e).2) i2 rfl).trans i2, (grownBy_keeps hgr (fun k e => (hrow k e).2) i3 rfl).trans i3⟩
  · rintro s X Y row ⟨c, i1, i2, i3⟩ hgr hrow
    exact ⟨c, hIx c s X Y row i1 hgr (away hrow), (grownBy_keeps hgr (fun k e => (hrow k e).2) i2 rfl).trans i2, (grownBy_keeps hgr (fun k e => (hrow k e).2) i3 rfl).trans i3⟩
  · -- a round
    rintro pre x V ⟨i1, i2, i3⟩ hR
    have hy := run_yield (P := P) (args := encs x) i2 (by rw [hr]; exact hps x)
    rw [hr] at hy
    refine ⟨fn, _, assign, body, hy, roundIn_of_wpIn hfn (hassign _ pre x V _ i1 hR ?_)⟩
    intro a' V' k1 k2 j1 jax
    have j2 := k1.same (B + 1) _ (by omega) i2 rfl
    have j3 := k1.same B _ (by omega) i3 rfl
    have hlt : B + 1 < V'.heap.size := (Array.getElem?_eq_some_iff.1 j2).1
    refine ⟨_, run_beginRound j2 (by rw [hr]), ?_⟩
    have m2 : (V'.putObj (B + 1) (.loop { r with state := .busy })).heap[B + 1]? = some (.loop { r with state := .busy, pending := none }) := by
      rw [World.putObj_heap_same hlt, hr]
    have m3 : (V'.putObj (B + 1) (.loop { r with state := .busy })).heap[B]? = some (.deferred (some [])) := (World.putObj_heap_other (by omega)).trans j3
    have mk : Kp V' (V'.putObj (B + 1) (.loop { r with state := .busy })) := hKb _ _ _ _ (by omega) j2 rfl rfl
    refine wpIn_mono (hbody _ pre x a' _ (hI.putObj _ j1 (by omega) j2 rfl) hR ((hAx x a').putObj (s := ()) _ jax (by omega) j2 rfl)) ?_
    rintro e a3 V3 hp
    rw [← hB] at hp
    cases e with
    | normal =>
      obtain ⟨p1, p2, p3⟩ := hp
      obtain ⟨q1, q2, q3, q4⟩ := round_left (P := P) (by omega) (by omega) m2 m3 p1 none
      refine ⟨_, _, q1, .inl ⟨rfl, ⟨hI.putObj _ p3 (by omega) q2 rfl, ?_, q4⟩, hKt k2 (hKt (hKt mk p2) (hKb _ _ _ _ (by omega) q2 rfl rfl))⟩⟩
      rw [q3, hr]; rfl
    | ret =>
      obtain ⟨p1, p3⟩ := hp
      obtain ⟨q1, q2, q3, q4⟩ := round_left (P := P) (by omega) (by omega) m2 m3 p1 (some .ret)
      exact ⟨_, _, q1, .inr ⟨rfl, .ret, (hIx _).putObj _ p3 (by omega) q2 rfl, q3, q4⟩⟩
    | exit id =>
      obtain ⟨p1, p3⟩ := hp
      obtain ⟨q1, q2, q3, q4⟩ := round_left (P := P) (by omega) (by omega) m2 m3 p1 (some (.exit id))
      exact ⟨_, _, q1, .inr ⟨rfl, .exit id, (hIx _).putObj _ p3 (by omega) q2 rfl, q3, q4⟩⟩
    | goto t =>
      obtain ⟨p1, p3⟩ := hp
      obtain ⟨q1, q2, q3, q4⟩ := round_left (P := P) (by omega) (by omega) m2 m3 p1 (some (.goto t))
      exact ⟨_, _, q1, .inr ⟨rfl, .goto t, (hIx _).putObj _ p3 (by omega) q2 rfl, q3, q4⟩⟩
    | panic c => exact hp.elim
    | outgrown => exact hp.elim
  · rintro e V2 ⟨⟨v, rfl⟩, (⟨xs, hS, i1, i2, i3⟩ | ⟨pre, hSp, c, i1, i2, i3⟩)⟩
    · have hend := run_endLoop (P := P) i2 (by rw [hr]; simp)
      refine ⟨none, V2.putObj (B + 1) (.loop { r with state := .exhausted }), ?_, hdone B xs _ (by omega) hS (hI.putObj _ i1 (by omega) i2 rfl) ((World.putObj_heap_other (show B ≠ B + 1 by omega)).trans i3)⟩
      rw [hr] at hend ⊢
      exact hend
    · have hend := run_endLoop (P := P) i2 (by simp)
      refine ⟨some c, _, hend, hstop B c pre _ (by omega) hSp ((hIx c).putObj _ i1 (by omega) i2 rfl) ((World.putObj_heap_other (show B ≠ B + 1 by omega)).trans i3)⟩
end
end Go.Proofs.YtldfomggeleolaaDoor
