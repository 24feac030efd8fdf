/- What two of the document's sets have: both, one of them, the first alone. -/
import Derived.Test.YtmblkccfgncngaaDoorBitsBlend
namespace Go.Proofs.YtmblkccfgncngaaDoor
open Go Go.RowKit
set_option linter.unusedVariables false

def RBlended (w : World) (n : Nat) (f : Nat → Bool) (e : Ending) (w' : World) : Prop :=
  ∃ a G, e = .returned (.pointer (some ⟨a, 0, none⟩)) ∧ w.heap.size ≤ a ∧ w.heap.size ≤ G ∧ RSt w' a G n f ∧ Below w.heap.size w w'
theorem upTo_turn (f : Nat → Bool) (k : Nat) : upTo f (k + 1) = Bit.turn (upTo f k) k (f k) := by
  funext i
  unfold upTo Bit.turn
  by_cases h : i = k
  · subst h; simp
  · by_cases h2 : i < k
    · simp [h, h2, show i < k + 1 by omega]
    · simp [h, h2, show ¬ i < k + 1 by omega]
theorem exec_minI {P : Program} {o : Oper} {a : Act} (x y : Operand) (tys : Array TypeId) (ho : o.op = .call { callee := .builtin .min, args := #[x, y], argTypes := tys }) (X Y R : Int) (hR : min X Y = R) (hx : a.eval x = .int .i64 X) (hy : a.eval y = .int .i64 Y) (w : World) :
    (execOp a.eval o).run P w = .ok (.value (.int .i64 R)) w := by
  have e : (#[x, y] : Array Operand).map a.eval = #[.int .i64 X, .int .i64 Y] := by simp only [List.map_toArray, List.map_cons, List.map_nil, hx, hy]
  have hm : (Builtin.min_ tys o.type #[.int .i64 X, .int .i64 Y]).run P w = .ok (.int .i64 R) w := by
    rw [run_min_int2, show (if Y < X then Y else X) = R by split <;> omega]
  unfold execOp
  simp only [ho]
  unfold resolve
  simp only [e]
  simp only [Sem.run_bind, Sem.run_pure, Result.andThen_ok, invoke]
  exact run_value_of hm

set_option maxHeartbeats 4000000 in
set_option maxRecDepth 100000 in
theorem bothAnd_is (a Ga na b Gb nb : Nat) (fa fb : Nat → Bool) (w : World) (h1 : RSt w a Ga na fa) (h2 : RSt w b Gb nb fb) :
    Calls Tryd.prog 24 #[.pointer (some ⟨a, 0, none⟩), .pointer (some ⟨b, 0, none⟩), .int .i64 0] w (RBlended w (min na nb) (upTo (fun i => fa i && fb i) (min na nb))) := by
  have A := Lib.hid h1; have B := Lib.hid h2
  obtain ⟨n, hn⟩ : ∃ n, n = min na nb := ⟨_, rfl⟩
  have hn6 : n ≤ 65536 := by have := h1.le; omega
  have hna : n ≤ na := by omega
  have hnb : n ≤ nb := by omega
  have hle1 := h1.le; have hle2 := h2.le
  have hmin : min (na : Int) (nb : Int) = (n : Int) := by omega
  rw [← hn]
  clear h1 h2 hn
  go_enter Tryd.func24, Tryd.ntmps24
  go_wp2
  have ca : w.drew.cell? ⟨a, 0, none⟩ = some (.slice (some ⟨Ga, 0, none⟩) na na) := A.out.c0
  have cb : w.drew.cell? ⟨b, 0, none⟩ = some (.slice (some ⟨Gb, 0, none⟩) nb nb) := B.out.c0
  refine rg_start (n := 13) (S := fun w' => w'.cell? ⟨a, 0, none⟩ = some (.slice (some ⟨Ga, 0, none⟩) na na) ∧ w'.cell? ⟨b, 0, none⟩ = some (.slice (some ⟨Gb, 0, none⟩) nb nb)) (by kernel_rfl) rfl ⟨ca, cb⟩ ?_
  refine rg_pure 0 rfl (.pointer (some ⟨a, 0, none⟩)) (by kernel_rfl) (by kernel_rfl) (by kernel_rfl) (fun _ _ _ _ h => h) (by kernel_rfl) (fun _ => by kernel_rfl) ⟨ca, cb⟩ ?_
  refine rg_pure 1 rfl (.pointer (some ⟨a, 0, none⟩)) (by kernel_rfl) (by kernel_rfl) (by kernel_rfl) (fun _ _ _ _ h => h) (by kernel_rfl) (fun _ => by kernel_rfl) ⟨ca, cb⟩ ?_
  refine rg_pure 2 rfl (.pointer (some ⟨a, 0, none⟩)) (by kernel_rfl) (by kernel_rfl) (by kernel_rfl) (fun _ _ _ _ h => h) (by kernel_rfl) (fun _ => by kernel_rfl) ⟨ca, cb⟩ ?_
  refine rg_load 3 rfl (by kernel_rfl) (by kernel_rfl) (by kernel_rfl) (fun _ _ _ _ h => h) (by kernel_rfl) _ _ rfl Tryd.underlying64 rfl ⟨a, 0, none⟩ (.slice (some ⟨Ga, 0, none⟩) na na) (by kernel_rfl) (fun w h => h.1) ⟨ca, cb⟩ ?_
  refine rg_pure 4 rfl (.int .i64 (na : Int)) (by kernel_rfl) (by kernel_rfl) (by kernel_rfl) (fun _ _ _ _ h => h) (by kernel_rfl) (fun _ => by kernel_rfl) ⟨ca, cb⟩ ?_
  refine rg_pure 5 rfl (.pointer (some ⟨b, 0, none⟩)) (by kernel_rfl) (by kernel_rfl) (by kernel_rfl) (fun _ _ _ _ h => h) (by kernel_rfl) (fun _ => by kernel_rfl) ⟨ca, cb⟩ ?_
  refine rg_pure 6 rfl (.pointer (some ⟨b, 0, none⟩)) (by kernel_rfl) (by kernel_rfl) (by kernel_rfl) (fun _ _ _ _ h => h) (by kernel_rfl) (fun _ => by kernel_rfl) ⟨ca, cb⟩ ?_
  refine rg_pure 7 rfl (.pointer (some ⟨b, 0, none⟩)) (by kernel_rfl) (by kernel_rfl) (by kernel_rfl) (fun _ _ _ _ h => h) (by kernel_rfl) (fun _ => by kernel_rfl) ⟨ca, cb⟩ ?_
  refine rg_load 8 rfl (by kernel_rfl) (by kernel_rfl) (by kernel_rfl) (fun _ _ _ _ h => h) (by kernel_rfl) _ _ rfl Tryd.underlying64 rfl ⟨b, 0, none⟩ (.slice (some ⟨Gb, 0, none⟩) nb nb) (by kernel_rfl) (fun w h => h.2) ⟨ca, cb⟩ ?_
  refine rg_pure 9 rfl (.int .i64 (nb : Int)) (by kernel_rfl) (by kernel_rfl) (by kernel_rfl) (fun _ _ _ _ h => h) (by kernel_rfl) (fun _ => by kernel_rfl) ⟨ca, cb⟩ ?_
  refine rg_pure 10 rfl (.int .i64 (n : Int)) (by kernel_rfl) (by kernel_rfl) (by kernel_rfl) (fun _ _ _ _ h => h) (by kernel_rfl) (exec_minI _ _ _ rfl (na : Int) (nb : Int) (n : Int) hmin (by kernel_rfl) (by kernel_rfl)) ⟨ca, cb⟩ ?_
  refine rg_call 11 (by kernel_rfl) rfl (by kernel_rfl) 41 #[.int .i64 (n : Int)] (by kernel_rfl) (newR n n w.drew (by omega) (by omega) (by omega)) ?_
  rintro e w1 ⟨s, G, rfl, hs, hG, hst, hb1⟩
  have hcc : w1.cell? ⟨a, 0, none⟩ = some (.slice (some ⟨Ga, 0, none⟩) na na) ∧ w1.cell? ⟨b, 0, none⟩ = some (.slice (some ⟨Gb, 0, none⟩) nb nb) := ⟨(hb1.cell (p := ⟨a, 0, none⟩) A.out.alt).trans ca, (hb1.cell (p := ⟨b, 0, none⟩) B.out.alt).trans cb⟩
  refine ⟨_, rfl, hcc, ?_⟩
  refine rg_pure 12 rfl (.pointer (some ⟨s, 0, none⟩)) (by kernel_rfl) (by kernel_rfl) (by kernel_rfl) (fun _ _ _ _ h => h) (by kernel_rfl) (fun _ => by kernel_rfl) hcc ?_
  refine wpAnyH_done (by kernel_rfl) ?_ _
  clear hcc
  clear ca cb hmin
  have hbd : Below w.heap.size w w1 := thenBelow (Below.refl _ _).drew hb1
  have B1 := Lib.hid hbd; have R1 := Lib.hid hst
  have hG' : w.heap.size ≤ G := hG; have hs' : w.heap.size ≤ s := hs
  have c0 := hst.c0
  clear hst hb1 hbd
  go_wp2
  clear c0
  go_loopw [28] (fun i wr => ∃ k : Nat, k ≤ n ∧ i = .int .i64 k ∧ RSt wr s G n (upTo (fun i => fa i && fb i) k) ∧ Below w.heap.size w wr) (fun i _ => n - (intOf i).toNat)
  case atStart => exact ⟨0, Nat.zero_le _, rfl, by (have e : upTo (fun i => fa i && fb i) 0 = fun _ => false := (by funext i; simp [upTo])); rw [e]; exact R1.out, B1.out⟩
  case round =>
    obtain ⟨k, hk, rfl, hrs, hb⟩ := hrel
    have R := Lib.hid hrs; have BB := Lib.hid hb
    have c0 := hrs.c0
    clear hrs hb
    by_cases hlt : k < n
    · have hlt' : (k : Int) < n := by omega
      have hka : (k : Int) < na := by omega
      have hkb : (k : Int) < nb := by omega
      have ca := (A.out.below BB.out).c0
      have cb := (B.out.below BB.out).c0
      have xa := (A.out.below BB.out).cell k (by omega)
      have xb := (B.out.below BB.out).cell k (by omega)
      have xo := R.out.cell k hlt
      have fo := R.out.free k
      have T : ∀ v, v = (fun i => fa i && fb i) k → RSt (wr.setCell ⟨G, k, none⟩ (.bool v)) s G n (upTo (fun i => fa i && fb i) (k + 1)) ∧ Below w.heap.size w (wr.setCell ⟨G, k, none⟩ (.bool v)) := fun v hv => by
        subst hv
        refine ⟨?_, BB.out.grown (grown_setCell _ _ _ _) BB.out.size (fun j hj => by have := Option.some.inj hj; omega)⟩
        rw [upTo_turn]
        exact R.out.turn k _ hlt
      have TT := Lib.hid T
      clear T
      generalize upTo (fun i => fa i && fb i) k k = o at xo
      cases hx : fa k <;> cases hy : fb k
      all_goals
        rw [hx] at xa; rw [hy] at xb
        have T0 := TT.out _ rfl
        simp only [hx, hy, Bool.and_true, Bool.and_false, Bool.or_true, Bool.or_false, Bool.not_true, Bool.not_false] at T0
        have T1 := Lib.hid T0
        clear TT T0 hx hy
        go_wp2
        go_roundw
        case rel => exact ⟨k + 1, by omega, by go_num, T1.out.1, T1.out.2⟩
        case measure => simp [intOf]; omega
    · obtain rfl : k = n := by omega
      have hlt' : ¬ (k : Int) < k := by omega
      go_wp2
      go_ret
      exact ⟨s, G, rfl, hs', hG', R.out, BB.out⟩

set_option maxHeartbeats 4000000 in
set_option maxRecDepth 100000 in
theorem bothOr_is (a Ga na b Gb nb : Nat) (fa fb : Nat → Bool) (w : World) (h1 : RSt w a Ga na fa) (h2 : RSt w b Gb nb fb) :
    Calls Tryd.prog 24 #[.pointer (some ⟨a, 0, none⟩), .pointer (some ⟨b, 0, none⟩), .int .i64 1] w (RBlended w (min na nb) (upTo (fun i => fa i || fb i) (min na nb))) := by
  have A := Lib.hid h1; have B := Lib.hid h2
  obtain ⟨n, hn⟩ : ∃ n, n = min na nb := ⟨_, rfl⟩
  have hn6 : n ≤ 65536 := by have := h1.le; omega
  have hna : n ≤ na := by omega
  have hnb : n ≤ nb := by omega
  have hle1 := h1.le; have hle2 := h2.le
  have hmin : min (na : Int) (nb : Int) = (n : Int) := by omega
  rw [← hn]
  clear h1 h2 hn
  go_enter Tryd.func24, Tryd.ntmps24
  go_wp2
  have ca : w.drew.cell? ⟨a, 0, none⟩ = some (.slice (some ⟨Ga, 0, none⟩) na na) := A.out.c0
  have cb : w.drew.cell? ⟨b, 0, none⟩ = some (.slice (some ⟨Gb, 0, none⟩) nb nb) := B.out.c0
  refine rg_start (n := 13) (S := fun w' => w'.cell? ⟨a, 0, none⟩ = some (.slice (some ⟨Ga, 0, none⟩) na na) ∧ w'.cell? ⟨b, 0, none⟩ = some (.slice (some ⟨Gb, 0, none⟩) nb nb)) (by kernel_rfl) rfl ⟨ca, cb⟩ ?_
  refine rg_pure 0 rfl (.pointer (some ⟨a, 0, none⟩)) (by kernel_rfl) (by kernel_rfl) (by kernel_rfl) (fun _ _ _ _ h => h) (by kernel_rfl) (fun _ => by kernel_rfl) ⟨ca, cb⟩ ?_
  refine rg_pure 1 rfl (.pointer (some ⟨a, 0, none⟩)) (by kernel_rfl) (by kernel_rfl) (by kernel_rfl) (fun _ _ _ _ h => h) (by kernel_rfl) (fun _ => by kernel_rfl) ⟨ca, cb⟩ ?_
  refine rg_pure 2 rfl (.pointer (some ⟨a, 0, none⟩)) (by kernel_rfl) (by kernel_rfl) (by kernel_rfl) (fun _ _ _ _ h => h) (by kernel_rfl) (fun _ => by kernel_rfl) ⟨ca, cb⟩ ?_
  refine rg_load 3 rfl (by kernel_rfl) (by kernel_rfl) (by kernel_rfl) (fun _ _ _ _ h => h) (by kernel_rfl) _ _ rfl Tryd.underlying64 rfl ⟨a, 0, none⟩ (.slice (some ⟨Ga, 0, none⟩) na na) (by kernel_rfl) (fun w h => h.1) ⟨ca, cb⟩ ?_
  refine rg_pure 4 rfl (.int .i64 (na : Int)) (by kernel_rfl) (by kernel_rfl) (by kernel_rfl) (fun _ _ _ _ h => h) (by kernel_rfl) (fun _ => by kernel_rfl) ⟨ca, cb⟩ ?_
  refine rg_pure 5 rfl (.pointer (some ⟨b, 0, none⟩)) (by kernel_rfl) (by kernel_rfl) (by kernel_rfl) (fun _ _ _ _ h => h) (by kernel_rfl) (fun _ => by kernel_rfl) ⟨ca, cb⟩ ?_
  refine rg_pure 6 rfl (.pointer (some ⟨b, 0, none⟩)) (by kernel_rfl) (by kernel_rfl) (by kernel_rfl) (fun _ _ _ _ h => h) (by kernel_rfl) (fun _ => by kernel_rfl) ⟨ca, cb⟩ ?_
  refine rg_pure 7 rfl (.pointer (some ⟨b, 0, none⟩)) (by kernel_rfl) (by kernel_rfl) (by kernel_rfl) (fun _ _ _ _ h => h) (by kernel_rfl) (fun _ => by kernel_rfl) ⟨ca, cb⟩ ?_
  refine rg_load 8 rfl (by kernel_rfl) (by kernel_rfl) (by kernel_rfl) (fun _ _ _ _ h => h) (by kernel_rfl) _ _ rfl Tryd.underlying64 rfl ⟨b, 0, none⟩ (.slice (some ⟨Gb, 0, none⟩) nb nb) (by kernel_rfl) (fun w h => h.2) ⟨ca, cb⟩ ?_
  refine rg_pure 9 rfl (.int .i64 (nb : Int)) (by kernel_rfl) (by kernel_rfl) (by kernel_rfl) (fun _ _ _ _ h => h) (by kernel_rfl) (fun _ => by kernel_rfl) ⟨ca, cb⟩ ?_
  refine rg_pure 10 rfl (.int .i64 (n : Int)) (by kernel_rfl) (by kernel_rfl) (by kernel_rfl) (fun _ _ _ _ h => h) (by kernel_rfl) (exec_minI _ _ _ rfl (na : Int) (nb : Int) (n : Int) hmin (by kernel_rfl) (by kernel_rfl)) ⟨ca, cb⟩ ?_
  refine rg_call 11 (by kernel_rfl) rfl (by kernel_rfl) 41 #[.int .i64 (n : Int)] (by kernel_rfl) (newR n n w.drew (by omega) (by omega) (by omega)) ?_
  rintro e w1 ⟨s, G, rfl, hs, hG, hst, hb1⟩
  have hcc : w1.cell? ⟨a, 0, none⟩ = some (.slice (some ⟨Ga, 0, none⟩) na na) ∧ w1.cell? ⟨b, 0, none⟩ = some (.slice (some ⟨Gb, 0, none⟩) nb nb) := ⟨(hb1.cell (p := ⟨a, 0, none⟩) A.out.alt).trans ca, (hb1.cell (p := ⟨b, 0, none⟩) B.out.alt).trans cb⟩
  refine ⟨_, rfl, hcc, ?_⟩
  refine rg_pure 12 rfl (.pointer (some ⟨s, 0, none⟩)) (by kernel_rfl) (by kernel_rfl) (by kernel_rfl) (fun _ _ _ _ h => h) (by kernel_rfl) (fun _ => by kernel_rfl) hcc ?_
  refine wpAnyH_done (by kernel_rfl) ?_ _
  clear hcc
  clear ca cb hmin
  have hbd : Below w.heap.size w w1 := thenBelow (Below.refl _ _).drew hb1
  have B1 := Lib.hid hbd; have R1 := Lib.hid hst
  have hG' : w.heap.size ≤ G := hG; have hs' : w.heap.size ≤ s := hs
  have c0 := hst.c0
  clear hst hb1 hbd
  go_wp2
  clear c0
  go_loopw [28] (fun i wr => ∃ k : Nat, k ≤ n ∧ i = .int .i64 k ∧ RSt wr s G n (upTo (fun i => fa i || fb i) k) ∧ Below w.heap.size w wr) (fun i _ => n - (intOf i).toNat)
  case atStart => exact ⟨0, Nat.zero_le _, rfl, by (have e : upTo (fun i => fa i || fb i) 0 = fun _ => false := (by funext i; simp [upTo])); rw [e]; exact R1.out, B1.out⟩
  case round =>
    obtain ⟨k, hk, rfl, hrs, hb⟩ := hrel
    have R := Lib.hid hrs; have BB := Lib.hid hb
    have c0 := hrs.c0
    clear hrs hb
    by_cases hlt : k < n
    · have hlt' : (k : Int) < n := by omega
      have hka : (k : Int) < na := by omega
      have hkb : (k : Int) < nb := by omega
      have ca := (A.out.below BB.out).c0
      have cb := (B.out.below BB.out).c0
      have xa := (A.out.below BB.out).cell k (by omega)
      have xb := (B.out.below BB.out).cell k (by omega)
      have xo := R.out.cell k hlt
      have fo := R.out.free k
      have T : ∀ v, v = (fun i => fa i || fb i) k → RSt (wr.setCell ⟨G, k, none⟩ (.bool v)) s G n (upTo (fun i => fa i || fb i) (k + 1)) ∧ Below w.heap.size w (wr.setCell ⟨G, k, none⟩ (.bool v)) := fun v hv => by
        subst hv
        refine ⟨?_, BB.out.grown (grown_setCell _ _ _ _) BB.out.size (fun j hj => by have := Option.some.inj hj; omega)⟩
        rw [upTo_turn]
        exact R.out.turn k _ hlt
      have TT := Lib.hid T
      clear T
      generalize upTo (fun i => fa i || fb i) k k = o at xo
      cases hx : fa k <;> cases hy : fb k
      all_goals
        rw [hx] at xa; rw [hy] at xb
        have T0 := TT.out _ rfl
        simp only [hx, hy, Bool.and_true, Bool.and_false, Bool.or_true, Bool.or_false, Bool.not_true, Bool.not_false] at T0
        have T1 := Lib.hid T0
        clear TT T0 hx hy
        go_wp2
        go_roundw
        case rel => exact ⟨k + 1, by omega, by go_num, T1.out.1, T1.out.2⟩
        case measure => simp [intOf]; omega
    · obtain rfl : k = n := by omega
      have hlt' : ¬ (k : Int) < k := by omega
      go_wp2
      go_ret
      exact ⟨s, G, rfl, hs', hG', R.out, BB.out⟩

set_option maxHeartbeats 4000000 in
set_option maxRecDepth 100000 in
theorem bothLess_is (a Ga na b Gb nb : Nat) (fa fb : Nat → Bool) (w : World) (h1 : RSt w a Ga na fa) (h2 : RSt w b Gb nb fb) :
    Calls Tryd.prog 24 #[.pointer (some ⟨a, 0, none⟩), .pointer (some ⟨b, 0, none⟩), .int .i64 2] w (RBlended w (min na nb) (upTo (fun i => fa i && !fb i) (min na nb))) := by
  have A := Lib.hid h1; have B := Lib.hid h2
  obtain ⟨n, hn⟩ : ∃ n, n = min na nb := ⟨_, rfl⟩
  have hn6 : n ≤ 65536 := by have := h1.le; omega
  have hna : n ≤ na := by omega
  have hnb : n ≤ nb := by omega
  have hle1 := h1.le; have hle2 := h2.le
  have hmin : min (na : Int) (nb : Int) = (n : Int) := by omega
  rw [← hn]
  clear h1 h2 hn
  go_enter Tryd.func24, Tryd.ntmps24
  go_wp2
  have ca : w.drew.cell? ⟨a, 0, none⟩ = some (.slice (some ⟨Ga, 0, none⟩) na na) := A.out.c0
  have cb : w.drew.cell? ⟨b, 0, none⟩ = some (.slice (some ⟨Gb, 0, none⟩) nb nb) := B.out.c0
  refine rg_start (n := 13) (S := fun w' => w'.cell? ⟨a, 0, none⟩ = some (.slice (some ⟨Ga, 0, none⟩) na na) ∧ w'.cell? ⟨b, 0, none⟩ = some (.slice (some ⟨Gb, 0, none⟩) nb nb)) (by kernel_rfl) rfl ⟨ca, cb⟩ ?_
  refine rg_pure 0 rfl (.pointer (some ⟨a, 0, none⟩)) (by kernel_rfl) (by kernel_rfl) (by kernel_rfl) (fun _ _ _ _ h => h) (by kernel_rfl) (fun _ => by kernel_rfl) ⟨ca, cb⟩ ?_
  refine rg_pure 1 rfl (.pointer (some ⟨a, 0, none⟩)) (by kernel_rfl) (by kernel_rfl) (by kernel_rfl) (fun _ _ _ _ h => h) (by kernel_rfl) (fun _ => by kernel_rfl) ⟨ca, cb⟩ ?_
  refine rg_pure 2 rfl (.pointer (some ⟨a, 0, none⟩)) (by kernel_rfl) (by kernel_rfl) (by kernel_rfl) (fun _ _ _ _ h => h) (by kernel_rfl) (fun _ => by kernel_rfl) ⟨ca, cb⟩ ?_
  refine rg_load 3 rfl (by kernel_rfl) (by kernel_rfl) (by kernel_rfl) (fun _ _ _ _ h => h) (by kernel_rfl) _ _ rfl Tryd.underlying64 rfl ⟨a, 0, none⟩ (.slice (some ⟨Ga, 0, none⟩) na na) (by kernel_rfl) (fun w h => h.1) ⟨ca, cb⟩ ?_
  refine rg_pure 4 rfl (.int .i64 (na : Int)) (by kernel_rfl) (by kernel_rfl) (by kernel_rfl) (fun _ _ _ _ h => h) (by kernel_rfl) (fun _ => by kernel_rfl) ⟨ca, cb⟩ ?_
  refine rg_pure 5 rfl (.pointer (some ⟨b, 0, none⟩)) (by kernel_rfl) (by kernel_rfl) (by kernel_rfl) (fun _ _ _ _ h => h) (by kernel_rfl) (fun _ => by kernel_rfl) ⟨ca, cb⟩ ?_
  refine rg_pure 6 rfl (.pointer (some ⟨b, 0, none⟩)) (by kernel_rfl) (by kernel_rfl) (by kernel_rfl) (fun _ _ _ _ h => h) (by kernel_rfl) (fun _ => by kernel_rfl) ⟨ca, cb⟩ ?_
  refine rg_pure 7 rfl (.pointer (some ⟨b, 0, none⟩)) (by kernel_rfl) (by kernel_rfl) (by kernel_rfl) (fun _ _ _ _ h => h) (by kernel_rfl) (fun _ => by kernel_rfl) ⟨ca, cb⟩ ?_
  refine rg_load 8 rfl (by kernel_rfl) (by kernel_rfl) (by kernel_rfl) (fun _ _ _ _ h => h) (by kernel_rfl) _ _ rfl Tryd.underlying64 rfl ⟨b, 0, none⟩ (.slice (some ⟨Gb, 0, none⟩) nb nb) (by kernel_rfl) (fun w h => h.2) ⟨ca, cb⟩ ?_
  refine rg_pure 9 rfl (.int .i64 (nb : Int)) (by kernel_rfl) (by kernel_rfl) (by kernel_rfl) (fun _ _ _ _ h => h) (by kernel_rfl) (fun _ => by kernel_rfl) ⟨ca, cb⟩ ?_
  refine rg_pure 10 rfl (.int .i64 (n : Int)) (by kernel_rfl) (by kernel_rfl) (by kernel_rfl) (fun _ _ _ _ h => h) (by kernel_rfl) (exec_minI _ _ _ rfl (na : Int) (nb : Int) (n : Int) hmin (by kernel_rfl) (by kernel_rfl)) ⟨ca, cb⟩ ?_
  refine rg_call 11 (by kernel_rfl) rfl (by kernel_rfl) 41 #[.int .i64 (n : Int)] (by kernel_rfl) (newR n n w.drew (by omega) (by omega) (by omega)) ?_
  rintro e w1 ⟨s, G, rfl, hs, hG, hst, hb1⟩
  have hcc : w1.cell? ⟨a, 0, none⟩ = some (.slice (some ⟨Ga, 0, none⟩) na na) ∧ w1.cell? ⟨b, 0, none⟩ = some (.slice (some ⟨Gb, 0, none⟩) nb nb) := ⟨(hb1.cell (p := ⟨a, 0, none⟩) A.out.alt).trans ca, (hb1.cell (p := ⟨b, 0, none⟩) B.out.alt).trans cb⟩
  refine ⟨_, rfl, hcc, ?_⟩
  refine rg_pure 12 rfl (.pointer (some ⟨s, 0, none⟩)) (by kernel_rfl) (by kernel_rfl) (by kernel_rfl) (fun _ _ _ _ h => h) (by kernel_rfl) (fun _ => by kernel_rfl) hcc ?_
  refine wpAnyH_done (by kernel_rfl) ?_ _
  clear hcc
  clear ca cb hmin
  have hbd : Below w.heap.size w w1 := thenBelow (Below.refl _ _).drew hb1
  have B1 := Lib.hid hbd; have R1 := Lib.hid hst
  have hG' : w.heap.size ≤ G := hG; have hs' : w.heap.size ≤ s := hs
  have c0 := hst.c0
  clear hst hb1 hbd
  go_wp2
  clear c0
  go_loopw [28] (fun i wr => ∃ k : Nat, k ≤ n ∧ i = .int .i64 k ∧ RSt wr s G n (upTo (fun i => fa i && !fb i) k) ∧ Below w.heap.size w wr) (fun i _ => n - (intOf i).toNat)
  case atStart => exact ⟨0, Nat.zero_le _, rfl, by (have e : upTo (fun i => fa i && !fb i) 0 = fun _ => false := (by funext i; simp [upTo])); rw [e]; exact R1.out, B1.out⟩
  case round =>
    obtain ⟨k, hk, rfl, hrs, hb⟩ := hrel
    have R := Lib.hid hrs; have BB := Lib.hid hb
    have c0 := hrs.c0
    clear hrs hb
    by_cases hlt : k < n
    · have hlt' : (k : Int) < n := by omega
      have hka : (k : Int) < na := by omega
      have hkb : (k : Int) < nb := by omega
      have ca := (A.out.below BB.out).c0
      have cb := (B.out.below BB.out).c0
      have xa := (A.out.below BB.out).cell k (by omega)
      have xb := (B.out.below BB.out).cell k (by omega)
      have xo := R.out.cell k hlt
      have fo := R.out.free k
      have T : ∀ v, v = (fun i => fa i && !fb i) k → RSt (wr.setCell ⟨G, k, none⟩ (.bool v)) s G n (upTo (fun i => fa i && !fb i) (k + 1)) ∧ Below w.heap.size w (wr.setCell ⟨G, k, none⟩ (.bool v)) := fun v hv => by
        subst hv
        refine ⟨?_, BB.out.grown (grown_setCell _ _ _ _) BB.out.size (fun j hj => by have := Option.some.inj hj; omega)⟩
        rw [upTo_turn]
        exact R.out.turn k _ hlt
      have TT := Lib.hid T
      clear T
      generalize upTo (fun i => fa i && !fb i) k k = o at xo
      cases hx : fa k <;> cases hy : fb k
      all_goals
        rw [hx] at xa; rw [hy] at xb
        have T0 := TT.out _ rfl
        simp only [hx, hy, Bool.and_true, Bool.and_false, Bool.or_true, Bool.or_false, Bool.not_true, Bool.not_false] at T0
        have T1 := Lib.hid T0
        clear TT T0 hx hy
        go_wp2
        go_roundw
        case rel => exact ⟨k + 1, by omega, by go_num, T1.out.1, T1.out.2⟩
        case measure => simp [intOf]; omega
    · obtain rfl : k = n := by omega
      have hlt' : ¬ (k : Int) < k := by omega
      go_wp2
      go_ret
      exact ⟨s, G, rfl, hs', hG', R.out, BB.out⟩
end Go.Proofs.YtmblkccfgncngaaDoor
