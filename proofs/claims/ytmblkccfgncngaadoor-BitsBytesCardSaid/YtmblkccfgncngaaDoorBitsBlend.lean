/- And, Or, Less of two sets: blend. -/
import Derived.Test.YtmblkccfgncngaaDoorBitsNext2
namespace Go.Proofs.YtmblkccfgncngaaDoor
open Go Go.RowKit
set_option linter.unusedVariables false

theorem sizeW (w : World) : (sizeOf (Tryd.prog.elem 56)).run Tryd.prog w = .ok 1 w := by kernel_rfl
/-- a set as it lies, what stands beyond its size let be -/
structure Raw (w : World) (a G n : Nat) (f : Nat → Bool) : Prop where
  c0 : w.cell? ⟨a, 0, none⟩ = some (.int .i64 n)
  c1 : w.cell? ⟨a, 1, none⟩ = some (.slice (some ⟨G, 0, none⟩) (wcount n) (wcount n))
  words : w.heap[G]? = some (.cells (wcells n f) 67 (0, 0))
  ne : a ≠ G
theorem St.raw {w : World} {a G n : Nat} {f : Nat → Bool} (h : St w a G n f) : Raw w a G n f := ⟨h.c0, h.c1, h.words, h.ne⟩
theorem Raw.free {w : World} {a G n : Nat} {f : Nat → Bool} (h : Raw w a G n f) (j : Nat) : w.frozen? ⟨G, j, none⟩ = false := by simp [World.frozen?, h.words]
theorem Raw.cell {w : World} {a G n : Nat} {f : Nat → Bool} (h : Raw w a G n f) (j : Nat) (hj : j < wcount n) : w.cell? ⟨G, j, none⟩ = some (.int .u64 ((Bit.word f j : Nat) : Int)) := by
  rw [cell_of_row w G j _ _ _ h.words, wcells_get n f j hj]
/-- a word written -/
theorem Raw.put {w : World} {a G n : Nat} {f g : Nat → Bool} (h : Raw w a G n f) (k : Nat) (hk : k < wcount n) (hg : ∀ j, j ≠ k → Bit.word g j = Bit.word f j) : Raw (w.setCell ⟨G, k, none⟩ (.int .u64 ((Bit.word g k : Nat) : Int))) a G n g := by
  have hgr := grown_setCell w G k (.int .u64 ((Bit.word g k : Nat) : Int))
  have hne : some a ≠ some G := fun e => h.ne (Option.some.inj e)
  refine ⟨hgr.cell h.c0 hne, hgr.cell h.c1 hne, ?_, h.ne⟩
  rw [heap_setCell_row h.words]
  congr 2
  apply Array.ext_getElem?
  intro j
  rw [Array.getElem?_setIfInBounds]
  by_cases hj : k = j
  · subst hj
    rw [if_pos rfl, if_pos (by rw [wcells_size]; exact hk), wcells_get n _ _ hk]
  · rw [if_neg hj]
    by_cases hw : j < wcount n
    · rw [wcells_get n f j hw, wcells_get n _ j hw, hg j (fun e => hj e.symm)]
    · rw [Array.getElem?_eq_none (by rw [wcells_size]; omega), Array.getElem?_eq_none (by rw [wcells_size]; omega)]
theorem Raw.put2 {w : World} {a G n : Nat} {f g : Nat → Bool} (h : Raw w a G n f) (k : Nat) (hk : k < wcount n) (hg : ∀ j, j ≠ k → j < wcount n → Bit.word g j = Bit.word f j) : Raw (w.setCell ⟨G, k, none⟩ (.int .u64 ((Bit.word g k : Nat) : Int))) a G n g := by
  have hgr := grown_setCell w G k (.int .u64 ((Bit.word g k : Nat) : Int))
  have hne : some a ≠ some G := fun e => h.ne (Option.some.inj e)
  refine ⟨hgr.cell h.c0 hne, hgr.cell h.c1 hne, ?_, h.ne⟩
  rw [heap_setCell_row h.words]
  congr 2
  apply Array.ext_getElem?
  intro j
  rw [Array.getElem?_setIfInBounds]
  by_cases hj : k = j
  · subst hj
    rw [if_pos rfl, if_pos (by rw [wcells_size]; exact hk), wcells_get n _ _ hk]
  · rw [if_neg hj]
    by_cases hw : j < wcount n
    · rw [wcells_get n f j hw, wcells_get n _ j hw, hg j (fun e => hj e.symm) hw]
    · rw [Array.getElem?_eq_none (by rw [wcells_size]; omega), Array.getElem?_eq_none (by rw [wcells_size]; omega)]
theorem Raw.drew {w : World} {a G n : Nat} {f : Nat → Bool} (h : Raw w a G n f) : Raw w.drew a G n f := ⟨h.c0, h.c1, h.words, h.ne⟩
/-- what a closure tells of two words -/
def Tells (F : FuncId) (op : Nat → Nat → Nat) (g : Bool → Bool → Bool) : Prop :=
  (∀ x y, x < 18446744073709551616 → y < 18446744073709551616 → op x y < 18446744073709551616 ∧ ∀ i, i < 64 → (op x y).testBit i = g (x.testBit i) (y.testBit i)) ∧
  (∀ x y (w : World), x < 18446744073709551616 → y < 18446744073709551616 → Calls Tryd.prog F #[.int .u64 (x : Nat), .int .u64 (y : Nat)] w fun e w' => e = .returned (.int .u64 (op x y : Nat)) ∧ w = w') ∧
  (∀ x y (w : World), (callFunc F #[.int .u64 x, .int .u64 y]).run Tryd.prog w = .ok (.enter F #[.int .u64 x, .int .u64 y]) w)
theorem exec_closure {P : Program} {o : Oper} {a : Act} {w : World} (f : Operand) (xs : Array Operand) (tys : Array TypeId) (ho : o.op = .call { callee := .value f, args := xs, argTypes := tys }) (F : FuncId) (hf : a.eval f = .func (.func F) #[] #[]) (args : Array Value) (hargs : xs.map a.eval = args)
    (hc : (callFunc F args).run P w = .ok (.enter F args) w) : (execOp a.eval o).run P w = .ok (.enter F args) w := by
  unfold execOp
  simp only [ho]
  unfold resolve
  simp only [hf, hargs]
  simp [Deferred.ofValue, invoke, hc, Sem.run_bind]
/-- what is told up to a number -/
def upTo (f : Nat → Bool) (m : Nat) : Nat → Bool := fun i => f i && decide (i < m)
theorem upTo_word (f : Nat → Bool) (k j : Nat) (h : j ≠ k) : Bit.word (upTo f (64 * (k + 1))) j = Bit.word (upTo f (64 * k)) j :=
  Bit.word_congr fun i hi => by
    unfold upTo
    by_cases h1 : 64 * j + i < 64 * k
    · simp [h1, show 64 * j + i < 64 * (k + 1) by omega]
    · simp [h1, show ¬ 64 * j + i < 64 * (k + 1) by omega]
theorem upTo_last (f : Nat → Bool) (k : Nat) : Bit.word (upTo f (64 * (k + 1))) k = Bit.word f k :=
  Bit.word_congr fun i hi => by unfold upTo; simp [show 64 * k + i < 64 * (k + 1) by omega]
theorem tells_word {F : FuncId} {op : Nat → Nat → Nat} {g : Bool → Bool → Bool} (T : Tells F op g) (fa fb : Nat → Bool) (k : Nat) : op (Bit.word fa k) (Bit.word fb k) = Bit.word (fun i => g (fa i) (fb i)) k := by
  obtain ⟨h1, h2⟩ := T.1 _ _ (Bit.word_lt fa k) (Bit.word_lt fb k)
  refine Bit.word_of h1 fun i hi => ?_
  rw [h2 i hi, Bit.word_bit, Bit.word_bit]
  simp [hi]
theorem exec_storeI {P : Program} {o : Oper} {a : Act} {w : World} (t : TypeId) (x y : Operand) (ho : o.op = .store t x y) (hsz : ∀ w : World, (sizeOf t).run P w = .ok 1 w) (p : Addr) (k : IntKind) (v : Int) (old : Value) (hx : a.eval x = .pointer (some p)) (hy : a.eval y = .int k v)
    (hc : w.cell? p = some old) (hf : w.frozen? p = false) : (execOp a.eval o).run P w = .ok .skip (w.setCell p (.int k v)) := by
  unfold execOp
  simp only [ho, hx, hy]
  have hs := hsz w
  go_simp
theorem sizeW1 (w : World) : (sizeOf 67).run Tryd.prog w = .ok 1 w := by kernel_rfl

theorem exec_sub {P : Program} {o : Oper} {a : Act} (t yt : TypeId) (x y : Operand) (ho : o.op = .binOp .sub t x y yt) (X Y R : Int) (hR : IntKind.i64.wrap (X - Y) = R) (hx : a.eval x = .int .i64 X) (hy : a.eval y = .int .i64 Y) (w : World) :
    (execOp a.eval o).run P w = .ok (.value (.int .i64 R)) w := by
  subst hR
  unfold execOp
  simp only [ho, hx, hy]
  rfl
theorem exec_andN {P : Program} {o : Oper} {a : Act} (t yt : TypeId) (x y : Operand) (ho : o.op = .binOp .and t x y yt) (X Y R : Nat) (hX : X < 18446744073709551616) (hY : Y < 18446744073709551616) (hR : X &&& Y = R) (hx : a.eval x = .int .u64 (X : Int)) (hy : a.eval y = .int .u64 (Y : Int)) (w : World) :
    (execOp a.eval o).run P w = .ok (.value (.int .u64 (R : Int))) w := by
  subst hR
  rw [← u64_andN X Y hX hY]
  unfold execOp
  simp only [ho, hx, hy]
  rfl
def Blended (w : World) (n : Nat) (f : Nat → Bool) (e : Ending) (w' : World) : Prop :=
  ∃ a G, e = .returned (.pointer (some ⟨a, 0, none⟩)) ∧ w.heap.size ≤ a ∧ w.heap.size ≤ G ∧ St w' a G n f ∧ Below w.heap.size w w'

set_option maxHeartbeats 4000000 in
set_option maxRecDepth 100000 in
theorem blend_is (F : FuncId) (op : Nat → Nat → Nat) (g : Bool → Bool → Bool) (hT : Tells F op g) (hg0 : g false false = false) (a Ga na b Gb nb : Nat) (fa fb : Nat → Bool) (w : World) (h1 : St w a Ga na fa) (h2 : St w b Gb nb fb) :
    Calls Tryd.prog 48 #[.pointer (some ⟨a, 0, none⟩), .pointer (some ⟨b, 0, none⟩), .func (.func F) #[] #[]] w (Blended w (min na nb) (upTo (fun i => g (fa i) (fb i)) (min na nb))) := by
  have T := Lib.hid hT
  have A := Lib.hid h1; have B := Lib.hid h2
  have Z1 := Lib.hid h1.sized.calls; have Z2 := Lib.hid h2.sized.calls
  obtain ⟨n, hn⟩ : ∃ n, n = min na nb := ⟨_, rfl⟩
  have hn6 : n ≤ 65536 := by have := h1.le; omega
  have hna : n ≤ na := by omega
  have hnb : n ≤ nb := by omega
  have N := Lib.hid (newSet n n w (by omega) (by omega) (by omega))
  have key : (na ≤ nb ∧ (na : Int) = n) ∨ (nb < na ∧ (nb : Int) = n) := by omega
  rw [← hn]
  clear h1 h2 hT hn
  go_enter Tryd.func48, Tryd.ntmps48
  go_wp2_with fail
  refine Z1.out.mono ?_
  rintro e w' ⟨rfl, rfl⟩
  go_wp2_with fail
  refine Z2.out.mono ?_
  rintro e w' ⟨rfl, rfl⟩
  clear Z1 Z2
  rcases key with ⟨k1, k2⟩ | ⟨k1, k2⟩
  all_goals
    have k1' := k1
    clear k1
    go_wp2_with fail
    try simp only [k2]
    clear k2 k1'
    refine N.out.mono ?_
    rintro e w1 ⟨s, G, rfl, hs, hG, hst, hb1⟩
    have B1 := Lib.hid hb1; have R1 := Lib.hid hst.raw
    have hwn : wcount n ≤ 1024 := by unfold wcount; omega
    have c1 := hst.c1
    clear hst hb1 N
    go_wp2
    clear c1
    go_loopw [21] (fun i wr => ∃ k : Nat, k ≤ wcount n ∧ i = .int .i64 k ∧ Raw wr s G n (upTo (fun i => g (fa i) (fb i)) (64 * k)) ∧ Below w.heap.size w wr) (fun i _ => wcount n - (intOf i).toNat)
    case atStart => exact ⟨0, Nat.zero_le _, rfl, by (have e : upTo (fun i => g (fa i) (fb i)) (64 * 0) = fun _ => false := (by funext i; simp [upTo])); rw [e]; exact R1.out, B1.out⟩
    case round =>
      obtain ⟨k, hk, rfl, hraw, hb⟩ := hrel
      have R := Lib.hid hraw; have BB := Lib.hid hb
      clear hraw hb
      by_cases hlt : k < wcount n
      · have hlt' : (k : Int) < wcount n := by omega
        go_wp2
        have A2 := A.out.below BB.out; have B2 := B.out.below BB.out
        have cs1 : wr.drew.cell? ⟨s, 1, none⟩ = some (.slice (some ⟨G, 0, none⟩) (wcount n) (wcount n)) := R.out.c1
        have ca1 : wr.drew.cell? ⟨a, 1, none⟩ = some (.slice (some ⟨Ga, 0, none⟩) (wcount na) (wcount na)) := A2.c1
        have cb1 : wr.drew.cell? ⟨b, 1, none⟩ = some (.slice (some ⟨Gb, 0, none⟩) (wcount nb) (wcount nb)) := B2.c1
        have hka : k < wcount na := by unfold wcount at *; omega
        have hkb : k < wcount nb := by unfold wcount at *; omega
        have hkn : k < wcount n := hlt
        have ca : wr.drew.cell? ⟨Ga, k, none⟩ = some (.int .u64 ((Bit.word fa k : Nat) : Int)) := A2.cell k hka
        have cb : wr.drew.cell? ⟨Gb, k, none⟩ = some (.int .u64 ((Bit.word fb k : Nat) : Int)) := B2.cell k hkb
        have nes : s ≠ G := R.out.ne
        have nea : a ≠ G := by have := A.out.alt; omega
        have neb : b ≠ G := by have := B.out.alt; omega
        have neGa : Ga ≠ G := by have := A.out.lt; omega
        have neGb : Gb ≠ G := by have := B.out.lt; omega
        have og := R.out.drew.cell k hlt
        have fg : wr.drew.frozen? ⟨G, k, none⟩ = false := R.out.drew.free k
        refine rg_start (n := 23) (S := fun w' => ∀ (p : Addr) v, p.block ≠ G → wr.drew.cell? p = some v → w'.cell? p = some v) (by kernel_rfl) rfl (fun _ _ _ h => h) ?_
        refine rg_pure 0 rfl (.pointer (some ⟨s, 0, none⟩)) (by kernel_rfl) (by kernel_rfl) (by kernel_rfl) (fun _ _ _ _ h => h) (by kernel_rfl) (fun _ => by kernel_rfl) (fun _ _ _ h => h) ?_
        refine rg_pure 1 rfl (.pointer (some ⟨s, 0, none⟩)) (by kernel_rfl) (by kernel_rfl) (by kernel_rfl) (fun _ _ _ _ h => h) (by kernel_rfl) (fun _ => by kernel_rfl) (fun _ _ _ h => h) ?_
        refine rg_pure 2 rfl (.pointer (some ⟨s, 1, none⟩)) (by kernel_rfl) (by kernel_rfl) (by kernel_rfl) (fun _ _ _ _ h => h) (by kernel_rfl) (fun _ => by kernel_rfl) (fun _ _ _ h => h) ?_
        refine rg_load 3 rfl (by kernel_rfl) (by kernel_rfl) (by kernel_rfl) (fun _ _ _ _ h => h) (by kernel_rfl) _ _ rfl Tryd.underlying56 rfl ⟨s, 1, none⟩ (.slice (some ⟨G, 0, none⟩) (wcount n) (wcount n)) (by kernel_rfl) (fun w h => h _ _ nes cs1) (fun _ _ _ h => h) ?_
        refine rg_pure 4 rfl (.int .i64 (k : Int)) (by kernel_rfl) (by kernel_rfl) (by kernel_rfl) (fun _ _ _ _ h => h) (by kernel_rfl) (fun _ => by kernel_rfl) (fun _ _ _ h => h) ?_
        refine rg_pure 5 rfl (.func (.func F) #[] #[]) (by kernel_rfl) (by kernel_rfl) (by kernel_rfl) (fun _ _ _ _ h => h) (by kernel_rfl) (fun _ => by kernel_rfl) (fun _ _ _ h => h) ?_
        refine rg_pure 6 rfl (.pointer (some ⟨a, 0, none⟩)) (by kernel_rfl) (by kernel_rfl) (by kernel_rfl) (fun _ _ _ _ h => h) (by kernel_rfl) (fun _ => by kernel_rfl) (fun _ _ _ h => h) ?_
        refine rg_pure 7 rfl (.pointer (some ⟨a, 0, none⟩)) (by kernel_rfl) (by kernel_rfl) (by kernel_rfl) (fun _ _ _ _ h => h) (by kernel_rfl) (fun _ => by kernel_rfl) (fun _ _ _ h => h) ?_
        refine rg_pure 8 rfl (.pointer (some ⟨a, 1, none⟩)) (by kernel_rfl) (by kernel_rfl) (by kernel_rfl) (fun _ _ _ _ h => h) (by kernel_rfl) (fun _ => by kernel_rfl) (fun _ _ _ h => h) ?_
        refine rg_load 9 rfl (by kernel_rfl) (by kernel_rfl) (by kernel_rfl) (fun _ _ _ _ h => h) (by kernel_rfl) _ _ rfl Tryd.underlying56 rfl ⟨a, 1, none⟩ (.slice (some ⟨Ga, 0, none⟩) (wcount na) (wcount na)) (by kernel_rfl) (fun w h => h _ _ nea ca1) (fun _ _ _ h => h) ?_
        refine rg_pure 10 rfl (.int .i64 (k : Int)) (by kernel_rfl) (by kernel_rfl) (by kernel_rfl) (fun _ _ _ _ h => h) (by kernel_rfl) (fun _ => by kernel_rfl) (fun _ _ _ h => h) ?_
        refine rg_index 11 rfl (by kernel_rfl) (by kernel_rfl) (by kernel_rfl) (fun _ _ _ _ h => h) (by kernel_rfl) _ _ _ rfl Tryd.underlying56 sizeW Ga 0 (wcount na) (wcount na) k (by kernel_rfl) (by kernel_rfl) hka (fun _ _ _ h => h) ?_
        rw [Nat.zero_add]
        refine rg_load 12 rfl (by kernel_rfl) (by kernel_rfl) (by kernel_rfl) (fun _ _ _ _ h => h) (by kernel_rfl) _ _ rfl Tryd.underlying67 rfl ⟨Ga, k, none⟩ (.int .u64 ((Bit.word fa k : Nat) : Int)) (by kernel_rfl) (fun w h => h _ _ neGa ca) (fun _ _ _ h => h) ?_
        refine rg_pure 13 rfl (.pointer (some ⟨b, 0, none⟩)) (by kernel_rfl) (by kernel_rfl) (by kernel_rfl) (fun _ _ _ _ h => h) (by kernel_rfl) (fun _ => by kernel_rfl) (fun _ _ _ h => h) ?_
        refine rg_pure 14 rfl (.pointer (some ⟨b, 0, none⟩)) (by kernel_rfl) (by kernel_rfl) (by kernel_rfl) (fun _ _ _ _ h => h) (by kernel_rfl) (fun _ => by kernel_rfl) (fun _ _ _ h => h) ?_
        refine rg_pure 15 rfl (.pointer (some ⟨b, 1, none⟩)) (by kernel_rfl) (by kernel_rfl) (by kernel_rfl) (fun _ _ _ _ h => h) (by kernel_rfl) (fun _ => by kernel_rfl) (fun _ _ _ h => h) ?_
        refine rg_load 16 rfl (by kernel_rfl) (by kernel_rfl) (by kernel_rfl) (fun _ _ _ _ h => h) (by kernel_rfl) _ _ rfl Tryd.underlying56 rfl ⟨b, 1, none⟩ (.slice (some ⟨Gb, 0, none⟩) (wcount nb) (wcount nb)) (by kernel_rfl) (fun w h => h _ _ neb cb1) (fun _ _ _ h => h) ?_
        refine rg_pure 17 rfl (.int .i64 (k : Int)) (by kernel_rfl) (by kernel_rfl) (by kernel_rfl) (fun _ _ _ _ h => h) (by kernel_rfl) (fun _ => by kernel_rfl) (fun _ _ _ h => h) ?_
        refine rg_index 18 rfl (by kernel_rfl) (by kernel_rfl) (by kernel_rfl) (fun _ _ _ _ h => h) (by kernel_rfl) _ _ _ rfl Tryd.underlying56 sizeW Gb 0 (wcount nb) (wcount nb) k (by kernel_rfl) (by kernel_rfl) hkb (fun _ _ _ h => h) ?_
        rw [Nat.zero_add]
        refine rg_load 19 rfl (by kernel_rfl) (by kernel_rfl) (by kernel_rfl) (fun _ _ _ _ h => h) (by kernel_rfl) _ _ rfl Tryd.underlying67 rfl ⟨Gb, k, none⟩ (.int .u64 ((Bit.word fb k : Nat) : Int)) (by kernel_rfl) (fun w h => h _ _ neGb cb) (fun _ _ _ h => h) ?_
        refine rg_call 20 (by kernel_rfl) rfl (by kernel_rfl) F #[.int .u64 ((Bit.word fa k : Nat) : Int), .int .u64 ((Bit.word fb k : Nat) : Int)] (exec_closure _ _ _ rfl F (by kernel_rfl) _ (by kernel_rfl) (T.out.2.2 _ _ _)) (T.out.2.1 _ _ _ (Bit.word_lt _ _) (Bit.word_lt _ _)) ?_
        rintro e w' ⟨rfl, rfl⟩
        refine ⟨_, rfl, (fun _ _ _ h => h), ?_⟩
        refine rg_index 21 rfl (by kernel_rfl) (by kernel_rfl) (by kernel_rfl) (fun _ _ _ _ h => h) (by kernel_rfl) _ _ _ rfl Tryd.underlying56 sizeW G 0 (wcount n) (wcount n) k (by kernel_rfl) (by kernel_rfl) hkn (fun _ _ _ h => h) ?_
        rw [Nat.zero_add]
        rw [tells_word T.out fa fb k, ← upTo_last (fun i => g (fa i) (fb i)) k]
        have R3 := R.out.drew.put k hlt (g := upTo (fun i => g (fa i) (fb i)) (64 * (k + 1))) (fun j hj => upTo_word _ k j hj)
        refine rg_do 22 (by kernel_rfl) rfl (by kernel_rfl) (wr.drew.setCell ⟨G, k, none⟩ (.int .u64 ((Bit.word (upTo (fun i => g (fa i) (fb i)) (64 * (k + 1))) k : Nat) : Int))) (exec_storeI _ _ _ rfl sizeW1 _ _ _ _ (by kernel_rfl) (by kernel_rfl) og fg) (fun p v hp h => by rw [World.cell?_setCell_far _ _ _ _ (fun e => hp e.symm)]; exact h) ?_
        have B3 : Hid (Below w.heap.size w (wr.drew.setCell ⟨G, k, none⟩ (.int .u64 ((Bit.word (upTo (fun i => g (fa i) (fb i)) (64 * (k + 1))) k : Nat) : Int)))) := BB.out.drew.grown (grown_setCell _ _ _ _) (by simpa using BB.out.size) (fun j hj => by have := Option.some.inj hj; omega)
        have R4 := Lib.hid R3
        generalize wr.drew.setCell ⟨G, k, none⟩ (.int .u64 ((Bit.word (upTo (fun i => g (fa i) (fb i)) (64 * (k + 1))) k : Nat) : Int)) = w4 at B3 R4 ⊢
        clear R3 og fg cs1 ca1 cb1 ca cb A2 B2
        refine wpAnyH_done (by kernel_rfl) ?_ _
        go_wp2
        go_roundw
        case rel => exact ⟨k + 1, by omega, by go_num, R4.out, B3.out⟩
        case measure => simp [intOf]; omega
      · obtain rfl : k = wcount n := by omega
        have hlt' : ¬ ((wcount n : Nat) : Int) < (wcount n : Nat) := by omega
        have HW := Lib.hid hlt'
        have c0 := R.out.c0
        obtain ⟨r, hr0⟩ : ∃ r, r = n % 64 := ⟨_, rfl⟩
        have hr : ((n : Nat) : Int) % 64 = (r : Int) := by omega
        have hr2 : ((n : Nat) : Int).tmod 64 = (r : Int) := by rw [Int.tmod_eq_emod_of_nonneg (by omega)]; omega
        by_cases hz : r = 0
        · have hW : 64 * wcount n = n := by unfold wcount; omega
          have S4 : Hid (St wr s G n (upTo (fun i => g (fa i) (fb i)) n)) := by
            have q := R.out
            rw [hW] at q
            exact ⟨q.c0, q.c1, q.words, hn6, fun i hi => by unfold upTo; simp [show ¬ i < n by omega]⟩
          subst hz
          clear hW hr0
          go_wp2
          go_ret
          exact ⟨s, G, rfl, hs, hG, S4.out, BB.out⟩
        · obtain ⟨k, hk1⟩ : ∃ k, wcount n = k + 1 := ⟨wcount n - 1, by unfold wcount; omega⟩
          have hkn : k < wcount n := by omega
          have hnk : 64 * k + r = n := by unfold wcount at hk1; omega
          have hr64 : r < 64 := by omega
          have hpos : (r : Int) > 0 := by omega
          have og := R.out.drew.cell k hkn
          have fg : wr.drew.frozen? ⟨G, k, none⟩ = false := R.out.drew.free k
          have cs1 : wr.drew.cell? ⟨s, 1, none⟩ = some (.slice (some ⟨G, 0, none⟩) (wcount n) (wcount n)) := R.out.c1
          have nes : s ≠ G := R.out.ne
          have hsub : IntKind.i64.wrap (((wcount n : Nat) : Int) - 1) = (k : Nat) := by rw [IntWalk.i64_in _ ⟨by omega, by omega⟩]; omega
          have hp64 : 2 ^ r - 1 < 18446744073709551616 := by have := Bit.two_pow_lt r hr64; omega
          have hmask : Bit.word (upTo (fun i => g (fa i) (fb i)) (64 * wcount n)) k &&& (2 ^ r - 1) = Bit.word (upTo (fun i => g (fa i) (fb i)) n) k := by
            rw [Bit.word_below _ _ _ (by omega)]
            refine Bit.word_congr fun i hi => ?_
            unfold upTo
            rw [hnk]
            by_cases h1 : 64 * k + i < n
            · simp [h1, show 64 * k + i < 64 * wcount n by omega]
            · simp [h1]
          have hoth : ∀ j, j ≠ k → j < wcount n → Bit.word (upTo (fun i => g (fa i) (fb i)) n) j = Bit.word (upTo (fun i => g (fa i) (fb i)) (64 * wcount n)) j := fun j hj hjw => Bit.word_congr fun i hi => by
            unfold upTo
            rw [decide_eq_true (show 64 * j + i < n by omega), decide_eq_true (show 64 * j + i < 64 * wcount n by omega)]
          clear hr0
          have R3 := R.out.drew.put2 k hkn (g := upTo (fun i => g (fa i) (fb i)) n) hoth
          have R4 : Hid (St (wr.drew.setCell ⟨G, k, none⟩ (.int .u64 ((Bit.word (upTo (fun i => g (fa i) (fb i)) n) k : Nat) : Int))) s G n (upTo (fun i => g (fa i) (fb i)) n)) := ⟨R3.c0, R3.c1, R3.words, hn6, fun i hi => by unfold upTo; simp [show ¬ i < n by omega]⟩
          have B3 : Hid (Below w.heap.size w (wr.drew.setCell ⟨G, k, none⟩ (.int .u64 ((Bit.word (upTo (fun i => g (fa i) (fb i)) n) k : Nat) : Int)))) := BB.out.drew.grown (grown_setCell _ _ _ _) (by simpa using BB.out.size) (fun j hj => by have := Option.some.inj hj; omega)
          clear hoth R3 hnk hk1
          generalize upTo (fun i => g (fa i) (fb i)) (64 * wcount n) = f1 at og hmask
          generalize hfin : upTo (fun i => g (fa i) (fb i)) n = fin at hmask R4 B3 ⊢
          have HF := Lib.hid hfin
          clear hfin
          go_wp2
          refine rg_start (n := 17) (S := fun w' => ∀ (p : Addr) v, p.block ≠ G → wr.drew.cell? p = some v → w'.cell? p = some v) (by kernel_rfl) rfl (fun _ _ _ h => h) ?_
          refine rg_pure 0 rfl (.pointer (some ⟨s, 0, none⟩)) (by kernel_rfl) (by kernel_rfl) (by kernel_rfl) (fun _ _ _ _ h => h) (by kernel_rfl) (fun _ => by kernel_rfl) (fun _ _ _ h => h) ?_
          refine rg_pure 1 rfl (.pointer (some ⟨s, 0, none⟩)) (by kernel_rfl) (by kernel_rfl) (by kernel_rfl) (fun _ _ _ _ h => h) (by kernel_rfl) (fun _ => by kernel_rfl) (fun _ _ _ h => h) ?_
          refine rg_pure 2 rfl (.pointer (some ⟨s, 1, none⟩)) (by kernel_rfl) (by kernel_rfl) (by kernel_rfl) (fun _ _ _ _ h => h) (by kernel_rfl) (fun _ => by kernel_rfl) (fun _ _ _ h => h) ?_
          refine rg_load 3 rfl (by kernel_rfl) (by kernel_rfl) (by kernel_rfl) (fun _ _ _ _ h => h) (by kernel_rfl) _ _ rfl Tryd.underlying56 rfl ⟨s, 1, none⟩ (.slice (some ⟨G, 0, none⟩) (wcount n) (wcount n)) (by kernel_rfl) (fun w h => h _ _ nes cs1) (fun _ _ _ h => h) ?_
          refine rg_pure 4 rfl (.pointer (some ⟨s, 0, none⟩)) (by kernel_rfl) (by kernel_rfl) (by kernel_rfl) (fun _ _ _ _ h => h) (by kernel_rfl) (fun _ => by kernel_rfl) (fun _ _ _ h => h) ?_
          refine rg_pure 5 rfl (.pointer (some ⟨s, 0, none⟩)) (by kernel_rfl) (by kernel_rfl) (by kernel_rfl) (fun _ _ _ _ h => h) (by kernel_rfl) (fun _ => by kernel_rfl) (fun _ _ _ h => h) ?_
          refine rg_pure 6 rfl (.pointer (some ⟨s, 1, none⟩)) (by kernel_rfl) (by kernel_rfl) (by kernel_rfl) (fun _ _ _ _ h => h) (by kernel_rfl) (fun _ => by kernel_rfl) (fun _ _ _ h => h) ?_
          refine rg_load 7 rfl (by kernel_rfl) (by kernel_rfl) (by kernel_rfl) (fun _ _ _ _ h => h) (by kernel_rfl) _ _ rfl Tryd.underlying56 rfl ⟨s, 1, none⟩ (.slice (some ⟨G, 0, none⟩) (wcount n) (wcount n)) (by kernel_rfl) (fun w h => h _ _ nes cs1) (fun _ _ _ h => h) ?_
          refine rg_pure 8 rfl (.int .i64 ((wcount n : Nat) : Int)) (by kernel_rfl) (by kernel_rfl) (by kernel_rfl) (fun _ _ _ _ h => h) (by kernel_rfl) (fun _ => by kernel_rfl) (fun _ _ _ h => h) ?_
          refine rg_pure 9 rfl (.int .i64 ((k : Nat) : Int)) (by kernel_rfl) (by kernel_rfl) (by kernel_rfl) (fun _ _ _ _ h => h) (by kernel_rfl) (exec_sub _ _ _ _ rfl ((wcount n : Nat) : Int) 1 (k : Nat) hsub (by kernel_rfl) (by kernel_rfl)) (fun _ _ _ h => h) ?_
          refine rg_index 10 rfl (by kernel_rfl) (by kernel_rfl) (by kernel_rfl) (fun _ _ _ _ h => h) (by kernel_rfl) _ _ _ rfl Tryd.underlying56 sizeW G 0 (wcount n) (wcount n) k (by kernel_rfl) (by kernel_rfl) hkn (fun _ _ _ h => h) ?_
          rw [Nat.zero_add]
          refine rg_pure 12 rfl (.int .i64 (r : Int)) (by kernel_rfl) (by kernel_rfl) (by kernel_rfl) (fun _ _ _ _ h => h) (by kernel_rfl) (fun _ => by kernel_rfl) (fun _ _ _ h => h) ?_
          refine rg_two 11 13 (by kernel_rfl) rfl (by kernel_rfl) (.int .u64 ((Bit.word f1 k : Nat) : Int)) wr.drew (exec_load1 _ _ rfl Tryd.underlying67 rfl _ _ (by kernel_rfl) og) rfl (by kernel_rfl) 46 #[.int .i64 (r : Int)] (by kernel_rfl) (below_is r hr64 _) (fun _ _ _ h => h) ?_ ?_
          · refine rg_call 13 (by kernel_rfl) rfl (by kernel_rfl) 46 #[.int .i64 (r : Int)] (by kernel_rfl) (below_is r hr64 _) ?_
            rintro e w' ⟨rfl, rfl⟩
            refine ⟨_, rfl, (fun _ _ _ h => h), ?_⟩
            refine rg_pure 14 rfl (.int .u64 ((Bit.word fin k : Nat) : Int)) (by kernel_rfl) (by kernel_rfl) (by kernel_rfl) (fun _ _ _ _ h => h) (by kernel_rfl) (exec_andN _ _ _ _ rfl _ _ _ (Bit.word_lt _ _) hp64 hmask (by kernel_rfl) (by kernel_rfl)) (fun _ _ _ h => h) ?_
            refine rg_index 15 rfl (by kernel_rfl) (by kernel_rfl) (by kernel_rfl) (fun _ _ _ _ h => h) (by kernel_rfl) _ _ _ rfl Tryd.underlying56 sizeW G 0 (wcount n) (wcount n) k (by kernel_rfl) (by kernel_rfl) hkn (fun _ _ _ h => h) ?_
            rw [Nat.zero_add]
            refine rg_do 16 (by kernel_rfl) rfl (by kernel_rfl) (wr.drew.setCell ⟨G, k, none⟩ (.int .u64 ((Bit.word fin k : Nat) : Int))) (exec_storeI _ _ _ rfl sizeW1 _ _ _ _ (by kernel_rfl) (by kernel_rfl) og fg) (fun p v hp h => by rw [World.cell?_setCell_far _ _ _ _ (fun e => hp e.symm)]; exact h) ?_
            generalize wr.drew.setCell ⟨G, k, none⟩ (.int .u64 ((Bit.word fin k : Nat) : Int)) = w4 at B3 R4 ⊢
            refine wpAnyH_done (by kernel_rfl) ?_ _
            clear hmask hp64 og fg cs1
            go_wp2
            go_ret
            exact ⟨s, G, rfl, hs, hG, by rw [HF.out]; exact R4.out, B3.out⟩
          · rintro e w' ⟨rfl, rfl⟩
            refine ⟨_, rfl, (fun _ _ _ h => h), ?_⟩
            refine rg_run 11 (by kernel_rfl) rfl (by kernel_rfl) (.int .u64 ((Bit.word f1 k : Nat) : Int)) wr.drew (exec_load1 _ _ rfl Tryd.underlying67 rfl _ _ (by kernel_rfl) og) (fun _ _ _ h => h) ?_
            refine rg_pure 14 rfl (.int .u64 ((Bit.word fin k : Nat) : Int)) (by kernel_rfl) (by kernel_rfl) (by kernel_rfl) (fun _ _ _ _ h => h) (by kernel_rfl) (exec_andN _ _ _ _ rfl _ _ _ (Bit.word_lt _ _) hp64 hmask (by kernel_rfl) (by kernel_rfl)) (fun _ _ _ h => h) ?_
            refine rg_index 15 rfl (by kernel_rfl) (by kernel_rfl) (by kernel_rfl) (fun _ _ _ _ h => h) (by kernel_rfl) _ _ _ rfl Tryd.underlying56 sizeW G 0 (wcount n) (wcount n) k (by kernel_rfl) (by kernel_rfl) hkn (fun _ _ _ h => h) ?_
            rw [Nat.zero_add]
            refine rg_do 16 (by kernel_rfl) rfl (by kernel_rfl) (wr.drew.setCell ⟨G, k, none⟩ (.int .u64 ((Bit.word fin k : Nat) : Int))) (exec_storeI _ _ _ rfl sizeW1 _ _ _ _ (by kernel_rfl) (by kernel_rfl) og fg) (fun p v hp h => by rw [World.cell?_setCell_far _ _ _ _ (fun e => hp e.symm)]; exact h) ?_
            generalize wr.drew.setCell ⟨G, k, none⟩ (.int .u64 ((Bit.word fin k : Nat) : Int)) = w4 at B3 R4 ⊢
            refine wpAnyH_done (by kernel_rfl) ?_ _
            clear hmask hp64 og fg cs1
            go_wp2
            go_ret
            exact ⟨s, G, rfl, hs, hG, by rw [HF.out]; exact R4.out, B3.out⟩
theorem and_tells : Tells 49 (· &&& ·) (fun x y => x && y) := by
  refine ⟨fun x y hx hy => ⟨Nat.lt_of_le_of_lt Nat.and_le_left hx, fun i _ => by simp⟩, fun x y w hx hy => ?_, fun x y w => by kernel_rfl⟩
  have h := u64_andN x y hx hy
  go_enter Tryd.func49, Tryd.ntmps49
  go_wp2
  go_ret
  exact ⟨rfl, rfl⟩
theorem or_tells : Tells 50 (· ||| ·) (fun x y => x || y) := by
  refine ⟨fun x y hx hy => ⟨Bit.or_lt64 hx hy, fun i _ => by simp⟩, fun x y w hx hy => ?_, fun x y w => by kernel_rfl⟩
  have h := u64_orN x y hx hy
  go_enter Tryd.func50, Tryd.ntmps50
  go_wp2
  go_ret
  exact ⟨rfl, rfl⟩
theorem less_tells : Tells 51 (fun x y => x &&& (18446744073709551615 - y)) (fun x y => x && !y) := by
  refine ⟨fun x y hx hy => ⟨Nat.lt_of_le_of_lt Nat.and_le_left hx, fun i hi => ?_⟩, fun x y w hx hy => ?_, fun x y w => by kernel_rfl⟩
  · rw [Nat.testBit_and, show 18446744073709551615 - y = 2 ^ 64 - (y + 1) by omega, Nat.testBit_two_pow_sub_succ (by simpa using hy)]
    simp [hi]
  · have h := u64_andNotN x y hx hy
    go_enter Tryd.func51, Tryd.ntmps51
    go_wp2
    go_ret
    exact ⟨rfl, rfl⟩
theorem and_is (a Ga na b Gb nb : Nat) (fa fb : Nat → Bool) (w : World) (h1 : St w a Ga na fa) (h2 : St w b Gb nb fb) : Calls Tryd.prog 23 #[.pointer (some ⟨a, 0, none⟩), .pointer (some ⟨b, 0, none⟩)] w (Blended w (min na nb) (upTo (fun i => fa i && fb i) (min na nb))) := by
  have B := Lib.hid (blend_is _ _ _ and_tells rfl a Ga na b Gb nb fa fb w h1 h2)
  clear h1 h2
  generalize min na nb = n at B ⊢
  go_enter Tryd.func23, Tryd.ntmps23
  go_wp2_with fail
  refine B.out.mono ?_
  rintro e w1 ⟨s, G, rfl, r⟩
  go_wp2
  go_ret
  exact ⟨s, G, rfl, r⟩
theorem or_is (a Ga na b Gb nb : Nat) (fa fb : Nat → Bool) (w : World) (h1 : St w a Ga na fa) (h2 : St w b Gb nb fb) : Calls Tryd.prog 25 #[.pointer (some ⟨a, 0, none⟩), .pointer (some ⟨b, 0, none⟩)] w (Blended w (min na nb) (upTo (fun i => fa i || fb i) (min na nb))) := by
  have B := Lib.hid (blend_is _ _ _ or_tells rfl a Ga na b Gb nb fa fb w h1 h2)
  clear h1 h2
  generalize min na nb = n at B ⊢
  go_enter Tryd.func25, Tryd.ntmps25
  go_wp2_with fail
  refine B.out.mono ?_
  rintro e w1 ⟨s, G, rfl, r⟩
  go_wp2
  go_ret
  exact ⟨s, G, rfl, r⟩
theorem less_is (a Ga na b Gb nb : Nat) (fa fb : Nat → Bool) (w : World) (h1 : St w a Ga na fa) (h2 : St w b Gb nb fb) : Calls Tryd.prog 26 #[.pointer (some ⟨a, 0, none⟩), .pointer (some ⟨b, 0, none⟩)] w (Blended w (min na nb) (upTo (fun i => fa i && !fb i) (min na nb))) := by
  have B := Lib.hid (blend_is _ _ _ less_tells rfl a Ga na b Gb nb fa fb w h1 h2)
  clear h1 h2
  generalize min na nb = n at B ⊢
  go_enter Tryd.func26, Tryd.ntmps26
  go_wp2_with fail
  refine B.out.mono ?_
  rintro e w1 ⟨s, G, rfl, r⟩
  go_wp2
  go_ret
  exact ⟨s, G, rfl, r⟩
end Go.Proofs.YtmblkccfgncngaaDoor
