/- The statement AuditLooks, proved for every input that its row reads: part 17 of 54. -/
import Derived.Test.YtkpldjiloinaoaaDoorPackAuditLooks11
import Derived.Test.YtkpldjiloinaoaaDoorPackAuditLooks16
/- past: Trim and Collect. -/
namespace Go.Proofs.YtkpldjiloinaoaaDoor
open Go Go.RowKit
set_option linter.unusedVariables false

/-! What operations run to -/
section
variable {P : Program} {o : Oper} {a : Act} {w : World}
theorem exec_gload (t : TypeId) (x : Operand) (ho : o.op = .load t x) (b c : Nat) (hx : a.eval x = .pointer (some ⟨b, c, none⟩)) (cs : List Value) (hr : w.rangeAt b c cs) {d : TypeDesc} (hu : P.underlying t = some d) (hd : d.isRow = true) (hsz : (P.info? t).map (·.size) = some cs.length) :
    (execOp a.eval o).run P w = .ok (.value (.agg cs.toArray)) w := by
  unfold execOp
  simp only [ho, hx]
  exact run_value_of (run_loadAt_mid w b c t cs d hr hu hd hsz)
theorem exec_subI (t yt : TypeId) (x y : Operand) (ho : o.op = .binOp .sub t x y yt) (X Y R : Int) (hR : IntKind.i64.wrap (X - Y) = R) (hx : a.eval x = .int .i64 X) (hy : a.eval y = .int .i64 Y) (w : World) :
    (execOp a.eval o).run P w = .ok (.value (.int .i64 R)) w := by
  subst hR
  unfold execOp
  simp only [ho, hx, hy]
  rfl
theorem exec_maxI (x y : Operand) (tys : Array TypeId) (ho : o.op = .call { callee := .builtin .max, args := #[x, y], argTypes := tys }) (X Y R : Int) (hR : max X Y = R) (hx : a.eval x = .int .i64 X) (hy : a.eval y = .int .i64 Y) (w : World) :
    (execOp a.eval o).run P w = .ok (.value (.int .i64 R)) w := by
  have e : (#[x, y] : Array Operand).map a.eval = #[.int .i64 X, .int .i64 Y] := by simp only [List.map_toArray, List.map_cons, List.map_nil, hx, hy]
  have hm : (Builtin.max_ tys o.type #[.int .i64 X, .int .i64 Y]).run P w = .ok (.int .i64 R) w := by
    rw [run_max_int2, show (if X < Y then Y else X) = R by split <;> omega]
  unfold execOp
  simp only [ho]
  unfold resolve
  simp only [e]
  simp only [Sem.run_bind, Sem.run_pure, Result.andThen_ok, invoke]
  unfold builtin
  simp only [hm, Sem.run_bind, Sem.run_pure, Result.andThen_ok]
theorem exec_storeI1 (t : TypeId) (x y : Operand) (ho : o.op = .store t x y) (hsz : ∀ w : World, (sizeOf t).run P w = .ok 1 w) (p : Addr) (k : IntKind) (v : Int) (old : Value) (hx : a.eval x = .pointer (some p)) (hy : a.eval y = .int k v)
    (hc : w.cell? p = some old) (hf : w.frozen? p = false) : (execOp a.eval o).run P w = .ok .skip (w.setCell p (.int k v)) := by
  unfold execOp
  simp only [ho, hx, hy]
  have hs := hsz w
  go_simp
end
theorem sizeInt (w : World) : (sizeOf 3).run Tryd.prog w = .ok 1 w := by kernel_rfl
set_option maxRecDepth 1000000 in
theorem allocInt {o : Oper} {a : Act} (ho : o.op = .alloc 3) (w : World) : (execOp a.eval o).run Tryd.prog w = .ok (.value (.pointer (some ⟨w.heap.size, 0, none⟩))) (w.alloc (.cells #[.int .i64 0] 3)) := by
  unfold execOp
  simp only [ho]
  rfl

/-! The closures -/
def InInt (A : Nat) (x : Int) (w : World) : Prop := -9223372036854775808 ≤ x ∧ x ≤ 9223372036854775807 ∧ w.heap[A]? = some (.cells #[.int .i64 x] 3 (0, 0))
def InVec (A : Nat) (v : Nat → Int) (_ : Unit) (w : World) : Prop := Row w A 23 v
end Go.Proofs.YtkpldjiloinaoaaDoor
/- Two dots held against one another; one event in a row of its own. -/
namespace Go.Proofs.YtkpldjiloinaoaaDoor
open Go Go.RowKit
set_option linter.unusedVariables false
set_option maxRecDepth 1000000

theorem to_drew {B : Nat} {w w' : World} (h : Below B w w') : Below B w w'.drew := ⟨h.os, h.tape, h.output, h.size, h.block⟩
def eqDt (x y : Dt) : Bool := x.1 == y.1 && x.2 == y.2
theorem eqDt_iff (x y : Dt) : eqDt x y = true ↔ x = y := by
  simp only [eqDt, Bool.and_eq_true, beq_iff_eq]
  exact ⟨fun h => Prod.ext h.1 h.2, fun h => by subst h; exact ⟨rfl, rfl⟩⟩
theorem eqDt_no {x y : Dt} (h : x ≠ y) : eqDt x y = false := by
  cases e : eqDt x y with
  | false => rfl
  | true => exact absurd ((eqDt_iff x y).1 e) h
theorem runEqDt (x y : Dt) (w : World) : (Op.equalIn 10000 37 (.agg (dcs x.1 x.2)) (.agg (dcs y.1 y.2))).run Tryd.prog w = .ok (eqDt x y) w := by
  have u3 := Tryd.underlying3
  have a3 := Tryd.isAgg3
  have z3 := Tryd.sizeOf3
  have hS : Tryd.prog.underlying 37 = some (.struct (Tryd.prog.fieldsOf 37)) := by kernel_rfl
  have hp : Tryd.prog.stoodInHeld 37 = false := by kernel_rfl
  simp only [dcs]
  rw [show (10000 : Nat) = 9999 + 1 from rfl, run_equalIn_agg w 9999 37 _ _ hS hp]
  simp only [Program.fieldsOf, Tryd.underlying37]
  go_simp
  unfold eqDt
  by_cases h1 : x.fst = y.fst <;> by_cases h2 : x.snd = y.snd <;> simp [h1, h2]
theorem eqlDt (x y : Dt) (w : World) : (binOp .eql 37 (.agg #[.int .i64 x.1, .int .i64 x.2]) (.agg #[.int .i64 y.1, .int .i64 y.2])).run Tryd.prog w = .ok (.bool (eqDt x y)) w := by
  rw [run_eql_struct]
  have h := runEqDt x y w
  simp only [dcs] at h
  rw [h]; rfl
theorem neqDt (x y : Dt) (w : World) : (binOp .neq 37 (.agg #[.int .i64 x.1, .int .i64 x.2]) (.agg #[.int .i64 y.1, .int .i64 y.2])).run Tryd.prog w = .ok (.bool (!eqDt x y)) w := by
  rw [run_neq_struct]
  have h := runEqDt x y w
  simp only [dcs] at h
  rw [h]; rfl
theorem exec_idxD {o : Oper} {a : Act} (x y : Operand) (ho : o.op = .indexAddr 46 x y) (b f len cap k : Nat) (hx : a.eval x = .slice (some ⟨b, f, none⟩) len cap) (hy : a.eval y = .int .i64 (k : Int)) (hk : k < len) (w : World) :
    (execOp a.eval o).run Tryd.prog w = .ok (.value (.pointer (some ⟨b, f + k * 2, none⟩))) w := by
  have hs : ∀ w : World, (sizeOf (Tryd.prog.elem 46)).run Tryd.prog w = .ok 2 w := fun w => by kernel_rfl
  unfold execOp
  simp only [ho, hx, hy]
  refine run_value_of ?_
  rw [run_indexAt_slice (h := Tryd.underlying46), if_pos (by omega), hs]
  simp only [Result.andThen_ok, Int.toNat_natCast]
  cases k <;> simp [Addr.add]
theorem exec_neqD {o : Oper} {a : Act} (t : TypeId) (x y : Operand) (ho : o.op = .binOp .neq 37 x y t) (X : Dt) (hx : a.eval x = .agg #[.int .i64 X.1, .int .i64 X.2]) (hy : a.eval y = .agg #[.int .i64 X.1, .int .i64 X.2]) (w : World) :
    (execOp a.eval o).run Tryd.prog w = .ok (.value (.bool false)) w := by
  have h := neqDt X X w
  rw [(eqDt_iff X X).2 rfl] at h
  simp only [Bool.not_true] at h
  unfold execOp
  simp only [ho, hx, hy]
  refine run_value_of ?_
  rw [Sem.run_bind]
  have hg : (eqGuard .neq 37 x y (.agg #[.int .i64 X.1, .int .i64 X.2]) (.agg #[.int .i64 X.1, .int .i64 X.2])).run Tryd.prog w = .ok () w := by
    unfold eqGuard
    go_simp
  rw [hg]
  exact h
theorem sizeEv (x : EvP) : (Tryd.prog.info? 48).map (·.size) = some x.cells.length := by rw [EvP.cells_len]; kernel_rfl
theorem evs_one {w : World} {g : Nat} {x : EvP} (h : x.Ok w) (hg : w.rangeAt g 0 x.cells) : EvsAt w (some ⟨g, 0, none⟩) [x] :=
  ⟨fun _ => ⟨g, 0, rfl, by simpa [ecl] using hg⟩, fun y hy => by obtain rfl := List.mem_singleton.1 hy; exact h, fun e => by cases e⟩
end Go.Proofs.YtkpldjiloinaoaaDoor
/- two events held against one another, and lists of them. -/
namespace Go.Proofs.YtkpldjiloinaoaaDoor
open Go Go.RowKit
set_option linter.unusedVariables false
set_option maxRecDepth 1000000

theorem exec_neqE {o : Oper} {a : Act} (t : TypeId) (x y : Operand) (ho : o.op = .binOp .neq 37 x y t) (X Y : Dt) (b : Bool) (hb : (!eqDt X Y) = b) (hx : a.eval x = .agg #[.int .i64 X.1, .int .i64 X.2]) (hy : a.eval y = .agg #[.int .i64 Y.1, .int .i64 Y.2]) (w : World) :
    (execOp a.eval o).run Tryd.prog w = .ok (.value (.bool b)) w := by
  subst hb
  have h := neqDt X Y w
  unfold execOp
  simp only [ho, hx, hy]
  refine run_value_of ?_
  rw [Sem.run_bind]
  have hg : (eqGuard .neq 37 x y (.agg #[.int .i64 X.1, .int .i64 X.2]) (.agg #[.int .i64 Y.1, .int .i64 Y.2])).run Tryd.prog w = .ok () w := by
    unfold eqGuard
    go_simp
  rw [hg]
  exact h
theorem drow_at {w : World} {p : Option Addr} {l : List Dt} (h : DRow w p l) {k : Nat} (hk : k < l.length) : ∃ b o, p = some ⟨b, o, Option.none⟩ ∧ w.rangeAt b (o + k * 2) [.int .i64 l[k].1, .int .i64 l[k].2] := by
  have hne : l ≠ [] := by intro e; subst e; simp at hk
  obtain ⟨b, o, rfl, hr⟩ := h hne
  obtain ⟨d1, d2⟩ := dcl_get l k hk
  have r1 := hr _ _ d1; have r2 := hr _ _ d2
  refine ⟨b, o, rfl, fun j u hu => ?_⟩
  match j, hu with
  | 0, hu => simp at hu; subst hu; simpa using r1
  | 1, hu => simp at hu; subst hu; rw [Nat.add_assoc]; exact r2
  | j + 2, hu => simp at hu
end Go.Proofs.YtkpldjiloinaoaaDoor
/- Of each replica the greatest number met: a map of ints by ints, and the events that it speaks of. -/
namespace Go.Proofs.YtkpldjiloinaoaaDoor
open Go Go.RowKit
set_option linter.unusedVariables false

section
variable {P : Program} {w : World} {T K E : TypeId} {r c : Nat}
theorem run_look2_here (hT : P.underlying T = some (.map K E)) (hK : P.underlying K = some (.int .i64)) (k : Int) (v : Value) (b : Nat) (l1 l2 : List (Int × Value × Nat)) (hb : w.heap[r]? = some (.map (ents (l1 ++ (k, v, b) :: l2)).toArray c)) (hk : ∀ e ∈ l1, e.1 ≠ k) :
    (Instr.lookup T (.map (some r)) (.int .i64 k) true).run P w = .ok (.tuple #[v, .bool true]) w := by
  have hg := MapKept.run_getObj_map (P := P) hb
  have hf := run_find hK k (ents (l1 ++ (k, v, b) :: l2)) _ (find_here k v b l1 l2 0 hk) w
  have hck := fun e => MapKept.run_checkKey (P := P) (w := w) (k := .int .i64 k) hK rfl e 9999
  unfold Instr.lookup
  simp only [Sem.run_bind, run_underlying hT, Result.andThen_ok, hg, Sem.run_pure, hck, hf]
  rfl
theorem run_updateA_here (hT : P.underlying T = some (.map K E)) (hK : P.underlying K = some (.int .i64)) (k : Int) (v v' : Value) (b : Nat) (l1 l2 : List (Int × Value × Nat)) (hb : w.heap[r]? = some (.map (ents (l1 ++ (k, v, b) :: l2)).toArray c)) (hk : ∀ e ∈ l1, e.1 ≠ k) :
    (Instr.mapUpdate T (.map (some r)) (.int .i64 k) v').run P w = .ok () (mapTo w r (.map (ents (l1 ++ (k, v', b) :: l2)).toArray c)) := by
  have hg := MapKept.run_getObj_map (P := P) hb
  have hf := run_find hK k (ents (l1 ++ (k, v, b) :: l2)) _ (find_here k v b l1 l2 0 hk) w
  have hck := fun e => MapKept.run_checkKey (P := P) (w := w) (k := .int .i64 k) hK rfl e 9999
  have hs := MapKept.run_setObj_map (P := P) (.map (ents (l1 ++ (k, v', b) :: l2)).toArray c) hb
  have he : ((ents (l1 ++ (k, v, b) :: l2)).toArray.modify (0 + l1.length) fun e => { e with key := .int .i64 k, val := v' }) = (ents (l1 ++ (k, v', b) :: l2)).toArray := by
    apply Array.ext_getElem?
    intro j
    rw [Array.getElem?_modify]
    simp only [ents, List.map_append, List.map_cons, List.getElem?_toArray, Nat.zero_add]
    by_cases h1 : l1.length = j
    · subst h1; simp
    · rw [if_neg h1]
      by_cases h2 : j < l1.length
      · rw [List.getElem?_append_left (by simpa using h2), List.getElem?_append_left (by simpa using h2)]
      · rw [List.getElem?_append_right (by simp; omega), List.getElem?_append_right (by simp; omega)]
        simp only [List.length_map]
        rw [show j - l1.length = (j - l1.length - 1) + 1 by omega, List.getElem?_cons_succ, List.getElem?_cons_succ]
  have hks : ∀ (x : Value) (W : World), (Instr.keyThatStays (.int .i64 k) (.int .i64 k)).run P W = .ok (.int .i64 k) W := fun x W => MapKept.run_keyThatStays (d := .int .i64) rfl
  have hel : (((ents (l1 ++ (k, v, b) :: l2)).toArray[0 + l1.length]?).map (·.key)).getD (.int .i64 k) = .int .i64 k := by simp [ents]
  unfold Instr.mapUpdate
  simp only [Sem.run_bind, run_underlying hT, Result.andThen_ok, hg, hck, hf, hel, hks (.int .i64 k), he]
  exact hs
end
/-- was a later event of the replica met? -/
def behB (M : List Dt) (r n : Int) : Bool := M.any fun d => decide (d.1 = r) && decide (n < d.2)
theorem beh_iff (M : List Dt) (r n : Int) : behB M r n = true ↔ ∃ d ∈ M, d.1 = r ∧ n < d.2 := by simp [behB]
/-- the map holds the greatest number of each replica met -/
structure LastM (ml : List (Int × Value × Nat)) (M : List Dt) : Prop where
  nodup : (ml.map (·.1)).Nodup
  has : ∀ e ∈ ml, ∃ m, e.2.1 = .int .i64 m ∧ (e.1, m) ∈ M ∧ ∀ d ∈ M, d.1 = e.1 → d.2 ≤ m
  all : ∀ d ∈ M, ∃ e ∈ ml, e.1 = d.1
theorem LastM.nil : LastM [] [] := ⟨List.nodup_nil, fun e he => by simp at he, fun d hd => by simp at hd⟩
/-- what is looked up -/
theorem LastM.look {ml : List (Int × Value × Nat)} {M : List Dt} (h : LastM ml M) (r : Int) :
    ((∀ e ∈ ml, e.1 ≠ r) ∧ ∀ n, behB M r n = false) ∨ ∃ l1 l2 m b, ml = l1 ++ (r, .int .i64 m, b) :: l2 ∧ (∀ e ∈ l1, e.1 ≠ r) ∧ (∀ e ∈ l2, e.1 ≠ r) ∧ ∀ n, behB M r n = decide (m > n) := by
  by_cases hr : ∃ e ∈ ml, e.1 = r
  · right
    obtain ⟨⟨r', u, b⟩, he, rfl⟩ := hr
    obtain ⟨m, h1, h2, h3⟩ := h.has _ he
    simp only at h1 h2 h3
    subst h1
    obtain ⟨l1, l2, rfl⟩ := List.append_of_mem he
    have hn := h.nodup
    rw [List.map_append, List.map_cons, List.nodup_append, List.nodup_cons] at hn
    refine ⟨l1, l2, m, b, rfl, fun e he1 e1 => ?_, fun e he1 e1 => ?_, fun n => ?_⟩
    · exact hn.2.2 e.1 (List.mem_map.2 ⟨e, he1, rfl⟩) r' (List.mem_cons_self ..) e1
    · exact hn.2.1.1 (List.mem_map.2 ⟨e, he1, e1⟩)
    · rw [Bool.eq_iff_iff, beh_iff, decide_eq_true_iff]
      constructor
      · rintro ⟨d, hd, e1, hlt⟩
        have := h3 d hd e1
        omega
      · intro hlt
        exact ⟨_, h2, rfl, hlt⟩
  · left
    refine ⟨fun e he e1 => hr ⟨e, he, e1⟩, fun n => ?_⟩
    cases hb : behB M r n with
    | false => rfl
    | true =>
      obtain ⟨d, hd, e1, _⟩ := (beh_iff M r n).1 hb
      obtain ⟨e, he, e2⟩ := h.all d hd
      exact absurd ⟨e, he, e2.trans e1⟩ hr
/-- an event that is behind a later one turns nothing -/
theorem LastM.skip {ml : List (Int × Value × Nat)} {M : List Dt} (h : LastM ml M) {r n : Int} (hb : behB M r n = true) : LastM ml (M ++ [(r, n)]) := by
  obtain ⟨d0, hd0, e0, hlt0⟩ := (beh_iff M r n).1 hb
  refine ⟨h.nodup, fun e he => ?_, fun d hd => ?_⟩
  · obtain ⟨m, h1, h2, h3⟩ := h.has e he
    refine ⟨m, h1, List.mem_append_left _ h2, fun d hd e1 => ?_⟩
    rcases List.mem_append.1 hd with hd | hd
    · exact h3 d hd e1
    · rw [List.mem_singleton.1 hd] at e1 ⊢
      have := h3 d0 hd0 (e0.trans e1)
      simp only
      omega
  · rcases List.mem_append.1 hd with hd | hd
    · exact h.all d hd
    · rw [List.mem_singleton.1 hd]
      obtain ⟨e, he, e1⟩ := h.all d0 hd0
      exact ⟨e, he, e1.trans e0⟩
/-- the replica's first event -/
theorem LastM.put_new {ml : List (Int × Value × Nat)} {M : List Dt} (h : LastM ml M) {r n : Int} (b : Nat) (hr : ∀ e ∈ ml, e.1 ≠ r) : LastM (ml ++ [(r, .int .i64 n, b)]) (M ++ [(r, n)]) := by
  refine ⟨?_, fun e he => ?_, fun d hd => ?_⟩
  · rw [List.map_append, List.nodup_append]
    refine ⟨h.nodup, by simp, fun a ha c hc e => ?_⟩
    simp at hc
    subst hc
    obtain ⟨e', he', rfl⟩ := List.mem_map.1 ha
    exact hr e' he' e
  · rcases List.mem_append.1 he with he | he
    · obtain ⟨m, h1, h2, h3⟩ := h.has e he
      refine ⟨m, h1, List.mem_append_left _ h2, fun d hd e1 => ?_⟩
      rcases List.mem_append.1 hd with hd | hd
      · exact h3 d hd e1
      · rw [List.mem_singleton.1 hd] at e1
        exact absurd e1.symm (hr e he)
    · rw [List.mem_singleton.1 he]
      refine ⟨n, rfl, List.mem_append_right _ (List.mem_singleton.2 rfl), fun d hd e1 => ?_⟩
      rcases List.mem_append.1 hd with hd | hd
      · obtain ⟨e', he', e2⟩ := h.all d hd
        exact absurd (e2.trans e1) (hr e' he')
      · rw [List.mem_singleton.1 hd]; exact Int.le_refl _
  · rcases List.mem_append.1 hd with hd | hd
    · obtain ⟨e, he, e1⟩ := h.all d hd
      exact ⟨e, List.mem_append_left _ he, e1⟩
    · rw [List.mem_singleton.1 hd]
      exact ⟨_, List.mem_append_right _ (List.mem_singleton.2 rfl), rfl⟩
/-- an event that is not behind a later one -/
theorem LastM.put_here {l1 l2 : List (Int × Value × Nat)} {M : List Dt} {r m n : Int} {b : Nat} (h : LastM (l1 ++ (r, .int .i64 m, b) :: l2) M) (h1 : ∀ e ∈ l1, e.1 ≠ r) (h2 : ∀ e ∈ l2, e.1 ≠ r) (hmn : m ≤ n) : LastM (l1 ++ (r, .int .i64 n, b) :: l2) (M ++ [(r, n)]) := by
  obtain ⟨m', q1, q2, q3⟩ := h.has (r, .int .i64 m, b) (List.mem_append_right _ (List.mem_cons_self ..))
  simp only [Value.int.injEq, true_and] at q1
  subst q1
  have old : ∀ e ∈ l1 ++ l2, e.1 ≠ r → ∃ u, e.2.1 = .int .i64 u ∧ (e.1, u) ∈ M ++ [(r, n)] ∧ ∀ d ∈ M ++ [(r, n)], d.1 = e.1 → d.2 ≤ u := fun e he hne => by
    obtain ⟨u, u1, u2, u3⟩ := h.has e (by rcases List.mem_append.1 he with q | q; exact List.mem_append_left _ q; exact List.mem_append_right _ (List.mem_cons_of_mem _ q))
    refine ⟨u, u1, List.mem_append_left _ u2, fun d hd e1 => ?_⟩
    rcases List.mem_append.1 hd with hd | hd
    · exact u3 d hd e1
    · rw [List.mem_singleton.1 hd] at e1
      exact absurd e1.symm hne
  refine ⟨by have := h.nodup; simpa using this, fun e he => ?_, fun d hd => ?_⟩
  · rcases List.mem_append.1 he with he | he
    · exact old e (List.mem_append_left _ he) (h1 e he)
    · rcases List.mem_cons.1 he with rfl | he
      · refine ⟨n, rfl, List.mem_append_right _ (List.mem_singleton.2 rfl), fun d hd e1 => ?_⟩
        rcases List.mem_append.1 hd with hd | hd
        · have := q3 d hd e1; omega
        · rw [List.mem_singleton.1 hd]; exact Int.le_refl _
      · exact old e (List.mem_append_right _ he) (h2 e he)
  · have key : ∀ z, (∃ e ∈ l1 ++ (r, Value.int .i64 m, b) :: l2, e.1 = z) → ∃ e ∈ l1 ++ (r, Value.int .i64 n, b) :: l2, e.1 = z := by
      rintro z ⟨e, he, rfl⟩
      rcases List.mem_append.1 he with he | he
      · exact ⟨e, List.mem_append_left _ he, rfl⟩
      · rcases List.mem_cons.1 he with rfl | he
        · exact ⟨_, List.mem_append_right _ (List.mem_cons_self ..), rfl⟩
        · exact ⟨e, List.mem_append_right _ (List.mem_cons_of_mem _ he), rfl⟩
    rcases List.mem_append.1 hd with hd | hd
    · exact key _ (h.all d hd)
    · rw [List.mem_singleton.1 hd]
      exact ⟨_, List.mem_append_right _ (List.mem_cons_self ..), rfl⟩
end Go.Proofs.YtkpldjiloinaoaaDoor
