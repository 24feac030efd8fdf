/- The statement AuditLooks, proved for every input that its row reads: part 36 of 54. -/
import Derived.Test.YtkpldjiloinaoaaDoorPackAuditLooks35
import Derived.Test.YtkpldjiloinaoaaDoorMemInts
import Derived.Deep.CutBlock
import Derived.Deep.DeepCutAuto
/- What is wrong with any event. -/
namespace Go.Proofs.YtkpldjiloinaoaaDoor
open Go Go.RowKit
set_option linter.unusedVariables false
set_option maxRecDepth 1000000

theorem xv_dot {w : World} {g : Nat} {T : TypeId} {m : Nat × Nat} {x : EvP} (h : w.heap[g]? = some (.cells x.cells.toArray T m)) : w.rangeAt g 0 (dcs x.e.rep x.e.n).toList := fun j u hu => by
  have h := range_of_block h
  match j, hu with
  | 0, hu => exact h 0 u hu
  | 1, hu => exact h 1 u hu
theorem exec_neqL {P : Program} {o : Oper} {a : Act} (t yt : TypeId) (x y : Operand) (ho : o.op = .binOp .neq t x y yt) (X Y : Int) (b : Bool) (hb : (X != Y) = b) (hx : a.eval x = .int .i64 X) (hy : a.eval y = .int .i64 Y) (w : World) :
    (execOp a.eval o).run P w = .ok (.value (.bool b)) w := by
  subst hb
  unfold execOp
  simp only [ho, hx, hy]
  go_simp
/-- the kinds that are said -/
def kindL (l : List (Int × Bool)) : List Int := (l.filter (·.2)).map (·.1)
noncomputable def kindsOf (F : Nat → Int) (S M : List Dt) (e : Ev) : List (Int × Bool) := [(2, chk e != 0), (3, !hasB F e.rep e.n), (4, behB M e.rep e.n), (5, e.gone.any fun d => !hasB F d.1 d.2), (6, e.gone.any fun d => decide (d ∈ S)), (8, decide ((e.rep, e.n) ∈ M))]
def KindG (w : World) (ks : List Int) (e : Ending) (w' : World) : Prop := ∃ v, e = .returned v ∧ w'.ownsRow w.heap.size 3 1 v ks.length (ints ks) ∧ Below w.heap.size w w'
def kindC (b2 b3 b4 b5 b6 b8 : Bool) : List Value := [.int .i64 2, .bool b2, .int .i64 3, .bool b3, .int .i64 4, .bool b4, .int .i64 5, .bool b5, .int .i64 6, .bool b6, .int .i64 8, .bool b8]
set_option maxHeartbeats 4000000 in
theorem wrongG_is (A r1 r2 r3 : Nat) (F : Nat → Int) (S M : List Dt) (x : EvP) (w : World) (h : Frg w A r1 r2 r3 F S M) (hx : x.Ok w) (hg : x.e.gone.length ≤ 1000) (hT : Shapes w) : Calls Tryd.prog 16 #[.pointer (some ⟨A, 0, none⟩), .agg x.cells.toArray] w (KindG w (kindL (kindsOf F S M x.e))) := by
  have FR := Lib.hid h; have HT := Lib.hid hT; have HX := Lib.hid hx
  have FW := Lib.hid h
  have T5 : TellD 30 #[.pointer (some ⟨A, 0, none⟩)] (fun d => !hasB F d.1 d.2) w.heap.size (fun V => Below w.heap.size w V) := ⟨fun args V => by kernel_rfl, fun d V hV => unknownG_is A r1 r2 r3 F S M d.1 d.2 V (FW.out.later hV), fun V V' h1 h2 => h1.trans h2⟩
  have T6 : TellD 33 #[.pointer (some ⟨A, 0, none⟩)] (fun d => decide (d ∈ S)) w.heap.size (fun V => Below w.heap.size w V) := ⟨fun args V => by kernel_rfl, fun d V hV => livesG_is A r1 r2 r3 F S M d.1 d.2 V (FW.out.later hV), fun V V' h1 h2 => h1.trans h2⟩
  unfold kindsOf
  obtain ⟨ck, hck⟩ : ∃ ck, chk x.e = ck := ⟨_, rfl⟩
  obtain ⟨b2, hb2⟩ : ∃ b2, (ck != 0) = b2 := ⟨_, rfl⟩
  obtain ⟨b3, hb3⟩ : ∃ b3, (!hasB F x.e.rep x.e.n) = b3 := ⟨_, rfl⟩
  obtain ⟨b4, hb4⟩ : ∃ b4, behB M x.e.rep x.e.n = b4 := ⟨_, rfl⟩
  obtain ⟨b5, hb5⟩ : ∃ b5, (x.e.gone.any fun d => !hasB F d.1 d.2) = b5 := ⟨_, rfl⟩
  obtain ⟨b6, hb6⟩ : ∃ b6, (x.e.gone.any fun d => decide (d ∈ S)) = b6 := ⟨_, rfl⟩
  obtain ⟨b8, hb8⟩ : ∃ b8, decide ((x.e.rep, x.e.n) ∈ M) = b8 := ⟨_, rfl⟩
  rw [hck, hb2, hb3, hb4, hb5, hb6, hb8]
  have C2 : Hid (∀ V : World, Below w.heap.size w V → Calls Tryd.prog 29 #[.agg x.cells.toArray] V (Check1 V ck)) := Lib.hid fun V hV => by rw [← hck]; exact check_is x V (HX.out.below hV) (HT.out.below hV)
  have C3 : Hid (∀ V : World, Below w.heap.size w V → Calls Tryd.prog 30 #[.pointer (some ⟨A, 0, none⟩), .agg (dcs x.e.rep x.e.n)] V (RetBool V b3)) := Lib.hid fun V hV => by rw [← hb3]; exact unknownG_is A r1 r2 r3 F S M _ _ V (FW.out.later hV)
  have C4 : Hid (∀ V : World, Below w.heap.size w V → Calls Tryd.prog 31 #[.pointer (some ⟨A, 0, none⟩), .agg (dcs x.e.rep x.e.n)] V (RetBool V b4)) := Lib.hid fun V hV => by rw [← hb4]; exact behindG_is A r1 r2 r3 F S M _ _ V (FW.out.later hV)
  have C5 : Hid (∀ V : World, Below w.heap.size w V → Calls Tryd.prog 32 #[.slice x.p x.e.gone.length x.c, .func (.func 30) #[.pointer (some ⟨A, 0, none⟩)] #[]] V (RetBool V b5)) := Lib.hid fun V hV => by rw [← hb5]; exact hasD_is _ _ _ _ _ T5 x.p x.c x.e.gone V hV hV.size (HX.out.below hV).1 (by omega)
  have C6 : Hid (∀ V : World, Below w.heap.size w V → Calls Tryd.prog 32 #[.slice x.p x.e.gone.length x.c, .func (.func 33) #[.pointer (some ⟨A, 0, none⟩)] #[]] V (RetBool V b6)) := Lib.hid fun V hV => by rw [← hb6]; exact hasD_is _ _ _ _ _ T6 x.p x.c x.e.gone V hV hV.size (HX.out.below hV).1 (by omega)
  have H2 := Lib.hid hb2; have H8 := Lib.hid hb8
  clear h hT hx T5 T6 hck hb2 hb3 hb4 hb5 hb6 hb8 HX HT FW
  go_enter Tryd.func16, Tryd.ntmps16
  go_wp2_with (refine wpList_gbox rfl _ rfl x.cells.toArray rfl ?_)
  intro g3 w1 l1 h1 hb1
  have F1 := Lib.hid (FR.out.later hb1); have B1 := Lib.hid hb1
  have D1 : Hid (w1.heap[g3]? = some (.cells x.cells.toArray 48 (0, 0))) := Lib.hid h1
  clear hb1 h1 FR
  go_wp2_with fail
  rename_i K3 hK3
  have m0 : Frg w1.drew A r1 r2 r3 F S M ∧ w1.drew.heap[g3]? = some (.cells x.cells.toArray 48 (0, 0)) ∧ Below w.heap.size w w1.drew := ⟨F1.out.later (w := w1) (to_drew (Below.refl _ _)), D1.out, to_drew B1.out⟩
  refine rg_calm (by kernel_rfl) rfl (S := fun U => Frg U A r1 r2 r3 F S M ∧ U.heap[g3]? = some (.cells x.cells.toArray 48 (0, 0)) ∧ Below w.heap.size w U) ?_
  refine rgd_pure 0 (some 11) rfl rfl (.pointer (some ⟨A, 0, none⟩)) (by kernel_rfl) (by kernel_rfl) (by kernel_rfl) (fun _ _ _ _ h => h) (by kernel_rfl) (fun w => by kernel_rfl) m0 ?_
  refine rgd_pure 1 (some 12) rfl rfl (.pointer (some ⟨A, 0, none⟩)) (by kernel_rfl) (by kernel_rfl) (by kernel_rfl) (fun _ _ _ _ h => h) (by kernel_rfl) (fun w => by kernel_rfl) m0 ?_
  refine rgd_pure 2 (some 13) rfl rfl (.pointer (some ⟨A, 65, none⟩)) (by kernel_rfl) (by kernel_rfl) (by kernel_rfl) (fun _ _ _ _ h => h) (by kernel_rfl) (fun w => by kernel_rfl) m0 ?_
  refine rgd_pureS 3 (some 14) rfl rfl (.map (some r2)) (by kernel_rfl) (by kernel_rfl) (by kernel_rfl) (fun _ _ _ _ h => h) (by kernel_rfl) (fun U hU => exec_load1 _ _ rfl Tryd.underlying65 rfl ⟨A, 65, none⟩ _ (by kernel_rfl) (hU.1.at 1)) m0 ?_
  refine rgd_pure 4 (some 15) rfl rfl (.pointer (some ⟨g3, 0, none⟩)) (by kernel_rfl) (by kernel_rfl) (by kernel_rfl) (fun _ _ _ _ h => h) (by kernel_rfl) (fun w => by kernel_rfl) m0 ?_
  refine rgd_pureS 5 (some 16) rfl rfl (.agg (dcs x.e.rep x.e.n)) (by kernel_rfl) (by kernel_rfl) (by kernel_rfl) (fun _ _ _ _ h => h) (by kernel_rfl) (fun U hU => exec_gload 37 _ rfl g3 0 (by kernel_rfl) (dcs x.e.rep x.e.n).toList (xv_dot hU.2.1) Tryd.underlying37 rfl (sizeDtA _ _)) m0 ?_
  refine rgd_pureS 6 (some 17) rfl rfl (.tuple #[.agg #[], .bool b8]) (by kernel_rfl) (by kernel_rfl) (by kernel_rfl) (fun _ _ _ _ h => h) (by kernel_rfl) (fun U hU => exec_lookR 65 _ _ rfl (.map (some r2)) (.agg (dcs x.e.rep x.e.n)) (by kernel_rfl) (by kernel_rfl) _ (by have h := run_dlook hU.1.met (x.e.rep, x.e.n); rw [H8.out] at h; exact h)) m0 ?_
  refine rgd_pure 7 (some 10) rfl rfl (.tuple #[.agg #[], .bool b8]) (by kernel_rfl) (by kernel_rfl) (by kernel_rfl) (fun _ _ _ _ h => h) (by kernel_rfl) (fun w => by kernel_rfl) m0 ?_
  refine rgd_pure 8 (some 18) rfl rfl (.agg #[]) (by kernel_rfl) (by kernel_rfl) (by kernel_rfl) (fun _ _ _ _ h => h) (by kernel_rfl) (fun w => by kernel_rfl) m0 ?_
  refine rgd_pure 9 (some 19) rfl rfl (.bool b8) (by kernel_rfl) (by kernel_rfl) (by kernel_rfl) (fun _ _ _ _ h => h) (by kernel_rfl) (fun w => by kernel_rfl) m0 ?_
  have ba := below_alloc w1.drew (.cells #[] 69)
  have m1 : Frg (w1.drew.alloc (.cells #[] 69)) A r1 r2 r3 F S M ∧ (w1.drew.alloc (.cells #[] 69)).heap[g3]? = some (.cells x.cells.toArray 48 (0, 0)) ∧ Below w.heap.size w (w1.drew.alloc (.cells #[] 69)) := ⟨m0.1.later ba, (ba.block g3 (Array.getElem?_eq_some_iff.1 m0.2.1).1).trans m0.2.1, thenBelow m0.2.2 ba⟩
  refine rgd_run 10 (some 5) (by kernel_rfl) rfl rfl (by kernel_rfl) _ _ (exec_unitA rfl _) m1 ?_
  generalize w1.drew.alloc (.cells #[] 69) = U1 at m1 ⊢
  generalize w1.drew.heap.size = GU
  refine rgd_do 11 none (by kernel_rfl) rfl rfl (by kernel_rfl) _ (exec_unitPutA _ _ rfl ⟨GU, 0, none⟩ (by kernel_rfl) (by kernel_rfl) _) m1 ?_
  refine rgd_pure 12 (some 6) rfl rfl (.bool b8) (by kernel_rfl) (by kernel_rfl) (by kernel_rfl) (fun _ _ _ _ h => h) (by kernel_rfl) (fun w => by kernel_rfl) m1 ?_
  have MH := Lib.hid m1
  clear m0 ba D1 F1 B1
  have KE : K3 { tmps := #[.pointer (some ⟨A, 0, none⟩), .agg x.cells.toArray, undef, .pointer (some ⟨g3, 0, none⟩), .slice none 0 0, .pointer (some ⟨GU, 0, none⟩), .bool b8, undef, undef, undef, .tuple #[.agg #[], .bool b8], .pointer (some ⟨A, 0, none⟩), .pointer (some ⟨A, 0, none⟩), .pointer (some ⟨A, 65, none⟩), .map (some r2), .pointer (some ⟨g3, 0, none⟩), .agg (dcs x.e.rep x.e.n), .tuple #[.agg #[], .bool b8], .agg #[], .bool b8, undef, undef, undef, undef, undef, undef, undef, undef, undef, undef, undef, undef, undef, undef, undef, undef, undef, undef, undef, undef, undef, undef, undef, undef, undef, undef, undef, undef, undef, undef, undef, undef, undef, undef, undef, undef, undef, undef, undef, undef, undef, undef, undef], defers := [] } U1 := by
    refine hK3 _ _ ?_
    clear hK3 m1
    go_wp2_with fail
    rename_i K4 hK4
    have m0 : Frg U1.drew A r1 r2 r3 F S M ∧ U1.drew.heap[g3]? = some (.cells x.cells.toArray 48 (0, 0)) ∧ Below w.heap.size w U1.drew := ⟨MH.out.1.later (w := U1) (to_drew (Below.refl _ _)), MH.out.2.1, to_drew MH.out.2.2⟩
    refine rg_calm (by kernel_rfl) rfl (S := fun U => Frg U A r1 r2 r3 F S M ∧ U.heap[g3]? = some (.cells x.cells.toArray 48 (0, 0)) ∧ Below w.heap.size w U) ?_
    refine rgd_pureS 0 (some 20) rfl rfl (.agg x.cells.toArray) (by kernel_rfl) (by kernel_rfl) (by kernel_rfl) (fun _ _ _ _ h => h) (by kernel_rfl) (fun U hU => exec_gload 48 _ rfl g3 0 (by kernel_rfl) x.cells (range_of_block hU.2.1) Tryd.underlying48 rfl (sizeEvA x)) m0 ?_
    refine rgd_pure 4 (some 24) rfl rfl (.pointer (some ⟨A, 0, none⟩)) (by kernel_rfl) (by kernel_rfl) (by kernel_rfl) (fun _ _ _ _ h => h) (by kernel_rfl) (fun w => by kernel_rfl) m0 ?_
    refine rgd_pure 5 (some 25) rfl rfl (.pointer (some ⟨g3, 0, none⟩)) (by kernel_rfl) (by kernel_rfl) (by kernel_rfl) (fun _ _ _ _ h => h) (by kernel_rfl) (fun w => by kernel_rfl) m0 ?_
    refine rgd_pureS 6 (some 26) rfl rfl (.agg (dcs x.e.rep x.e.n)) (by kernel_rfl) (by kernel_rfl) (by kernel_rfl) (fun _ _ _ _ h => h) (by kernel_rfl) (fun U hU => exec_gload 37 _ rfl g3 0 (by kernel_rfl) (dcs x.e.rep x.e.n).toList (xv_dot hU.2.1) Tryd.underlying37 rfl (sizeDtA _ _)) m0 ?_
    refine rgd_pure 9 (some 29) rfl rfl (.pointer (some ⟨A, 0, none⟩)) (by kernel_rfl) (by kernel_rfl) (by kernel_rfl) (fun _ _ _ _ h => h) (by kernel_rfl) (fun w => by kernel_rfl) m0 ?_
    refine rgd_pure 10 (some 30) rfl rfl (.pointer (some ⟨g3, 0, none⟩)) (by kernel_rfl) (by kernel_rfl) (by kernel_rfl) (fun _ _ _ _ h => h) (by kernel_rfl) (fun w => by kernel_rfl) m0 ?_
    refine rgd_pureS 11 (some 31) rfl rfl (.agg (dcs x.e.rep x.e.n)) (by kernel_rfl) (by kernel_rfl) (by kernel_rfl) (fun _ _ _ _ h => h) (by kernel_rfl) (fun U hU => exec_gload 37 _ rfl g3 0 (by kernel_rfl) (dcs x.e.rep x.e.n).toList (xv_dot hU.2.1) Tryd.underlying37 rfl (sizeDtA _ _)) m0 ?_
    refine rgd_pure 14 (some 34) rfl rfl (.pointer (some ⟨g3, 7, none⟩)) (by kernel_rfl) (by kernel_rfl) (by kernel_rfl) (fun _ _ _ _ h => h) (by kernel_rfl) (fun w => by kernel_rfl) m0 ?_
    refine rgd_pureS 15 (some 35) rfl rfl (.slice x.p x.e.gone.length x.c) (by kernel_rfl) (by kernel_rfl) (by kernel_rfl) (fun _ _ _ _ h => h) (by kernel_rfl) (fun U hU => exec_load1 _ _ rfl Tryd.underlying46 rfl ⟨g3, 7, none⟩ _ (by kernel_rfl) (cell_of_row _ g3 7 _ _ _ hU.2.1)) m0 ?_
    refine rgd_pure 16 (some 36) rfl rfl (.pointer (some ⟨A, 0, none⟩)) (by kernel_rfl) (by kernel_rfl) (by kernel_rfl) (fun _ _ _ _ h => h) (by kernel_rfl) (fun w => by kernel_rfl) m0 ?_
    refine rgd_pure 17 (some 37) rfl rfl (.func (.func 30) #[.pointer (some ⟨A, 0, none⟩)] #[]) (by kernel_rfl) (by kernel_rfl) (by kernel_rfl) (fun _ _ _ _ h => h) (by kernel_rfl) (fun w => by kernel_rfl) m0 ?_
    refine rgd_pure 20 (some 40) rfl rfl (.pointer (some ⟨g3, 7, none⟩)) (by kernel_rfl) (by kernel_rfl) (by kernel_rfl) (fun _ _ _ _ h => h) (by kernel_rfl) (fun w => by kernel_rfl) m0 ?_
    refine rgd_pureS 21 (some 41) rfl rfl (.slice x.p x.e.gone.length x.c) (by kernel_rfl) (by kernel_rfl) (by kernel_rfl) (fun _ _ _ _ h => h) (by kernel_rfl) (fun U hU => exec_load1 _ _ rfl Tryd.underlying46 rfl ⟨g3, 7, none⟩ _ (by kernel_rfl) (cell_of_row _ g3 7 _ _ _ hU.2.1)) m0 ?_
    refine rgd_pure 22 (some 42) rfl rfl (.pointer (some ⟨A, 0, none⟩)) (by kernel_rfl) (by kernel_rfl) (by kernel_rfl) (fun _ _ _ _ h => h) (by kernel_rfl) (fun w => by kernel_rfl) m0 ?_
    refine rgd_pure 23 (some 43) rfl rfl (.func (.func 33) #[.pointer (some ⟨A, 0, none⟩)] #[]) (by kernel_rfl) (by kernel_rfl) (by kernel_rfl) (fun _ _ _ _ h => h) (by kernel_rfl) (fun w => by kernel_rfl) m0 ?_
    refine rgd_pure 30 (some 50) rfl rfl (.int .i64 0) (by kernel_rfl) (by kernel_rfl) (by kernel_rfl) (fun _ _ _ _ h => h) (by kernel_rfl) (fun w => by kernel_rfl) m0 ?_
    refine rgd_pure 26 (some 46) rfl rfl (.bool b8) (by kernel_rfl) (by kernel_rfl) (by kernel_rfl) (fun _ _ _ _ h => h) (by kernel_rfl) (fun w => by kernel_rfl) m0 ?_
    refine rgd_pure 27 (some 47) rfl rfl (.agg #[.int .i64 8, .bool b8]) (by kernel_rfl) (by kernel_rfl) (by kernel_rfl) (fun _ _ _ _ h => h) (by kernel_rfl) (fun w => by kernel_rfl) m0 ?_
    refine rgd_call 1 (some 21) (by kernel_rfl) rfl rfl (by kernel_rfl) 29 (#[.agg x.cells.toArray]) (by kernel_rfl) (C2.out _ m0.2.2) ?_
    rintro _ V1 ⟨rfl, b1⟩
    have m1 : Frg V1 A r1 r2 r3 F S M ∧ V1.heap[g3]? = some (.cells x.cells.toArray 48 (0, 0)) ∧ Below w.heap.size w V1 := ⟨m0.1.later b1, (b1.block g3 (Array.getElem?_eq_some_iff.1 m0.2.1).1).trans m0.2.1, thenBelow m0.2.2 b1⟩
    refine ⟨_, rfl, m1, ?_⟩
    refine rgd_pure 2 (some 22) rfl rfl (.bool b2) (by kernel_rfl) (by kernel_rfl) (by kernel_rfl) (fun _ _ _ _ h => h) (by kernel_rfl) (fun w => exec_neqL _ _ _ _ rfl ck 0 _ H2.out (by kernel_rfl) (by kernel_rfl) w) m1 ?_
    refine rgd_pure 3 (some 23) rfl rfl (.agg #[.int .i64 2, .bool b2]) (by kernel_rfl) (by kernel_rfl) (by kernel_rfl) (fun _ _ _ _ h => h) (by kernel_rfl) (fun w => by kernel_rfl) m1 ?_
    refine rgd_call 7 (some 27) (by kernel_rfl) rfl rfl (by kernel_rfl) 30 (#[.pointer (some ⟨A, 0, none⟩), .agg (dcs x.e.rep x.e.n)]) (by kernel_rfl) (C3.out _ m1.2.2) ?_
    rintro _ V7 ⟨rfl, b7⟩
    have m2 : Frg V7 A r1 r2 r3 F S M ∧ V7.heap[g3]? = some (.cells x.cells.toArray 48 (0, 0)) ∧ Below w.heap.size w V7 := ⟨m1.1.later b7, (b7.block g3 (Array.getElem?_eq_some_iff.1 m1.2.1).1).trans m1.2.1, thenBelow m1.2.2 b7⟩
    refine ⟨_, rfl, m2, ?_⟩
    refine rgd_pure 8 (some 28) rfl rfl (.agg #[.int .i64 3, .bool b3]) (by kernel_rfl) (by kernel_rfl) (by kernel_rfl) (fun _ _ _ _ h => h) (by kernel_rfl) (fun w => by kernel_rfl) m2 ?_
    refine rgd_call 12 (some 32) (by kernel_rfl) rfl rfl (by kernel_rfl) 31 (#[.pointer (some ⟨A, 0, none⟩), .agg (dcs x.e.rep x.e.n)]) (by kernel_rfl) (C4.out _ m2.2.2) ?_
    rintro _ V12 ⟨rfl, b12⟩
    have m3 : Frg V12 A r1 r2 r3 F S M ∧ V12.heap[g3]? = some (.cells x.cells.toArray 48 (0, 0)) ∧ Below w.heap.size w V12 := ⟨m2.1.later b12, (b12.block g3 (Array.getElem?_eq_some_iff.1 m2.2.1).1).trans m2.2.1, thenBelow m2.2.2 b12⟩
    refine ⟨_, rfl, m3, ?_⟩
    refine rgd_pure 13 (some 33) rfl rfl (.agg #[.int .i64 4, .bool b4]) (by kernel_rfl) (by kernel_rfl) (by kernel_rfl) (fun _ _ _ _ h => h) (by kernel_rfl) (fun w => by kernel_rfl) m3 ?_
    refine rgd_call 18 (some 38) (by kernel_rfl) rfl rfl (by kernel_rfl) 32 (#[.slice x.p x.e.gone.length x.c, .func (.func 30) #[.pointer (some ⟨A, 0, none⟩)] #[]]) (by kernel_rfl) (C5.out _ m3.2.2) ?_
    rintro _ V18 ⟨rfl, b18⟩
    have m4 : Frg V18 A r1 r2 r3 F S M ∧ V18.heap[g3]? = some (.cells x.cells.toArray 48 (0, 0)) ∧ Below w.heap.size w V18 := ⟨m3.1.later b18, (b18.block g3 (Array.getElem?_eq_some_iff.1 m3.2.1).1).trans m3.2.1, thenBelow m3.2.2 b18⟩
    refine ⟨_, rfl, m4, ?_⟩
    refine rgd_pure 19 (some 39) rfl rfl (.agg #[.int .i64 5, .bool b5]) (by kernel_rfl) (by kernel_rfl) (by kernel_rfl) (fun _ _ _ _ h => h) (by kernel_rfl) (fun w => by kernel_rfl) m4 ?_
    refine rgd_call 24 (some 44) (by kernel_rfl) rfl rfl (by kernel_rfl) 32 (#[.slice x.p x.e.gone.length x.c, .func (.func 33) #[.pointer (some ⟨A, 0, none⟩)] #[]]) (by kernel_rfl) (C6.out _ m4.2.2) ?_
    rintro _ V24 ⟨rfl, b24⟩
    have m5 : Frg V24 A r1 r2 r3 F S M ∧ V24.heap[g3]? = some (.cells x.cells.toArray 48 (0, 0)) ∧ Below w.heap.size w V24 := ⟨m4.1.later b24, (b24.block g3 (Array.getElem?_eq_some_iff.1 m4.2.1).1).trans m4.2.1, thenBelow m4.2.2 b24⟩
    refine ⟨_, rfl, m5, ?_⟩
    refine rgd_pure 25 (some 45) rfl rfl (.agg #[.int .i64 6, .bool b6]) (by kernel_rfl) (by kernel_rfl) (by kernel_rfl) (fun _ _ _ _ h => h) (by kernel_rfl) (fun w => by kernel_rfl) m5 ?_
    have bk := below_alloc V24 (.cells (kindC b2 b3 b4 b5 b6 b8).toArray 73)
    have nk := heap_alloc_new V24 (.cells (kindC b2 b3 b4 b5 b6 b8).toArray 73)
    have zk : (V24.alloc (.cells (kindC b2 b3 b4 b5 b6 b8).toArray 73)).heap.size = V24.heap.size + 1 := by simp
    have m6 : Frg (V24.alloc (.cells (kindC b2 b3 b4 b5 b6 b8).toArray 73)) A r1 r2 r3 F S M ∧ (V24.alloc (.cells (kindC b2 b3 b4 b5 b6 b8).toArray 73)).heap[g3]? = some (.cells x.cells.toArray 48 (0, 0)) ∧ Below w.heap.size w (V24.alloc (.cells (kindC b2 b3 b4 b5 b6 b8).toArray 73)) := ⟨m5.1.later bk, (bk.block g3 (Array.getElem?_eq_some_iff.1 m5.2.1).1).trans m5.2.1, thenBelow m5.2.2 bk⟩
    refine rgd_run 28 (some 48) (by kernel_rfl) rfl rfl (by kernel_rfl) (.slice (some ⟨V24.heap.size, 0, none⟩) 6 6) (V24.alloc (.cells (kindC b2 b3 b4 b5 b6 b8).toArray 73)) (by kernel_rfl) m6 ?_
    generalize V24.alloc (.cells (kindC b2 b3 b4 b5 b6 b8).toArray 73) = U2 at nk zk m6 ⊢
    generalize V24.heap.size = GB at nk zk ⊢
    refine rgd_pure 29 (some 49) rfl rfl (.int .i64 6) (by kernel_rfl) (by kernel_rfl) (by kernel_rfl) (fun _ _ _ _ h => h) (by kernel_rfl) (fun w => by kernel_rfl) m6 ?_
    have KE : K4 { tmps := #[.pointer (some ⟨A, 0, none⟩), .agg x.cells.toArray, undef, .pointer (some ⟨g3, 0, none⟩), .slice none 0 0, .pointer (some ⟨GU, 0, none⟩), .bool b8, .slice none 0 0, undef, undef, .tuple #[.agg #[], .bool b8], .pointer (some ⟨A, 0, none⟩), .pointer (some ⟨A, 0, none⟩), .pointer (some ⟨A, 65, none⟩), .map (some r2), .pointer (some ⟨g3, 0, none⟩), .agg (dcs x.e.rep x.e.n), .tuple #[.agg #[], .bool b8], .agg #[], .bool b8, .agg x.cells.toArray, .int .i64 ck, .bool b2, .agg #[.int .i64 2, .bool b2], .pointer (some ⟨A, 0, none⟩), .pointer (some ⟨g3, 0, none⟩), .agg (dcs x.e.rep x.e.n), .bool b3, .agg #[.int .i64 3, .bool b3], .pointer (some ⟨A, 0, none⟩), .pointer (some ⟨g3, 0, none⟩), .agg (dcs x.e.rep x.e.n), .bool b4, .agg #[.int .i64 4, .bool b4], .pointer (some ⟨g3, 7, none⟩), .slice x.p x.e.gone.length x.c, .pointer (some ⟨A, 0, none⟩), .func (.func 30) #[.pointer (some ⟨A, 0, none⟩)] #[], .bool b5, .agg #[.int .i64 5, .bool b5], .pointer (some ⟨g3, 7, none⟩), .slice x.p x.e.gone.length x.c, .pointer (some ⟨A, 0, none⟩), .func (.func 33) #[.pointer (some ⟨A, 0, none⟩)] #[], .bool b6, .agg #[.int .i64 6, .bool b6], .bool b8, .agg #[.int .i64 8, .bool b8], .slice (some ⟨GB, 0, none⟩) 6 6, .int .i64 6, .int .i64 0, undef, undef, undef, undef, undef, undef, undef, undef, undef, undef, undef, undef], defers := [] } U2 := by
      refine hK4 _ _ ?_
      have N2 := Lib.hid nk; have B2 := Lib.hid m6.2.2
      have hz : U2.heap.size = GB + 1 := zk
      clear hK4 m0 m1 m2 m3 m4 m5 m6 nk zk bk b1 b7 b12 b18 b24 MH
      go_wp2
      clear C2 C3 C4 C5 C6 H2 H8
      have HZ := Lib.hid hz
      clear hz
      go_loopw [7, 50] (fun v i wr => ∃ (k : Nat) (l : List Int), k ≤ 6 ∧ l = kindL ([(2, b2), (3, b3), (4, b4), (5, b5), (6, b6), (8, b8)].take k) ∧ i = .int .i64 k ∧ wr.ownsRow U2.heap.size 3 1 v l.length (ints l) ∧ Below U2.heap.size U2 wr) (fun _ i _ => 6 - (RowKit.intOf i).toNat)
      case atStart => exact ⟨0, [], by omega, rfl, rfl, ⟨rfl, .inl ⟨rfl, rfl⟩⟩, Below.refl _ _⟩
      case round =>
        obtain ⟨k, l, hk, hl, rfl, ow, hb⟩ := hrel
        have OW := Lib.hid ow; have BR := Lib.hid hb; have HLN := Lib.hid hl
        have NR := Lib.hid ((hb.block GB (by have := HZ.out; omega)).trans N2.out)
        have len6 : l.length ≤ 6 := by rw [hl]; unfold kindL; rw [List.length_map]; exact Nat.le_trans (List.length_filter_le _ _) (by rw [List.length_take]; exact Nat.le_trans (Nat.min_le_right _ _) (Nat.le_refl _))
        clear ow hb hl
        by_cases h6 : k = 6
        · subst h6
          have hl6 : Hid (l = kindL [(2, b2), (3, b3), (4, b4), (5, b5), (6, b6), (8, b8)]) := Lib.hid HLN.out
          go_wp2
          go_ret
          exact ⟨_, rfl, by rw [← hl6.out]; exact own_base OW.out B2.out.size, thenBelow B2.out BR.out⟩
        · have hc : k = 0 ∨ k = 1 ∨ k = 2 ∨ k = 3 ∨ k = 4 ∨ k = 5 := by omega
          clear h6
          rcases hc with rfl | rfl | rfl | rfl | rfl | rfl
          · have c0 : wr.cell? ⟨GB, 0, none⟩ = some (.int .i64 2) := cell_of_row _ GB 0 _ _ _ NR.out
            have c1 : wr.cell? ⟨GB, 1, none⟩ = some (.bool b2) := cell_of_row _ GB 1 _ _ _ NR.out
            have ba := below_alloc wr (.cells #[.int .i64 2, .bool b2] 73)
            have O6 := Lib.hid (ownI_later OW.out ba); have B6 := Lib.hid (thenBelow BR.out ba)
            clear ba
            have HL0 : Hid (l = kindL []) := Lib.hid HLN.out
            cases b2 with
            | false =>
              have HL1 : Hid (l = kindL ([] ++ [(2, false)])) := Lib.hid (by rw [HL0.out]; unfold kindL; rw [List.filter_append]; simp)
              go_wp2
              go_roundw
              case rel => exact ⟨1, l, by omega, HL1.out, by go_num, O6.out, B6.out⟩
              case measure => simp [intOf]
            | true =>
              have HL1 : Hid (l ++ [2] = kindL ([] ++ [(2, true)])) := Lib.hid (by rw [HL0.out]; unfold kindL; rw [List.filter_append, List.map_append]; rfl)
              have n0 : (wr.alloc (.cells #[.int .i64 2, .bool true] 73)).cell? ⟨wr.heap.size, 0, none⟩ = some (.int .i64 2) := cell_of_row _ wr.heap.size 0 _ _ _ (heap_alloc_new wr _)
              go_upto_region 7 with fail
              clear c0 c1
              generalize wr.alloc (.cells #[.int .i64 2, .bool true] 73) = W6 at n0 O6 B6 ⊢
              generalize wr.heap.size = G9 at n0 ⊢
              have hz6 := B6.out.size
              go_wp2_with (at_builtin; refine wpList_int isI64 _ rfl _ _ rfl U2.heap.size l.length l _ rfl O6.out _ rfl (by omega) hz6 ?_)
              intro v8 w8 o8 b8
              have O8 := Lib.hid o8; have B8 := Lib.hid (B6.out.trans b8)
              clear o8 b8 O6 B6 n0
              go_wp2
              go_roundw
              case rel => exact ⟨1, l ++ [2], by omega, HL1.out, by go_num, by have := O8.out; rw [List.length_append]; exact this, B8.out⟩
              case measure => simp [intOf]
          · have c0 : wr.cell? ⟨GB, 2, none⟩ = some (.int .i64 3) := cell_of_row _ GB 2 _ _ _ NR.out
            have c1 : wr.cell? ⟨GB, 3, none⟩ = some (.bool b3) := cell_of_row _ GB 3 _ _ _ NR.out
            have ba := below_alloc wr (.cells #[.int .i64 3, .bool b3] 73)
            have O6 := Lib.hid (ownI_later OW.out ba); have B6 := Lib.hid (thenBelow BR.out ba)
            clear ba
            have HL0 : Hid (l = kindL [(2, b2)]) := Lib.hid HLN.out
            cases b3 with
            | false =>
              have HL1 : Hid (l = kindL ([(2, b2)] ++ [(3, false)])) := Lib.hid (by rw [HL0.out]; unfold kindL; rw [List.filter_append]; simp)
              go_wp2
              go_roundw
              case rel => exact ⟨2, l, by omega, HL1.out, by go_num, O6.out, B6.out⟩
              case measure => simp [intOf]
            | true =>
              have HL1 : Hid (l ++ [3] = kindL ([(2, b2)] ++ [(3, true)])) := Lib.hid (by rw [HL0.out]; unfold kindL; rw [List.filter_append, List.map_append]; rfl)
              have n0 : (wr.alloc (.cells #[.int .i64 3, .bool true] 73)).cell? ⟨wr.heap.size, 0, none⟩ = some (.int .i64 3) := cell_of_row _ wr.heap.size 0 _ _ _ (heap_alloc_new wr _)
              go_upto_region 7 with fail
              clear c0 c1
              generalize wr.alloc (.cells #[.int .i64 3, .bool true] 73) = W6 at n0 O6 B6 ⊢
              generalize wr.heap.size = G9 at n0 ⊢
              have hz6 := B6.out.size
              go_wp2_with (at_builtin; refine wpList_int isI64 _ rfl _ _ rfl U2.heap.size l.length l _ rfl O6.out _ rfl (by omega) hz6 ?_)
              intro v8 w8 o8 b8
              have O8 := Lib.hid o8; have B8 := Lib.hid (B6.out.trans b8)
              clear o8 b8 O6 B6 n0
              go_wp2
              go_roundw
              case rel => exact ⟨2, l ++ [3], by omega, HL1.out, by go_num, by have := O8.out; rw [List.length_append]; exact this, B8.out⟩
              case measure => simp [intOf]
          · have c0 : wr.cell? ⟨GB, 4, none⟩ = some (.int .i64 4) := cell_of_row _ GB 4 _ _ _ NR.out
            have c1 : wr.cell? ⟨GB, 5, none⟩ = some (.bool b4) := cell_of_row _ GB 5 _ _ _ NR.out
            have ba := below_alloc wr (.cells #[.int .i64 4, .bool b4] 73)
            have O6 := Lib.hid (ownI_later OW.out ba); have B6 := Lib.hid (thenBelow BR.out ba)
            clear ba
            have HL0 : Hid (l = kindL [(2, b2), (3, b3)]) := Lib.hid HLN.out
            cases b4 with
            | false =>
              have HL1 : Hid (l = kindL ([(2, b2), (3, b3)] ++ [(4, false)])) := Lib.hid (by rw [HL0.out]; unfold kindL; rw [List.filter_append]; simp)
              go_wp2
              go_roundw
              case rel => exact ⟨3, l, by omega, HL1.out, by go_num, O6.out, B6.out⟩
              case measure => simp [intOf]
            | true =>
              have HL1 : Hid (l ++ [4] = kindL ([(2, b2), (3, b3)] ++ [(4, true)])) := Lib.hid (by rw [HL0.out]; unfold kindL; rw [List.filter_append, List.map_append]; rfl)
              have n0 : (wr.alloc (.cells #[.int .i64 4, .bool true] 73)).cell? ⟨wr.heap.size, 0, none⟩ = some (.int .i64 4) := cell_of_row _ wr.heap.size 0 _ _ _ (heap_alloc_new wr _)
              go_upto_region 7 with fail
              clear c0 c1
              generalize wr.alloc (.cells #[.int .i64 4, .bool true] 73) = W6 at n0 O6 B6 ⊢
              generalize wr.heap.size = G9 at n0 ⊢
              have hz6 := B6.out.size
              go_wp2_with (at_builtin; refine wpList_int isI64 _ rfl _ _ rfl U2.heap.size l.length l _ rfl O6.out _ rfl (by omega) hz6 ?_)
              intro v8 w8 o8 b8
              have O8 := Lib.hid o8; have B8 := Lib.hid (B6.out.trans b8)
              clear o8 b8 O6 B6 n0
              go_wp2
              go_roundw
              case rel => exact ⟨3, l ++ [4], by omega, HL1.out, by go_num, by have := O8.out; rw [List.length_append]; exact this, B8.out⟩
              case measure => simp [intOf]
          · have c0 : wr.cell? ⟨GB, 6, none⟩ = some (.int .i64 5) := cell_of_row _ GB 6 _ _ _ NR.out
            have c1 : wr.cell? ⟨GB, 7, none⟩ = some (.bool b5) := cell_of_row _ GB 7 _ _ _ NR.out
            have ba := below_alloc wr (.cells #[.int .i64 5, .bool b5] 73)
            have O6 := Lib.hid (ownI_later OW.out ba); have B6 := Lib.hid (thenBelow BR.out ba)
            clear ba
            have HL0 : Hid (l = kindL [(2, b2), (3, b3), (4, b4)]) := Lib.hid HLN.out
            cases b5 with
            | false =>
              have HL1 : Hid (l = kindL ([(2, b2), (3, b3), (4, b4)] ++ [(5, false)])) := Lib.hid (by rw [HL0.out]; unfold kindL; rw [List.filter_append]; simp)
              go_wp2
              go_roundw
              case rel => exact ⟨4, l, by omega, HL1.out, by go_num, O6.out, B6.out⟩
              case measure => simp [intOf]
            | true =>
              have HL1 : Hid (l ++ [5] = kindL ([(2, b2), (3, b3), (4, b4)] ++ [(5, true)])) := Lib.hid (by rw [HL0.out]; unfold kindL; rw [List.filter_append, List.map_append]; rfl)
              have n0 : (wr.alloc (.cells #[.int .i64 5, .bool true] 73)).cell? ⟨wr.heap.size, 0, none⟩ = some (.int .i64 5) := cell_of_row _ wr.heap.size 0 _ _ _ (heap_alloc_new wr _)
              go_upto_region 7 with fail
              clear c0 c1
              generalize wr.alloc (.cells #[.int .i64 5, .bool true] 73) = W6 at n0 O6 B6 ⊢
              generalize wr.heap.size = G9 at n0 ⊢
              have hz6 := B6.out.size
              go_wp2_with (at_builtin; refine wpList_int isI64 _ rfl _ _ rfl U2.heap.size l.length l _ rfl O6.out _ rfl (by omega) hz6 ?_)
              intro v8 w8 o8 b8
              have O8 := Lib.hid o8; have B8 := Lib.hid (B6.out.trans b8)
              clear o8 b8 O6 B6 n0
              go_wp2
              go_roundw
              case rel => exact ⟨4, l ++ [5], by omega, HL1.out, by go_num, by have := O8.out; rw [List.length_append]; exact this, B8.out⟩
              case measure => simp [intOf]
          · have c0 : wr.cell? ⟨GB, 8, none⟩ = some (.int .i64 6) := cell_of_row _ GB 8 _ _ _ NR.out
            have c1 : wr.cell? ⟨GB, 9, none⟩ = some (.bool b6) := cell_of_row _ GB 9 _ _ _ NR.out
            have ba := below_alloc wr (.cells #[.int .i64 6, .bool b6] 73)
            have O6 := Lib.hid (ownI_later OW.out ba); have B6 := Lib.hid (thenBelow BR.out ba)
            clear ba
            have HL0 : Hid (l = kindL [(2, b2), (3, b3), (4, b4), (5, b5)]) := Lib.hid HLN.out
            cases b6 with
            | false =>
              have HL1 : Hid (l = kindL ([(2, b2), (3, b3), (4, b4), (5, b5)] ++ [(6, false)])) := Lib.hid (by rw [HL0.out]; unfold kindL; rw [List.filter_append]; simp)
              go_wp2
              go_roundw
              case rel => exact ⟨5, l, by omega, HL1.out, by go_num, O6.out, B6.out⟩
              case measure => simp [intOf]
            | true =>
              have HL1 : Hid (l ++ [6] = kindL ([(2, b2), (3, b3), (4, b4), (5, b5)] ++ [(6, true)])) := Lib.hid (by rw [HL0.out]; unfold kindL; rw [List.filter_append, List.map_append]; rfl)
              have n0 : (wr.alloc (.cells #[.int .i64 6, .bool true] 73)).cell? ⟨wr.heap.size, 0, none⟩ = some (.int .i64 6) := cell_of_row _ wr.heap.size 0 _ _ _ (heap_alloc_new wr _)
              go_upto_region 7 with fail
              clear c0 c1
              generalize wr.alloc (.cells #[.int .i64 6, .bool true] 73) = W6 at n0 O6 B6 ⊢
              generalize wr.heap.size = G9 at n0 ⊢
              have hz6 := B6.out.size
              go_wp2_with (at_builtin; refine wpList_int isI64 _ rfl _ _ rfl U2.heap.size l.length l _ rfl O6.out _ rfl (by omega) hz6 ?_)
              intro v8 w8 o8 b8
              have O8 := Lib.hid o8; have B8 := Lib.hid (B6.out.trans b8)
              clear o8 b8 O6 B6 n0
              go_wp2
              go_roundw
              case rel => exact ⟨5, l ++ [6], by omega, HL1.out, by go_num, by have := O8.out; rw [List.length_append]; exact this, B8.out⟩
              case measure => simp [intOf]
          · have c0 : wr.cell? ⟨GB, 10, none⟩ = some (.int .i64 8) := cell_of_row _ GB 10 _ _ _ NR.out
            have c1 : wr.cell? ⟨GB, 11, none⟩ = some (.bool b8) := cell_of_row _ GB 11 _ _ _ NR.out
            have ba := below_alloc wr (.cells #[.int .i64 8, .bool b8] 73)
            have O6 := Lib.hid (ownI_later OW.out ba); have B6 := Lib.hid (thenBelow BR.out ba)
            clear ba
            have HL0 : Hid (l = kindL [(2, b2), (3, b3), (4, b4), (5, b5), (6, b6)]) := Lib.hid HLN.out
            cases b8 with
            | false =>
              have HL1 : Hid (l = kindL ([(2, b2), (3, b3), (4, b4), (5, b5), (6, b6)] ++ [(8, false)])) := Lib.hid (by rw [HL0.out]; unfold kindL; rw [List.filter_append]; simp)
              go_wp2
              go_roundw
              case rel => exact ⟨6, l, by omega, HL1.out, by go_num, O6.out, B6.out⟩
              case measure => simp [intOf]
            | true =>
              have HL1 : Hid (l ++ [8] = kindL ([(2, b2), (3, b3), (4, b4), (5, b5), (6, b6)] ++ [(8, true)])) := Lib.hid (by rw [HL0.out]; unfold kindL; rw [List.filter_append, List.map_append]; rfl)
              have n0 : (wr.alloc (.cells #[.int .i64 8, .bool true] 73)).cell? ⟨wr.heap.size, 0, none⟩ = some (.int .i64 8) := cell_of_row _ wr.heap.size 0 _ _ _ (heap_alloc_new wr _)
              go_upto_region 7 with fail
              clear c0 c1
              generalize wr.alloc (.cells #[.int .i64 8, .bool true] 73) = W6 at n0 O6 B6 ⊢
              generalize wr.heap.size = G9 at n0 ⊢
              have hz6 := B6.out.size
              go_wp2_with (at_builtin; refine wpList_int isI64 _ rfl _ _ rfl U2.heap.size l.length l _ rfl O6.out _ rfl (by omega) hz6 ?_)
              intro v8 w8 o8 b8
              have O8 := Lib.hid o8; have B8 := Lib.hid (B6.out.trans b8)
              clear o8 b8 O6 B6 n0
              go_wp2
              go_roundw
              case rel => exact ⟨6, l ++ [8], by omega, HL1.out, by go_num, by have := O8.out; rw [List.length_append]; exact this, B8.out⟩
              case measure => simp [intOf]
    exact wpAnyH_done (by kernel_rfl) (Eq.mp (by kernel_rfl) KE) _
  exact wpAnyH_done (by kernel_rfl) (Eq.mp (by kernel_rfl) KE) _
end Go.Proofs.YtkpldjiloinaoaaDoor
