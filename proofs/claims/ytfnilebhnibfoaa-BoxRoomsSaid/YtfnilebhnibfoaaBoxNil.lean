/- A box of ints that no call made: nil, or with no channel. -/
import Derived.Test.YtfnilebhnibfoaaBoxListI
namespace Go.Proofs.Ytfnilebhnibfoaa
open Go Go.RowKit Go.Conc

/-- the box at p has no channel in w -/
def NoLine (p : Option Addr) (w : World) : Prop := p = none ∨ ∃ a, p = some ⟨a, 0, none⟩ ∧ w.cell? ⟨a, 0, none⟩ = some (.chan none)
theorem NoLine.calls {p : Option Addr} {w : World} (h : NoLine p w) : Calls Try.prog 31 #[.pointer p] w fun e w' => e = .returned (.chan none) ∧ w = w' := by
  rcases h with rfl | ⟨a, rfl, h⟩
  · exact lineI_nil w
  · exact lineI_is a _ w h
theorem NoLine.below {p : Option Addr} {w w' : World} (h : NoLine p w) (hb : Below w.heap.size w w') : NoLine p w' := by
  rcases h with rfl | ⟨a, rfl, h⟩
  · exact .inl rfl
  · exact .inr ⟨a, rfl, (hb.cell (p := ⟨a, 0, none⟩) (World.block_lt_of_cell? w _ h)).trans h⟩
theorem chanLenNil (w : World) (ty : TypeId) : (Builtin.len_ #[54] ty #[.chan none]).run Try.prog w = .ok (.int .i64 0) w := by
  simp [Builtin.len_, run_underlying Try.underlying54, goInt]
theorem chanCapNil (w : World) (ty : TypeId) : (Builtin.cap_ #[54] ty #[.chan none]).run Try.prog w = .ok (.int .i64 0) w := by
  simp [Builtin.cap_, run_underlying Try.underlying54, goInt]

theorem lenNil (p : Option Addr) (w : World) (h : NoLine p w) : Calls Try.prog 15 #[.pointer p] w fun e w' => e = .returned (.int .i64 0) ∧ w = w' := by
  have hl := chanLenNil
  have L := Lib.hid h.calls
  clear h
  go_enter Try.func15, Try.ntmps15
  go_wp2_with fail
  refine L.out.mono ?_
  rintro e w' ⟨rfl, rfl⟩
  go_wp2
  go_ret
  exact ⟨rfl, rfl⟩
theorem roomNil (p : Option Addr) (w : World) (h : NoLine p w) : Calls Try.prog 16 #[.pointer p] w fun e w' => e = .returned (.int .i64 0) ∧ w = w' := by
  have hl := chanCapNil
  have L := Lib.hid h.calls
  have LN := Lib.hid (lenNil p w h)
  clear h
  go_enter Try.func16, Try.ntmps16
  go_wp2_with fail
  refine L.out.mono ?_
  rintro e w' ⟨rfl, rfl⟩
  go_wp2_with fail
  refine LN.out.mono ?_
  rintro e w' ⟨rfl, rfl⟩
  go_wp2
  go_ret
  exact ⟨rfl, rfl⟩
theorem TakeNil (p : Option Addr) (w : World) (h : NoLine p w) : Calls Try.prog 9 #[.pointer p] w fun e w' => e = .returned (.tuple #[.int .i64 0, .bool false]) ∧ w = w' := by
  have T := Lib.hid (takeI_nil p w h.calls)
  have O := Lib.hid (openI_none w)
  unfold encI at O
  clear h
  go_enter Try.func9, Try.ntmps9
  go_wp2_with fail
  refine T.out.mono ?_
  rintro e w' ⟨rfl, rfl⟩
  go_wp2_with fail
  refine O.out.mono ?_
  rintro e w' ⟨rfl, rfl⟩
  go_wp2
  go_ret2
  exact ⟨rfl, rfl⟩
theorem PutNil (p : Option Addr) (x : Int) (w : World) (h : NoLine p w) : Calls Try.prog 8 #[.pointer p, .int .i64 x] w fun e w' => e = .returned (.bool false) ∧ Below w.heap.size w w' := by
  have T := Lib.hid (putI_nil p w.heap.size (w.alloc (.cells #[.int .i64 x] 3)) (h.below ((Below.refl _ _).alloc (Nat.le_refl _) _)).calls)
  clear h
  go_enter Try.func8, Try.ntmps8
  go_wp2_with fail
  refine T.out.mono ?_
  rintro e w' ⟨rfl, rfl⟩
  go_wp2
  go_ret
  exact ⟨rfl, (Below.refl _ _).alloc (Nat.le_refl _) _⟩
theorem roundNil (p : Option Addr) (f : Value) (w : World) (h : NoLine p w) : Calls Try.prog 28 #[.pointer p, f] w fun e w' => (∃ v, e = .returned v) ∧ w = w' := by
  have LN := Lib.hid (lenNil p w h)
  clear h
  go_enter Try.func28, Try.ntmps28
  go_wp2_with fail
  refine LN.out.mono ?_
  rintro e w' ⟨rfl, rfl⟩
  go_wp2
  go_loop [7] (fun i => i = .int .i64 0) (fun _ => 0)
  case atStart => rfl
  case round =>
    subst hrel
    go_wp2
    go_end0
    exact ⟨⟨_, rfl⟩, rfl⟩
theorem ListNil (p : Option Addr) (w : World) (h : NoLine p w) : Calls Try.prog 14 #[.pointer p] w fun e w' => (∃ q c, e = .returned (.slice q 0 c)) ∧ Below w.heap.size w w' := by
  have LN := Lib.hid (lenNil p w h)
  have H := Lib.hid h
  clear h
  go_enter Try.func14, Try.ntmps14
  go_wp2_with fail
  refine LN.out.mono ?_
  rintro e w' ⟨rfl, rfl⟩
  go_wp2_with (refine wpList_mk isOneI _ rfl _ _ rfl _ _ _ 0 rfl rfl rfl (by omega) ?_)
  intro v0 w0 hown0 hb0
  obtain ⟨p0, c0, rfl⟩ := ownV_slice hown0
  have hz := hb0.size
  have hb1 : Below w.heap.size w (w0.alloc (.cells #[.slice p0 0 c0] 25)) := hb0.alloc hz _
  have R := Lib.hid (roundNil p (.func (.func 30) #[] #[.pointer (some ⟨w0.heap.size, 0, none⟩)]) (w0.alloc (.cells #[.slice p0 0 c0] 25)) (H.out.below hb1))
  have B0 := Lib.hid hb1
  clear hown0 hb0 hb1
  go_wp2_with fail
  refine R.out.mono ?_
  rintro e w2 ⟨⟨v, rfl⟩, rfl⟩
  go_wp2
  go_ret
  exact ⟨⟨_, _, rfl⟩, B0.out⟩
theorem PullNil (p : Option Addr) (k : Int) (w : World) (h : NoLine p w) : Calls Try.prog 10 #[.pointer p, .int .i64 k] w fun e w' => e = .returned (.tuple #[.int .i64 0, .bool false]) ∧ Below w.heap.size w w' := by
  have R := Lib.hid (fun f w' (hb : Below w.heap.size w w') => roundNil p f w' (h.below hb))
  have O := Lib.hid openI_none
  unfold encI at O
  clear h
  go_enter Try.func10, Try.ntmps10
  go_wp2_with fail
  refine (R.out _ _ ?hb).mono ?_
  case hb => first | exact ((((Below.refl _ _).alloc (Nat.le_refl _) _).alloc (by simp) _).alloc (by simp; omega) _) | exact ((((Below.refl _ _).alloc (Nat.le_refl _) _).alloc (by simp) _).alloc (by simp) _)
  rintro e w2 ⟨⟨v, rfl⟩, rfl⟩
  go_wp2_with fail
  refine (O.out _).mono ?_
  rintro e w' ⟨rfl, rfl⟩
  go_wp2
  go_ret2
  refine ⟨rfl, ?_⟩
  first | exact ((((Below.refl _ _).alloc (Nat.le_refl _) _).alloc (by simp) _).alloc (by simp; omega) _) | exact ((((Below.refl _ _).alloc (Nat.le_refl _) _).alloc (by simp) _).alloc (by simp) _)
theorem PourNil1 (p : Option Addr) (a C cap : Nat) (w : World) (h : NoLine p w) (hb : Bx w a C cap []) (hcap : cap ≤ 4096) : Calls Try.prog 24 #[.pointer p, .pointer (some ⟨a, 0, none⟩)] w fun e w' => e = .returned (.int .i64 0) ∧ w = w' := by
  have L1 := Lib.hid h.calls
  have L2 := Lib.hid (lineI_is a _ w hb.line)
  have N1 := Lib.hid (lenNil p w h)
  have N2 := Lib.hid (roomI a C cap [] w hb hcap)
  clear h hb
  have hq := fun (w : World) => run_eql_chan (P := Try.prog) w Try.underlying54 none (some C)
  have hq2 := fun (w : World) => run_eql_chan (P := Try.prog) w Try.underlying54 (some C) none
  simp at hq hq2
  go_enter Try.func24, Try.ntmps24
  go_wp2_with fail
  refine L1.out.mono ?_
  rintro e w' ⟨rfl, rfl⟩
  go_wp2_with fail
  refine L2.out.mono ?_
  rintro e w' ⟨rfl, rfl⟩
  go_wp2_with fail
  refine N1.out.mono ?_
  rintro e w' ⟨rfl, rfl⟩
  go_wp2_with fail
  refine N2.out.mono ?_
  rintro e w' ⟨rfl, rfl⟩
  go_wp2
  go_loop [17] (fun i => i = .int .i64 0) (fun _ => 0)
  case atStart => rfl
  case round =>
    subst hrel
    go_wp2
    go_ret
    exact ⟨rfl, rfl⟩
theorem PourNil2 (p : Option Addr) (a C cap : Nat) (w : World) (h : NoLine p w) (hb : Bx w a C cap []) (hcap : cap ≤ 4096) : Calls Try.prog 24 #[.pointer (some ⟨a, 0, none⟩), .pointer p] w fun e w' => e = .returned (.int .i64 0) ∧ w = w' := by
  have L1 := Lib.hid h.calls
  have L2 := Lib.hid (lineI_is a _ w hb.line)
  have N1 := Lib.hid (lenI a C cap [] w hb)
  have N2 := Lib.hid (roomNil p w h)
  clear h hb
  have hq := fun (w : World) => run_eql_chan (P := Try.prog) w Try.underlying54 none (some C)
  have hq2 := fun (w : World) => run_eql_chan (P := Try.prog) w Try.underlying54 (some C) none
  simp at hq hq2
  go_enter Try.func24, Try.ntmps24
  go_wp2_with fail
  refine L2.out.mono ?_
  rintro e w' ⟨rfl, rfl⟩
  go_wp2_with fail
  refine L1.out.mono ?_
  rintro e w' ⟨rfl, rfl⟩
  go_wp2_with fail
  refine N1.out.mono ?_
  rintro e w' ⟨rfl, rfl⟩
  go_wp2_with fail
  refine N2.out.mono ?_
  rintro e w' ⟨rfl, rfl⟩
  go_wp2
  go_loop [17] (fun i => i = .int .i64 0) (fun _ => 0)
  case atStart => rfl
  case round =>
    subst hrel
    go_wp2
    go_ret
    exact ⟨rfl, rfl⟩
end Go.Proofs.Ytfnilebhnibfoaa
