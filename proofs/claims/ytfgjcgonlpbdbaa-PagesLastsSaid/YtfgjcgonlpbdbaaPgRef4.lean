/- The document's device: New of any size that may be. -/
import Derived.Test.YtfgjcgonlpbdbaaPgRef3
import Derived.Deep.AppendLies
import Derived.Laws.OwnMore
namespace Go.Proofs.Ytfgjcgonlpbdbaa
open Go Go.RowKit
set_option linter.unusedVariables false

theorem infoStr : (Try.prog.info? 9).map (fun i => (i.zero, i.size, i.bytes)) = some (some (.string ByteArray.empty), 1, 16) := by kernel_rfl
theorem infoBool : (Try.prog.info? 4).map (fun i => (i.zero, i.size, i.bytes)) = some (some (.bool false), 1, 1) := by kernel_rfl
theorem grown_set (w : World) (x i : Nat) (v : Value) : w.grownBy (w.setCell ⟨x, i, none⟩ v) (some x) := by
  refine ⟨rfl, rfl, rfl, by simp [World.setCell], fun k hk hne => far_block w x k i v (fun e => hne (by rw [e]))⟩
/-- the fields of a device that is being made -/
def rnObj (va vb vd : Value) : Obj := .cells #[va, vb, vd, .int .i64 (-1), .bool false] 65 (0, 0)
def apartV (x y : Value) : Prop := ∀ g, x.ownBlock = some g → y.ownBlock ≠ some g
structure RNw (w : World) (A B : Nat) (va vb vd : Value) (Z : ByteArray) (i j l : Nat) : Prop where
  obj : w.heap[A]? = some (rnObj va vb vd)
  oa : w.ownsRow B 9 1 va i (List.replicate i (.string Z))
  ob : w.ownsRow B 9 1 vb j (List.replicate j (.string Z))
  od : w.ownsRow B 4 1 vd l (List.replicate l (.bool false))
  ab : apartV va vb
  ad : apartV va vd
  bd : apartV vb vd
  hA : A < B
  hB : B ≤ w.heap.size
section
variable {w w' : World} {A B : Nat} {va vb vd : Value} {Z : ByteArray} {i j l : Nat}
theorem rn_cells (h : w.heap[A]? = some (rnObj va vb vd)) : w.cell? ⟨A, 0, none⟩ = some va ∧ w.cell? ⟨A, 1, none⟩ = some vb ∧ w.cell? ⟨A, 2, none⟩ = some vd := by
  unfold rnObj at h
  exact ⟨by rw [cell_of_row w A 0 _ _ _ h]; rfl, by rw [cell_of_row w A 1 _ _ _ h]; rfl, by rw [cell_of_row w A 2 _ _ _ h]; rfl⟩
theorem rn_frozen (h : w.heap[A]? = some (rnObj va vb vd)) (i : Nat) : w.frozen? ⟨A, i, none⟩ = false := by
  unfold rnObj at h; exact frozen_of_row w A i _ _ h
theorem own_kept {e : TypeId} {v : Value} {n : Nat} {xs : List Value} {row : Option Nat} (h : w.ownsRow B e 1 v n xs) (hg : w.grownBy w' row) (hne : ∀ g, v.ownBlock = some g → row ≠ some g) : w'.ownsRow B e 1 v n xs := by
  refine h.kept hg ?_
  cases hv : v.ownBlock with
  | none => exact .inl rfl
  | some g => exact .inr (fun e => hne g hv e.symm)
theorem RNw.alloc (h : RNw w A B va vb vd Z i j l) (o : Obj) : RNw (w.alloc o) A B va vb vd Z i j l :=
  ⟨by rw [Below.heap_alloc w o A (Array.getElem?_eq_some_iff.1 h.obj).1]; exact h.obj, h.oa.alloc o, h.ob.alloc o, h.od.alloc o, h.ab, h.ad, h.bd, h.hA, by have := h.hB; simp; omega⟩
theorem own_far {e : TypeId} {v : Value} {n : Nat} {xs : List Value} (h : w.ownsRow B e 1 v n xs) (hA : A < B) : ∀ g, v.ownBlock = some g → (some A : Option Nat) ≠ some g := fun g hg e => by
  have := (h.lt g hg).1
  have := Option.some.inj e
  omega
theorem apart_new {x y : Value} {g n c : Nat} {e : TypeId} {ys : List Value} {m : Nat} (h : apartV x y) (hy : w.ownsRow B e 1 y m ys) (hg : x.ownBlock = some g ∨ g = w.heap.size) : apartV (.slice (some ⟨g, 0, none⟩) n c) y := fun k hk hy2 => by
  obtain rfl : g = k := by simpa [Value.ownBlock] using hk
  rcases hg with hg | hg
  · exact h g hg hy2
  · have := (hy.lt g hy2).2; omega
theorem apart_symm {x y : Value} (h : apartV x y) : apartV y x := fun g hg hx => h g hx hg
theorem RNw.stepA {g cap : Nat} (h : RNw w A B va vb vd Z i j l) (hg : w.grownBy w' va.ownBlock) (hown : w'.ownsRow B 9 1 (.slice (some ⟨g, 0, none⟩) (i + 1) cap) (i + 1) (List.replicate i (.string Z) ++ [.string Z])) (hat : va.ownBlock = some g ∨ g = w.heap.size) :
    RNw (w'.setCell ⟨A, 0, none⟩ (.slice (some ⟨g, 0, none⟩) (i + 1) cap)) A B (.slice (some ⟨g, 0, none⟩) (i + 1) cap) vb vd Z (i + 1) j l := by
  have ho := (hg.block A (Array.getElem?_eq_some_iff.1 h.obj).1 (fun e => own_far h.oa h.hA A e.symm rfl)).trans h.obj
  unfold rnObj at ho
  have gs := grown_set w' A 0 (.slice (some ⟨g, 0, none⟩) (i + 1) cap)
  have ob := own_kept h.ob hg (fun g hg e => h.ab g e hg)
  have od := own_kept h.od hg (fun g hg e => h.ad g e hg)
  refine ⟨(heap_setCell_same w' A 0 _ _ _ ho).trans rfl, ?_, own_kept ob gs (own_far ob h.hA), own_kept od gs (own_far od h.hA), apart_new h.ab h.ob hat, apart_new h.ad h.od hat, h.bd, h.hA, by have := h.hB; have := hg.size; simp; omega⟩
  rw [List.replicate_succ']
  exact own_kept hown gs (own_far hown h.hA)
theorem RNw.stepB {g cap : Nat} (h : RNw w A B va vb vd Z i j l) (hg : w.grownBy w' vb.ownBlock) (hown : w'.ownsRow B 9 1 (.slice (some ⟨g, 0, none⟩) (j + 1) cap) (j + 1) (List.replicate j (.string Z) ++ [.string Z])) (hat : vb.ownBlock = some g ∨ g = w.heap.size) :
    RNw (w'.setCell ⟨A, 1, none⟩ (.slice (some ⟨g, 0, none⟩) (j + 1) cap)) A B va (.slice (some ⟨g, 0, none⟩) (j + 1) cap) vd Z i (j + 1) l := by
  have ho := (hg.block A (Array.getElem?_eq_some_iff.1 h.obj).1 (fun e => own_far h.ob h.hA A e.symm rfl)).trans h.obj
  unfold rnObj at ho
  have gs := grown_set w' A 1 (.slice (some ⟨g, 0, none⟩) (j + 1) cap)
  have oa := own_kept h.oa hg (fun g hg e => h.ab g hg e)
  have od := own_kept h.od hg (fun g hg e => h.bd g e hg)
  refine ⟨(heap_setCell_same w' A 1 _ _ _ ho).trans rfl, own_kept oa gs (own_far oa h.hA), ?_, own_kept od gs (own_far od h.hA), apart_symm (apart_new (apart_symm h.ab) h.oa hat), h.ad, apart_new h.bd h.od hat, h.hA, by have := h.hB; have := hg.size; simp; omega⟩
  rw [List.replicate_succ']
  exact own_kept hown gs (own_far hown h.hA)
theorem RNw.stepD {g cap : Nat} (h : RNw w A B va vb vd Z i j l) (hg : w.grownBy w' vd.ownBlock) (hown : w'.ownsRow B 4 1 (.slice (some ⟨g, 0, none⟩) (l + 1) cap) (l + 1) (List.replicate l (.bool false) ++ [.bool false])) (hat : vd.ownBlock = some g ∨ g = w.heap.size) :
    RNw (w'.setCell ⟨A, 2, none⟩ (.slice (some ⟨g, 0, none⟩) (l + 1) cap)) A B va vb (.slice (some ⟨g, 0, none⟩) (l + 1) cap) Z i j (l + 1) := by
  have ho := (hg.block A (Array.getElem?_eq_some_iff.1 h.obj).1 (fun e => own_far h.od h.hA A e.symm rfl)).trans h.obj
  unfold rnObj at ho
  have gs := grown_set w' A 2 (.slice (some ⟨g, 0, none⟩) (l + 1) cap)
  have oa := own_kept h.oa hg (fun g hg e => h.ad g hg e)
  have ob := own_kept h.ob hg (fun g hg e => h.bd g hg e)
  refine ⟨(heap_setCell_same w' A 2 _ _ _ ho).trans rfl, own_kept oa gs (own_far oa h.hA), own_kept ob gs (own_far ob h.hA), ?_, h.ab, apart_symm (apart_new (apart_symm h.ad) h.oa hat), apart_symm (apart_new (apart_symm h.bd) h.ob hat), h.hA, by have := h.hB; have := hg.size; simp; omega⟩
  rw [List.replicate_succ']
  exact own_kept hown gs (own_far hown h.hA)
theorem RNw.objA (h : RNw w A B va vb vd Z i j l) (hg : w.grownBy w' va.ownBlock) : w'.heap[A]? = some (rnObj va vb vd) := (hg.block A (Array.getElem?_eq_some_iff.1 h.obj).1 (fun e => own_far h.oa h.hA A e.symm rfl)).trans h.obj
theorem RNw.objB (h : RNw w A B va vb vd Z i j l) (hg : w.grownBy w' vb.ownBlock) : w'.heap[A]? = some (rnObj va vb vd) := (hg.block A (Array.getElem?_eq_some_iff.1 h.obj).1 (fun e => own_far h.ob h.hA A e.symm rfl)).trans h.obj
theorem RNw.objD (h : RNw w A B va vb vd Z i j l) (hg : w.grownBy w' vd.ownBlock) : w'.heap[A]? = some (rnObj va vb vd) := (hg.block A (Array.getElem?_eq_some_iff.1 h.obj).1 (fun e => own_far h.od h.hA A e.symm rfl)).trans h.obj
end
/-- a new device of the document's -/
def RNewN (n : Nat) (w : World) (e : Ending) (w' : World) : Prop :=
  ∃ A a b d ca cb cd, e = .returned (.tuple #[.pointer (some ⟨A, 0, none⟩), .int .i64 0]) ∧ (w.heap.size ≤ A ∧ w.heap.size ≤ a ∧ w.heap.size ≤ b ∧ w.heap.size ≤ d) ∧ RDk w' A a b d ca cb cd n (fun _ => pageS []) (fun _ => pageS []) (fun _ => false) (-1) false ∧ Below w.heap.size w w'
theorem RNw.done {w : World} {A B : Nat} {va vb vd : Value} {Z : ByteArray} {n : Nat} (h : RNw w A B va vb vd Z n n n) (hn : 0 < n ∧ n ≤ 4096) : ∃ a b d ca cb cd, (B ≤ a ∧ B ≤ b ∧ B ≤ d) ∧ RDk w A a b d ca cb cd n (fun _ => Z) (fun _ => Z) (fun _ => false) (-1) false := by
  obtain ⟨a, ca, rfl, ha, _⟩ := h.oa.form hn.1
  obtain ⟨b, cb, rfl, hb, _⟩ := h.ob.form hn.1
  obtain ⟨d, cd, rfl, hd, _⟩ := h.od.form hn.1
  have hA := h.hA
  refine ⟨a, b, d, ca, cb, cd, ⟨ha, hb, hd⟩, h.obj, fun i hi => ⟨?_, h.oa.frozenAt i⟩, fun i hi => ⟨?_, h.ob.frozenAt i⟩, fun i hi => ⟨?_, h.od.frozenAt i⟩, ⟨by omega, by omega, by omega, fun e => ?_, fun e => ?_, fun e => ?_⟩, by omega, hn.2⟩
  · rw [h.oa.cellAt i (by omega)]; simp [hi]
  · rw [h.ob.cellAt i (by omega)]; simp [hi]
  · rw [h.od.cellAt i (by omega)]; simp [hi]
  · exact h.ab a rfl (by rw [e]; rfl)
  · exact h.ad a rfl (by rw [e]; rfl)
  · exact h.bd b rfl (by rw [e]; rfl)
set_option maxHeartbeats 4000000 in
set_option maxRecDepth 100000 in
theorem refNewN (n : Nat) (hn : 0 < n ∧ n ≤ 4096) (w0 : World) : Calls Try.prog 8 #[.int .i64 (n : Int)] w0 (RNewN n w0) := by
  have HN := Lib.hid hn
  have hn1 : ¬ (n : Int) < 1 := by omega
  have hn2 : ¬ (n : Int) > 4096 := by omega
  have hn4 := hn.2
  clear hn
  obtain ⟨Z, hZ⟩ : ∃ Z, Z = pageS [] := ⟨_, rfl⟩
  have PG : ∀ w, Calls Try.prog 18 #[.slice none 0 0] w fun e w' => e = .returned (.string Z) ∧ w = w' := fun w => by
    rw [hZ]; exact refPage_is none 0 [] w (fun h => absurd rfl h) (by decide)
  have HZ := Lib.hid hZ; have HPG := Lib.hid PG
  clear hZ PG
  go_enter Try.func8, Try.ntmps8
  go_wp2_with fail
  refine (HPG.out _).mono ?_
  rintro e w' ⟨rfl, rfl⟩
  obtain ⟨A, hA⟩ : ∃ A, A = w0.heap.size := ⟨_, rfl⟩
  have R0 : Hid (RNw (w0.alloc (.cells #[.slice none 0 0, .slice none 0 0, .slice none 0 0, .int .i64 (-1), .bool false] 65)) A (A + 1) (.slice none 0 0) (.slice none 0 0) (.slice none 0 0) Z 0 0 0) := by
    show RNw _ _ _ _ _ _ _ _ _ _
    refine ⟨by rw [hA]; exact heap_alloc_new w0 _, World.ownsRow_nil _ _ _ _, World.ownsRow_nil _ _ _ _, World.ownsRow_nil _ _ _ _, fun g h => by simp [Value.ownBlock] at h, fun g h => by simp [Value.ownBlock] at h, fun g h => by simp [Value.ownBlock] at h, by omega, by simp; omega⟩
  have B0 : Hid (Below A w0 (w0.alloc (.cells #[.slice none 0 0, .slice none 0 0, .slice none 0 0, .int .i64 (-1), .bool false] 65))) := by
    show Below _ _ _
    rw [hA]; exact (Below.refl _ _).alloc (Nat.le_refl _) _
  rw [← hA]
  have HA := Lib.hid hA
  clear hA HPG
  generalize w0.alloc (.cells #[.slice none 0 0, .slice none 0 0, .slice none 0 0, .int .i64 (-1), .bool false] 65) = w1 at R0 B0 ⊢
  obtain ⟨i0, hi0, hz00, hz01, hz02⟩ := info_parts infoStr
  obtain ⟨i1, hi1, hz10, hz11, hz12⟩ := info_parts infoBool
  go_wp2_with fail
  go_loopg [16] n (fun g i wr => ∃ (k : Nat) (va vb vd : Value), k ≤ n ∧ g = n - k ∧ i = .int .i64 k ∧ RNw wr A (A + 1) va vb vd Z k k k ∧ Below A w0 wr)
  case atStart => exact ⟨0, _, _, _, by omega, by omega, rfl, R0.out, B0.out⟩
  case round =>
    obtain ⟨k, va, vb, vd, hk, hg, rfl, hr, hbw⟩ := hrel
    have R1 := Lib.hid hr; have BW := Lib.hid hbw
    clear hr hbw R0 B0
    obtain ⟨c0, c1, c2⟩ := rn_cells R1.out.obj
    by_cases hlt : k < n
    · have hkI : (k : Int) < n := by omega
      have hml : Hid (k + 1 ≤ maxLen) := by show _ ≤ _; unfold maxLen; omega
      have hbs : Hid ((k + 1) * 16 ≤ 140737488355328) := by show _ ≤ _; omega
      have hbt : Hid ((k + 1) * 1 ≤ 140737488355328) := by show _ ≤ _; omega
      have RA := Lib.hid (R1.out.alloc (.cells #[.string Z] 9))
      have NB := Lib.hid (World.news_of_block (heap_alloc_new wr (.cells #[.string Z] 9)))
      have SZ := Lib.hid RA.out.hB
      have SB := Lib.hid R1.out.hB
      have BA := Lib.hid (BW.out.alloc (by have := SB.out; omega) (.cells #[.string Z] 9))
      go_wp2_with (at_builtin; refine wpList_append_lies _ rfl _ _ 62 rfl (A + 1) 9 i0 _ 1 16 Try.underlying62 hi0 hz00 hz01 hz02 rfl (by decide) _ k _ rfl RA.out.oa ⟨wr.heap.size, 0, none⟩ 1 1 [.string Z] rfl rfl NB.out (by simp [Value.oneCell']) (by decide) hml.out hbs.out SZ.out _ rfl ?_)
      intro g1 cap1 wx1 hown hgrow hat hgl
      have hat2 : va.ownBlock = some g1 ∨ g1 = (wr.alloc (.cells #[.string Z] 9)).heap.size := hat.imp id (fun e => by simp; omega)
      have o1 := RA.out.objA hgrow
      have BG := Lib.hid (Below.setCell (BA.out.grown hgrow (by have := SZ.out; omega) (fun q hq => by have := (RA.out.oa.lt q hq).1; omega)) (Nat.le_refl A) (.slice (some ⟨g1, 0, none⟩) (k + 1) cap1) (p := ⟨A, 0, none⟩))
      have R2 := Lib.hid (RA.out.stepA hgrow hown hat2)
      clear RA NB SZ SB BA hown hgrow hat hat2 hgl c0 c1 c2
      obtain ⟨c0, c1, c2⟩ := rn_cells o1
      have f0 := rn_frozen o1 0
      go_upto_region 8 with fail
      clear c0 c1 c2 f0 o1
      generalize wx1.setCell ⟨A, 0, none⟩ (.slice (some ⟨g1, 0, none⟩) (k + 1) cap1) = wa at R2 BG ⊢
      obtain ⟨c0, c1, c2⟩ := rn_cells R2.out.obj
      have BW2 := BG
      clear BG
      clear R1 BW
      have RA := Lib.hid (R2.out.alloc (.cells #[.string Z] 9))
      have NB := Lib.hid (World.news_of_block (heap_alloc_new wa (.cells #[.string Z] 9)))
      have SZ := Lib.hid RA.out.hB
      have SB := Lib.hid R2.out.hB
      have BA := Lib.hid (BW2.out.alloc (by have := SB.out; omega) (.cells #[.string Z] 9))
      go_wp2_with (at_builtin; refine wpList_append_lies _ rfl _ _ 62 rfl (A + 1) 9 i0 _ 1 16 Try.underlying62 hi0 hz00 hz01 hz02 rfl (by decide) _ k _ rfl RA.out.ob ⟨wa.heap.size, 0, none⟩ 1 1 [.string Z] rfl rfl NB.out (by simp [Value.oneCell']) (by decide) hml.out hbs.out SZ.out _ rfl ?_)
      intro g2 cap2 wx2 hown hgrow hat hgl
      have hat2 : vb.ownBlock = some g2 ∨ g2 = (wa.alloc (.cells #[.string Z] 9)).heap.size := hat.imp id (fun e => by simp; omega)
      have o1 := RA.out.objB hgrow
      have BG := Lib.hid (Below.setCell (BA.out.grown hgrow (by have := SZ.out; omega) (fun q hq => by have := (RA.out.ob.lt q hq).1; omega)) (Nat.le_refl A) (.slice (some ⟨g2, 0, none⟩) (k + 1) cap2) (p := ⟨A, 1, none⟩))
      have R3 := Lib.hid (RA.out.stepB hgrow hown hat2)
      clear RA NB SZ SB BA hown hgrow hat hat2 hgl c0 c1 c2
      obtain ⟨c0, c1, c2⟩ := rn_cells o1
      have f0 := rn_frozen o1 1
      go_upto_region 9 with fail
      clear c0 c1 c2 f0 o1
      generalize wx2.setCell ⟨A, 1, none⟩ (.slice (some ⟨g2, 0, none⟩) (k + 1) cap2) = wb at R3 BG ⊢
      obtain ⟨c0, c1, c2⟩ := rn_cells R3.out.obj
      have BW3 := BG
      clear BG
      clear R2 BW2
      have RA := Lib.hid (R3.out.alloc (.cells #[.bool false] 4))
      have NB := Lib.hid (World.news_of_block (heap_alloc_new wb (.cells #[.bool false] 4)))
      have SZ := Lib.hid RA.out.hB
      have SB := Lib.hid R3.out.hB
      have BA := Lib.hid (BW3.out.alloc (by have := SB.out; omega) (.cells #[.bool false] 4))
      go_wp2_with (at_builtin; refine wpList_append_lies _ rfl _ _ 63 rfl (A + 1) 4 i1 _ 1 1 Try.underlying63 hi1 hz10 hz11 hz12 rfl (by decide) _ k _ rfl RA.out.od ⟨wb.heap.size, 0, none⟩ 1 1 [.bool false] rfl rfl NB.out (by simp [Value.oneCell']) (by decide) hml.out hbt.out SZ.out _ rfl ?_)
      intro g3 cap3 wx3 hown hgrow hat hgl
      have hat2 : vd.ownBlock = some g3 ∨ g3 = (wb.alloc (.cells #[.bool false] 4)).heap.size := hat.imp id (fun e => by simp; omega)
      have o1 := RA.out.objD hgrow
      have BG := Lib.hid (Below.setCell (BA.out.grown hgrow (by have := SZ.out; omega) (fun q hq => by have := (RA.out.od.lt q hq).1; omega)) (Nat.le_refl A) (.slice (some ⟨g3, 0, none⟩) (k + 1) cap3) (p := ⟨A, 2, none⟩))
      have R4 := Lib.hid (RA.out.stepD hgrow hown hat2)
      clear RA NB SZ SB BA hown hgrow hat hat2 hgl c0 c1 c2
      obtain ⟨c0, c1, c2⟩ := rn_cells o1
      have f0 := rn_frozen o1 2
      go_upto_region 10 with fail
      clear c0 c1 c2 f0 o1
      generalize wx3.setCell ⟨A, 2, none⟩ (.slice (some ⟨g3, 0, none⟩) (k + 1) cap3) = wd at R4 BG ⊢
      obtain ⟨c0, c1, c2⟩ := rn_cells R4.out.obj
      have BW4 := BG
      clear BG
      clear R3 BW3
      go_wp2_with fail
      go_roundg (n - (k + 1))
      case measure => omega
      case rel => exact ⟨k + 1, _, _, _, by omega, rfl, by go_num, R4.out, BW4.out⟩
    · obtain rfl : k = n := by omega
      have hkI : ¬ (k : Int) < k := by omega
      obtain ⟨a, b, d, ca, cb, cd, hs, hD⟩ := R1.out.done HN.out
      have RR : Hid (RNewN k w0 (.returned (.tuple #[.pointer (some ⟨A, 0, none⟩), .int .i64 0])) wr) := by
        show RNewN _ _ _ _
        unfold RNewN
        rw [← HA.out, ← HZ.out]
        exact ⟨A, a, b, d, ca, cb, cd, rfl, ⟨Nat.le_refl _, by omega, by omega, by omega⟩, hD, BW.out⟩
      clear R1 BW hs hD c0 c1 c2 HZ HN
      go_wp2
      exact bodyPost_ret (v := .tuple #[.pointer (some ⟨A, 0, none⟩), .int .i64 0]) (by kernel_rfl) (by kernel_rfl) RR.out
end Go.Proofs.Ytfgjcgonlpbdbaa
