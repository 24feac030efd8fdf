/- The matrix: one that no call made; the example. -/
import Derived.Test.YtoelpeodepkaaaaStAll
namespace Go.Proofs.Ytoelpeodepkaaaa
open Go Go.RowKit

theorem lasts_later {p : Option Addr} {n : Nat} {w : World} (h : Sized p n w) : ∀ w', Below w.heap.size w w' → Sized p n w' := by
  intro w' hb
  rcases h with h | ⟨a, q, c, e, h⟩
  · exact .inl h
  · exact .inr ⟨a, q, c, e, (hb.cell (p := ⟨a, 0, none⟩) (World.block_lt_of_cell? w _ h)).trans h⟩

set_option maxHeartbeats 1000000 in
set_option maxRecDepth 100000 in
theorem stable_none (p : Option Addr) (w : World) (h : Sized p 0 w) :
    Calls Try.prog 19 #[.pointer p] w (RetVec w (fun _ => 0)) := by
  go_enter Try.func19, Try.ntmps19
  go_wp2_with (refine wpList_valloc vecI zeroV rfl rfl ?_)
  intro gr w1 lr rr hb
  have B := Lib.hid hb; have M := Lib.hid (lasts_later h w1 hb); have RR := Lib.hid rr
  have R0 := Lib.hid (row_out p 0 0 w1 (lasts_later M.out) (by simp))
  clear h hb rr
  go_wp2_with fail
  refine R0.out.mono ?_
  rintro e w2 ⟨rfl, hb2⟩
  have B2 := Lib.hid (thenBelow B.out hb2); have M2 := Lib.hid (lasts_later M.out w2 hb2); have RR2 := Lib.hid (RR.out.later hb2)
  clear hb2 R0
  go_wp2_with (refine wpList_valloc vecI zeroV rfl rfl ?_)
  intro gv w3 lv rv hb3
  have B3 := Lib.hid (thenBelow B2.out hb3); have M3 := Lib.hid (lasts_later M2.out w3 hb3); have RR3 := Lib.hid (RR2.out.later hb3); have RV3 := Lib.hid rv
  have hrv : gr < gv := Nat.lt_of_lt_of_le RR2.out.lt lv
  have lwv := Nat.le_trans B2.out.size lv
  have hM : Hid (∀ w', w3.grownBy w' (some gv) → Sized p 0 w') := by
    intro w' hg
    rcases M2.out with h | ⟨a, q, c, e, h⟩
    · exact .inl h
    · exact .inr ⟨a, q, c, e, hg.cell ((hb3.cell (p := ⟨a, 0, none⟩) (World.block_lt_of_cell? _ _ h)).trans h) (by have := World.block_lt_of_cell? _ _ h; simp at this ⊢; omega)⟩
  clear hb3 rv
  go_wp2_with (refine wpList_vstore vecI rfl _ _ rfl gv rfl _ rfl _ _ RV3.out ?_)
  intro w4 r4 g4 _
  have B4 := Lib.hid (B3.out.trans (grown_below g4 B3.out.size lwv)); have RR4 := Lib.hid (RR3.out.kept g4 (by simp; omega)); have RV4 := Lib.hid r4
  have S4 := Lib.hid (hM.out w4 g4).calls
  have hlow : w.heap.size ≤ gr := lr
  clear r4 g4
  go_wp2_with fail
  refine S4.out.mono ?_
  rintro e w' ⟨rfl, rfl⟩
  go_wp2
  go_loop [9] (fun i => i = .int .i64 0) (fun _ => 0)
  case atStart => rfl
  case round =>
    obtain rfl := hrel
    go_wp2_with (first | refine wpList_vload vecI rfl _ rfl gv rfl _ _ RV4.out ?_ | refine wpList_vstore vecI rfl _ _ rfl gr rfl _ rfl _ _ RR4.out ?_)
    intro w5 r5 g5 _
    have R5 := Lib.hid r5; have B5 := Lib.hid (B4.out.trans (grown_below g5 B4.out.size hlow))
    clear r5 g5
    go_wp2
    exact vec_ret vecI rfl rfl rfl R5.out (fun _ _ => rfl) B5.out
theorem lacks_none (p : Option Addr) (f : Nat → Int) (w : World) (h : Sized p 0 w) :
    Calls Try.prog 22 #[.pointer p, .agg (vf f)] w fun e w' => e = .returned (.slice none 0 0) ∧ Below w.heap.size w w' := by
  go_enter Try.func22, Try.ntmps22
  go_wp2_with (refine wpList_vbox vecI rfl _ rfl f rfl ?_)
  intro gf w1 lf rf hb
  have B := Lib.hid hb
  have S4 := Lib.hid (lasts_later h w1 hb).calls
  clear h hb rf
  go_wp2_with fail
  refine S4.out.mono ?_
  rintro e w' ⟨rfl, rfl⟩
  go_wp2
  go_loop [5, 9] (fun v i => i = .int .i64 0 ∧ v = .slice none 0 0) (fun _ _ => 0)
  case atStart => exact ⟨rfl, rfl⟩
  case round =>
    obtain ⟨rfl, rfl⟩ := hrel
    go_wp2
    go_ret
    exact ⟨rfl, B.out⟩

/-- a row of two numbers -/
def ex (x y : Int) : Nat → Int := fun i => if i = 0 then x else if i = 1 then y else 0
theorem built2 (x y : Int) (w : World) : (Instr.build 37 #[(0, .int .i64 x), (1, .int .i64 y)]).run Try.prog w = .ok (.agg (vf (ex x y))) w := by kernel_rfl
theorem built0 (w : World) : (Instr.build 37 #[]).run Try.prog w = .ok (.agg (vf fun _ => 0)) w := by rw [vf_zero]; kernel_rfl
theorem stb_ex : veq (stb (joinAt (joinAt (fun _ _ => 0) 0 (ex 3 1)) 1 (ex 2 5)) 2) (ex 2 1) = true := by
  refine veq_of fun i _ => ?_
  simp only [stb, joinAt, rset, ex]
  by_cases h0 : i = 0
  · subst h0; decide
  · by_cases h1 : i = 1
    · subst h1; decide
    · simp [h0, h1]
theorem noted_below {w w' : World} {a G n B : Nat} {R : Nat → Nat → Int} {e : Ending} (h : Noted w a G n R e w') (hB : B ≤ w.heap.size) (hG : B ≤ G) : Below B w w' :=
  (Below.refl B w).grown h.2.2 hB (fun k hk => by have := Option.some.inj hk; omega)
set_option maxHeartbeats 1000000 in
set_option maxRecDepth 100000 in
theorem awake9 (w : World) : Calls Try.prog 12 #[] w (Yes w) := by
  have N := Lib.hid (new_in 2 2 w rfl (by omega) (by omega))
  have HE := vecI.equalIn 9998 (stb (joinAt (joinAt (fun _ _ => 0) 0 (ex 3 1)) 1 (ex 2 5)) 2) (ex 2 1)
  rw [stb_ex] at HE
  go_enter Try.func12, Try.ntmps12
  go_wp2_with fail
  refine N.out.mono ?_
  rintro e w1 ⟨a, G, rfl, ha, hG, hm, hb⟩
  have B1 := Lib.hid hb; have M1 := Lib.hid hm
  have N1 := Lib.hid (note_in a G 2 _ 0 (ex 3 1) w1 M1.out (by omega))
  clear hb hm N
  go_wp2_with (first | refine wpList_vbuild (by rfl) _ rfl (ex 3 1) (by simp only [List.map_toArray, List.map_cons, List.map_nil, BigFrame.eval_const]; exact built2 3 1 _) ?_)
  refine N1.out.mono ?_
  intro e w2 h2
  have B2 := Lib.hid (B1.out.trans (noted_below h2 B1.out.size hG))
  obtain ⟨rfl, hm2, _⟩ := h2
  have N2 := Lib.hid (note_in a G 2 _ 1 (ex 2 5) w2 hm2 (by omega))
  clear hm2 N1
  go_wp2_with (first | refine wpList_vbuild (by rfl) _ rfl (ex 2 5) (by simp only [List.map_toArray, List.map_cons, List.map_nil, BigFrame.eval_const]; exact built2 2 5 _) ?_)
  refine N2.out.mono ?_
  intro e w3 h3
  have B3 := Lib.hid (B2.out.trans (noted_below h3 B2.out.size hG))
  obtain ⟨rfl, hm3, _⟩ := h3
  have S3 := Lib.hid (stable_in a G 2 _ w3 hm3)
  clear hm3 N2
  go_wp2_with fail
  refine S3.out.mono ?_
  rintro e w4 ⟨rfl, hb4⟩
  have B4 := Lib.hid (B3.out.trans (hb4.mono B3.out.size))
  clear hb4 S3
  go_wp2_with (first | refine wpList_vbuild (by rfl) _ rfl (ex 2 1) (by simp only [List.map_toArray, List.map_cons, List.map_nil, BigFrame.eval_const]; exact built2 2 1 _) ?_)
  go_ret
  exact ⟨ret_bool (by first | rfl | (simp; done)), B4.out⟩
end Go.Proofs.Ytoelpeodepkaaaa
