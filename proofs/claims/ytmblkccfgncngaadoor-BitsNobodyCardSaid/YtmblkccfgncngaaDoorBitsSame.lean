/- A set and the document's are the same. -/
import Derived.Test.YtmblkccfgncngaaDoorBitsRefs
import Derived.Test.YtmblkccfgncngaaDoorEqualI
import Derived.Test.YtmblkccfgncngaaDoorRegionInv
namespace Go.Proofs.YtmblkccfgncngaaDoor
open Go Go.RowKit
set_option linter.unusedVariables false

/-- two numbers that are the same -/
theorem exec_eqlI {P : Program} {o : Oper} {a : Act} (t yt : TypeId) (x y : Operand) (ho : o.op = .binOp .eql t x y yt) (X : Int) (hx : a.eval x = .int .i64 X) (hy : a.eval y = .int .i64 X) (w : World) :
    (execOp a.eval o).run P w = .ok (.value (.bool true)) w := by
  unfold execOp
  simp only [ho, hx, hy]
  go_simp
theorem exec_pickT {P : Program} {o : Oper} {a : Act} (c x y : Operand) (ho : o.op = .pick c x y) (v : Value) (hc : a.eval c = .bool true) (hx : a.eval x = v) (w : World) :
    (execOp a.eval o).run P w = .ok (.value v) w := by
  unfold execOp
  simp only [ho, hc, hx]
  rfl
set_option maxHeartbeats 4000000 in
set_option maxRecDepth 100000 in
theorem same_is (a G a2 G2 n : Nat) (f : Nat → Bool) (w : World) (h : St w a G n f) (k : RSt w a2 G2 n f) (hT : DeB w) : Calls Tryd.prog 11 #[.pointer (some ⟨a, 0, none⟩), .pointer (some ⟨a2, 0, none⟩)] w (Yes w) := by
  have hle := h.le
  have hlen : (Bit.nums f n).length = Bit.cnt f n := Bit.nums_len f n
  have hcn := Bit.cnt_le f n
  have H := Lib.hid h; have K := Lib.hid k; have HT := Lib.hid hT
  clear h k hT
  go_enter Tryd.func11, Tryd.ntmps11
  go_wp2
  have SZ := H.out.sized.calls
  have bd : Below w.heap.size w w.drew := (Below.refl _ _).drew
  have Hd := H.out.below bd; have Kd := K.out.below bd; have Td := HT.out.below bd
  refine rg_start (n := 24) (S := fun w' => w'.cell? ⟨a2, 0, none⟩ = some (.slice (some ⟨G2, 0, none⟩) n n)) (by kernel_rfl) rfl Kd.c0 ?_
  refine rg_pure 0 rfl (.pointer (some ⟨a, 0, none⟩)) (by kernel_rfl) (by kernel_rfl) (by kernel_rfl) (fun _ _ _ _ h => h) (by kernel_rfl) (fun _ => by kernel_rfl) Kd.c0 ?_
  refine rg_pure 2 rfl (.pointer (some ⟨a2, 0, none⟩)) (by kernel_rfl) (by kernel_rfl) (by kernel_rfl) (fun _ _ _ _ h => h) (by kernel_rfl) (fun _ => by kernel_rfl) Kd.c0 ?_
  refine rg_pure 3 rfl (.pointer (some ⟨a2, 0, none⟩)) (by kernel_rfl) (by kernel_rfl) (by kernel_rfl) (fun _ _ _ _ h => h) (by kernel_rfl) (fun _ => by kernel_rfl) Kd.c0 ?_
  refine rg_pure 4 rfl (.pointer (some ⟨a2, 0, none⟩)) (by kernel_rfl) (by kernel_rfl) (by kernel_rfl) (fun _ _ _ _ h => h) (by kernel_rfl) (fun _ => by kernel_rfl) Kd.c0 ?_
  refine rg_load 5 rfl (by kernel_rfl) (by kernel_rfl) (by kernel_rfl) (fun _ _ _ _ h => h) (by kernel_rfl) _ _ rfl Tryd.underlying64 rfl ⟨a2, 0, none⟩ (.slice (some ⟨G2, 0, none⟩) n n) (by kernel_rfl) (fun _ h => h) Kd.c0 ?_
  refine rg_pure 6 rfl (.int .i64 (n : Int)) (by kernel_rfl) (by kernel_rfl) (by kernel_rfl) (fun _ _ _ _ h => h) (by kernel_rfl) (fun _ => by kernel_rfl) Kd.c0 ?_
  refine rg_call 1 (by kernel_rfl) rfl (by kernel_rfl) 20 #[.pointer (some ⟨a, 0, none⟩)] (by kernel_rfl) Hd.sized.calls ?_
  rintro e w' ⟨rfl, rfl⟩
  refine ⟨_, rfl, Kd.c0, ?_⟩
  refine rg_pure 7 rfl (.bool true) (by kernel_rfl) (by kernel_rfl) (by kernel_rfl) (fun _ _ _ _ h => h) (by kernel_rfl) (exec_eqlI _ _ _ _ rfl (n : Int) (by kernel_rfl) (by kernel_rfl)) Kd.c0 ?_
  refine rg_pure 8 rfl (.bool true) (by kernel_rfl) (by kernel_rfl) (by kernel_rfl) (fun _ _ _ _ h => h) (by kernel_rfl) (fun _ => by kernel_rfl) Kd.c0 ?_
  refine rg_pure 9 rfl (.pointer (some ⟨a, 0, none⟩)) (by kernel_rfl) (by kernel_rfl) (by kernel_rfl) (fun _ _ _ _ h => h) (by kernel_rfl) (fun _ => by kernel_rfl) Kd.c0 ?_
  refine rg_pure 11 rfl (.pointer (some ⟨a2, 0, none⟩)) (by kernel_rfl) (by kernel_rfl) (by kernel_rfl) (fun _ _ _ _ h => h) (by kernel_rfl) (fun _ => by kernel_rfl) Kd.c0 ?_
  refine rg_call 10 (by kernel_rfl) rfl (by kernel_rfl) 40 #[.pointer (some ⟨a, 0, none⟩)] (by kernel_rfl) (list_is a G n f w.drew Hd Td) ?_
  rintro e w1 ⟨v1, rfl, ho1, hb1⟩
  obtain ⟨_, p1, c1, rfl, hc1, hL1, _⟩ := own_liesI ho1
  have b1 := thenBelow bd hb1
  have K1 := Kd.below hb1; have H1 := Hd.below hb1
  refine ⟨_, rfl, K1.c0, ?_⟩
  refine rg_call 12 (by kernel_rfl) rfl (by kernel_rfl) 43 #[.pointer (some ⟨a2, 0, none⟩)] (by kernel_rfl) (refList_is a2 G2 n f w1 K1) ?_
  rintro e w2 ⟨v2, rfl, ho2, hb2⟩
  obtain ⟨_, p2, c2, rfl, hc2, hL2, _⟩ := own_liesI ho2
  have b2 := thenBelow b1 hb2
  have K2 := K1.below hb2; have H2 := H1.below hb2
  refine ⟨_, rfl, K2.c0, ?_⟩
  refine rg_call 13 (by kernel_rfl) rfl (by kernel_rfl) 39 #[.slice p1 (castsN (Bit.nums f n)).length c1, .slice p2 (castsN (Bit.nums f n)).length c2] (by kernel_rfl) (equalI_any p1 p2 c1 c2 _ w2 (hL1.below hb2) hL2 (by rw [castsN_len, hlen]; omega)) ?_
  rintro e w3 ⟨rfl, hb3⟩
  have b3 := thenBelow b2 hb3
  have K3 := K2.below hb3; have H3 := H2.below hb3
  refine ⟨_, rfl, K3.c0, ?_⟩
  refine rg_pure 14 rfl (.bool true) (by kernel_rfl) (by kernel_rfl) (by kernel_rfl) (fun _ _ _ _ h => h) (by kernel_rfl) (fun _ => by kernel_rfl) K3.c0 ?_
  refine rg_pure 15 rfl (.bool true) (by kernel_rfl) (by kernel_rfl) (by kernel_rfl) (fun _ _ _ _ h => h) (by kernel_rfl) (fun _ => by kernel_rfl) K3.c0 ?_
  refine rg_pure 16 rfl (.pointer (some ⟨a, 0, none⟩)) (by kernel_rfl) (by kernel_rfl) (by kernel_rfl) (fun _ _ _ _ h => h) (by kernel_rfl) (fun _ => by kernel_rfl) K3.c0 ?_
  refine rg_pure 18 rfl (.pointer (some ⟨a2, 0, none⟩)) (by kernel_rfl) (by kernel_rfl) (by kernel_rfl) (fun _ _ _ _ h => h) (by kernel_rfl) (fun _ => by kernel_rfl) K3.c0 ?_
  refine rg_call 17 (by kernel_rfl) rfl (by kernel_rfl) 21 #[.pointer (some ⟨a, 0, none⟩)] (by kernel_rfl) (count_is a G n f w3 H3) ?_
  rintro e w4 ⟨rfl, hb4⟩
  have b4 := thenBelow b3 hb4
  have K4 := K3.below hb4
  refine ⟨_, rfl, K4.c0, ?_⟩
  refine rg_call 19 (by kernel_rfl) rfl (by kernel_rfl) 43 #[.pointer (some ⟨a2, 0, none⟩)] (by kernel_rfl) (refList_is a2 G2 n f w4 K4) ?_
  rintro e w5 ⟨v5, rfl, ho5, hb5⟩
  obtain ⟨_, p5, c5, rfl, _, _, _⟩ := own_liesI ho5
  have b5 := thenBelow b4 hb5
  have K5 := K4.below hb5
  rw [castsN_len, hlen]
  refine ⟨_, rfl, K5.c0, ?_⟩
  refine rg_pure 20 rfl (.int .i64 (Bit.cnt f n : Nat)) (by kernel_rfl) (by kernel_rfl) (by kernel_rfl) (fun _ _ _ _ h => h) (by kernel_rfl) (fun _ => by kernel_rfl) K5.c0 ?_
  refine rg_pure 21 rfl (.bool true) (by kernel_rfl) (by kernel_rfl) (by kernel_rfl) (fun _ _ _ _ h => h) (by kernel_rfl) (exec_eqlI _ _ _ _ rfl (Bit.cnt f n : Nat) (by kernel_rfl) (by kernel_rfl)) K5.c0 ?_
  refine rg_pure 22 rfl (.bool true) (by kernel_rfl) (by kernel_rfl) (by kernel_rfl) (fun _ _ _ _ h => h) (by kernel_rfl) (fun _ => by kernel_rfl) K5.c0 ?_
  refine rg_pure 23 rfl (.bool true) (by kernel_rfl) (by kernel_rfl) (by kernel_rfl) (fun _ _ _ _ h => h) (by kernel_rfl) (fun _ => by kernel_rfl) K5.c0 ?_
  refine wpAnyH_done (by kernel_rfl) ?_ _
  go_wp2
  go_ret
  exact ⟨rfl, b5⟩
end Go.Proofs.YtmblkccfgncngaaDoor
