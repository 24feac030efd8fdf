/- A deed done to both lanes. -/
import Derived.Test.YtfdiclamjgldnaaLnBoth2
import Derived.Deep.DeepCutAuto
namespace Go.Proofs.Ytfdiclamjgldnaa
open Go Go.RowKit Go.Conc
set_option linter.unusedVariables false

theorem u64_ofD (z : Int) : ∃ m : Nat, IntKind.u64.wrap z = (m : Int) ∧ m < 18446744073709551616 := by
  refine ⟨(IntKind.u64.wrap z).toNat, ?_, ?_⟩ <;> rw [IntKind.wrap_u64] <;> omega
set_option maxHeartbeats 8000000 in
set_option maxRecDepth 1000000 in
theorem does_is (B A R n : Nat) (W : World) (k : Nat) (hk80 : k ≤ 80) (w : World) (h : St B A R n W k w) (vo vf vt vk va : Int) (vb : UInt8) (bp : Option Addr) (bc : Nat) (bs : List UInt8) (hB : B = W.heap.size) (hv : LDo.Ok W ⟨vo, vf, vt, vk, va, vb, bp, bc, bs⟩) :
    Calls Try.prog 9 #[.pointer (some ⟨A, 0, none⟩), .pointer (some ⟨R, 0, none⟩), .agg #[.int .i64 vo, .int .i64 vf, .int .i64 vt, .int .i64 vk, .int .i64 va, .int .u8 (vb.toNat : Int), .slice bp bs.length bc]] w fun e w' => e = .returned (.bool true) ∧ St B A R n W (k + 1) w' := by
  have al : Below w.heap.size w (w.alloc (.cells #[.int .i64 vo, .int .i64 vf, .int .i64 vt, .int .i64 vk, .int .i64 va, .int .u8 (vb.toNat : Int), .slice bp bs.length bc] 32)) := (Below.refl _ _).alloc (Nat.le_refl _) _
  have HN := heap_alloc_new w (.cells #[.int .i64 vo, .int .i64 vf, .int .i64 vt, .int .i64 vk, .int .i64 va, .int .u8 (vb.toNat : Int), .slice bp bs.length bc] 32)
  have S3 := Lib.hid (h.below al)
  have OK := Lib.hid hv
  obtain ⟨cs, hcs⟩ : ∃ cs, cs = bs.take 100 := ⟨_, rfl⟩
  have hbc := hv.bc
  simp only at hbc
  have hcl : cs.length ≤ 100 := by rw [hcs, List.length_take]; omega
  have hcc : cs.length ≤ bc := by rw [hcs, List.length_take]; omega
  have LB : Hid (∀ V, Below B W V → Lies V bp cs) := fun V hV => by rw [hcs]; exact begun (hv.b.below (by rw [← hB]; exact hV)) 100
  have BN : Hid (bp = none → cs = []) := fun e => by
    have e1 : bs = [] := hv.bn e
    rw [hcs, e1]; rfl
  clear h hv al
  go_enter Try.func9, Try.ntmps9
  go_upto_region 1 with fail
  generalize w.alloc (.cells #[.int .i64 vo, .int .i64 vf, .int .i64 vt, .int .i64 vk, .int .i64 va, .int .u8 (vb.toNat : Int), .slice bp bs.length bc] 32) = w3 at S3 HN ⊢
  generalize w.heap.size = N at HN ⊢
  have e0 : w3.cell? ⟨N, 0, none⟩ = some (.int .i64 vo) := by rw [cell_of_row w3 N 0 _ _ _ HN]; rfl
  have e1 : w3.cell? ⟨N, 1, none⟩ = some (.int .i64 vf) := by rw [cell_of_row w3 N 1 _ _ _ HN]; rfl
  have e2 : w3.cell? ⟨N, 2, none⟩ = some (.int .i64 vt) := by rw [cell_of_row w3 N 2 _ _ _ HN]; rfl
  have e3 : w3.cell? ⟨N, 3, none⟩ = some (.int .i64 vk) := by rw [cell_of_row w3 N 3 _ _ _ HN]; rfl
  have e4 : w3.cell? ⟨N, 4, none⟩ = some (.int .i64 va) := by rw [cell_of_row w3 N 4 _ _ _ HN]; rfl
  have e5 : w3.cell? ⟨N, 5, none⟩ = some (.int .u8 (vb.toNat : Int)) := by rw [cell_of_row w3 N 5 _ _ _ HN]; rfl
  have e6 : w3.cell? ⟨N, 6, none⟩ = some (.slice bp bs.length bc) := by rw [cell_of_row w3 N 6 _ _ _ HN]; rfl
  have CELLS : Hid (∀ w' : World, Stay w3 w' → w'.cell? ⟨N, 1, none⟩ = some (.int .i64 vf) ∧ w'.cell? ⟨N, 2, none⟩ = some (.int .i64 vt) ∧ w'.cell? ⟨N, 3, none⟩ = some (.int .i64 vk) ∧ w'.cell? ⟨N, 4, none⟩ = some (.int .i64 va) ∧ w'.cell? ⟨N, 5, none⟩ = some (.int .u8 (vb.toNat : Int))) := fun w' hs => by
    have h1 := hs N _ _ _ (by decide) (by decide) HN
    exact ⟨by rw [cell_of_row w' N 1 _ _ _ h1]; rfl, by rw [cell_of_row w' N 2 _ _ _ h1]; rfl, by rw [cell_of_row w' N 3 _ _ _ h1]; rfl, by rw [cell_of_row w' N 4 _ _ _ h1]; rfl, by rw [cell_of_row w' N 5 _ _ _ h1]; rfl⟩
  have HNH := Lib.hid HN
  have HNH := Lib.hid HN
  have HNH := Lib.hid HN
  clear HN
  go_cut [7] (fun v wx => v = .slice bp cs.length bc ∧ wx = w3)
  case first =>
    have ct := cutB bp bs.length bc cs.length w3 hcc
    by_cases h2 : bs.length ≤ 100
    · have e : cs.length = bs.length := by rw [hcs, List.length_take]; omega
      rw [e] at ct
      have E := Lib.hid e
      have h22 : (bs.length : Int) ≤ 100 := by omega
      clear e hcs hcl hcc
      go_wp2
      go_meet
      exact ⟨by rw [E.out], rfl⟩
    · have e : cs.length = 100 := by rw [hcs, List.length_take]; omega
      rw [e] at ct
      have E := Lib.hid e
      have h22 : (100 : Int) < (bs.length : Int) := by omega
      clear e hcs hcl hcc
      go_wp2
      go_meet
      exact ⟨by rw [E.out], rfl⟩
  case rest =>
  obtain ⟨rfl, rfl⟩ := hcut
  clear hcs e6 hcc hbc
  obtain ⟨m, hm, hm2⟩ := u64_ofD vo
  have hrem : (m : Int).tmod 7 = ((m % 7 : Nat) : Int) := by rw [Int.tmod_eq_emod_of_nonneg (by omega)]; simp
  have hq7 : m % 7 < 7 := Nat.mod_lt _ (by omega)
  generalize hqq : m % 7 = q at hrem hq7
  clear hqq
  have HN := HNH
  rcases (show q = 0 ∨ q = 1 ∨ q = 2 ∨ q = 3 ∨ q = 4 ∨ q = 5 ∨ q = 6 by omega) with rfl | rfl | rfl | rfl | rfl | rfl | rfl
  · have TW := Lib.hid (fun V (hV : Below wc.heap.size wc V) => two_send B A R n W k hk80 V (S3.out.below hV) vf vt bp bc cs LB.out BN.out (by omega))
    clear S3 OK LB BN
    go_wp2
    rename_i Q1 hK1
    have HN0 : wc.drew.heap[N]? = some (.cells #[.int .i64 vo, .int .i64 vf, .int .i64 vt, .int .i64 vk, .int .i64 va, .int .u8 (vb.toNat : Int), .slice bp bs.length bc] 32) := HN.out
    refine rg_last (m := 16) (S := fun V => V.heap[N]? = some (.cells #[.int .i64 vo, .int .i64 vf, .int .i64 vt, .int .i64 vk, .int .i64 va, .int .u8 (vb.toNat : Int), .slice bp bs.length bc] 32)) (by kernel_rfl) rfl ?_
    refine rgd_pure 0 (some 156) rfl rfl (.pointer (some ⟨A, 0, none⟩)) (by kernel_rfl) (by kernel_rfl) (by kernel_rfl) (fun _ _ _ _ h => h) (by kernel_rfl) (fun _ => by kernel_rfl) HN0 ?_
    refine rgd_pure 1 (some 157) rfl rfl (.pointer (some ⟨N, 1, none⟩)) (by kernel_rfl) (by kernel_rfl) (by kernel_rfl) (fun _ _ _ _ h => h) (by kernel_rfl) (fun _ => by kernel_rfl) HN0 ?_
    refine rgd_load 2 (some 158) rfl rfl (by kernel_rfl) (by kernel_rfl) (by kernel_rfl) (fun _ _ _ _ h => h) (by kernel_rfl) _ _ rfl Try.underlying3 rfl ⟨N, 1, none⟩ (.int .i64 vf) (by kernel_rfl) (fun V hV => by rw [cell_of_row V N 1 _ _ _ hV]; rfl) HN0 ?_
    refine rgd_pure 3 (some 159) rfl rfl (.pointer (some ⟨N, 2, none⟩)) (by kernel_rfl) (by kernel_rfl) (by kernel_rfl) (fun _ _ _ _ h => h) (by kernel_rfl) (fun _ => by kernel_rfl) HN0 ?_
    refine rgd_load 4 (some 160) rfl rfl (by kernel_rfl) (by kernel_rfl) (by kernel_rfl) (fun _ _ _ _ h => h) (by kernel_rfl) _ _ rfl Try.underlying3 rfl ⟨N, 2, none⟩ (.int .i64 vt) (by kernel_rfl) (fun V hV => by rw [cell_of_row V N 2 _ _ _ hV]; rfl) HN0 ?_
    refine rgd_pure 5 (some 161) rfl rfl (.slice bp cs.length bc) (by kernel_rfl) (by kernel_rfl) (by kernel_rfl) (fun _ _ _ _ h => h) (by kernel_rfl) (fun _ => by kernel_rfl) HN0 ?_
    refine rgd_pure 7 (some 163) rfl rfl (.pointer (some ⟨R, 0, none⟩)) (by kernel_rfl) (by kernel_rfl) (by kernel_rfl) (fun _ _ _ _ h => h) (by kernel_rfl) (fun _ => by kernel_rfl) HN0 ?_
    refine rgd_pure 8 (some 164) rfl rfl (.pointer (some ⟨N, 1, none⟩)) (by kernel_rfl) (by kernel_rfl) (by kernel_rfl) (fun _ _ _ _ h => h) (by kernel_rfl) (fun _ => by kernel_rfl) HN0 ?_
    refine rgd_load 9 (some 165) rfl rfl (by kernel_rfl) (by kernel_rfl) (by kernel_rfl) (fun _ _ _ _ h => h) (by kernel_rfl) _ _ rfl Try.underlying3 rfl ⟨N, 1, none⟩ (.int .i64 vf) (by kernel_rfl) (fun V hV => by rw [cell_of_row V N 1 _ _ _ hV]; rfl) HN0 ?_
    refine rgd_pure 10 (some 166) rfl rfl (.pointer (some ⟨N, 2, none⟩)) (by kernel_rfl) (by kernel_rfl) (by kernel_rfl) (fun _ _ _ _ h => h) (by kernel_rfl) (fun _ => by kernel_rfl) HN0 ?_
    refine rgd_load 11 (some 167) rfl rfl (by kernel_rfl) (by kernel_rfl) (by kernel_rfl) (fun _ _ _ _ h => h) (by kernel_rfl) _ _ rfl Try.underlying3 rfl ⟨N, 2, none⟩ (.int .i64 vt) (by kernel_rfl) (fun V hV => by rw [cell_of_row V N 2 _ _ _ hV]; rfl) HN0 ?_
    refine rgd_pure 12 (some 168) rfl rfl (.slice bp cs.length bc) (by kernel_rfl) (by kernel_rfl) (by kernel_rfl) (fun _ _ _ _ h => h) (by kernel_rfl) (fun _ => by kernel_rfl) HN0 ?_
    refine rgd_call 6 (some 162) (by kernel_rfl) rfl rfl (by kernel_rfl) 13 #[.pointer (some ⟨A, 0, none⟩), .int .i64 vf, .int .i64 vt, .slice bp cs.length bc] (by kernel_rfl) (TW.out _ (Below.refl _ _).drew) ?_
    rintro e w1 ⟨r, rfl, hst, hcl⟩
    have HN1 : w1.heap[N]? = some (.cells #[.int .i64 vo, .int .i64 vf, .int .i64 vt, .int .i64 vk, .int .i64 va, .int .u8 (vb.toNat : Int), .slice bp bs.length bc] 32) := hst N _ _ _ (by decide) (by decide) HN0
    refine ⟨_, rfl, HN1, ?_⟩
    refine rgd_call 13 (some 169) (by kernel_rfl) rfl rfl (by kernel_rfl) 26 #[.pointer (some ⟨R, 0, none⟩), .int .i64 vf, .int .i64 vt, .slice bp cs.length bc] (by kernel_rfl) hcl ?_
    rintro e w2 ⟨rfl, hdos, hs2⟩
    have HN2 : w2.heap[N]? = some (.cells #[.int .i64 vo, .int .i64 vf, .int .i64 vt, .int .i64 vk, .int .i64 va, .int .u8 (vb.toNat : Int), .slice bp bs.length bc] 32) := hdos N _ _ HN1
    have S5 := Lib.hid hs2
    refine ⟨_, rfl, HN2, ?_⟩
    refine rgd_pure 14 (some 170) rfl rfl (.bool true) (by kernel_rfl) (by kernel_rfl) (by kernel_rfl) (fun _ _ _ _ h => h) (by kernel_rfl) (exec_eqlI _ _ _ _ rfl r (by kernel_rfl) (by kernel_rfl)) HN2 ?_
    refine rgd_pure 15 (some 6) rfl rfl (.bool true) (by kernel_rfl) (by kernel_rfl) (by kernel_rfl) (fun _ _ _ _ h => h) (by kernel_rfl) (fun _ => by kernel_rfl) HN2 ?_
    refine wpAnyH_done (by kernel_rfl) ?_ _
    simp only [Exit.then, Exit.inBlock]
    refine hK1 _ _ ?_
    simp only [Act.put, List.setIfInBounds_toArray, List.set_cons_zero, List.set_cons_succ]
    clear hs2 hdos hst hcl HN0 HN1 HN2 TW CELLS
    go_wp2
    go_ret
    exact ⟨rfl, S5.out⟩
  · have TW := Lib.hid (fun V (hV : Below wc.heap.size wc V) => two_send B A R n W k hk80 V (S3.out.below hV) vf vt bp bc cs LB.out BN.out (by omega))
    clear S3 OK LB BN
    go_wp2
    rename_i Q1 hK1
    have HN0 : wc.drew.heap[N]? = some (.cells #[.int .i64 vo, .int .i64 vf, .int .i64 vt, .int .i64 vk, .int .i64 va, .int .u8 (vb.toNat : Int), .slice bp bs.length bc] 32) := HN.out
    refine rg_last (m := 16) (S := fun V => V.heap[N]? = some (.cells #[.int .i64 vo, .int .i64 vf, .int .i64 vt, .int .i64 vk, .int .i64 va, .int .u8 (vb.toNat : Int), .slice bp bs.length bc] 32)) (by kernel_rfl) rfl ?_
    refine rgd_pure 0 (some 156) rfl rfl (.pointer (some ⟨A, 0, none⟩)) (by kernel_rfl) (by kernel_rfl) (by kernel_rfl) (fun _ _ _ _ h => h) (by kernel_rfl) (fun _ => by kernel_rfl) HN0 ?_
    refine rgd_pure 1 (some 157) rfl rfl (.pointer (some ⟨N, 1, none⟩)) (by kernel_rfl) (by kernel_rfl) (by kernel_rfl) (fun _ _ _ _ h => h) (by kernel_rfl) (fun _ => by kernel_rfl) HN0 ?_
    refine rgd_load 2 (some 158) rfl rfl (by kernel_rfl) (by kernel_rfl) (by kernel_rfl) (fun _ _ _ _ h => h) (by kernel_rfl) _ _ rfl Try.underlying3 rfl ⟨N, 1, none⟩ (.int .i64 vf) (by kernel_rfl) (fun V hV => by rw [cell_of_row V N 1 _ _ _ hV]; rfl) HN0 ?_
    refine rgd_pure 3 (some 159) rfl rfl (.pointer (some ⟨N, 2, none⟩)) (by kernel_rfl) (by kernel_rfl) (by kernel_rfl) (fun _ _ _ _ h => h) (by kernel_rfl) (fun _ => by kernel_rfl) HN0 ?_
    refine rgd_load 4 (some 160) rfl rfl (by kernel_rfl) (by kernel_rfl) (by kernel_rfl) (fun _ _ _ _ h => h) (by kernel_rfl) _ _ rfl Try.underlying3 rfl ⟨N, 2, none⟩ (.int .i64 vt) (by kernel_rfl) (fun V hV => by rw [cell_of_row V N 2 _ _ _ hV]; rfl) HN0 ?_
    refine rgd_pure 5 (some 161) rfl rfl (.slice bp cs.length bc) (by kernel_rfl) (by kernel_rfl) (by kernel_rfl) (fun _ _ _ _ h => h) (by kernel_rfl) (fun _ => by kernel_rfl) HN0 ?_
    refine rgd_pure 7 (some 163) rfl rfl (.pointer (some ⟨R, 0, none⟩)) (by kernel_rfl) (by kernel_rfl) (by kernel_rfl) (fun _ _ _ _ h => h) (by kernel_rfl) (fun _ => by kernel_rfl) HN0 ?_
    refine rgd_pure 8 (some 164) rfl rfl (.pointer (some ⟨N, 1, none⟩)) (by kernel_rfl) (by kernel_rfl) (by kernel_rfl) (fun _ _ _ _ h => h) (by kernel_rfl) (fun _ => by kernel_rfl) HN0 ?_
    refine rgd_load 9 (some 165) rfl rfl (by kernel_rfl) (by kernel_rfl) (by kernel_rfl) (fun _ _ _ _ h => h) (by kernel_rfl) _ _ rfl Try.underlying3 rfl ⟨N, 1, none⟩ (.int .i64 vf) (by kernel_rfl) (fun V hV => by rw [cell_of_row V N 1 _ _ _ hV]; rfl) HN0 ?_
    refine rgd_pure 10 (some 166) rfl rfl (.pointer (some ⟨N, 2, none⟩)) (by kernel_rfl) (by kernel_rfl) (by kernel_rfl) (fun _ _ _ _ h => h) (by kernel_rfl) (fun _ => by kernel_rfl) HN0 ?_
    refine rgd_load 11 (some 167) rfl rfl (by kernel_rfl) (by kernel_rfl) (by kernel_rfl) (fun _ _ _ _ h => h) (by kernel_rfl) _ _ rfl Try.underlying3 rfl ⟨N, 2, none⟩ (.int .i64 vt) (by kernel_rfl) (fun V hV => by rw [cell_of_row V N 2 _ _ _ hV]; rfl) HN0 ?_
    refine rgd_pure 12 (some 168) rfl rfl (.slice bp cs.length bc) (by kernel_rfl) (by kernel_rfl) (by kernel_rfl) (fun _ _ _ _ h => h) (by kernel_rfl) (fun _ => by kernel_rfl) HN0 ?_
    refine rgd_call 6 (some 162) (by kernel_rfl) rfl rfl (by kernel_rfl) 13 #[.pointer (some ⟨A, 0, none⟩), .int .i64 vf, .int .i64 vt, .slice bp cs.length bc] (by kernel_rfl) (TW.out _ (Below.refl _ _).drew) ?_
    rintro e w1 ⟨r, rfl, hst, hcl⟩
    have HN1 : w1.heap[N]? = some (.cells #[.int .i64 vo, .int .i64 vf, .int .i64 vt, .int .i64 vk, .int .i64 va, .int .u8 (vb.toNat : Int), .slice bp bs.length bc] 32) := hst N _ _ _ (by decide) (by decide) HN0
    refine ⟨_, rfl, HN1, ?_⟩
    refine rgd_call 13 (some 169) (by kernel_rfl) rfl rfl (by kernel_rfl) 26 #[.pointer (some ⟨R, 0, none⟩), .int .i64 vf, .int .i64 vt, .slice bp cs.length bc] (by kernel_rfl) hcl ?_
    rintro e w2 ⟨rfl, hdos, hs2⟩
    have HN2 : w2.heap[N]? = some (.cells #[.int .i64 vo, .int .i64 vf, .int .i64 vt, .int .i64 vk, .int .i64 va, .int .u8 (vb.toNat : Int), .slice bp bs.length bc] 32) := hdos N _ _ HN1
    have S5 := Lib.hid hs2
    refine ⟨_, rfl, HN2, ?_⟩
    refine rgd_pure 14 (some 170) rfl rfl (.bool true) (by kernel_rfl) (by kernel_rfl) (by kernel_rfl) (fun _ _ _ _ h => h) (by kernel_rfl) (exec_eqlI _ _ _ _ rfl r (by kernel_rfl) (by kernel_rfl)) HN2 ?_
    refine rgd_pure 15 (some 6) rfl rfl (.bool true) (by kernel_rfl) (by kernel_rfl) (by kernel_rfl) (fun _ _ _ _ h => h) (by kernel_rfl) (fun _ => by kernel_rfl) HN2 ?_
    refine wpAnyH_done (by kernel_rfl) ?_ _
    simp only [Exit.then, Exit.inBlock]
    refine hK1 _ _ ?_
    simp only [Act.put, List.setIfInBounds_toArray, List.set_cons_zero, List.set_cons_succ]
    clear hs2 hdos hst hcl HN0 HN1 HN2 TW CELLS
    go_wp2
    go_ret
    exact ⟨rfl, S5.out⟩
  · have TW := Lib.hid (two_take B A R n W k hk80 wc S3.out vf vt vk)
    clear S3 OK LB BN
    go_wp2_with fail
    refine TW.out.mono ?_
    rintro e w1 ⟨p1, m1, c1, r, rfl, hst, hcl⟩
    obtain ⟨d1, d2, d3, d4, d5⟩ := CELLS.out w1 hst
    have C2 := Lib.hid hcl
    clear hst hcl TW
    go_wp2_with fail
    refine C2.out.mono ?_
    rintro e w2 ⟨p2, c2, rfl, hs2, heq⟩
    have S5 := Lib.hid hs2; have EQ := Lib.hid heq
    have hxx : (r == r) = true := by simp
    clear hs2 heq C2
    go_wp2_with fail
    refine EQ.out.mono ?_
    rintro e w3 ⟨rfl, rfl⟩
    go_wp2
    go_ret
    exact ⟨rfl, S5.out⟩
  · have TW := Lib.hid (fun V (hV : Below wc.heap.size wc V) => two_lose B A R n W k hk80 V (S3.out.below hV) vf vt vk)
    clear S3 OK LB BN
    go_wp2
    rename_i Q1 hK1
    have HN0 : wc.drew.heap[N]? = some (.cells #[.int .i64 vo, .int .i64 vf, .int .i64 vt, .int .i64 vk, .int .i64 va, .int .u8 (vb.toNat : Int), .slice bp bs.length bc] 32) := HN.out
    refine rg_last (m := 18) (S := fun V => V.heap[N]? = some (.cells #[.int .i64 vo, .int .i64 vf, .int .i64 vt, .int .i64 vk, .int .i64 va, .int .u8 (vb.toNat : Int), .slice bp bs.length bc] 32)) (by kernel_rfl) rfl ?_
    refine rgd_pure 0 (some 61) rfl rfl (.pointer (some ⟨A, 0, none⟩)) (by kernel_rfl) (by kernel_rfl) (by kernel_rfl) (fun _ _ _ _ h => h) (by kernel_rfl) (fun _ => by kernel_rfl) HN0 ?_
    refine rgd_pure 1 (some 62) rfl rfl (.pointer (some ⟨N, 1, none⟩)) (by kernel_rfl) (by kernel_rfl) (by kernel_rfl) (fun _ _ _ _ h => h) (by kernel_rfl) (fun _ => by kernel_rfl) HN0 ?_
    refine rgd_load 2 (some 63) rfl rfl (by kernel_rfl) (by kernel_rfl) (by kernel_rfl) (fun _ _ _ _ h => h) (by kernel_rfl) _ _ rfl Try.underlying3 rfl ⟨N, 1, none⟩ (.int .i64 vf) (by kernel_rfl) (fun V hV => by rw [cell_of_row V N 1 _ _ _ hV]; rfl) HN0 ?_
    refine rgd_pure 3 (some 64) rfl rfl (.pointer (some ⟨N, 2, none⟩)) (by kernel_rfl) (by kernel_rfl) (by kernel_rfl) (fun _ _ _ _ h => h) (by kernel_rfl) (fun _ => by kernel_rfl) HN0 ?_
    refine rgd_load 4 (some 65) rfl rfl (by kernel_rfl) (by kernel_rfl) (by kernel_rfl) (fun _ _ _ _ h => h) (by kernel_rfl) _ _ rfl Try.underlying3 rfl ⟨N, 2, none⟩ (.int .i64 vt) (by kernel_rfl) (fun V hV => by rw [cell_of_row V N 2 _ _ _ hV]; rfl) HN0 ?_
    refine rgd_pure 5 (some 66) rfl rfl (.pointer (some ⟨N, 3, none⟩)) (by kernel_rfl) (by kernel_rfl) (by kernel_rfl) (fun _ _ _ _ h => h) (by kernel_rfl) (fun _ => by kernel_rfl) HN0 ?_
    refine rgd_load 6 (some 67) rfl rfl (by kernel_rfl) (by kernel_rfl) (by kernel_rfl) (fun _ _ _ _ h => h) (by kernel_rfl) _ _ rfl Try.underlying3 rfl ⟨N, 3, none⟩ (.int .i64 vk) (by kernel_rfl) (fun V hV => by rw [cell_of_row V N 3 _ _ _ hV]; rfl) HN0 ?_
    refine rgd_pure 8 (some 69) rfl rfl (.pointer (some ⟨R, 0, none⟩)) (by kernel_rfl) (by kernel_rfl) (by kernel_rfl) (fun _ _ _ _ h => h) (by kernel_rfl) (fun _ => by kernel_rfl) HN0 ?_
    refine rgd_pure 9 (some 70) rfl rfl (.pointer (some ⟨N, 1, none⟩)) (by kernel_rfl) (by kernel_rfl) (by kernel_rfl) (fun _ _ _ _ h => h) (by kernel_rfl) (fun _ => by kernel_rfl) HN0 ?_
    refine rgd_load 10 (some 71) rfl rfl (by kernel_rfl) (by kernel_rfl) (by kernel_rfl) (fun _ _ _ _ h => h) (by kernel_rfl) _ _ rfl Try.underlying3 rfl ⟨N, 1, none⟩ (.int .i64 vf) (by kernel_rfl) (fun V hV => by rw [cell_of_row V N 1 _ _ _ hV]; rfl) HN0 ?_
    refine rgd_pure 11 (some 72) rfl rfl (.pointer (some ⟨N, 2, none⟩)) (by kernel_rfl) (by kernel_rfl) (by kernel_rfl) (fun _ _ _ _ h => h) (by kernel_rfl) (fun _ => by kernel_rfl) HN0 ?_
    refine rgd_load 12 (some 73) rfl rfl (by kernel_rfl) (by kernel_rfl) (by kernel_rfl) (fun _ _ _ _ h => h) (by kernel_rfl) _ _ rfl Try.underlying3 rfl ⟨N, 2, none⟩ (.int .i64 vt) (by kernel_rfl) (fun V hV => by rw [cell_of_row V N 2 _ _ _ hV]; rfl) HN0 ?_
    refine rgd_pure 13 (some 74) rfl rfl (.pointer (some ⟨N, 3, none⟩)) (by kernel_rfl) (by kernel_rfl) (by kernel_rfl) (fun _ _ _ _ h => h) (by kernel_rfl) (fun _ => by kernel_rfl) HN0 ?_
    refine rgd_load 14 (some 75) rfl rfl (by kernel_rfl) (by kernel_rfl) (by kernel_rfl) (fun _ _ _ _ h => h) (by kernel_rfl) _ _ rfl Try.underlying3 rfl ⟨N, 3, none⟩ (.int .i64 vk) (by kernel_rfl) (fun V hV => by rw [cell_of_row V N 3 _ _ _ hV]; rfl) HN0 ?_
    refine rgd_call 7 (some 68) (by kernel_rfl) rfl rfl (by kernel_rfl) 18 #[.pointer (some ⟨A, 0, none⟩), .int .i64 vf, .int .i64 vt, .int .i64 vk] (by kernel_rfl) (TW.out _ (Below.refl _ _).drew) ?_
    rintro e w1 ⟨r, rfl, hst, hcl⟩
    have HN1 : w1.heap[N]? = some (.cells #[.int .i64 vo, .int .i64 vf, .int .i64 vt, .int .i64 vk, .int .i64 va, .int .u8 (vb.toNat : Int), .slice bp bs.length bc] 32) := hst N _ _ _ (by decide) (by decide) HN0
    refine ⟨_, rfl, HN1, ?_⟩
    refine rgd_call 15 (some 76) (by kernel_rfl) rfl rfl (by kernel_rfl) 22 #[.pointer (some ⟨R, 0, none⟩), .int .i64 vf, .int .i64 vt, .int .i64 vk] (by kernel_rfl) hcl ?_
    rintro e w2 ⟨rfl, hdos, hs2⟩
    have HN2 : w2.heap[N]? = some (.cells #[.int .i64 vo, .int .i64 vf, .int .i64 vt, .int .i64 vk, .int .i64 va, .int .u8 (vb.toNat : Int), .slice bp bs.length bc] 32) := hdos N _ _ HN1
    have S5 := Lib.hid hs2
    refine ⟨_, rfl, HN2, ?_⟩
    refine rgd_pure 16 (some 77) rfl rfl (.bool true) (by kernel_rfl) (by kernel_rfl) (by kernel_rfl) (fun _ _ _ _ h => h) (by kernel_rfl) (exec_eqlI _ _ _ _ rfl r (by kernel_rfl) (by kernel_rfl)) HN2 ?_
    refine rgd_pure 17 (some 6) rfl rfl (.bool true) (by kernel_rfl) (by kernel_rfl) (by kernel_rfl) (fun _ _ _ _ h => h) (by kernel_rfl) (fun _ => by kernel_rfl) HN2 ?_
    refine wpAnyH_done (by kernel_rfl) ?_ _
    simp only [Exit.then, Exit.inBlock]
    refine hK1 _ _ ?_
    simp only [Act.put, List.setIfInBounds_toArray, List.set_cons_zero, List.set_cons_succ]
    clear hs2 hdos hst hcl HN0 HN1 HN2 TW CELLS
    go_wp2
    go_ret
    exact ⟨rfl, S5.out⟩
  · have TW := Lib.hid (fun V (hV : Below wc.heap.size wc V) => two_double B A R n W k hk80 V (S3.out.below hV) vf vt vk)
    clear S3 OK LB BN
    go_wp2
    rename_i Q1 hK1
    have HN0 : wc.drew.heap[N]? = some (.cells #[.int .i64 vo, .int .i64 vf, .int .i64 vt, .int .i64 vk, .int .i64 va, .int .u8 (vb.toNat : Int), .slice bp bs.length bc] 32) := HN.out
    refine rg_last (m := 18) (S := fun V => V.heap[N]? = some (.cells #[.int .i64 vo, .int .i64 vf, .int .i64 vt, .int .i64 vk, .int .i64 va, .int .u8 (vb.toNat : Int), .slice bp bs.length bc] 32)) (by kernel_rfl) rfl ?_
    refine rgd_pure 0 (some 80) rfl rfl (.pointer (some ⟨A, 0, none⟩)) (by kernel_rfl) (by kernel_rfl) (by kernel_rfl) (fun _ _ _ _ h => h) (by kernel_rfl) (fun _ => by kernel_rfl) HN0 ?_
    refine rgd_pure 1 (some 81) rfl rfl (.pointer (some ⟨N, 1, none⟩)) (by kernel_rfl) (by kernel_rfl) (by kernel_rfl) (fun _ _ _ _ h => h) (by kernel_rfl) (fun _ => by kernel_rfl) HN0 ?_
    refine rgd_load 2 (some 82) rfl rfl (by kernel_rfl) (by kernel_rfl) (by kernel_rfl) (fun _ _ _ _ h => h) (by kernel_rfl) _ _ rfl Try.underlying3 rfl ⟨N, 1, none⟩ (.int .i64 vf) (by kernel_rfl) (fun V hV => by rw [cell_of_row V N 1 _ _ _ hV]; rfl) HN0 ?_
    refine rgd_pure 3 (some 83) rfl rfl (.pointer (some ⟨N, 2, none⟩)) (by kernel_rfl) (by kernel_rfl) (by kernel_rfl) (fun _ _ _ _ h => h) (by kernel_rfl) (fun _ => by kernel_rfl) HN0 ?_
    refine rgd_load 4 (some 84) rfl rfl (by kernel_rfl) (by kernel_rfl) (by kernel_rfl) (fun _ _ _ _ h => h) (by kernel_rfl) _ _ rfl Try.underlying3 rfl ⟨N, 2, none⟩ (.int .i64 vt) (by kernel_rfl) (fun V hV => by rw [cell_of_row V N 2 _ _ _ hV]; rfl) HN0 ?_
    refine rgd_pure 5 (some 85) rfl rfl (.pointer (some ⟨N, 3, none⟩)) (by kernel_rfl) (by kernel_rfl) (by kernel_rfl) (fun _ _ _ _ h => h) (by kernel_rfl) (fun _ => by kernel_rfl) HN0 ?_
    refine rgd_load 6 (some 86) rfl rfl (by kernel_rfl) (by kernel_rfl) (by kernel_rfl) (fun _ _ _ _ h => h) (by kernel_rfl) _ _ rfl Try.underlying3 rfl ⟨N, 3, none⟩ (.int .i64 vk) (by kernel_rfl) (fun V hV => by rw [cell_of_row V N 3 _ _ _ hV]; rfl) HN0 ?_
    refine rgd_pure 8 (some 88) rfl rfl (.pointer (some ⟨R, 0, none⟩)) (by kernel_rfl) (by kernel_rfl) (by kernel_rfl) (fun _ _ _ _ h => h) (by kernel_rfl) (fun _ => by kernel_rfl) HN0 ?_
    refine rgd_pure 9 (some 89) rfl rfl (.pointer (some ⟨N, 1, none⟩)) (by kernel_rfl) (by kernel_rfl) (by kernel_rfl) (fun _ _ _ _ h => h) (by kernel_rfl) (fun _ => by kernel_rfl) HN0 ?_
    refine rgd_load 10 (some 90) rfl rfl (by kernel_rfl) (by kernel_rfl) (by kernel_rfl) (fun _ _ _ _ h => h) (by kernel_rfl) _ _ rfl Try.underlying3 rfl ⟨N, 1, none⟩ (.int .i64 vf) (by kernel_rfl) (fun V hV => by rw [cell_of_row V N 1 _ _ _ hV]; rfl) HN0 ?_
    refine rgd_pure 11 (some 91) rfl rfl (.pointer (some ⟨N, 2, none⟩)) (by kernel_rfl) (by kernel_rfl) (by kernel_rfl) (fun _ _ _ _ h => h) (by kernel_rfl) (fun _ => by kernel_rfl) HN0 ?_
    refine rgd_load 12 (some 92) rfl rfl (by kernel_rfl) (by kernel_rfl) (by kernel_rfl) (fun _ _ _ _ h => h) (by kernel_rfl) _ _ rfl Try.underlying3 rfl ⟨N, 2, none⟩ (.int .i64 vt) (by kernel_rfl) (fun V hV => by rw [cell_of_row V N 2 _ _ _ hV]; rfl) HN0 ?_
    refine rgd_pure 13 (some 93) rfl rfl (.pointer (some ⟨N, 3, none⟩)) (by kernel_rfl) (by kernel_rfl) (by kernel_rfl) (fun _ _ _ _ h => h) (by kernel_rfl) (fun _ => by kernel_rfl) HN0 ?_
    refine rgd_load 14 (some 94) rfl rfl (by kernel_rfl) (by kernel_rfl) (by kernel_rfl) (fun _ _ _ _ h => h) (by kernel_rfl) _ _ rfl Try.underlying3 rfl ⟨N, 3, none⟩ (.int .i64 vk) (by kernel_rfl) (fun V hV => by rw [cell_of_row V N 3 _ _ _ hV]; rfl) HN0 ?_
    refine rgd_call 7 (some 87) (by kernel_rfl) rfl rfl (by kernel_rfl) 15 #[.pointer (some ⟨A, 0, none⟩), .int .i64 vf, .int .i64 vt, .int .i64 vk] (by kernel_rfl) (TW.out _ (Below.refl _ _).drew) ?_
    rintro e w1 ⟨r, rfl, hst, hcl⟩
    have HN1 : w1.heap[N]? = some (.cells #[.int .i64 vo, .int .i64 vf, .int .i64 vt, .int .i64 vk, .int .i64 va, .int .u8 (vb.toNat : Int), .slice bp bs.length bc] 32) := hst N _ _ _ (by decide) (by decide) HN0
    refine ⟨_, rfl, HN1, ?_⟩
    refine rgd_call 15 (some 95) (by kernel_rfl) rfl rfl (by kernel_rfl) 23 #[.pointer (some ⟨R, 0, none⟩), .int .i64 vf, .int .i64 vt, .int .i64 vk] (by kernel_rfl) hcl ?_
    rintro e w2 ⟨rfl, hdos, hs2⟩
    have HN2 : w2.heap[N]? = some (.cells #[.int .i64 vo, .int .i64 vf, .int .i64 vt, .int .i64 vk, .int .i64 va, .int .u8 (vb.toNat : Int), .slice bp bs.length bc] 32) := hdos N _ _ HN1
    have S5 := Lib.hid hs2
    refine ⟨_, rfl, HN2, ?_⟩
    refine rgd_pure 16 (some 96) rfl rfl (.bool true) (by kernel_rfl) (by kernel_rfl) (by kernel_rfl) (fun _ _ _ _ h => h) (by kernel_rfl) (exec_eqlI _ _ _ _ rfl r (by kernel_rfl) (by kernel_rfl)) HN2 ?_
    refine rgd_pure 17 (some 6) rfl rfl (.bool true) (by kernel_rfl) (by kernel_rfl) (by kernel_rfl) (fun _ _ _ _ h => h) (by kernel_rfl) (fun _ => by kernel_rfl) HN2 ?_
    refine wpAnyH_done (by kernel_rfl) ?_ _
    simp only [Exit.then, Exit.inBlock]
    refine hK1 _ _ ?_
    simp only [Act.put, List.setIfInBounds_toArray, List.set_cons_zero, List.set_cons_succ]
    clear hs2 hdos hst hcl HN0 HN1 HN2 TW CELLS
    go_wp2
    go_ret
    exact ⟨rfl, S5.out⟩
  · have TW := Lib.hid (fun V (hV : Below wc.heap.size wc V) => two_spoil B A R n W k hk80 V (S3.out.below hV) vf vt vk va OK.out.at_ vb)
    clear S3 OK LB BN
    go_wp2
    rename_i Q1 hK1
    have HN0 : wc.drew.heap[N]? = some (.cells #[.int .i64 vo, .int .i64 vf, .int .i64 vt, .int .i64 vk, .int .i64 va, .int .u8 (vb.toNat : Int), .slice bp bs.length bc] 32) := HN.out
    refine rg_last (m := 26) (S := fun V => V.heap[N]? = some (.cells #[.int .i64 vo, .int .i64 vf, .int .i64 vt, .int .i64 vk, .int .i64 va, .int .u8 (vb.toNat : Int), .slice bp bs.length bc] 32)) (by kernel_rfl) rfl ?_
    refine rgd_pure 0 (some 99) rfl rfl (.pointer (some ⟨A, 0, none⟩)) (by kernel_rfl) (by kernel_rfl) (by kernel_rfl) (fun _ _ _ _ h => h) (by kernel_rfl) (fun _ => by kernel_rfl) HN0 ?_
    refine rgd_pure 1 (some 100) rfl rfl (.pointer (some ⟨N, 1, none⟩)) (by kernel_rfl) (by kernel_rfl) (by kernel_rfl) (fun _ _ _ _ h => h) (by kernel_rfl) (fun _ => by kernel_rfl) HN0 ?_
    refine rgd_load 2 (some 101) rfl rfl (by kernel_rfl) (by kernel_rfl) (by kernel_rfl) (fun _ _ _ _ h => h) (by kernel_rfl) _ _ rfl Try.underlying3 rfl ⟨N, 1, none⟩ (.int .i64 vf) (by kernel_rfl) (fun V hV => by rw [cell_of_row V N 1 _ _ _ hV]; rfl) HN0 ?_
    refine rgd_pure 3 (some 102) rfl rfl (.pointer (some ⟨N, 2, none⟩)) (by kernel_rfl) (by kernel_rfl) (by kernel_rfl) (fun _ _ _ _ h => h) (by kernel_rfl) (fun _ => by kernel_rfl) HN0 ?_
    refine rgd_load 4 (some 103) rfl rfl (by kernel_rfl) (by kernel_rfl) (by kernel_rfl) (fun _ _ _ _ h => h) (by kernel_rfl) _ _ rfl Try.underlying3 rfl ⟨N, 2, none⟩ (.int .i64 vt) (by kernel_rfl) (fun V hV => by rw [cell_of_row V N 2 _ _ _ hV]; rfl) HN0 ?_
    refine rgd_pure 5 (some 104) rfl rfl (.pointer (some ⟨N, 3, none⟩)) (by kernel_rfl) (by kernel_rfl) (by kernel_rfl) (fun _ _ _ _ h => h) (by kernel_rfl) (fun _ => by kernel_rfl) HN0 ?_
    refine rgd_load 6 (some 105) rfl rfl (by kernel_rfl) (by kernel_rfl) (by kernel_rfl) (fun _ _ _ _ h => h) (by kernel_rfl) _ _ rfl Try.underlying3 rfl ⟨N, 3, none⟩ (.int .i64 vk) (by kernel_rfl) (fun V hV => by rw [cell_of_row V N 3 _ _ _ hV]; rfl) HN0 ?_
    refine rgd_pure 7 (some 106) rfl rfl (.pointer (some ⟨N, 4, none⟩)) (by kernel_rfl) (by kernel_rfl) (by kernel_rfl) (fun _ _ _ _ h => h) (by kernel_rfl) (fun _ => by kernel_rfl) HN0 ?_
    refine rgd_load 8 (some 107) rfl rfl (by kernel_rfl) (by kernel_rfl) (by kernel_rfl) (fun _ _ _ _ h => h) (by kernel_rfl) _ _ rfl Try.underlying3 rfl ⟨N, 4, none⟩ (.int .i64 va) (by kernel_rfl) (fun V hV => by rw [cell_of_row V N 4 _ _ _ hV]; rfl) HN0 ?_
    refine rgd_pure 9 (some 108) rfl rfl (.pointer (some ⟨N, 5, none⟩)) (by kernel_rfl) (by kernel_rfl) (by kernel_rfl) (fun _ _ _ _ h => h) (by kernel_rfl) (fun _ => by kernel_rfl) HN0 ?_
    refine rgd_load 10 (some 109) rfl rfl (by kernel_rfl) (by kernel_rfl) (by kernel_rfl) (fun _ _ _ _ h => h) (by kernel_rfl) _ _ rfl Try.underlying5 rfl ⟨N, 5, none⟩ (.int .u8 (vb.toNat : Int)) (by kernel_rfl) (fun V hV => by rw [cell_of_row V N 5 _ _ _ hV]; rfl) HN0 ?_
    refine rgd_pure 12 (some 111) rfl rfl (.pointer (some ⟨R, 0, none⟩)) (by kernel_rfl) (by kernel_rfl) (by kernel_rfl) (fun _ _ _ _ h => h) (by kernel_rfl) (fun _ => by kernel_rfl) HN0 ?_
    refine rgd_pure 13 (some 112) rfl rfl (.pointer (some ⟨N, 1, none⟩)) (by kernel_rfl) (by kernel_rfl) (by kernel_rfl) (fun _ _ _ _ h => h) (by kernel_rfl) (fun _ => by kernel_rfl) HN0 ?_
    refine rgd_load 14 (some 113) rfl rfl (by kernel_rfl) (by kernel_rfl) (by kernel_rfl) (fun _ _ _ _ h => h) (by kernel_rfl) _ _ rfl Try.underlying3 rfl ⟨N, 1, none⟩ (.int .i64 vf) (by kernel_rfl) (fun V hV => by rw [cell_of_row V N 1 _ _ _ hV]; rfl) HN0 ?_
    refine rgd_pure 15 (some 114) rfl rfl (.pointer (some ⟨N, 2, none⟩)) (by kernel_rfl) (by kernel_rfl) (by kernel_rfl) (fun _ _ _ _ h => h) (by kernel_rfl) (fun _ => by kernel_rfl) HN0 ?_
    refine rgd_load 16 (some 115) rfl rfl (by kernel_rfl) (by kernel_rfl) (by kernel_rfl) (fun _ _ _ _ h => h) (by kernel_rfl) _ _ rfl Try.underlying3 rfl ⟨N, 2, none⟩ (.int .i64 vt) (by kernel_rfl) (fun V hV => by rw [cell_of_row V N 2 _ _ _ hV]; rfl) HN0 ?_
    refine rgd_pure 17 (some 116) rfl rfl (.pointer (some ⟨N, 3, none⟩)) (by kernel_rfl) (by kernel_rfl) (by kernel_rfl) (fun _ _ _ _ h => h) (by kernel_rfl) (fun _ => by kernel_rfl) HN0 ?_
    refine rgd_load 18 (some 117) rfl rfl (by kernel_rfl) (by kernel_rfl) (by kernel_rfl) (fun _ _ _ _ h => h) (by kernel_rfl) _ _ rfl Try.underlying3 rfl ⟨N, 3, none⟩ (.int .i64 vk) (by kernel_rfl) (fun V hV => by rw [cell_of_row V N 3 _ _ _ hV]; rfl) HN0 ?_
    refine rgd_pure 19 (some 118) rfl rfl (.pointer (some ⟨N, 4, none⟩)) (by kernel_rfl) (by kernel_rfl) (by kernel_rfl) (fun _ _ _ _ h => h) (by kernel_rfl) (fun _ => by kernel_rfl) HN0 ?_
    refine rgd_load 20 (some 119) rfl rfl (by kernel_rfl) (by kernel_rfl) (by kernel_rfl) (fun _ _ _ _ h => h) (by kernel_rfl) _ _ rfl Try.underlying3 rfl ⟨N, 4, none⟩ (.int .i64 va) (by kernel_rfl) (fun V hV => by rw [cell_of_row V N 4 _ _ _ hV]; rfl) HN0 ?_
    refine rgd_pure 21 (some 120) rfl rfl (.pointer (some ⟨N, 5, none⟩)) (by kernel_rfl) (by kernel_rfl) (by kernel_rfl) (fun _ _ _ _ h => h) (by kernel_rfl) (fun _ => by kernel_rfl) HN0 ?_
    refine rgd_load 22 (some 121) rfl rfl (by kernel_rfl) (by kernel_rfl) (by kernel_rfl) (fun _ _ _ _ h => h) (by kernel_rfl) _ _ rfl Try.underlying5 rfl ⟨N, 5, none⟩ (.int .u8 (vb.toNat : Int)) (by kernel_rfl) (fun V hV => by rw [cell_of_row V N 5 _ _ _ hV]; rfl) HN0 ?_
    refine rgd_call 11 (some 110) (by kernel_rfl) rfl rfl (by kernel_rfl) 14 #[.pointer (some ⟨A, 0, none⟩), .int .i64 vf, .int .i64 vt, .int .i64 vk, .int .i64 va, .int .u8 (vb.toNat : Int)] (by kernel_rfl) (TW.out _ (Below.refl _ _).drew) ?_
    rintro e w1 ⟨r, rfl, hst, hcl⟩
    have HN1 : w1.heap[N]? = some (.cells #[.int .i64 vo, .int .i64 vf, .int .i64 vt, .int .i64 vk, .int .i64 va, .int .u8 (vb.toNat : Int), .slice bp bs.length bc] 32) := hst N _ _ _ (by decide) (by decide) HN0
    refine ⟨_, rfl, HN1, ?_⟩
    refine rgd_call 23 (some 122) (by kernel_rfl) rfl rfl (by kernel_rfl) 24 #[.pointer (some ⟨R, 0, none⟩), .int .i64 vf, .int .i64 vt, .int .i64 vk, .int .i64 va, .int .u8 (vb.toNat : Int)] (by kernel_rfl) hcl ?_
    rintro e w2 ⟨rfl, hdos, hs2⟩
    have HN2 : w2.heap[N]? = some (.cells #[.int .i64 vo, .int .i64 vf, .int .i64 vt, .int .i64 vk, .int .i64 va, .int .u8 (vb.toNat : Int), .slice bp bs.length bc] 32) := hdos N _ _ HN1
    have S5 := Lib.hid hs2
    refine ⟨_, rfl, HN2, ?_⟩
    refine rgd_pure 24 (some 123) rfl rfl (.bool true) (by kernel_rfl) (by kernel_rfl) (by kernel_rfl) (fun _ _ _ _ h => h) (by kernel_rfl) (exec_eqlI _ _ _ _ rfl r (by kernel_rfl) (by kernel_rfl)) HN2 ?_
    refine rgd_pure 25 (some 6) rfl rfl (.bool true) (by kernel_rfl) (by kernel_rfl) (by kernel_rfl) (fun _ _ _ _ h => h) (by kernel_rfl) (fun _ => by kernel_rfl) HN2 ?_
    refine wpAnyH_done (by kernel_rfl) ?_ _
    simp only [Exit.then, Exit.inBlock]
    refine hK1 _ _ ?_
    simp only [Act.put, List.setIfInBounds_toArray, List.set_cons_zero, List.set_cons_succ]
    clear hs2 hdos hst hcl HN0 HN1 HN2 TW CELLS
    go_wp2
    go_ret
    exact ⟨rfl, S5.out⟩
  · have TW := Lib.hid (two_peek B A R n W k hk80 wc S3.out vf vt vk)
    clear S3 OK LB BN
    go_wp2_with fail
    refine TW.out.mono ?_
    rintro e w1 ⟨p1, m1, c1, r, rfl, hst, hcl⟩
    obtain ⟨d1, d2, d3, d4, d5⟩ := CELLS.out w1 hst
    have C2 := Lib.hid hcl
    clear hst hcl TW
    go_wp2_with fail
    refine C2.out.mono ?_
    rintro e w2 ⟨p2, c2, rfl, hs2, heq⟩
    have S5 := Lib.hid hs2; have EQ := Lib.hid heq
    have hxx : (r == r) = true := by simp
    clear hs2 heq C2
    go_wp2_with fail
    refine EQ.out.mono ?_
    rintro e w3 ⟨rfl, rfl⟩
    go_wp2
    go_ret
    exact ⟨rfl, S5.out⟩
end Go.Proofs.Ytfdiclamjgldnaa
