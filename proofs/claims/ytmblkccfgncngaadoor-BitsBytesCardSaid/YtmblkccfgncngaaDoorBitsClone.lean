/- Clone of a set. -/
import Derived.Test.YtmblkccfgncngaaDoorBitsBothR
import Derived.Laws.CopyOwn
namespace Go.Proofs.YtmblkccfgncngaaDoor
open Go Go.RowKit
set_option linter.unusedVariables false

theorem exec_copy {P : Program} {o : Oper} {a : Act} {w : World} (x y : Operand) (dT sT : TypeId) (ho : o.op = .call { callee := .builtin .copy, args := #[x, y], argTypes := #[dT, sT] }) (vx vy : Value) (hx : a.eval x = vx) (hy : a.eval y = vy) (v : Value) (w' : World)
    (hrun : (Builtin.copy_ #[dT, sT] o.type #[vx, vy]).run P w = .ok v w') : (execOp a.eval o).run P w = .ok (.value v) w' := by
  have e : (#[x, y] : Array Operand).map a.eval = #[vx, vy] := by simp only [List.map_toArray, List.map_cons, List.map_nil, hx, hy]
  unfold execOp
  simp only [ho]
  unfold resolve
  simp only [e]
  simp only [Sem.run_bind, Sem.run_pure, Result.andThen_ok, invoke]
  exact run_value_of hrun
theorem sizeInfoW : (Tryd.prog.info? 67).map (·.size) = some 1 := by kernel_rfl
theorem wcells_listGet (n : Nat) (f : Nat → Bool) (j : Nat) (v : Value) (h : (wcells n f).toList[j]? = some v) : j < wcount n ∧ v = .int .u64 ((Bit.word f j : Nat) : Int) := by
  have hj : j < wcount n := by
    have := (List.getElem?_eq_some_iff.1 h).1
    simpa [wcells] using this
  refine ⟨hj, ?_⟩
  rw [Array.getElem?_toList, wcells_get n f j hj] at h
  exact (Option.some.inj h).symm

set_option maxHeartbeats 4000000 in
set_option maxRecDepth 100000 in
theorem clone_is (a G n : Nat) (f : Nat → Bool) (w : World) (h : St w a G n f) : Calls Tryd.prog 27 #[.pointer (some ⟨a, 0, none⟩)] w (Blended w n f) := by
  have A := Lib.hid h
  have Z := Lib.hid h.sized.calls
  have hle := h.le
  have N := Lib.hid (newSet n n w (by omega) (by omega) (by omega))
  clear h
  go_enter Tryd.func27, Tryd.ntmps27
  go_wp2_with fail
  refine Z.out.mono ?_
  rintro e w' ⟨rfl, rfl⟩
  clear Z
  go_wp2_with fail
  refine N.out.mono ?_
  rintro e w1 ⟨s, G2, rfl, hs, hG2, hst, hb1⟩
  have B1 := Lib.hid hb1; have S1 := Lib.hid hst
  clear hst hb1 N
  go_wp2
  have hg2 : w1.drew.heap[G2]? = some (.cells (wcells n (fun _ => false)) 67 (0, 0)) := S1.out.words
  have A1 := A.out.below B1.out
  have cs1 : w1.drew.cell? ⟨s, 1, none⟩ = some (.slice (some ⟨G2, 0, none⟩) (wcount n) (wcount n)) := S1.out.c1
  have ca1 : w1.drew.cell? ⟨a, 1, none⟩ = some (.slice (some ⟨G, 0, none⟩) (wcount n) (wcount n)) := A1.c1
  have nes : s ≠ G2 := S1.out.ne
  have nea : a ≠ G2 := by have := A.out.alt; omega
  have hlen : (wcells n f).toList.length = wcount n := by simp [wcells]
  have hlenS : (wcells n f).toList.length = Nat.min (wcount n) (wcount n) := by rw [hlen]; exact (Nat.min_self _).symm
  have hsrc : ∀ j v, (wcells n f).toList[j]? = some v → w1.drew.cell? ((⟨G, 0, none⟩ : Addr).add j) = some v := fun j v hj => by
    obtain ⟨h1, rfl⟩ := wcells_listGet n f j v hj
    have hc := A1.cell j h1
    rw [show ((⟨G, 0, none⟩ : Addr).add j) = ⟨G, j, none⟩ by cases j <;> simp [Addr.add]]
    exact hc
  have hfit : 0 + (wcells n f).toList.length ≤ (wcells n (fun _ => false)).size := by rw [hlen, wcells_size]; omega
  have hone : ∀ v ∈ (wcells n f).toList, v.oneCell' = true := fun v hv => by
    obtain ⟨j, hj⟩ := List.mem_iff_getElem?.1 hv
    obtain ⟨_, rfl⟩ := wcells_listGet n f j v hj
    rfl
  refine rg_start (n := 9) (S := fun w' => ∀ (p : Addr) v, p.block ≠ G2 → w1.drew.cell? p = some v → w'.cell? p = some v) (by kernel_rfl) rfl (fun _ _ _ h => h) ?_
  refine rg_pure 0 rfl (.pointer (some ⟨s, 0, none⟩)) (by kernel_rfl) (by kernel_rfl) (by kernel_rfl) (fun _ _ _ _ h => h) (by kernel_rfl) (fun _ => by kernel_rfl) (fun _ _ _ h => h) ?_
  refine rg_pure 1 rfl (.pointer (some ⟨s, 0, none⟩)) (by kernel_rfl) (by kernel_rfl) (by kernel_rfl) (fun _ _ _ _ h => h) (by kernel_rfl) (fun _ => by kernel_rfl) (fun _ _ _ h => h) ?_
  refine rg_pure 2 rfl (.pointer (some ⟨s, 1, none⟩)) (by kernel_rfl) (by kernel_rfl) (by kernel_rfl) (fun _ _ _ _ h => h) (by kernel_rfl) (fun _ => by kernel_rfl) (fun _ _ _ h => h) ?_
  refine rg_load 3 rfl (by kernel_rfl) (by kernel_rfl) (by kernel_rfl) (fun _ _ _ _ h => h) (by kernel_rfl) _ _ rfl Tryd.underlying56 rfl ⟨s, 1, none⟩ (.slice (some ⟨G2, 0, none⟩) (wcount n) (wcount n)) (by kernel_rfl) (fun w h => h _ _ nes cs1) (fun _ _ _ h => h) ?_
  refine rg_pure 4 rfl (.pointer (some ⟨a, 0, none⟩)) (by kernel_rfl) (by kernel_rfl) (by kernel_rfl) (fun _ _ _ _ h => h) (by kernel_rfl) (fun _ => by kernel_rfl) (fun _ _ _ h => h) ?_
  refine rg_pure 5 rfl (.pointer (some ⟨a, 0, none⟩)) (by kernel_rfl) (by kernel_rfl) (by kernel_rfl) (fun _ _ _ _ h => h) (by kernel_rfl) (fun _ => by kernel_rfl) (fun _ _ _ h => h) ?_
  refine rg_pure 6 rfl (.pointer (some ⟨a, 1, none⟩)) (by kernel_rfl) (by kernel_rfl) (by kernel_rfl) (fun _ _ _ _ h => h) (by kernel_rfl) (fun _ => by kernel_rfl) (fun _ _ _ h => h) ?_
  refine rg_load 7 rfl (by kernel_rfl) (by kernel_rfl) (by kernel_rfl) (fun _ _ _ _ h => h) (by kernel_rfl) _ _ rfl Tryd.underlying56 rfl ⟨a, 1, none⟩ (.slice (some ⟨G, 0, none⟩) (wcount n) (wcount n)) (by kernel_rfl) (fun w h => h _ _ nea ca1) (fun _ _ _ h => h) ?_
  refine rg_run 8 (by kernel_rfl) rfl (by kernel_rfl) (goInt (wcells n f).toList.length) (w1.drew.setRow G2 ((wcells n (fun _ => false)).toList.take 0 ++ (wcells n f).toList ++ (wcells n (fun _ => false)).toList.drop (0 + (wcells n f).toList.length)).toArray) (exec_copy _ _ _ _ rfl _ _ (by kernel_rfl) (by kernel_rfl) _ _ (run_copy_row (P := Tryd.prog) _ _ _ _ 67 G2 0 (wcount n) (wcount n) ⟨G, 0, none⟩ (wcount n) (wcount n) (wcells n (fun _ => false)) 67 (wcells n f).toList Tryd.underlying56 sizeInfoW hg2 hlenS hsrc hfit hone)) ?_ ?_
  · intro p v hp h
    rw [World.cell?_of_block (w := w1.drew) (setRow_other _ _ _ _ hp)]
    exact h
  have hnew : ((wcells n (fun _ => false)).toList.take 0 ++ (wcells n f).toList ++ (wcells n (fun _ => false)).toList.drop (0 + (wcells n f).toList.length)).toArray = wcells n f := by
    rw [hlen]
    simp [wcells]
  rw [hnew]
  have S4 : Hid (St (w1.drew.setRow G2 (wcells n f)) s G2 n f) := by
    have hother : ∀ (p : Addr) v, p.block ≠ G2 → w1.drew.cell? p = some v → (w1.drew.setRow G2 (wcells n f)).cell? p = some v := fun p v hp h => by
      rw [World.cell?_of_block (w := w1.drew) (setRow_other _ _ _ _ hp)]; exact h
    exact ⟨hother ⟨s, 0, none⟩ _ nes S1.out.c0, hother ⟨s, 1, none⟩ _ nes S1.out.c1, setRow_heap w1.drew G2 _ _ _ _ hg2, hle, A.out.past⟩
  have B4 : Hid (Below w.heap.size w (w1.drew.setRow G2 (wcells n f))) := below_setRow B1.out.drew hG2 _
  generalize w1.drew.setRow G2 (wcells n f) = w4 at S4 B4 ⊢
  clear hnew hone hfit hsrc hlenS hlen cs1 ca1 hg2 A1
  refine wpAnyH_done (by kernel_rfl) ?_ _
  go_wp2
  go_ret
  exact ⟨s, G2, rfl, hs, hG2, S4.out, B4.out⟩
end Go.Proofs.YtmblkccfgncngaaDoor
