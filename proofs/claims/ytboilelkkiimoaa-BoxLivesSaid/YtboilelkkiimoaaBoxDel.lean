/- One number taken out of a copy of a list that is a queue. -/
import Derived.Test.YtboilelkkiimoaaBoxLays
import Derived.Test.YtboilelkkiimoaaBoxQue
namespace Go.Proofs.Ytboilelkkiimoaa
open Go Go.RowKit

theorem que_clone (B : Nat) (gs : List Nat) (w : World) (v : Value) (vs : List Int) (hq : Que B gs w v vs) (hne : vs ≠ []) (hn : vs.length ≤ 1000000) :
    Calls Try.prog 12 #[v] w fun e w' => ∃ g cap, e = .returned (.slice (some ⟨g, 0, none⟩) vs.length cap) ∧ w'.ownsRow w.heap.size 3 1 (.slice (some ⟨g, 0, none⟩) vs.length cap) vs.length (vs.map (Value.int .i64)) ∧ Below w.heap.size w w' := by
  obtain ⟨p, cap, rfl, hle⟩ := hq.slice
  obtain ⟨_, _, g, off, rfl, _, hc⟩ := hq.at hne
  refine (Try.slices_Clone_int g off vs.length cap vs w (Nat.le_refl _) (by omega) hc).mono ?_
  rintro e w' ⟨v', rfl, ho, _, hb⟩
  rw [List.take_length] at ho
  obtain ⟨g', cap', rfl, _⟩ := ownV_some ho (List.length_pos_iff.2 hne)
  exact ⟨g', cap', rfl, ho, hb⟩

theorem own_delete (b B : Nat) (gs : List Nat) (vs : List Int) (g cap k : Nat) (w : World) (ho : w.ownsRow b 3 1 (.slice (some ⟨g, 0, none⟩) vs.length cap) vs.length (vs.map (Value.int .i64))) (hk : k < vs.length) (hB : B ≤ b) (hgs : ∀ x ∈ gs, x < b) :
    Calls Try.prog 11 #[.slice (some ⟨g, 0, none⟩) vs.length cap, .int .i64 (k : Nat), .int .i64 ((k + 1 : Nat) : Int)] w fun e w' => ∃ v', e = .returned v' ∧ Que B gs w' v' (vs.eraseIdx k) ∧ Below b w w' := by
  have h0 := ho
  rcases ho.2 with ⟨h, _⟩ | ⟨g', cap', cur, hv, hb, hheap, hnc, hm, hs, _⟩
  · cases h
  · injection hv with e1 e2 e3
    injection e1 with e1
    injection e1 with e1
    subst e1; subst e3
    have hlt : g < w.heap.size := (Array.getElem?_eq_some_iff.1 hheap).1
    have hcell : ∀ j, j < vs.length → w.cell? ⟨g, 0 + j, none⟩ = some (.int .i64 (vs.getD j 0)) := fun j hj => by
      rw [Nat.zero_add, h0.cellAt j (by omega)]
      simp [List.getD, List.getElem?_eq_getElem hj]
    have hfree : ∀ j : Nat, w.frozen? ⟨g, j, none⟩ = false := fun j => by simp [World.frozen?, hheap]
    have hsome : ∀ j, j < cap → (w.cell? ⟨g, j, none⟩).isSome = true := fun j hj => by
      rw [cell_of_row w g j cur _ (0, 0) hheap, Array.getElem?_eq_getElem (by omega)]; rfl
    refine (Try.slices_Delete_int_cells g 0 vs.length cap k (k + 1) vs w (Nat.le_refl _) hnc (by unfold maxLen at hm; omega) (by omega) (by omega) hcell (fun j _ => hfree _)).mono ?_
    rintro e w' ⟨rfl, q, rfl⟩
    rw [List.take_length]
    obtain ⟨L, hL⟩ : ∃ L, vs.take k ++ vs.drop (k + 1) = L := ⟨_, rfl⟩
    have hLl : L.length = vs.length - 1 := by rw [← hL]; simp; omega
    have hE : vs.eraseIdx k = L := by rw [← hL, List.eraseIdx_eq_take_drop_succ]
    rw [hL, hE]
    have hsz : ((w.drewN q).setCells g 0 ((L ++ List.replicate (k + 1 - k) 0).map (Value.int .i64))).heap.size = w.heap.size := by
      exact size_setCells g _ 0 (w.drewN q)
    refine ⟨_, rfl, ⟨some ⟨g, 0, none⟩, cap, by rw [hLl]; simp, by omega, hm, (fun h => by cases h), fun x hx => ?_⟩, below_setCells g hb _ 0 (w.drewN q) ⟨rfl, rfl, rfl, Nat.le_refl _, fun _ _ => rfl⟩⟩
    injection hx with hx
    subst hx
    refine ⟨g, 0, rfl, by omega, by rw [hsz]; exact hlt, fun hg => by have := hgs g hg; omega, fun j hj => ?_, fun j hj => ⟨?_, ?_⟩⟩
    · have hlen : ((L ++ List.replicate (k + 1 - k) 0).map (Value.int .i64)).length = vs.length := by simp [hLl]; omega
      have := World.cell?_setCells_in g ((L ++ List.replicate (k + 1 - k) 0).map (Value.int .i64)) 0 (w.drewN q) (fun j hj => by
        show (w.cell? ⟨g, 0 + j, none⟩).isSome = true
        rw [Nat.zero_add]; exact hsome j (by omega)) j (by omega)
      refine this.trans ?_
      rw [List.getElem_map, List.getElem_append_left hj]
      simp [List.getD, List.getElem?_eq_getElem hj]
    · exact World.isSome_setCells g _ 0 (w.drewN q) ⟨g, 0 + j, none⟩ (by rw [Nat.zero_add]; exact hsome j hj)
    · refine (World.frozen?_setCells g _ 0 (w.drewN q) ⟨g, 0 + j, none⟩).trans ?_
      rw [Nat.zero_add]; exact hfree j
end Go.Proofs.Ytboilelkkiimoaa
