/- slices.Insert of one text into texts of the call's own. (after XSrtInsert) -/
import Derived.Test.YtiadljcfcncbkaaSrtInsert
import Derived.Test.YtiadljcfcncbkaaMemStrs
namespace Go.Proofs.Ytiadljcfcncbkaa
open Go Go.RowKit
set_option linter.unusedVariables false

theorem strs_insV (l : List ByteArray) (i : Nat) (x : ByteArray) : insV (strs l) i (.string x) = strs (l.take i ++ x :: l.drop i) := by simp [insV, strs]
theorem strs_cell {w : World} {g n cap B : Nat} {l : List ByteArray} (h : w.ownsRow B 9 1 (.slice (some ⟨g, 0, none⟩) n cap) n (strs l)) : ∀ (j : Nat) (u : Value), (strs l)[j]? = some u → w.cell? ⟨g, 0 + j, none⟩ = some u := fun j u hu => by
  obtain ⟨_, _, _, hl, _, f, hf, hx⟩ := own_rowIs h
  have hj := (List.getElem?_eq_some_iff.1 hu).1
  rw [Nat.zero_add, h.cellAt j (by omega), hu]
set_option maxHeartbeats 1000000 in
theorem insertS_is (B i : Nat) (l : List ByteArray) (v : Value) (w : World) (vb : Nat) (x : ByteArray) (hown : w.ownsRow B 9 1 v l.length (strs l)) (hi : i ≤ l.length) (hn : l.length ≤ 100000) (hB : B ≤ w.heap.size) (hvb : w.heap[vb]? = some (Obj.cells #[.string x] 9 (0, 0))) (hne : v.ownBlock ≠ some vb) :
    Calls Try.prog 45 #[v, .int .i64 (i : Int), .slice (some ⟨vb, 0, none⟩) 1 1] w (InsPost w B 9 v (insV (strs l) i (.string x))) := by
  have hvs : ∀ (j : Nat) (u : Value), [Value.string x][j]? = some u → w.cell? ⟨vb, 0 + j, none⟩ = some u := fun j u hu => by
    match j, hu with
    | 0, hu => simp at hu; subst hu; exact (cell_of_row w vb 0 _ _ _ hvb).trans rfl
  have h1v : ∀ u ∈ [Value.string x], u.oneCell' = true := fun u hu => by rw [List.mem_singleton.1 hu]; rfl
  have hil : (strs l).length = l.length := strs_length l
  by_cases hv : v = .slice none 0 0
  · subst hv
    obtain rfl : l = [] := by
      rcases hown.2 with ⟨_, h0⟩ | ⟨g, cap, cur, h0, _⟩
      · exact List.eq_nil_of_length_eq_zero h0
      · cases h0
    obtain rfl : i = 0 := by simpa using hi
    refine (Any2.slices_Insert_string_end_grow Try.laysNm222 none 0 0 vb 0 1 1 [] [.string x] w (by omega) (by omega) (by omega) (by omega) rfl rfl (fun _ => rfl) (fun a e => by cases e) hvs h1v).mono ?_
    rintro e w' ⟨rfl, rfl⟩
    have hg := grownCap_ge w (0 + 1) 0 (Try.laysNm222_ren.t 9)
    have hm := grownCap_le_maxLen w (0 + 1) 0 (Try.laysNm222_ren.t 9) (by unfold maxLen; omega)
    exact ins_grown (xs := []) _ hB rfl (by have hg' : 1 ≤ grownCap w 1 0 (Try.laysNm222_ren.t 9) := hg
                                            simp [size_zeroCells, Value.cells]; omega) hm
  · rcases hown.2 with ⟨h0, _⟩ | ⟨g, cap, cur, rfl, hBg, hgc, hnc, hcm, hcs, _⟩
    · exact absurd h0 hv
    · have hcc := strs_cell hown
      have hgv : vb ≠ g := fun e => hne (by rw [e]; rfl)
      have hcs' : cur.size = cap := by simpa using hcs
      have hc63 : cap ≤ 9223372036854775807 := by unfold maxLen at hcm; omega
      have hsome : ∀ j, j < cap → (w.cell? ⟨g, 0 + j, none⟩).isSome = true := fun j hj => by
        rw [Nat.zero_add, cell_of_row w g j _ _ _ hgc, Array.getElem?_eq_getElem (by omega)]; rfl
      have hfz : ∀ j, w.frozen? ⟨g, 0 + j, none⟩ = false := fun j => by simp [World.frozen?, hgc]
      rcases Nat.lt_or_ge i l.length with hlt | hge
      · by_cases hroom : l.length + 1 ≤ cap
        · refine (Any2.slices_Insert_string_shift Try.laysNm222 g 0 l.length cap i vb 0 1 1 (strs l) [.string x] w hlt (by omega) hroom hc63 hgv hil rfl hcc (fun j hj => hsome j (by omega)) (fun j _ => hfz j) hvs (strs_one l) h1v 9 9 1 cap (by simp [World.shape?, hvb]) (by simp [World.shape?, hgc, hcs']) (by omega) (by simp [World.frozen?, hvb]) (by simp [World.frozen?, hvb])).mono ?_
          rintro e w' ⟨rfl, rfl⟩
          exact ins_place (vb := vb) hown (by omega) hroom
        · refine (Any2.slices_Insert_string_grow Try.laysNm222 g 0 l.length cap i vb 0 1 1 (strs l) [.string x] w hlt (by omega) hnc (by omega) (by omega) hil rfl hcc hvs (strs_one l) h1v).mono ?_
          rintro e w' ⟨rfl, rfl⟩
          have hg := grownCap_ge w (l.length + 1) cap (Try.laysNm222_ren.t 9)
          have hm := grownCap_le_maxLen w (l.length + 1) cap (Try.laysNm222_ren.t 9) (by unfold maxLen; omega)
          refine ins_fresh _ hB ?_ hm hil (by omega) hg (fun j hj => ?_)
          · simp [size_zeroCells, Value.cells, strs_length]; omega
          · rw [Array.append_assoc, Array.getElem?_append_left (by simp [strs_length]; omega)]
            simp [List.getElem?_take, hj]
      · obtain rfl : i = l.length := by omega
        by_cases hroom : l.length + 1 ≤ cap
        · refine (Any2.slices_Insert_string_end_room Try.laysNm222 g 0 l.length cap vb 0 1 1 [.string x] w (by omega) hroom hc63 rfl (fun j hj => by rw [Nat.add_assoc]; exact hsome _ (by omega)) (fun j _ => by rw [Nat.add_assoc]; exact hfz _) hvs h1v).mono ?_
          rintro e w' ⟨rfl, rfl⟩
          exact ins_end hown hroom
        · refine (Any2.slices_Insert_string_end_grow Try.laysNm222 (some ⟨g, 0, none⟩) l.length cap vb 0 1 1 (strs l) [.string x] w (by omega) hnc (by omega) (by omega) hil rfl (fun e => by cases e) (fun a e j u hu => by injection e with e; subst e; rw [Addr.add_lit]; exact hcc j u hu) hvs h1v).mono ?_
          rintro e w' ⟨rfl, rfl⟩
          have hg := grownCap_ge w (l.length + 1) cap (Try.laysNm222_ren.t 9)
          have hm := grownCap_le_maxLen w (l.length + 1) cap (Try.laysNm222_ren.t 9) (by unfold maxLen; omega)
          exact ins_grown _ hB hil (by simp [size_zeroCells, Value.cells]; omega) hm
end Go.Proofs.Ytiadljcfcncbkaa
