/- few: are all of some answers short? -/
import Derived.Test.YtnjopndkommjnaaDoorCellsG
namespace Go.Proofs.YtnjopndkommjnaaDoor
open Go Go.RowKit
set_option linter.unusedVariables false
set_option maxRecDepth 1000000

def fewB (ns : List (Option Addr × Nat × Nat)) : Bool := ns.all fun x => decide (x.2.1 ≤ 40)
theorem few_is (G : Nat) (ns : List (Option Addr × Nat × Nat)) (w : World) (h : ∀ i (hi : i < ns.length), w.cell? ⟨G, i, none⟩ = some (.slice ns[i].1 ns[i].2.1 ns[i].2.2)) (hn : ns.length ≤ 10) :
    Calls Tryd.prog 7 #[.slice (some ⟨G, 0, none⟩) ns.length ns.length] w fun e w' => e = .returned (.bool (fewB ns)) ∧ w = w' := by
  have H := Lib.hid h
  clear h
  obtain ⟨R, hR⟩ : ∃ R, fewB ns = R := ⟨_, rfl⟩
  rw [hR]
  have HR := Lib.hid hR
  clear hR
  go_enter Tryd.func7, Tryd.ntmps7
  go_wp2_with fail
  go_loop [7] (fun i => ∃ k : Nat, k ≤ ns.length ∧ i = .int .i64 k ∧ Hid (∀ i (h : i < ns.length), i < k → ns[i].2.1 ≤ 40)) (fun i => ns.length - (intOf i).toNat)
  case atStart => exact ⟨0, Nat.zero_le _, rfl, Lib.hid (fun i h h2 => by omega)⟩
  case round =>
    obtain ⟨k, hk, rfl, HA⟩ := hrel
    by_cases hkl : k < ns.length
    · have hkl' : (k : Int) < ns.length := by omega
      have hc := H.out k hkl
      obtain ⟨x, hx⟩ : ∃ x, ns[k] = x := ⟨_, rfl⟩
      rw [hx] at hc
      have HX := Lib.hid hx
      clear hx
      obtain ⟨p, n, c⟩ := x
      simp only at hc
      by_cases hn4 : n ≤ 40
      · have hn4' : ¬ ((40 : Int) < (n : Int)) := by omega
        have NA : Hid (∀ i (h : i < ns.length), i < k + 1 → ns[i].2.1 ≤ 40) := Lib.hid (fun i h h2 => by
          rcases Nat.lt_or_ge i k with h3 | h3
          · exact HA.out i h h3
          · obtain rfl : i = k := by omega
            rw [HX.out]; exact hn4)
        go_wp2
        go_round
        case rel => exact ⟨k + 1, by omega, by go_num, NA⟩
        case measure => simp [intOf]; omega
      · have hn4' : (40 : Int) < (n : Int) := by omega
        have hf : R = false := by
          rw [← HR.out]
          unfold fewB
          rw [List.all_eq_false]
          exact ⟨ns[k], List.getElem_mem hkl, by rw [HX.out]; simpa using hn4⟩
        subst hf
        go_wp2
        go_ret
        exact ⟨rfl, rfl⟩
    · obtain rfl : k = ns.length := by omega
      have hkl' : ¬ ((ns.length : Nat) : Int) < ns.length := by omega
      have hf : R = true := by
        rw [← HR.out]
        unfold fewB
        rw [List.all_eq_true]
        intro x hx
        obtain ⟨i, hi, rfl⟩ := List.getElem_of_mem hx
        exact decide_eq_true (HA.out i hi hi)
      subst hf
      go_wp2
      go_ret
      exact ⟨rfl, rfl⟩
theorem few_two (G : Nat) (p q : Option Addr) (n m c d : Nat) (w : World) (h0 : w.cell? ⟨G, 0, none⟩ = some (.slice p n c)) (h1 : w.cell? ⟨G, 1, none⟩ = some (.slice q m d)) :
    Calls Tryd.prog 7 #[.slice (some ⟨G, 0, none⟩) 2 2] w fun e w' => e = .returned (.bool (decide (n ≤ 40) && decide (m ≤ 40))) ∧ w = w' := by
  have := few_is G [(p, n, c), (q, m, d)] w (fun i hi => by
    match i, hi with
    | 0, _ => exact h0
    | 1, _ => exact h1) (by simp)
  simpa [fewB] using this
end Go.Proofs.YtnjopndkommjnaaDoor
