/- The document's lanes: way, Count, find. -/
import Derived.Test.YtfdiclamjgldnaaLnDoc
import Derived.BigQuiet
namespace Go.Proofs.Ytfdiclamjgldnaa
open Go Go.RowKit Go.Conc
set_option linter.unusedVariables false

theorem refWay_yes (R : Nat) (n f t : Int) (w : World) (c0 : w.cell? ⟨R, 0, none⟩ = some (.int .i64 n)) (hk : InN n (f, t)) : Calls Try.prog 35 #[.pointer (some ⟨R, 0, none⟩), .int .i64 f, .int .i64 t] w fun e w' => e = .returned (.bool true) ∧ w = w' := by
  obtain ⟨h1, h2, h3, h4, h5⟩ := hk
  simp only at h1 h2 h3 h4 h5
  have h6 : (f != t) = true := by simpa using h5
  go_enter Try.func35, Try.ntmps35
  go_wp2
  go_ret
  exact ⟨rfl, rfl⟩
theorem refWay_no (R : Nat) (n f t : Int) (w : World) (c0 : w.cell? ⟨R, 0, none⟩ = some (.int .i64 n)) (hk : ¬ InN n (f, t)) : Calls Try.prog 35 #[.pointer (some ⟨R, 0, none⟩), .int .i64 f, .int .i64 t] w fun e w' => e = .returned (.bool false) ∧ w = w' := by
  unfold InN at hk
  simp only at hk
  by_cases h1 : 0 ≤ f
  · by_cases h2 : f < n
    · by_cases h3 : 0 ≤ t
      · by_cases h4 : t < n
        · have h5 : f = t := by
            rcases Int.decEq f t with h | h
            · exact absurd ⟨h1, h2, h3, h4, h⟩ hk
            · exact h
          subst h5
          clear hk
          go_enter Try.func35, Try.ntmps35
          go_wp2
          go_ret
          exact ⟨rfl, rfl⟩
        · clear hk
          go_enter Try.func35, Try.ntmps35
          go_wp2
          go_ret
          exact ⟨rfl, rfl⟩
      · clear hk
        go_enter Try.func35, Try.ntmps35
        go_wp2
        go_ret
        exact ⟨rfl, rfl⟩
    · clear hk
      go_enter Try.func35, Try.ntmps35
      go_wp2
      go_ret
      exact ⟨rfl, rfl⟩
  · clear hk
    go_enter Try.func35, Try.ntmps35
    go_wp2
    go_ret
    exact ⟨rfl, rfl⟩
theorem on_next (d : Wy) (L : List Pc) (i : Nat) (hi : i < L.length) : (on d (L.take (i + 1))).length = (on d (L.take i)).length + (if L[i].k = d then 1 else 0) := by
  rw [on_take d L i hi]; split <;> simp
set_option maxHeartbeats 4000000 in
set_option maxRecDepth 100000 in
theorem refCount_is (B R : Nat) (n : Int) (L : List Pc) (S Lo : Int) (f t : Int) (w : World) (h : Rl w B R n L S Lo) (hl : L.length ≤ 100) :
    Calls Try.prog 12 #[.pointer (some ⟨R, 0, none⟩), .int .i64 f, .int .i64 t] w fun e w' => e = .returned (.int .i64 ((on (f, t) L).length : Nat)) ∧ Below w.heap.size w w' := by
  obtain ⟨V, ho, hr, _⟩ := h.obj
  obtain ⟨p, c, rfl, _, _, hp, _⟩ := own_pat hr
  have c1 : w.cell? ⟨R, 1, none⟩ = some (.slice p L.length c) := by rw [cell_of_row w R 1 _ _ _ ho]; rfl
  have HP := Lib.hid hp
  obtain ⟨res, hres⟩ : ∃ r, r = (on (f, t) L).length := ⟨_, rfl⟩
  have HR := Lib.hid hres
  rw [← hres]
  clear h ho hr hp hres
  go_enter Try.func12, Try.ntmps12
  go_wp2
  go_loopw [7, 15] (fun v i wr => ∃ k m : Nat, k ≤ L.length ∧ i = .int .i64 k ∧ v = .int .i64 m ∧ (on (f, t) (L.take k)).length = m ∧ m ≤ k ∧ Below w.heap.size w wr) (fun _ i _ => L.length - (intOf i).toNat)
  case atStart => exact ⟨0, 0, Nat.zero_le _, rfl, rfl, by simp [on], Nat.le_refl _, Below.refl _ _⟩
  case round =>
    obtain ⟨k, m, hk, rfl, rfl, hm, hmk, hb⟩ := hrel
    have BB := Lib.hid hb; have HM := Lib.hid hm
    clear hb hm c1
    by_cases hlt : k < L.length
    · have hlt' : (k : Int) < L.length := by omega
      obtain ⟨g, o, rfl, _, hc⟩ := (HP.out.below BB.out).at hlt
      have hn := on_next (f, t) L k hlt
      rw [HM.out] at hn
      have HN := Lib.hid hn
      clear hn
      generalize L[k] = x at hc HN
      obtain ⟨⟨x1, x2⟩, xb, xa, xy⟩ := x
      have a0 := hc 0 _ rfl; have a1 := hc 1 _ rfl; have a2 := hc 2 _ rfl; have a3 := hc 3 _ rfl; have a4 := hc 4 _ rfl
      simp only [Nat.add_zero] at a0 a1 a2 a3 a4
      clear hc
      have B1 : Hid (∀ o, Below w.heap.size w (wr.alloc o)) := fun o => BB.out.alloc (BB.out.size) o
      have hmi : IntKind.i64.wrap ((m : Int) + 1) = ((m + 1 : Nat) : Int) := by rw [IntKind.wrap_i64]; omega
      by_cases h1 : x1 = f
      · by_cases h2 : x2 = t
        · subst h1; subst h2
          rw [if_pos rfl] at HN
          go_wp2
          go_roundw
          case rel => exact ⟨k + 1, m + 1, by omega, by go_num, by go_num, HN.out, by omega, B1.out _⟩
          case measure => simp [intOf]; omega
        · subst h1
          have h3 : (x2 == t) = false := by simpa using h2
          rw [if_neg (by simpa using h2)] at HN
          go_wp2
          go_roundw
          case rel => exact ⟨k + 1, m, by omega, by go_num, rfl, HN.out, by omega, B1.out _⟩
          case measure => simp [intOf]; omega
      · have h3 : (x1 == f) = false := by simpa using h1
        rw [if_neg (by simp [h1])] at HN
        go_wp2
        go_roundw
        case rel => exact ⟨k + 1, m, by omega, by go_num, rfl, HN.out, by omega, B1.out _⟩
        case measure => simp [intOf]; omega
    · obtain rfl : k = L.length := by omega
      have e : res = m := by rw [HR.out, ← HM.out, List.take_length]
      subst e
      go_wp2
      go_ret
      exact ⟨rfl, BB.out⟩
end Go.Proofs.Ytfdiclamjgldnaa
