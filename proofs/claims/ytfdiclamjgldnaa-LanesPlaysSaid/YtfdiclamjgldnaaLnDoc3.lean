/- The document's lanes: find, and what it tells. -/
import Derived.Test.YtfdiclamjgldnaaLnDoc2
namespace Go.Proofs.Ytfdiclamjgldnaa
open Go Go.RowKit Go.Conc
set_option linter.unusedVariables false

/-- the i-th of all is the k-th on a way -/
def AtW (L : List Pc) (d : Wy) (k i : Nat) : Prop := ∃ h : i < L.length, L[i].k = d ∧ (on d (L.take i)).length = k
def FindR (L : List Pc) (d : Wy) (k r : Int) : Prop := (∃ i : Nat, r = i ∧ 0 ≤ k ∧ AtW L d k.toNat i) ∨ (r = -1 ∧ (k < 0 ∨ (on d L).length ≤ k))
theorem atW_split {L : List Pc} {d : Wy} {k i : Nat} (h : AtW L d k i) : ∃ x, L[i]? = some x ∧ x.k = d ∧ on d L = on d (L.take i) ++ x :: on d (L.drop (i + 1)) := by
  obtain ⟨hi, h1, h2⟩ := h
  refine ⟨L[i], List.getElem?_eq_getElem hi, h1, ?_⟩
  have e : L = L.take i ++ L[i] :: L.drop (i + 1) := by
    rw [← List.drop_eq_getElem_cons hi, List.take_append_drop]
  conv => lhs; rw [e]
  rw [on_append]
  congr 1
  show on d (L[i] :: L.drop (i + 1)) = _
  unfold on
  rw [List.filter_cons, if_pos (by simpa using h1)]
theorem atW_lt {L : List Pc} {d : Wy} {k i : Nat} (h : AtW L d k i) : k < (on d L).length := by
  obtain ⟨x, _, _, e⟩ := atW_split h
  obtain ⟨_, _, h2⟩ := h
  rw [e, List.length_append, h2, List.length_cons]; omega
theorem atW_get {L : List Pc} {d : Wy} {k i : Nat} (h : AtW L d k i) (x : Pc) (hx : L[i]? = some x) : (on d L)[k]? = some x := by
  obtain ⟨y, hy, _, e⟩ := atW_split h
  rw [hx] at hy
  obtain rfl := Option.some.inj hy
  obtain ⟨_, _, h2⟩ := h
  rw [e, List.getElem?_append_right (by omega), h2, Nat.sub_self]; rfl
theorem set_split {α : Type} (L : List α) (i : Nat) (hi : i < L.length) (y : α) : L.set i y = L.take i ++ y :: L.drop (i + 1) := by
  rw [List.set_eq_take_append_cons_drop, if_pos hi]
theorem on_set {L : List Pc} {d : Wy} {k i : Nat} (h : AtW L d k i) (y : Pc) (hy : y.k = d) (d' : Wy) : on d' (L.set i y) = if d' = d then (on d L).set k y else on d' L := by
  obtain ⟨x, hx, hxd, e⟩ := atW_split h
  obtain ⟨hi, h1, h2⟩ := h
  have e0 : L = L.take i ++ x :: L.drop (i + 1) := by
    have : L[i] = x := by rw [List.getElem?_eq_getElem hi] at hx; exact Option.some.inj hx
    rw [← this, ← List.drop_eq_getElem_cons hi, List.take_append_drop]
  rw [set_split L i hi y, on_append]
  by_cases q : d' = d
  · subst q
    rw [if_pos rfl, e, List.set_append_right _ _ (by omega), h2, Nat.sub_self, List.set_cons_zero]
    congr 1
    unfold on
    rw [List.filter_cons, if_pos (by simpa using hy)]
  · rw [if_neg q]
    conv => rhs; rw [e0, on_append]
    congr 1
    unfold on
    rw [List.filter_cons, List.filter_cons, if_neg (by simpa [hy] using fun e => q e.symm), if_neg (by simpa [hxd] using fun e => q e.symm)]
theorem on_erase {L : List Pc} {d : Wy} {k i : Nat} (h : AtW L d k i) (d' : Wy) : on d' (L.take i ++ L.drop (i + 1)) = if d' = d then (on d L).eraseIdx k else on d' L := by
  obtain ⟨x, hx, hxd, e⟩ := atW_split h
  obtain ⟨hi, h1, h2⟩ := h
  have e0 : L = L.take i ++ x :: L.drop (i + 1) := by
    have : L[i] = x := by rw [List.getElem?_eq_getElem hi] at hx; exact Option.some.inj hx
    rw [← this, ← List.drop_eq_getElem_cons hi, List.take_append_drop]
  rw [on_append]
  by_cases q : d' = d
  · subst q
    rw [if_pos rfl, e, List.eraseIdx_append_of_length_le (by omega), h2, Nat.sub_self, List.eraseIdx_cons_zero]
  · rw [if_neg q]
    conv => rhs; rw [e0, on_append]
    congr 1
    conv => rhs; unfold on
    rw [List.filter_cons, if_neg (by simpa [hxd] using fun e => q e.symm)]
    rfl
set_option maxHeartbeats 4000000 in
set_option maxRecDepth 100000 in
theorem refFind_is (B R : Nat) (n : Int) (L : List Pc) (S Lo : Int) (f t K : Int) (w : World) (h : Rl w B R n L S Lo) (hl : L.length ≤ 100) :
    Calls Try.prog 34 #[.pointer (some ⟨R, 0, none⟩), .int .i64 f, .int .i64 t, .int .i64 K] w fun e w' => ∃ r, e = .returned (.int .i64 r) ∧ FindR L (f, t) K r ∧ Below w.heap.size w w' := by
  obtain ⟨V, ho, hr, _⟩ := h.obj
  obtain ⟨p, c, rfl, _, _, hp, _⟩ := own_pat hr
  have c1 : w.cell? ⟨R, 1, none⟩ = some (.slice p L.length c) := by rw [cell_of_row w R 1 _ _ _ ho]; rfl
  have HP := Lib.hid hp
  clear h ho hr hp
  go_enter Try.func34, Try.ntmps34
  go_wp2
  go_loopw [9, 17] (fun v i wr => ∃ k m : Nat, k ≤ L.length ∧ i = .int .i64 k ∧ v = .int .i64 m ∧ (on (f, t) (L.take k)).length = m ∧ m ≤ k ∧ ¬ (0 ≤ K ∧ K < m) ∧ Below w.heap.size w wr) (fun _ i _ => L.length - (intOf i).toNat)
  case atStart => exact ⟨0, 0, Nat.zero_le _, rfl, rfl, by simp [on], Nat.le_refl _, by omega, Below.refl _ _⟩
  case round =>
    obtain ⟨k, m, hk, rfl, rfl, hm, hmk, hno, hb⟩ := hrel
    have BB := Lib.hid hb; have HM := Lib.hid hm; have NO := Lib.hid hno
    clear hb hm c1 hno
    by_cases hlt : k < L.length
    · have hlt' : (k : Int) < L.length := by omega
      obtain ⟨g, o, rfl, _, hc⟩ := (HP.out.below BB.out).at hlt
      have hn := on_next (f, t) L k hlt
      rw [HM.out] at hn
      have HN := Lib.hid hn
      have HA : Hid (L[k].k = (f, t) → AtW L (f, t) m k) := fun e => ⟨hlt, e, HM.out⟩
      clear hn
      generalize L[k] = x at hc HN HA
      obtain ⟨⟨x1, x2⟩, xb, xa, xy⟩ := x
      have a0 := hc 0 _ rfl; have a1 := hc 1 _ rfl; have a2 := hc 2 _ rfl; have a3 := hc 3 _ rfl; have a4 := hc 4 _ rfl
      simp only [Nat.add_zero] at a0 a1 a2 a3 a4
      clear hc
      have B1 : Hid (∀ o, Below w.heap.size w (wr.alloc o)) := fun o => BB.out.alloc (BB.out.size) o
      have hmi : IntKind.i64.wrap ((m : Int) + 1) = ((m + 1 : Nat) : Int) := by rw [IntKind.wrap_i64]; omega
      by_cases h1 : x1 = f
      · by_cases h2 : x2 = t
        · subst h1; subst h2
          rw [if_pos rfl] at HN
          by_cases h5 : (m : Int) = K
          · have R : Hid (FindR L (x1, x2) K (k : Int)) := .inl ⟨k, rfl, by omega, by rw [← h5, Int.toNat_natCast]; exact HA.out rfl⟩
            subst h5
            go_wp2
            go_ret
            exact ⟨_, rfl, R.out, B1.out _⟩
          · have h6 : ((m : Int) == K) = false := by simpa using h5
            have N1 : Hid (¬ (0 ≤ K ∧ K < ((m + 1 : Nat) : Int))) := by have := NO.out; show ¬ _; omega
            clear h5
            go_wp2
            go_roundw
            case rel => exact ⟨k + 1, m + 1, by omega, by go_num, by go_num, HN.out, by omega, N1.out, B1.out _⟩
            case measure => simp [intOf]; omega
        · subst h1
          have h3 : (x2 == t) = false := by simpa using h2
          rw [if_neg (by simpa using h2)] at HN
          go_wp2
          go_roundw
          case rel => exact ⟨k + 1, m, by omega, by go_num, rfl, HN.out, by omega, NO.out, B1.out _⟩
          case measure => simp [intOf]; omega
      · have h3 : (x1 == f) = false := by simpa using h1
        rw [if_neg (by simp [h1])] at HN
        go_wp2
        go_roundw
        case rel => exact ⟨k + 1, m, by omega, by go_num, rfl, HN.out, by omega, NO.out, B1.out _⟩
        case measure => simp [intOf]; omega
    · obtain rfl : k = L.length := by omega
      have R : Hid (FindR L (f, t) K (-1)) := by
        have h1 := HM.out
        rw [List.take_length] at h1
        have h2 := NO.out
        exact .inr ⟨rfl, by omega⟩
      go_wp2
      go_ret
      exact ⟨_, rfl, R.out, BB.out⟩
end Go.Proofs.Ytfdiclamjgldnaa
