/- The program's device in any state in which page 3 lasts, and what its calls leave as it was. (genpgany.py writes it) -/
import Derived.Test.YtfgjcgonlpbdbaaPgBesC
namespace Go.Proofs.Ytfgjcgonlpbdbaa
open Go Go.RowKit
set_option linter.unusedVariables false

theorem Dk.same {w w' : World} {D P M n : Nat} {pg : Nat → List UInt8} {dead : Bool} {fuse : Int} (h : Dk w D P M n pg dead fuse) (hD : w'.heap[D]? = w.heap[D]?) (hP : w'.heap[P]? = w.heap[P]?) : Dk w' D P M n pg dead fuse := by
  have hc : ∀ j, w'.cell? ⟨P, j, none⟩ = w.cell? ⟨P, j, none⟩ := fun j => World.cell?_of_block hP
  have hz : ∀ j, w'.frozen? ⟨P, j, none⟩ = w.frozen? ⟨P, j, none⟩ := fun j => World.frozen?_of_block hP
  exact ⟨hD.trans h.obj, h.pos, h.fz, h.len, fun i hi j v hj => (hc _).trans (h.has i hi j v hj), fun j hj => ⟨by rw [hc]; exact (h.may j hj).1, by rw [hz]; exact (h.may j hj).2⟩, h.ne⟩
/-- where none of its three blocks has turned -/
theorem PX.same {w w' : World} {D P M n : Nat} {b3 : List UInt8} (h : PX w D P M n b3) (hD : w'.heap[D]? = w.heap[D]?) (hP : w'.heap[P]? = w.heap[P]?) (hM : w'.heap[M]? = w.heap[M]?) : PX w' D P M n b3 := by
  obtain ⟨pg, old, lo, c, dead, fuse, h1, h2, h3⟩ := h
  exact ⟨pg, old, lo, c, dead, fuse, h1.same hD hP, h2.at hM, h3⟩
def PWentB (w : World) (D P M n : Nat) (b3 : List UInt8) (e : Ending) (w' : World) : Prop := (∃ v : Int, e = .returned (.int .i64 v)) ∧ PX w' D P M n b3 ∧ Bes D P M w w'
section
variable (D P M n : Nat) (b3 : List UInt8) (w : World) (h : PX w D P M n b3)
include h
theorem writeB_any (i : Int) (h3 : i ≠ 3) (bp : Option Addr) (bc : Nat) (bs : List UInt8) (hl : Lies w bp bs) (hp : bs ≠ [] → ∀ x o, bp = some ⟨x, o, none⟩ → x ≠ D ∧ x ≠ P ∧ x ≠ M) :
    Calls Try.prog 14 #[.pointer (some ⟨D, 0, none⟩), .int .i64 i, .slice bp bs.length bc] w (PWentB w D P M n b3) := by
  obtain ⟨pg, old, lo, c, dead, fuse, h1, h2, hp3, hlo⟩ := h
  by_cases bad : i < 0 ∨ (n : Int) ≤ i ∨ 128 < bs.length
  · refine (write_arg D P M n pg dead fuse i bp bc bs w h1 bad).mono ?_
    rintro e w' ⟨rfl, rfl⟩
    exact ⟨⟨_, rfl⟩, ⟨pg, old, lo, c, dead, fuse, h1, h2, hp3, hlo⟩, Bes.refl _ _ _ _⟩
  · obtain ⟨k, rfl⟩ : ∃ k : Nat, i = k := ⟨i.toNat, by omega⟩
    have hk3 : k ≠ 3 := by omega
    cases hd : actD dead fuse with
    | true =>
      refine (write_dead 0 D P M n pg dead fuse k bp bc bs w h1 hd (by omega) (by omega) (Nat.zero_le _) (Nat.zero_le _)).mono ?_
      rintro e w' ⟨rfl, h4, h5⟩
      have hMD : some M ≠ some D := fun e => h1.ne.2.1 (Option.some.inj e).symm
      exact ⟨⟨_, rfl⟩, ⟨pg, old, lo, c, _, _, h4, h2.at (h5.block M h2.mlt hMD), hp3, hlo⟩, (Bes.refl D P M w).grown h5 (Nat.le_refl _) (fun k hk => by cases hk; simp)⟩
    | false =>
      refine (write_goB 0 D P M n pg old lo c dead fuse k bp bc bs w h1 h2 hd (by omega) hl (fun hne x o e q => ?_) (by omega) ⟨Nat.zero_le _, Nat.zero_le _, Nat.zero_le _⟩ (Nat.zero_le _)).mono ?_
      · exact (hp hne x o e).1 (Option.some.inj q)
      · rintro e w' ⟨rfl, h4, h5, h6⟩
        refine ⟨⟨_, rfl⟩, ⟨_, _, _, _, _, _, h4, h5, ?_, ?_⟩, h6⟩
        · unfold upd
          rw [if_neg (by omega)]
          exact hp3
        · unfold loW
          intro e he
          split at he
          · exact hlo e he
          · rcases List.mem_append.1 he with he | he
            · exact hlo e he
            · rw [List.mem_singleton.1 he]; exact hk3
theorem syncB_any : Calls Try.prog 17 #[.pointer (some ⟨D, 0, none⟩)] w (PWentB w D P M n b3) := by
  obtain ⟨pg, old, lo, c, dead, fuse, h1, h2, hp3, hlo⟩ := h
  refine (sync_allB 0 D P M n pg old lo c dead fuse w h1 h2 ⟨Nat.zero_le _, Nat.zero_le _⟩ (Nat.zero_le _)).mono ?_
  rintro e w' ⟨rfl, h4, h5, h6⟩
  refine ⟨⟨_, rfl⟩, ⟨_, _, _, _, _, _, h4, h5, hp3, ?_⟩, h6⟩
  intro e he
  split at he
  · exact hlo e he
  · simp at he
theorem fuseB_any (k : Int) (hk : -9223372036854775808 ≤ k ∧ k ≤ 9223372036854775807) : Calls Try.prog 19 #[.pointer (some ⟨D, 0, none⟩), .int .i64 k] w (PWentB w D P M n b3) := by
  obtain ⟨pg, old, lo, c, dead, fuse, h1, h2, hp3, hlo⟩ := h
  have hMD : some M ≠ some D := fun e => h1.ne.2.1 (Option.some.inj e).symm
  refine (fuse_is D P M n pg dead fuse k hk w h1).mono ?_
  rintro e w' ⟨rfl, h4, h5⟩
  exact ⟨⟨_, rfl⟩, ⟨pg, old, lo, c, _, _, h4, h2.at (h5.block M h2.mlt hMD), hp3, hlo⟩, (Bes.refl D P M w).grown h5 (Nat.le_refl _) (fun k hk => by cases hk; simp)⟩
def PCrashedB (w : World) (D P M n : Nat) (b3 : List UInt8) (e : Ending) (w' : World) : Prop := e = .returned (.int .i64 0) ∧ (∃ pg c, Dk w' D P M n pg false (-1) ∧ w'.heap[M]? = some (.map (ents []).toArray c) ∧ pg 3 = b3) ∧ PX w' D P M n b3 ∧ Bes D P M w w'
theorem crashB_any (q : Option Addr) (kc : Nat) (ks : List Int) (torn cut : Int) (hk : LiesI w q ks) (hq : ks ≠ [] → ∀ x o, q = some ⟨x, o, none⟩ → x ≠ D ∧ x ≠ P ∧ x ≠ M) (hkl : ks.length ≤ 9223372036854775807) :
    Calls Try.prog 15 #[.pointer (some ⟨D, 0, none⟩), .slice q ks.length kc, .int .i64 torn, .int .i64 cut] w (PCrashedB w D P M n b3) := by
  obtain ⟨pg, old, lo, c, dead, fuse, h1, h2, hp3, hlo⟩ := h
  refine (crash_isB D P M n c pg old lo dead fuse q kc ks torn cut w w h1 h2 (Bes.refl _ _ _ _) hk hkl hq).mono ?_
  rintro e w' ⟨rfl, h4, h5, h6⟩
  have e3 : pgC pg old torn cut (delK torn ks lo) 3 = b3 := by
    unfold pgC
    rw [if_neg]
    · exact hp3
    · rintro ⟨e, he, q⟩
      exact hlo e ((mem_delK torn ks lo e).1 he).1 q
  exact ⟨rfl, ⟨_, _, h4, h5, e3⟩, ⟨_, old, [], c, _, _, h4, Was.nil h5, e3, fun e he => by simp at he⟩, h6⟩
end
end Go.Proofs.Ytfgjcgonlpbdbaa
