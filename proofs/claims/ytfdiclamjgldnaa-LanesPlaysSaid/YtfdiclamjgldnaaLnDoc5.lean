/- The document's lanes: what an append and a store leave; Send. -/
import Derived.Test.YtfdiclamjgldnaaLnDoc4
namespace Go.Proofs.Ytfdiclamjgldnaa
open Go Go.RowKit Go.Conc
set_option linter.unusedVariables false

theorem infoPc : (Try.prog.info? 61).map (fun i => (i.zero, i.size, i.bytes)) = some (some (.agg #[.int .i64 0, .int .i64 0, .string ByteArray.empty, .int .i64 0, .int .u8 0]), 5, 48) := by kernel_rfl
/-- parcels that lie somewhere put behind parcels of one's own -/
theorem appendP_run (w : World) (B : Nat) (v : Value) (L0 : List Pc) (hown : w.ownsRow B 61 5 v L0.length (pcl L0)) (q : Option Addr) (c : Nat) (L1 : List Pc) (hp : PAt w q L1) (hq : q = none → c = 0) (hlen : L0.length + L1.length ≤ 100000) (hB : B ≤ w.heap.size) (ty : TypeId) :
    ∃ v' w', (Builtin.append_ #[27, 27] ty #[v, .slice q L1.length c]).run Try.prog w = .ok v' w' ∧ w'.ownsRow B 61 5 v' (L0 ++ L1).length (pcl (L0 ++ L1)) ∧ w.grownBy w' v.ownBlock ∧ (v = .slice none 0 0 → L1 = [] → v' = .slice none 0 0) := by
  obtain ⟨i0, hi, hz0, hz1, hz2⟩ := info_parts infoPc
  rw [List.length_append, pcl_append]
  cases q with
  | none =>
    obtain rfl := hp.nil rfl
    obtain rfl := hq rfl
    refine ⟨v, w, run_append_owned_none (P := Try.prog) (w := w) B 27 ty 61 i0 5 Try.underlying27 hi v L0.length (pcl L0) hown, by simpa [pcl] using hown, ⟨rfl, rfl, rfl, Nat.le_refl _, fun _ _ _ => rfl⟩, fun h _ => h⟩
  | some ad =>
    obtain ⟨v', w', h1, h2, h3, h4⟩ := run_append_own (P := Try.prog) w B 27 ty 61 i0 _ 5 48 Try.underlying27 hi hz0 hz1 hz2 rfl (by decide) v L0.length (pcl L0) hown ad L1.length c (pcl L1) (pcl_len L1) (by
      by_cases h0 : L1 = []
      · subst h0; intro j u hu; simp [pcl] at hu
      · obtain ⟨b, of, e1, hc⟩ := hp.row h0
        obtain rfl := Option.some.inj e1
        intro j u hu
        rw [Addr.add_lit]; exact hc j u hu) (pcl_one L1) (by unfold maxLen; omega) (by omega) hB
    exact ⟨v', w', h1, h2, h3, fun e1 e2 => h4.2 ⟨e1, by rw [e2]; rfl⟩⟩
theorem ownV_someP {w : World} {B : Nat} {v : Value} {n : Nat} {xs : List Value} (h : w.ownsRow B 61 5 v n xs) (hn : 0 < n) : ∃ g cap, v = .slice (some ⟨g, 0, none⟩) n cap ∧ B ≤ g := by
  rcases h.2 with ⟨_, h0⟩ | ⟨g, cap, cur, rfl, hB, _⟩
  · omega
  · exact ⟨g, cap, rfl, hB⟩
/-- whatever lanes of the program's there are, and rows of bytes, they stay -/
structure DocStep (w w' : World) : Prop where
  lx : ∀ B A n F S L, Lx w B A n F S L → Lx w' B A n F S L
  row : ∀ B v n xs, w.ownsRow B 5 1 v n xs → w'.ownsRow B 5 1 v n xs
  dos : ∀ (i : Nat) (cur : Array Value) (m : Nat × Nat), w.heap[i]? = some (.cells cur 32 m) → w'.heap[i]? = some (.cells cur 32 m)
theorem DocStep.refl (w : World) : DocStep w w := ⟨fun _ _ _ _ _ _ h => h, fun _ _ _ _ h => h, fun _ _ _ h => h⟩
theorem DocStep.trans {a b c : World} (h : DocStep a b) (k : DocStep b c) : DocStep a c := ⟨fun B A n F S L q => k.lx _ _ _ _ _ _ (h.lx _ _ _ _ _ _ q), fun B v n xs q => k.row _ _ _ _ (h.row _ _ _ _ q), fun i cur m q => k.dos _ _ _ (h.dos _ _ _ q)⟩
theorem docStep_below {w w' : World} (h : Below w.heap.size w w') : DocStep w w' := ⟨fun B A n F S L q => q.below h, fun B v n xs q => by
  refine q.kept (grown_of_below h none) ?_
  rcases q.2 with ⟨rfl, _⟩ | ⟨g, cap, cur, rfl, _⟩
  · exact .inl rfl
  · exact .inr (by simp [Value.ownBlock]), fun i cur m q => (h.block i (Array.getElem?_eq_some_iff.1 q).1).trans q⟩
theorem docStep_kept {w w' : World} {k : Nat} (hg : w.grownBy w' (some k)) (ho : Off w k) (hc : ∃ cur ty m, w.heap[k]? = some (.cells cur ty m) ∧ ty ≠ 49 ∧ ty ≠ 67 ∧ ty ≠ 32) : DocStep w w' := ⟨fun B A n F S L q => q.kept hg ho hc, fun B v n xs q => by
  refine q.kept hg ?_
  rcases q.2 with ⟨rfl, _⟩ | ⟨g, cap, cur, rfl, _, hgc, _⟩
  · exact .inl rfl
  · exact .inr fun e => ho.2.2 cur _ (by rw [← Option.some.inj e]; exact hgc), fun i cur m q => by
    refine (hg.block i (Array.getElem?_eq_some_iff.1 q).1 (fun e => ?_)).trans q
    obtain ⟨cur2, ty2, m2, hk2, _, _, h3⟩ := hc
    rw [← Option.some.inj e, q] at hk2
    injection hk2 with e; injection e with _ e2 _; exact h3 e2.symm⟩
theorem docStep_R {w : World} {B R : Nat} {n : Int} {L : List Pc} {S Lo : Int} (h : Rl w B R n L S Lo) (j : Nat) (v : Value) : DocStep w (w.setCell ⟨R, j, none⟩ v) := docStep_kept (grown_setCell w R j v) h.offR.1 h.offR.2
theorem docStep_row {w w' : World} {B : Nat} {v : Value} {L : List Pc} (hr : w.ownsRow B 61 5 v L.length (pcl L)) (hn : L = [] → v = .slice none 0 0) (hg : w.grownBy w' v.ownBlock) : DocStep w w' := by
  by_cases h0 : L = []
  · rw [hn h0] at hg
    exact docStep_below ⟨hg.os, hg.tape, hg.output, hg.size, fun i hi => hg.block i hi (by simp [Value.ownBlock])⟩
  · obtain ⟨g, cap, rfl, _⟩ := ownV_someP hr (List.length_pos_iff.2 h0)
    obtain ⟨h1, h2⟩ := off_row hr h0
    exact docStep_kept (k := g) hg h1 h2
end Go.Proofs.Ytfdiclamjgldnaa
