/- slices.Equal of the same tokens, and of the same spans. -/
import Derived.Test.YtldfomggeleolaaDoorTokRef3
namespace Go.Proofs.YtldfomggeleolaaDoor
open Go Go.RowKit
set_option linter.unusedVariables false

/-- things of two cells that lie -/
def Row2 (w : World) (p : Option Addr) (l : List (Value × Value)) : Prop := ∀ i (hi : i < l.length), ∃ g, p = some ⟨g, 0, none⟩ ∧ g < w.heap.size ∧ w.cell? ⟨g, i * 2, none⟩ = some l[i].1 ∧ w.cell? ⟨g, i * 2 + 1, none⟩ = some l[i].2
theorem Row2.below {w w' : World} {p : Option Addr} {l : List (Value × Value)} (h : Row2 w p l) (hb : Below w.heap.size w w') : Row2 w' p l := fun i hi => by
  obtain ⟨g, h1, h2, h3, h4⟩ := h i hi
  exact ⟨g, h1, Nat.lt_of_lt_of_le h2 hb.size, (hb.cell (p := ⟨g, i * 2, none⟩) h2).trans h3, (hb.cell (p := ⟨g, i * 2 + 1, none⟩) h2).trans h4⟩
theorem own_row2 {w : World} {B : Nat} {e : TypeId} {v : Value} {n : Nat} {l : List (Value × Value)} (h : w.ownsRow B e 2 v n (pc l)) : ∃ p cap, v = .slice p l.length cap ∧ l.length ≤ cap ∧ Row2 w p l := by
  obtain ⟨_, p, cap, rfl, hc, hn, hs⟩ := own_pc h
  refine ⟨p, cap, rfl, hc, fun i hi => ?_⟩
  cases p with
  | none =>
    have h0 := congrArg List.length (hn rfl).1
    rw [List.length_nil] at h0
    omega
  | some ad =>
    obtain ⟨g, rfl, h1, h2, h3⟩ := hs ad rfl
    obtain ⟨c0, c1⟩ := h3 i hi
    exact ⟨g, rfl, h2, c0, c1⟩

set_option maxHeartbeats 4000000 in
set_option maxRecDepth 100000 in
theorem equalTok_same (l : List (ByteArray × Nat)) (p p' : Option Addr) (c c' : Nat) (w : World) (hl : l.length ≤ 100000) (h : Row2 w p (Tok.tkl l)) (h' : Row2 w p' (Tok.tkl l)) :
    Calls Tryd.prog 8 #[.slice p l.length c, .slice p' l.length c'] w fun e w' => e = .returned (.bool true) ∧ Below w.heap.size w w' := by
  have R := Lib.hid h; have R' := Lib.hid h'
  clear h h'
  go_enter Tryd.func8, Tryd.ntmps8
  go_wp2
  go_loopw [13] (fun i wr => ∃ k : Nat, i = .int .i64 k ∧ k ≤ l.length ∧ Below w.heap.size w wr) (fun i _ => l.length - (intOf i).toNat)
  case atStart => exact ⟨0, rfl, Nat.zero_le _, Below.refl _ _⟩
  case round =>
    obtain ⟨k, rfl, hk, hb⟩ := hrel
    have B := Lib.hid hb
    by_cases hlt : k < l.length
    · obtain ⟨g, rfl, hg, c0, c1⟩ := (R.out.below hb) k (by rw [tkl_len]; exact hlt)
      obtain ⟨g', rfl, hg', d0, d1⟩ := (R'.out.below hb) k (by rw [tkl_len]; exact hlt)
      simp only [Tok.tkl, List.getElem_map] at c0 c1 d0 d1
      have h6 : (k : Int) < l.length := by omega
      generalize l[k].1 = X at c0 d0
      generalize l[k].2 = Y at c1 d1
      clear hb
      go_wp2
      go_region
      go_wp2
      go_roundw
      case rel => exact ⟨k + 1, by go_num, by omega, B.out.drew⟩
      case measure => simp [intOf]; omega
    · have h6 : ¬ (k : Int) < l.length := by omega
      clear hb
      go_wp2
      go_ret
      exact ⟨rfl, B.out⟩
set_option maxHeartbeats 4000000 in
set_option maxRecDepth 100000 in
theorem equalSpan_same (l : List (Nat × Nat)) (p p' : Option Addr) (c c' : Nat) (w : World) (hl : l.length ≤ 100000) (h : Row2 w p (Tok.spl l)) (h' : Row2 w p' (Tok.spl l)) :
    Calls Tryd.prog 11 #[.slice p l.length c, .slice p' l.length c'] w fun e w' => e = .returned (.bool true) ∧ Below w.heap.size w w' := by
  have R := Lib.hid h; have R' := Lib.hid h'
  clear h h'
  go_enter Tryd.func11, Tryd.ntmps11
  go_wp2
  go_loopw [13] (fun i wr => ∃ k : Nat, i = .int .i64 k ∧ k ≤ l.length ∧ Below w.heap.size w wr) (fun i _ => l.length - (intOf i).toNat)
  case atStart => exact ⟨0, rfl, Nat.zero_le _, Below.refl _ _⟩
  case round =>
    obtain ⟨k, rfl, hk, hb⟩ := hrel
    have B := Lib.hid hb
    by_cases hlt : k < l.length
    · obtain ⟨g, rfl, hg, c0, c1⟩ := (R.out.below hb) k (by rw [spl_len]; exact hlt)
      obtain ⟨g', rfl, hg', d0, d1⟩ := (R'.out.below hb) k (by rw [spl_len]; exact hlt)
      simp only [Tok.spl, List.getElem_map] at c0 c1 d0 d1
      have h6 : (k : Int) < l.length := by omega
      generalize l[k].1 = X at c0 d0
      generalize l[k].2 = Y at c1 d1
      clear hb
      go_wp2
      go_region
      go_wp2
      go_roundw
      case rel => exact ⟨k + 1, by go_num, by omega, B.out.drew⟩
      case measure => simp [intOf]; omega
    · have h6 : ¬ (k : Int) < l.length := by omega
      clear hb
      go_wp2
      go_ret
      exact ⟨rfl, B.out⟩

theorem ex15 : Tok.toks ⟨#[82, 101, 100, 44, 32, 114, 101, 100, 32, 70, 79, 88]⟩ = [(⟨#[114, 101, 100]⟩, 0), (⟨#[114, 101, 100]⟩, 1), (⟨#[102, 111, 120]⟩, 2)] := by decide +kernel
end Go.Proofs.YtldfomggeleolaaDoor
