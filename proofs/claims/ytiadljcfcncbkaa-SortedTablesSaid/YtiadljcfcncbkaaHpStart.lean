/- sorted's Merge: the heads as they stand at first; Pop of any heap. -/
import Derived.Test.YtiadljcfcncbkaaHpTell
namespace Go.Proofs.Ytiadljcfcncbkaa
open Go Go.RowKit Hp
set_option linter.unusedVariables false

section
variable (lt : Int → Int → Bool) (LL : List (List Int))
structure SInv (k : Nat) (s : MS) : Prop where
  at_ : s.at_ = List.replicate LL.length 0
  len : s.l.length ≤ k
  turn : s.turn ≤ k
  dom : ∀ e ∈ s.l, domM LL s.at_ e.1 ∧ e.1 < (k : Int)
  nodup : (s.l.map (·.1)).Nodup
theorem start_inv : ∀ k, k ≤ LL.length → SInv LL k (MS.start lt LL k)
  | 0, _ => ⟨rfl, Nat.le_refl _, Nat.le_refl _, fun e he => by simp [MS.start] at he, by simp [MS.start]⟩
  | k + 1, h => by
    have i := start_inv k (by omega)
    unfold MS.start
    split
    · rename_i h0
      have hp : ((MS.start lt LL k).push lt LL k).l.Perm ((MS.start lt LL k).l ++ [((k : Int), ((MS.start lt LL k).turn : Int))]) := rise_perm _ _ (by simp)
      refine ⟨i.at_, ?_, ?_, ?_, ?_⟩
      · rw [hp.length_eq, List.length_append, List.length_singleton]; have := i.len; omega
      · show (MS.start lt LL k).turn + 1 ≤ k + 1
        have := i.turn; omega
      · intro e he
        rcases List.mem_append.1 (hp.mem_iff.1 he) with he | he
        · exact ⟨(i.dom e he).1, by have := (i.dom e he).2; omega⟩
        · rw [List.mem_singleton.1 he]
          refine ⟨⟨k, rfl, by omega, ?_⟩, by show (k : Int) < ((k + 1 : Nat) : Int); omega⟩
          show (MS.start lt LL k).at_.getD k 0 < _
          rw [i.at_]
          simp only [List.getD, List.getElem?_replicate]
          rw [if_pos (by omega)]
          exact h0
      · refine (hp.map (·.1)).nodup_iff.2 ?_
        rw [List.map_append, List.map_cons, List.map_nil, List.nodup_append]
        refine ⟨i.nodup, by simp, ?_⟩
        intro a ha b hb hab
        obtain ⟨e, he, rfl⟩ := List.mem_map.1 ha
        rw [List.mem_singleton.1 hb] at hab
        have := (i.dom e he).2
        simp only at hab
        omega
    · exact ⟨i.at_, by have := i.len; omega, by have := i.turn; omega, fun e he => ⟨(i.dom e he).1, by have := (i.dom e he).2; omega⟩, i.nodup⟩
end
/-- Pop, whatever the heap has -/
theorem pop_any (B H : Nat) (F : FuncId) (caps : Array Value) (lt : E → E → Bool) (dom : E → Prop) (S : World → Prop) (T : Tell F caps lt dom S) (hL : Low B S) (l : List E) (turn : Nat) (w : World) (hh : HeapAt B H F caps l turn w) (hB : B ≤ H) (hd : ∀ e ∈ l, dom e) (hs : S w) (hlen : l.length ≤ 1000000) :
    Calls Try.prog 29 #[.pointer (some ⟨H, 0, none⟩)] w fun e w' => e = .returned (.tuple #[.int .i64 (l.getD 0 d).1, .bool (decide (0 < l.length))]) ∧ HeapAt B H F caps (Hp.left lt l) turn w' ∧ Below B w w' ∧ Apart H w w' := by
  cases l with
  | nil =>
    refine (pop_none B H F caps turn w hh).mono ?_
    rintro e w' ⟨rfl, rfl⟩
    exact ⟨rfl, hh, Below.refl _ _, fun k cs t m hk _ _ => hk⟩
  | cons a t =>
    refine (pop_is B H t.length F caps lt dom S T hL (a :: t) turn w hh hB hd hs rfl (by rw [List.length_cons] at hlen; omega)).mono ?_
    rintro e w' ⟨rfl, h1, h2, h3⟩
    exact ⟨by rw [decide_eq_true (by simp)], h1, h2, h3⟩
/-- how many numbers the first lists have -/
def SM (LL : List (List Int)) (k : Nat) : Nat := ((LL.take k).map (·.length)).sum
theorem SM_succ (LL : List (List Int)) (k : Nat) (h : k < LL.length) : SM LL (k + 1) = SM LL k + (LL.getD k []).length := by
  have h1 : LL.take (k + 1) = LL.take k ++ [LL[k]] := by rw [List.take_add_one, List.getElem?_eq_getElem h]; rfl
  have h2 : LL.getD k [] = LL[k] := by simp [List.getD, List.getElem?_eq_getElem h]
  unfold SM
  rw [h1, h2, List.map_append, List.sum_append]
  simp only [List.map_cons, List.map_nil, List.sum_cons, List.sum_nil, Nat.add_zero]
theorem SM_le (LL : List (List Int)) (k : Nat) : SM LL k ≤ (LL.map (·.length)).sum := by
  have h : LL.map (·.length) = (LL.take k).map (·.length) ++ (LL.drop k).map (·.length) := by rw [← List.map_append, List.take_append_drop]
  rw [h, List.sum_append]
  unfold SM
  omega
end Go.Proofs.Ytiadljcfcncbkaa
