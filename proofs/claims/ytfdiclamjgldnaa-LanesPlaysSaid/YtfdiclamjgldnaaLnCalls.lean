/- Lanes between n: what Send, Take, Double, Spoil, Count, Totals come to. -/
import Derived.Test.YtfdiclamjgldnaaLnPut
namespace Go.Proofs.Ytfdiclamjgldnaa
open Go Go.RowKit Go.Conc
set_option linter.unusedVariables false

/-- there is such a way between n -/
def InN (n : Int) (d : Wy) : Prop := 0 ≤ d.1 ∧ d.1 < n ∧ 0 ≤ d.2 ∧ d.2 < n ∧ d.1 ≠ d.2
def updF (F : Wy → List Mg) (k : Wy) (xs : List Mg) : Wy → List Mg := fun j => if j = k then xs else F j
theorem updF_same (F : Wy → List Mg) (k : Wy) (xs : List Mg) : updF F k xs k = xs := by simp [updF]
/-- lanes between n at A, of the call's own from B on: what lies on each way, how many were sent and lost -/
def Lx (w : World) (B A : Nat) (n : Int) (F : Wy → List Mg) (S L : Int) : Prop :=
  ∃ M c es D, Ls w B A M c es D S L ∧ (∀ d, d ∈ es.map (·.1) ↔ InN n d) ∧ ∀ k, (D k).xs = F k
theorem Lx.below {w w' : World} {B A : Nat} {n : Int} {F : Wy → List Mg} {S L : Int} (h : Lx w B A n F S L) (hb : Below w.heap.size w w') : Lx w' B A n F S L := by
  obtain ⟨M, c, es, D, h, hg, hF⟩ := h
  exact ⟨M, c, es, D, h.below hb, hg, hF⟩
theorem Lx.ge {w : World} {B A : Nat} {n : Int} {F : Wy → List Mg} {S L : Int} (h : Lx w B A n F S L) : B ≤ A ∧ A < w.heap.size := by
  obtain ⟨M, c, es, D, h, hg, hF⟩ := h
  exact ⟨h.bA, h.ltA⟩
theorem Lx.size {w : World} {B A : Nat} {n : Int} {F : Wy → List Mg} {S L : Int} (h : Lx w B A n F S L) : B ≤ w.heap.size := by have := h.ge; omega
theorem in_es {es : List Went} {n : Int} (hg : ∀ d, d ∈ es.map (·.1) ↔ InN n d) {k : Wy} (hk : InN n k) : ∃ a b, (k, a, b) ∈ es := by
  obtain ⟨e, he, rfl⟩ := List.mem_map.1 ((hg k).2 hk)
  exact ⟨e.2.1, e.2.2, he⟩
theorem Lx.of_more {w : World} {B A M c : Nat} {n : Int} {es : List Went} {D D' : Wy → Wd} {F : Wy → List Mg} {S L : Int} {k : Wy} {xs : List Mg} (h : Ls w B A M c es D' S L) (hg : ∀ d, d ∈ es.map (·.1) ↔ InN n d) (hF : ∀ k, (D k).xs = F k) (hm : OneMore D D' k xs) : Lx w B A n (updF F k xs) S L :=
  ⟨M, c, es, D', h, hg, fun j => by rw [hm j]; unfold updF; split <;> simp [hF]⟩

theorem lnCount (B A : Nat) (n : Int) (F : Wy → List Mg) (S L : Int) (w : World) (h : Lx w B A n F S L) (f t : Int) (hk : InN n (f, t)) :
    Calls Try.prog 11 #[.pointer (some ⟨A, 0, none⟩), .int .i64 f, .int .i64 t] w fun e w' => e = .returned (.int .i64 ((F (f, t)).length : Nat)) ∧ w = w' := by
  obtain ⟨M, c, es, D, h, hg, hF⟩ := h
  obtain ⟨a, b, hd⟩ := in_es hg hk
  have := count_is B A M c es D S L w h f t a b hd
  rwa [hF] at this
theorem lnTotals (B A : Nat) (n : Int) (F : Wy → List Mg) (S L : Int) (w : World) (h : Lx w B A n F S L) :
    Calls Try.prog 10 #[.pointer (some ⟨A, 0, none⟩)] w fun e w' => e = .returned (.tuple #[.int .i64 S, .int .i64 L]) ∧ ∃ n, w' = w.drewN n := by
  obtain ⟨M, c, es, D, h, hg, hF⟩ := h
  exact totals_at A S L w h.cells.2.1 h.cells.2.2.1

theorem Ls.lies {w : World} {B A M c : Nat} {es : List Went} {D : Wy → Wd} {S L : Int} (h : Ls w B A M c es D S L) {p : Option Addr} {l : List UInt8} (hl : Lies w p l) (j : Nat) (v : Value) : Lies (w.setCell ⟨A, j, none⟩ v) p l := by
  intro h0
  obtain ⟨b, o, rfl, hc⟩ := hl h0
  refine ⟨b, o, rfl, fun i hi => ?_⟩
  by_cases hb : b = A
  · subst hb
    have h1 := hc i hi
    rw [cell_of_row w b (o + i) _ _ _ h.obj] at h1
    obtain ⟨x, hx⟩ : ∃ x, x = o + i := ⟨_, rfl⟩
    rw [← hx] at h1
    rcases x with _ | _ | _ | x <;> simp at h1
  · rw [← hc i hi]
    exact World.cell?_of_block (w := w) (Below.heap_setCell w ⟨A, j, none⟩ v b hb)
def SendTo (B A : Nat) (n : Int) (F : Wy → List Mg) (S L r : Int) (w : World) (e : Ending) (w' : World) : Prop :=
  e = .returned (.int .i64 r) ∧ Lx w' B A n F S L ∧ Bel B w w'
set_option maxHeartbeats 1000000 in
theorem send_yes (B A : Nat) (n : Int) (F : Wy → List Mg) (S L : Int) (w : World) (h : Lx w B A n F S L) (f t : Int) (hk : InN n (f, t)) (p : Option Addr) (cp : Nat) (l : List UInt8) (hl : Lies w p l) (hp : p = none → l = []) (hbig : l.length ≤ 1000)
    (hlt : (F (f, t)).length < 40) (hS : 0 ≤ S ∧ S ≤ 1000000) :
    Calls Try.prog 13 #[.pointer (some ⟨A, 0, none⟩), .int .i64 f, .int .i64 t, .slice p l.length cp] w (SendTo B A n (updF F (f, t) (F (f, t) ++ [⟨l, 0, 0⟩])) (S + 1) L 0 w) := by
  obtain ⟨M, c, es, D, h, hg, hF⟩ := h
  obtain ⟨a, b, hd⟩ := in_es hg hk
  have W := Lib.hid (way_is B A M c es D S L w h f t a b hd)
  obtain ⟨_, c1, _, f1, _⟩ := h.cells
  have h1 := h.sent (S + 1)
  have hBw : B ≤ w.heap.size := Nat.le_trans h.bA (Nat.le_of_lt h.ltA)
  have b1 : Bel B w (w.setCell ⟨A, 1, none⟩ (.int .i64 (S + 1))) := h.turnA 1 _
  have SE := Lib.hid (sent_is p cp l (w.setCell ⟨A, 1, none⟩ (.int .i64 (S + 1))) (h.lies hl 1 _) hp hbig)
  have PU : Hid (∀ m V, Below (w.setCell ⟨A, 1, none⟩ (.int .i64 (S + 1))).heap.size (w.setCell ⟨A, 1, none⟩ (.int .i64 (S + 1))) V → (w.setCell ⟨A, 1, none⟩ (.int .i64 (S + 1))).heap.size ≤ m → MsgAt V (w.setCell ⟨A, 1, none⟩ (.int .i64 (S + 1))).heap.size m ⟨l, 0, 0⟩ →
      Calls Try.prog 29 #[.pointer (some ⟨a, 0, none⟩), .pointer (some ⟨m, 0, none⟩)] V fun e w' => e = .returned (.bool true) ∧ SendTo B A n (updF F (f, t) (F (f, t) ++ [⟨l, 0, 0⟩])) (S + 1) L 0 w (.returned (.int .i64 0)) w') := by
    intro m V hb hm hmsg
    have hs : w.heap.size ≤ (w.setCell ⟨A, 1, none⟩ (.int .i64 (S + 1))).heap.size := by simp [World.setCell]
    have hV := h1.below hb
    refine (hV.put (f, t) a b hd m ⟨l, 0, 0⟩ (hmsg.mono (Nat.le_trans hBw hs)) (fun e he q => ?_) (by rw [hF]; exact hlt)).mono ?_
    · have := (h1.way e he).msgs.lt m q
      omega
    · rintro e w' ⟨rfl, ⟨D', hD, hmore⟩, hb2⟩
      have := Lx.of_more hD hg hF hmore
      rw [hF] at this
      exact ⟨rfl, rfl, this, b1.trans ((Bel.of_below hb (Nat.le_trans hBw hs)).trans hb2)⟩
  have hc1 : S + 1 ≤ 9223372036854775807 := by omega
  clear h h1 hd hl hF b1
  go_enter Try.func13, Try.ntmps13
  go_wp2_with fail
  refine W.out.mono ?_
  rintro e w' ⟨rfl, rfl⟩
  go_wp2_with fail
  refine SE.out.mono ?_
  rintro e w1 ⟨m, rfl, hm, hmsg, hb⟩
  have P := Lib.hid (PU.out m w1 hb hm hmsg)
  clear hmsg hb SE PU
  go_wp2_with fail
  refine P.out.mono ?_
  rintro e w2 ⟨rfl, hs⟩
  have R := Lib.hid hs
  clear hs P
  go_wp2
  go_ret
  exact R.out
set_option maxHeartbeats 1000000 in
theorem send_full (B A : Nat) (n : Int) (F : Wy → List Mg) (S L : Int) (w : World) (h : Lx w B A n F S L) (f t : Int) (hk : InN n (f, t)) (p : Option Addr) (cp : Nat) (l : List UInt8) (hl : Lies w p l) (hp : p = none → l = []) (hbig : l.length ≤ 1000)
    (hlt : ¬ (F (f, t)).length < 40) (hS : 0 ≤ S ∧ S ≤ 1000000) (hL : 0 ≤ L ∧ L ≤ 1000000) :
    Calls Try.prog 13 #[.pointer (some ⟨A, 0, none⟩), .int .i64 f, .int .i64 t, .slice p l.length cp] w (SendTo B A n F (S + 1) (L + 1) 8 w) := by
  obtain ⟨M, c, es, D, h, hg, hF⟩ := h
  obtain ⟨a, b, hd⟩ := in_es hg hk
  have W := Lib.hid (way_is B A M c es D S L w h f t a b hd)
  obtain ⟨_, c1, _, f1, _⟩ := h.cells
  have h1 := h.sent (S + 1)
  have hBw : B ≤ w.heap.size := Nat.le_trans h.bA (Nat.le_of_lt h.ltA)
  have b1 : Bel B w (w.setCell ⟨A, 1, none⟩ (.int .i64 (S + 1))) := h.turnA 1 _
  have SE := Lib.hid (sent_is p cp l (w.setCell ⟨A, 1, none⟩ (.int .i64 (S + 1))) (h.lies hl 1 _) hp hbig)
  have PU : Hid (∀ m V, Below (w.setCell ⟨A, 1, none⟩ (.int .i64 (S + 1))).heap.size (w.setCell ⟨A, 1, none⟩ (.int .i64 (S + 1))) V →
      Calls Try.prog 29 #[.pointer (some ⟨a, 0, none⟩), .pointer (some ⟨m, 0, none⟩)] V fun e w' => e = .returned (.bool false) ∧ w'.cell? ⟨A, 2, none⟩ = some (.int .i64 L) ∧ w'.frozen? ⟨A, 2, none⟩ = false ∧ SendTo B A n F (S + 1) (L + 1) 8 w (.returned (.int .i64 8)) (w'.setCell ⟨A, 2, none⟩ (.int .i64 (L + 1)))) := by
    intro m V hb
    have hs : w.heap.size ≤ (w.setCell ⟨A, 1, none⟩ (.int .i64 (S + 1))).heap.size := by simp [World.setCell]
    have hV := h1.below hb
    refine (hV.full (f, t) a b hd m (by rw [hF]; exact hlt)).mono ?_
    rintro e w' ⟨rfl, hb2⟩
    have h2 := hV.below hb2
    obtain ⟨_, _, c2, _, f2⟩ := h2.cells
    have hb3 : Bel B w w' := b1.trans ((Bel.of_below hb (Nat.le_trans hBw hs)).trans (Bel.of_below hb2 (Nat.le_trans (Nat.le_trans hBw hs) hb.size)))
    exact ⟨rfl, c2, f2, rfl, ⟨M, c, es, D, h2.lost (L + 1), hg, hF⟩, hb3.trans (h2.turnA 2 _)⟩
  have hc1 : S + 1 ≤ 9223372036854775807 := by omega
  have hc2 : L + 1 ≤ 9223372036854775807 := by omega
  clear h h1 hd hl hF b1
  go_enter Try.func13, Try.ntmps13
  go_wp2_with fail
  refine W.out.mono ?_
  rintro e w' ⟨rfl, rfl⟩
  go_wp2_with fail
  refine SE.out.mono ?_
  rintro e w1 ⟨m, rfl, hm, hmsg, hb⟩
  have P := Lib.hid (PU.out m w1 hb)
  clear hmsg hb SE PU
  go_wp2_with fail
  refine P.out.mono ?_
  rintro e w2 ⟨rfl, c2, f2, hs⟩
  have R := Lib.hid hs
  clear hs P
  go_wp2
  go_ret
  exact R.out
theorem send_no (q : Option Addr) (f t : Int) (v : Value) (hv : ∃ p n c, v = .slice p n c) (w : World) (hw : Calls Try.prog 27 #[.pointer q, .int .i64 f, .int .i64 t] w fun e w' => e = .returned (.pointer none) ∧ w = w') :
    Calls Try.prog 13 #[.pointer q, .int .i64 f, .int .i64 t, v] w fun e w' => e = .returned (.int .i64 15) ∧ w = w' := by
  obtain ⟨p, n, c, rfl⟩ := hv
  have W := Lib.hid hw
  clear hw
  go_enter Try.func13, Try.ntmps13
  go_wp2_with fail
  refine W.out.mono ?_
  rintro e w' ⟨rfl, rfl⟩
  go_wp2
  go_ret
  exact ⟨rfl, rfl⟩
end Go.Proofs.Ytfdiclamjgldnaa
