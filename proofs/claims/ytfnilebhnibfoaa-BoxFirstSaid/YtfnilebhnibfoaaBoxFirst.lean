/- The first of some boxes that has one. -/
import Derived.Test.YtfnilebhnibfoaaBoxFilled
import Derived.Test.YtfnilebhnibfoaaMemOne
namespace Go.Proofs.Ytfnilebhnibfoaa
open Go Go.RowKit Go.Conc

/-- the first that there is, and where -/
def fstL : List (List ByteArray) → Nat → ByteArray × Int
  | [], _ => (ByteArray.empty, -1)
  | v :: r, i => if v = [] then fstL r (i + 1) else (v.getD 0 ByteArray.empty, i)
theorem fstL_none : ∀ (r : List (List ByteArray)) (i : Nat), (fstL r i).2 < 0 → fstL r i = (ByteArray.empty, -1)
  | [], _, _ => rfl
  | v :: r, i, h => by
    unfold fstL at h ⊢
    split at h
    · rename_i hv; rw [if_pos hv]; exact fstL_none r (i + 1) h
    · simp only at h; omega
theorem fstL_snoc : ∀ (r : List (List ByteArray)) (v : List ByteArray) (i : Nat), fstL (r ++ [v]) i = if (fstL r i).2 < 0 ∧ v ≠ [] then (v.getD 0 ByteArray.empty, ((i + r.length : Nat) : Int)) else fstL r i
  | [], v, i => by
    simp only [List.nil_append, fstL, List.length_nil, Nat.add_zero]
    by_cases hv : v = []
    · simp [hv]
    · simp [hv]
  | u :: r, v, i => by
    rw [List.cons_append]
    unfold fstL
    by_cases hu : u = []
    · rw [if_pos hu, if_pos hu, fstL_snoc r v (i + 1), List.length_cons]
      simp only [show i + 1 + r.length = i + (r.length + 1) from by omega]
    · rw [if_neg hu, if_neg hu]
      have : ¬ ((i : Int) < 0) := by omega
      simp [this]

/-- a box: its block, its channel, its pointers -/
structure BoxI where
  a : Nat
  C : Nat
  gs : List Nat
def boxI0 : BoxI := ⟨0, 0, []⟩
/-- boxes, each with what it holds -/
structure Boxes (w : World) (B : Nat) (bs : List BoxI) (vss : List (List ByteArray)) : Prop where
  len : bs.length = vss.length
  at_ : ∀ i, i < bs.length → B ≤ (bs.getD i boxI0).C ∧ Bx w (bs.getD i boxI0).a (bs.getD i boxI0).C 5 (bs.getD i boxI0).gs ∧ Vals encS w (bs.getD i boxI0).gs (vss.getD i [])
theorem Boxes.below {w w' : World} {B : Nat} {bs : List BoxI} {vss : List (List ByteArray)} (h : Boxes w B bs vss) (hb : Below w.heap.size w w') : Boxes w' B bs vss :=
  ⟨h.len, fun i hi => ⟨(h.at_ i hi).1, (h.at_ i hi).2.1.below hb, (h.at_ i hi).2.2.below hb⟩⟩
theorem Boxes.snoc {w : World} {B : Nat} {bs : List BoxI} {vss : List (List ByteArray)} (h : Boxes w B bs vss) (b : BoxI) (v : List ByteArray) (hB : B ≤ b.C) (hb : Bx w b.a b.C 5 b.gs) (hv : Vals encS w b.gs v) : Boxes w B (bs ++ [b]) (vss ++ [v]) := by
  refine ⟨by simp [h.len], fun i hi => ?_⟩
  rw [List.length_append] at hi
  simp only [List.length_cons, List.length_nil] at hi
  by_cases e : i < bs.length
  · have e1 : (bs ++ [b]).getD i boxI0 = bs.getD i boxI0 := by simp [List.getD, List.getElem?_append_left e]
    have e2 : (vss ++ [v]).getD i [] = vss.getD i [] := by simp [List.getD, List.getElem?_append_left (show i < vss.length by rw [← h.len]; exact e)]
    rw [e1, e2]; exact h.at_ i e
  · obtain rfl : i = bs.length := by omega
    have e1 : (bs ++ [b]).getD bs.length boxI0 = b := by simp [List.getD]
    have e2 : (vss ++ [v]).getD bs.length [] = v := by rw [h.len]; simp [List.getD]
    rw [e1, e2]; exact ⟨hB, hb, hv⟩
def bptr (b : BoxI) : Value := .pointer (some ⟨b.a, 0, none⟩)

/-- a row of pointers of the call's own is no part of a box -/
theorem ptr_apart {w : World} {B : Nat} {e : TypeId} {v : Value} {n : Nat} {xs : List Value} (hown : w.ownsRow B e 1 v n xs) (hx : ∀ u ∈ xs, ∃ q, u = .pointer q) (h0 : n = 0 → v = .slice none 0 0) {b o : Nat} {u : Value} (hu : w.cell? ⟨b, o, none⟩ = some u) (ho : o = 0) (hnp : ∀ q, u ≠ .pointer q) : some b ≠ v.ownBlock := by
  subst ho
  have h' := hown
  rcases hown.2 with ⟨rfl, _⟩ | ⟨g, cap, cur, rfl, _, _, _⟩
  · intro e; cases e
  · intro e
    have hbg : b = g := by simpa [Value.ownBlock] using e
    subst hbg
    by_cases hn : n = 0
    · have := h0 hn; cases this
    · have hl : n = xs.length := by have := h'.1; simpa using this.symm
      have h1 := h'.cellAt 0 (by omega)
      rw [hu] at h1
      cases xs with
      | nil => simp at hl; omega
      | cons x xs =>
        obtain ⟨q, rfl⟩ := hx x (by simp)
        simp at h1
        exact hnp q h1
theorem chan_apart {w : World} {B : Nat} {e : TypeId} {v : Value} {n : Nat} {xs : List Value} (hown : w.ownsRow B e 1 v n xs) {C cap s r : Nat} {buf : Array Value} {cl tm : Bool} (hc : w.heap[C]? = some (.chan cap buf cl s r tm)) : some C ≠ v.ownBlock := by
  rcases hown.2 with ⟨rfl, _⟩ | ⟨g, cap, cur, rfl, _, q3, _⟩
  · intro e; cases e
  · intro e
    have hbg : C = g := by simpa [Value.ownBlock] using e
    subst hbg
    rw [q3] at hc; cases hc
theorem Boxes.apart {w w' : World} {B B2 : Nat} {bs : List BoxI} {vss : List (List ByteArray)} (h : Boxes w B bs vss) {e : TypeId} {v : Value} {n : Nat} {xs : List Value} (hown : w.ownsRow B2 e 1 v n xs) (hx : ∀ u ∈ xs, ∃ q, u = .pointer q) (h0 : n = 0 → v = .slice none 0 0) (hg : w.grownBy w' v.ownBlock) : Boxes w' B bs vss := by
  refine ⟨h.len, fun i hi => ?_⟩
  obtain ⟨h1, h2, h3⟩ := h.at_ i hi
  obtain ⟨s, r, hc⟩ := h2.chan
  refine ⟨h1, h2.kept hg (chan_apart hown hc) (ptr_apart hown hx h0 h2.line rfl (fun q e => by cases e)), h3.imp fun g x hv => hg.cell hv (ptr_apart hown hx h0 hv rfl (fun q e => by unfold encS at e; cases e))⟩
def FirstTo (w : World) (B : Nat) (x : ByteArray × Int) (e : Ending) (w' : World) : Prop := e = .returned (.tuple #[.string x.1, .int .i64 x.2]) ∧ Below B w w'

set_option maxHeartbeats 2000000 in
set_option maxRecDepth 100000 in
theorem first_is (q : Option Addr) (c : Nat) (B : Nat) (bs : List BoxI) (vss : List (List ByteArray)) (w : World) (h : Boxes w B bs vss) (hB : B ≤ w.heap.size) (hl : bs.length ≤ 100)
    (hc : ∀ i, i < bs.length → ∃ b o, q = some ⟨b, o, none⟩ ∧ w.cell? ⟨b, o + i, none⟩ = some (bptr (bs.getD i boxI0))) :
    Calls Try.prog 23 #[.slice q bs.length c] w (FirstTo w B (fstL vss 0)) := by
  have H := Lib.hid h; have HC := Lib.hid hc
  obtain ⟨X, hX⟩ : ∃ X, X = fstL vss 0 := ⟨_, rfl⟩
  rw [← hX]
  have HX : Hid (X = fstL (vss.drop 0) 0) := hX
  clear h hc hX
  go_enter Try.func23, Try.ntmps23
  go_wp2
  go_loop [11] (fun i => ∃ k : Nat, k ≤ bs.length ∧ i = .int .i64 k ∧ X = fstL (vss.drop k) k) (fun i => bs.length - (intOf i).toNat)
  case atStart => exact ⟨0, Nat.zero_le _, rfl, HX.out⟩
  case round =>
    obtain ⟨k, hk, rfl, hx⟩ := hrel
    have HX := Lib.hid hx
    clear hx
    by_cases hlt : k < bs.length
    · obtain ⟨b, o, rfl, hcell⟩ := HC.out k hlt
      obtain ⟨hCB, hbx, hvs⟩ := H.out.at_ k hlt
      have hd : vss.drop k = vss.getD k [] :: vss.drop (k + 1) := by
        have hk2 : k < vss.length := by rw [← H.out.len]; exact hlt
        rw [List.drop_eq_getElem_cons hk2]; simp [List.getD, List.getElem?_eq_getElem hk2]
      have HD : Hid (X = if vss.getD k [] = [] then fstL (vss.drop (k + 1)) (k + 1) else ((vss.getD k []).getD 0 ByteArray.empty, (k : Int))) := by
        have := HX.out
        rw [hd] at this
        exact this
      clear hd HX
      unfold bptr at hcell
      generalize bs.getD k boxI0 = b0 at hcell hCB hbx hvs
      generalize vss.getD k [] = v at hvs HD
      obtain ⟨a, C, gs⟩ := b0
      simp only at hcell hCB hbx hvs
      have hlt' : (k : Int) < bs.length := by omega
      cases gs with
      | nil =>
        obtain rfl : v = [] := by
          cases v with
          | nil => rfl
          | cons _ _ => exact hvs.elim
        have HD2 : Hid (X = fstL (vss.drop (k + 1)) (k + 1)) := by have := HD.out; rw [if_pos rfl] at this; exact this
        have T := Lib.hid (TakeS_no a C 5 w hbx)
        unfold encS at T
        clear hbx hvs HD
        go_wp2_with fail
        refine T.out.mono ?_
        rintro e w' ⟨rfl, rfl⟩
        go_wp2
        go_round
        case rel => exact ⟨k + 1, by omega, by go_num, HD2.out⟩
        case measure => simp [intOf]; omega
      | cons g gs =>
        obtain ⟨x, v', rfl, hx1, _⟩ := hvs.cut
        have HD2 : Hid (X = (x, (k : Int))) := by have := HD.out; rw [if_neg (by simp)] at this; exact this
        have T := Lib.hid (TakeS_yes a C 5 gs g x w hbx hx1)
        have BX := Lib.hid hbx
        unfold encS at T
        clear hbx hvs HD hx1
        go_wp2_with fail
        refine T.out.mono ?_
        rintro e w1 ⟨rfl, _, hgr⟩
        have B1 : Hid (Below B w w1) := BX.out.under hgr hCB hB
        clear hgr T
        go_wp2
        go_ret2
        exact ⟨by rw [HD2.out]; rfl, B1.out⟩
    · obtain rfl : k = bs.length := by omega
      have HD2 : Hid (X = (ByteArray.empty, -1)) := by
        have := HX.out
        rw [H.out.len, List.drop_length] at this; exact this
      go_wp2
      go_ret2
      exact ⟨by rw [HD2.out]; rfl, Below.refl _ _⟩
end Go.Proofs.Ytfnilebhnibfoaa
