/- The statement WireDecodes, proved for every input that its row reads: part 35 of 54. -/
import Derived.Test.YtapmbankpbiglaaGreatDoorPackWireDecodes20
import Derived.Test.YtapmbankpbiglaaGreatDoorPackWireDecodes29
import Derived.Test.YtapmbankpbiglaaGreatDoorPackWireDecodes34
import Derived.Test.YtapmbankpbiglaaGreatDoorPackWireDecodes19
/- A reader that Read made: Rising, on what was written; and ints of the call's own. -/
namespace Go.Proofs.YtapmbankpbiglaaGreatDoor
open Go Go.RowKit

theorem own_stays {w w' : World} {B R : Nat} {ty : TypeId} {n : Nat} {v : Value} {xs : List Value} (h : w.ownsRow B ty 1 v n xs) (hg : w.grownBy w' (some R)) (hR : R < B) : w'.ownsRow B ty 1 v n xs := by
  refine ⟨h.1, ?_⟩
  rcases h.2 with q | ⟨g, cap, cur, q1, q2, q3, q4⟩
  · exact .inl q
  · exact .inr ⟨g, cap, cur, q1, q2, by rw [hg.block g (Array.getElem?_eq_some_iff.1 q3).1 (fun e => by have := Option.some.inj e; omega)]; exact q3, q4⟩
theorem Rd.lt {w : World} {B : Nat} {l : List UInt8} (h : Rd w B l) : B < w.heap.size := by
  obtain ⟨_, _, _, hh, _, _⟩ := h
  exact (Array.getElem?_eq_some_iff.1 hh).1
/-- what is allotted above leaves a reader as it is -/
theorem Rd.below {w w' : World} {B : Nat} {l : List UInt8} (h : Rd w B l) (hb : Below w.heap.size w w') : Rd w' B l := by
  have hlt := h.lt
  obtain ⟨b, o, c, hh, hc, hl, hbB⟩ := h
  refine ⟨b, o, c, by rw [hb.block B hlt]; exact hh, fun i hi => ?_, hl, hbB⟩
  have h1 := hc i hi
  rw [hb.cell (p := ⟨b, o + i, none⟩) (World.block_lt_of_cell? w _ h1)]; exact h1
theorem Rd.under {w w' : World} {B T : Nat} {l : List UInt8} (h : Rd w B l) (hT : B < T) (hb : Below T w w') : Rd w' B l := by
  obtain ⟨b, o, c, hh, hc, hl, hbB⟩ := h
  refine ⟨b, o, c, by rw [hb.block B hT]; exact hh, fun i hi => ?_, hl, hbB⟩
  rw [hb.cell (p := ⟨b, o + i, none⟩) (Nat.lt_trans hbB hT)]; exact hc i hi
theorem grown_under {a w w' : World} {R : Option Nat} (h : a.grownBy w R) (hb : Below a.heap.size w w') : a.grownBy w' R :=
  ⟨hb.os.trans h.os, hb.tape.trans h.tape, hb.output.trans h.output, Nat.le_trans h.size hb.size, fun k hk hne => (hb.block k hk).trans (h.block k hk hne)⟩
theorem grown_carry {a w w' : World} {R : Option Nat} (h : a.grownBy w R) (hb : Below a.heap.size w w') : a.grownBy w' R :=
  ⟨hb.os.trans h.os, hb.tape.trans h.tape, hb.output.trans h.output, Nat.le_trans h.size hb.size, fun k hk hne => (hb.block k hk).trans (h.block k hk hne)⟩

namespace Cod
theorem gaps_split (l : List Int) (k n : Nat) (h : k ≤ n) : ∃ r, gaps l n = gaps l k ++ r := by
  induction n with
  | zero => obtain rfl : k = 0 := by omega
            exact ⟨[], by simp [gaps]⟩
  | succ n ih =>
    by_cases e : k = n + 1
    · subst e; exact ⟨[], by simp⟩
    · obtain ⟨r, hr⟩ := ih (by omega)
      exact ⟨r ++ enc (gap l n), by simp only [gaps, hr, List.append_assoc]⟩
def rem (l : List Int) (n k : Nat) : List UInt8 := (gaps l n).drop (gaps l k).length
theorem rem_zero (l : List Int) (n : Nat) : rem l n 0 = gaps l n := rfl
theorem rem_end (l : List Int) (n : Nat) : rem l n n = [] := by simp [rem]
theorem rem_step (l : List Int) (n k : Nat) (h : k < n) : rem l n k = enc (gap l k) ++ rem l n (k + 1) := by
  obtain ⟨r, hr⟩ := gaps_split l (k + 1) n h
  unfold rem
  rw [hr, List.drop_left]
  show (gaps l k ++ enc (gap l k) ++ r).drop _ = _
  rw [List.append_assoc, List.drop_left]
theorem rem_len (l : List Int) (n k : Nat) : (rem l n k).length ≤ (gaps l n).length := by simp [rem]
end Cod

/-- what Rising comes to -/
def GotI (w : World) (B : Nat) (l : List Int) (m : List UInt8) (e : Ending) (w' : World) : Prop :=
  ∃ v, e = .returned v ∧ w'.ownsRow w.heap.size 3 1 v l.length (ints l) ∧ Rd w' B m ∧ w.grownBy w' (some B)

set_option maxHeartbeats 2000000 in
set_option maxRecDepth 100000 in
theorem risingIn_live (B : Nat) (many top : Int) (l : List Int) (m : List UInt8) (w : World) (h : Rd w B (Cod.rising l ++ m)) (hall : Cod.riseN l = l.length) (hmany : (l.length : Int) ≤ many ∧ many ≤ 100000)
    (ht : -1 ≤ top ∧ top ≤ 9223372036854775807) (htop : ∀ i, i < l.length → l.getD i 0 ≤ top) (hl : (Cod.rising l ++ m).length ≤ 150000000000000) :
    Calls Tryz.prog 54 #[.pointer (some ⟨B, 0, none⟩), .int .i64 many, .int .i64 top] w (GotI w B l m) := by
  have hBw := h.lt
  obtain ⟨n, hn⟩ : ∃ n, n = l.length := ⟨_, rfl⟩
  have hl0 := hl
  unfold Cod.rising at h hl
  rw [hall, ← hn, List.append_assoc] at h hl
  rw [← hn] at hmany
  have hn1 := numIn_live B n many (Cod.gaps l n ++ m) w h (by omega) (by omega) hl
  have hgm : (Cod.gaps l n ++ m).length ≤ 150000000000000 := by rw [List.length_append] at hl; omega
  have HN := Lib.hid hn; have HT := Lib.hid htop; have HA := Lib.hid hall; have GM := Lib.hid hgm; have N1 := Lib.hid hn1
  obtain ⟨hmany1, hmany2⟩ := hmany
  obtain ⟨ht1, ht2⟩ := ht
  clear h hall htop hn hl hl0 hgm hn1
  go_enter Tryz.func54, Tryz.ntmps54
  go_wp2_with fail
  refine N1.out.mono ?_
  rintro e w1 ⟨rfl, r1, g1⟩
  have R1 := Lib.hid r1; have G1 := Lib.hid g1; clear r1 g1 N1
  go_wp2
  go_loopw [8, 9, 17] (fun v u i wr => ∃ k : Nat, k ≤ n ∧ i = .int .i64 k ∧ u = .int .i64 (Cod.lastOf l k) ∧ wr.ownsRow w.heap.size 3 1 v k (ints (l.take k)) ∧ Rd wr B (Cod.rem l n k ++ m) ∧ w.grownBy wr (some B)) (fun _ _ i _ => n - (intOf i).toNat)
  case atStart => exact ⟨0, Nat.zero_le _, rfl, rfl, World.ownsRow_nil _ _ _ _, R1.out, G1.out⟩
  case round =>
    obtain ⟨k, hk, rfl, rfl, hown, hrd, hgr⟩ := hrel
    have OW := Lib.hid hown; have RD := Lib.hid hrd; have GR := Lib.hid hgr
    clear hown hrd hgr
    by_cases hkn : k < n
    · have hkl : k < l.length := by rw [← HN.out]; exact hkn
      have hlt := Cod.rise_lt l k (by rw [HA.out]; exact hkl)
      have hge := Cod.last_ge l k (by rw [HA.out]; omega)
      have hup := HT.out k hkl
      have hgap : (Cod.gap l k : Int) = l.getD k 0 - (Cod.lastOf l k + 1) := by unfold Cod.gap; omega
      have hls : Cod.lastOf l (k + 1) = l.getD k 0 := by simp [Cod.lastOf]
      have htk : l.take (k + 1) = l.take k ++ [l.getD k 0] := by rw [List.take_succ_eq_append_getElem hkl]; simp [List.getD, List.getElem?_eq_getElem hkl]
      have rd := RD.out
      rw [Cod.rem_step l n k hkn, List.append_assoc] at rd
      have hrl : (Cod.enc (Cod.gap l k) ++ (Cod.rem l n (k + 1) ++ m)).length ≤ 150000000000000 := by
        rw [← List.append_assoc, ← Cod.rem_step l n k hkn, List.length_append]
        have := Cod.rem_len l n k; have := GM.out; rw [List.length_append] at this; omega
      obtain ⟨x, hx⟩ : ∃ x, x = l.getD k 0 := ⟨_, rfl⟩
      obtain ⟨u, hu⟩ : ∃ u, u = Cod.lastOf l k := ⟨_, rfl⟩
      obtain ⟨g, hg⟩ : ∃ g, g = Cod.gap l k := ⟨_, rfl⟩
      rw [← hu, ← hx] at hlt
      rw [← hu] at hge ⊢
      rw [← hx] at hup hls htk
      rw [← hg, ← hx, ← hu] at hgap
      rw [← hg] at rd hrl
      have nu := numIn_live B g (top - 1 - u) _ wr rd (by omega) (by omega) hrl
      have NU := Lib.hid nu; have LS := Lib.hid hls; have TK := Lib.hid htk
      have hxg : u + 1 + (g : Int) = x := by omega
      have XG := Lib.hid hxg
      clear nu hls htk rd hrl hx hu hg hxg hgap
      go_wp2_with fail
      refine NU.out.mono ?_
      rintro e w2 ⟨rfl, r2, g2⟩
      have er := err_live B _ w2 r2
      have R2 := Lib.hid r2; have G2 := Lib.hid (grown_trans GR.out g2); have O2 := Lib.hid (own_stays OW.out g2 hBw)
      have ER := Lib.hid er
      clear r2 g2 NU OW RD GR er
      go_wp2_with fail
      refine ER.out.mono ?_
      rintro e w' ⟨rfl, rfl⟩
      clear ER
      have hsz := G2.out.size
      rw [← XG.out] at hup hlt
      go_wp2_with (at_builtin; refine wpList_int isI64 _ rfl _ _ rfl w.heap.size k (l.take k) _ rfl O2.out _ rfl (by omega) hsz ?_)
      rw [XG.out]
      intro v3 w3 own3 b3
      have O3 := Lib.hid own3; have B3 := Lib.hid b3
      clear own3 b3
      go_wp2
      go_roundw
      case rel => exact ⟨k + 1, by omega, by go_num, by rw [LS.out], by rw [TK.out]; exact O3.out, R2.out.under hBw B3.out, grown_carry G2.out B3.out⟩
      case measure => simp [intOf]; omega
    · obtain rfl : k = n := by omega
      go_wp2
      go_ret
      have hown := OW.out
      have hrd := RD.out
      rw [Cod.rem_end, List.nil_append] at hrd
      rw [List.take_of_length_le (by rw [HN.out]; exact Nat.le_refl _), HN.out] at hown
      exact ⟨_, rfl, hown, hrd, GR.out⟩
end Go.Proofs.YtapmbankpbiglaaGreatDoor
/- Lists that rise: one more at the end; the last is the greatest. And slices.Equal over ints. -/
namespace Go.Proofs.YtapmbankpbiglaaGreatDoor
open Go Go.RowKit
namespace Cod
theorem riseFrom_snoc (acc : List Int) (x : Int) : ∀ last : Int, riseFrom last acc = acc.length → acc.getLastD last < x → riseFrom last (acc ++ [x]) = acc.length + 1 := by
  induction acc with
  | nil => intro last _ h; simp at h; simp [riseFrom, h]
  | cons y r ih =>
    intro last h1 h2
    simp only [riseFrom, List.length_cons] at h1
    simp only [List.cons_append, riseFrom, List.length_cons]
    split at h1
    · rename_i hy
      rw [if_pos hy, ih y (by omega) (by rw [List.getLastD_cons] at h2; exact h2)]
    · omega
theorem last_getD (acc : List Int) : acc.getLastD (-1) = lastOf acc acc.length := by
  unfold lastOf
  rw [List.getLastD_eq_getLast?, List.getLast?_eq_getElem?, List.getD]
  split
  · rename_i h; simp [h]
  · rename_i h
    rw [List.getElem?_eq_getElem (by omega)]; rfl
theorem rise_snoc (acc : List Int) (x : Int) (h : riseN acc = acc.length) (hx : lastOf acc acc.length < x) : riseN (acc ++ [x]) = (acc ++ [x]).length := by
  unfold riseN at h ⊢
  rw [riseFrom_snoc acc x (-1) h (by rw [last_getD]; exact hx), List.length_append]; rfl
theorem rise_up (l : List Int) (h : riseN l = l.length) (i d : Nat) (hi : i + d < l.length) : l.getD i 0 ≤ l.getD (i + d) 0 := by
  induction d with
  | zero => exact Int.le_refl _
  | succ d ih =>
    have h1 := ih (by omega)
    have h2 := rise_lt l (i + d + 1) (by rw [h]; omega)
    have h3 : lastOf l (i + d + 1) = l.getD (i + d) 0 := by simp [lastOf]
    rw [h3] at h2
    show l.getD i 0 ≤ l.getD (i + d + 1) 0
    omega
/-- no number of a list is above one -/
def Top (top : Int) (l : List Int) : Prop := (-1 ≤ top ∧ top ≤ 9223372036854775807) ∧ ∀ i, i < l.length → l.getD i 0 ≤ top
theorem top_nil : Top 0 [] := ⟨by omega, fun i hi => by simp at hi⟩
theorem top_last (l : List Int) (h : riseN l = l.length) (h0 : 0 < l.length) (hw : -9223372036854775808 ≤ l.getD (l.length - 1) 0 ∧ l.getD (l.length - 1) 0 ≤ 9223372036854775807) : Top (l.getD (l.length - 1) 0) l := by
  have h2 := rise_lt l (l.length - 1) (by rw [h]; omega)
  have h3 := last_ge l (l.length - 1) (by rw [h]; omega)
  refine ⟨⟨by omega, hw.2⟩, fun i hi => ?_⟩
  have := rise_up l h i (l.length - 1 - i) (by omega)
  rwa [show i + (l.length - 1 - i) = l.length - 1 from by omega] at this
end Cod

end Go.Proofs.YtapmbankpbiglaaGreatDoor
/- A reader of any bytes: Read, Err, Left, Fail, take, number, Num, Rising. -/
namespace Go.Proofs.YtapmbankpbiglaaGreatDoor
open Go Go.RowKit
set_option linter.unusedVariables false

def endObj (e : Nat) : Obj := .cells #[.slice none 0 0, .int .i64 (e : Int), .bool true] 64 (0, 0)
/-- the reader at B has the bytes and the error of a state -/
def RdA (w : World) (B : Nat) (s : Cod.S) : Prop := (s.2 = 0 ∧ Rd w B s.1) ∨ (s.1 = [] ∧ w.heap[B]? = some (endObj s.2))
theorem RdA.ok {w : World} {B : Nat} {s : Cod.S} (h : RdA w B s) : Cod.Ok s := fun e => by
  rcases h with ⟨h1, _⟩ | ⟨h1, _⟩
  · exact absurd h1 e
  · exact h1
theorem RdA.lt {w : World} {B : Nat} {s : Cod.S} (h : RdA w B s) : B < w.heap.size := by
  rcases h with ⟨_, h⟩ | ⟨_, h⟩
  · exact h.lt
  · exact (Array.getElem?_eq_some_iff.1 h).1
theorem RdA.below {w w' : World} {B : Nat} {s : Cod.S} (h : RdA w B s) (hb : Below w.heap.size w w') : RdA w' B s := by
  have hlt := h.lt
  rcases h with ⟨h1, h⟩ | ⟨h1, h⟩
  · exact .inl ⟨h1, h.below hb⟩
  · exact .inr ⟨h1, (hb.block B hlt).trans h⟩
theorem RdA.under {w w' : World} {B T : Nat} {s : Cod.S} (h : RdA w B s) (hT : B < T) (hb : Below T w w') : RdA w' B s := by
  rcases h with ⟨h1, h⟩ | ⟨h1, h⟩
  · exact .inl ⟨h1, h.under hT hb⟩
  · exact .inr ⟨h1, (hb.block B hT).trans h⟩
theorem end_cells {w : World} {B e : Nat} (h : w.heap[B]? = some (endObj e)) : w.cell? ⟨B, 0, none⟩ = some (.slice none 0 0) ∧ w.cell? ⟨B, 1, none⟩ = some (.int .i64 (e : Int)) ∧ w.cell? ⟨B, 2, none⟩ = some (.bool true) := by
  unfold endObj at h
  exact ⟨by rw [cell_of_row w B 0 _ _ _ h]; rfl, by rw [cell_of_row w B 1 _ _ _ h]; rfl, by rw [cell_of_row w B 2 _ _ _ h]; rfl⟩
theorem end_frozen {w : World} {B e : Nat} (h : w.heap[B]? = some (endObj e)) (i : Nat) : w.frozen? ⟨B, i, none⟩ = false := by
  unfold endObj at h; exact frozen_of_row w B i _ _ h
theorem in_frozen {w : World} {B : Nat} {v : Value} (h : w.heap[B]? = some (inObj v)) (i : Nat) : w.frozen? ⟨B, i, none⟩ = false := by
  unfold inObj at h; exact frozen_of_row w B i _ _ h
set_option maxHeartbeats 1000000 in
theorem err_any (B : Nat) (s : Cod.S) (w : World) (h : RdA w B s) : Calls Tryz.prog 34 #[.pointer (some ⟨B, 0, none⟩)] w fun e w' => e = .returned (.int .i64 (s.2 : Int)) ∧ w = w' := by
  obtain ⟨l, e⟩ := s
  rcases h with ⟨h1, h⟩ | ⟨h1, h⟩
  · simp only at h1 h
    subst h1
    exact err_live B l w h
  · simp only at h1 h
    obtain ⟨c0, c1, c2⟩ := end_cells h
    clear h
    go_enter Tryz.func34, Tryz.ntmps34
    go_wp2
    go_ret
    exact ⟨rfl, rfl⟩
set_option maxHeartbeats 1000000 in
theorem left_any (B : Nat) (s : Cod.S) (w : World) (h : RdA w B s) : Calls Tryz.prog 35 #[.pointer (some ⟨B, 0, none⟩)] w fun e w' => e = .returned (.int .i64 s.1.length) ∧ w = w' := by
  obtain ⟨l, e⟩ := s
  rcases h with ⟨h1, h⟩ | ⟨h1, h⟩
  · exact left_live B l w h
  · simp only at h1 h
    subst h1
    obtain ⟨c0, c1, c2⟩ := end_cells h
    clear h
    go_enter Tryz.func35, Tryz.ntmps35
    go_wp2
    go_ret
    exact ⟨rfl, rfl⟩
/-- Read of any bytes -/
theorem read_all (p : Option Addr) (c : Nat) (l : List UInt8) (w : World) (h : Given w p c l) (hn : l.length ≤ 140737488355328) :
    Calls Tryz.prog 12 #[.slice p l.length c] w fun e w' => ∃ B, e = .returned (.pointer (some ⟨B, 0, none⟩)) ∧ w.heap.size ≤ B ∧ RdA w' B (l, 0) ∧ Below w.heap.size w w' := by
  by_cases h0 : 0 < l.length
  · exact (read_any p c l w h h0 (by omega)).mono fun e w' ⟨B, h1, h2, h3, h4⟩ => ⟨B, h1, h2, .inl ⟨rfl, h3⟩, h4⟩
  · obtain rfl : l = [] := List.eq_nil_of_length_eq_zero (by omega)
    have H := Lib.hid h; clear h
    go_enter Tryz.func12, Tryz.ntmps12
    go_wp2_with (at_builtin; refine wpList_bytes isU8 _ rfl _ _ rfl w.heap.size 0 [] _ rfl (World.ownsRow_nil _ _ _ _) p 0 c [] rfl H.out.lies rfl (fun e => ⟨rfl, (H.out.none e).2⟩) (by simp) (Nat.le_refl _) ?_)
    intro v w1 hown hb
    have hb1 := Lib.hid hb
    have hv : v = .slice none 0 0 ∨ ∃ g cap, v = .slice (some ⟨g, 0, none⟩) 0 cap ∧ g < w1.heap.size := by
      rcases hown.2 with ⟨h1, _⟩ | ⟨g, cap, cur, h1, _, h3, _⟩
      · exact .inl h1
      · exact .inr ⟨g, cap, by simpa using h1, (Array.getElem?_eq_some_iff.1 h3).1⟩
    clear hown hb
    rcases hv with rfl | ⟨g, cap, rfl, hg⟩
    · go_wp2
      go_ret
      refine ⟨w1.heap.size, rfl, hb1.out.size, .inr ⟨rfl, ?_⟩, hb1.out.alloc hb1.out.size _⟩
      exact heap_alloc_new w1 _
    · have HG := Lib.hid hg
      clear hg
      go_wp2
      go_ret
      refine ⟨w1.heap.size, rfl, hb1.out.size, .inl ⟨rfl, g, 0, cap, ?_, fun i hi => by simp at hi, by simp, HG.out⟩, hb1.out.alloc hb1.out.size _⟩
      exact heap_alloc_new w1 _
/-- what reading comes to -/
def GotA (w : World) (B : Nat) (v : Value) (s : Cod.S) (e : Ending) (w' : World) : Prop := e = .returned v ∧ RdA w' B s ∧ w.grownBy w' (some B)
theorem grownA_refl (w : World) (row : Option Nat) : w.grownBy w row := ⟨rfl, rfl, rfl, Nat.le_refl _, fun _ _ _ => rfl⟩
theorem fail_mk {w : World} {B c : Nat} {cs : Array Value} (hs : cs.size = 3) (h2 : cs[2]? = some (.bool true)) (h : w.heap[B]? = some (.cells cs 64 (0, 0))) :
    ((w.setCell ⟨B, 1, none⟩ (.int .i64 (c : Int))).setCell ⟨B, 0, none⟩ (.slice none 0 0)).heap[B]? = some (endObj c) := by
  have h1 := heap_setCell_same w B 1 _ _ (.int .i64 (c : Int)) h
  rw [heap_setCell_same _ B 0 _ _ (.slice none 0 0) h1]
  unfold endObj
  congr 2
  apply Array.ext_getElem?
  intro i
  match i with
  | 0 => simp [hs]
  | 1 => simp [hs]
  | 2 => simpa using h2
  | k + 3 => simp [hs]
theorem fail_grown (w : World) (B c : Nat) : w.grownBy ((w.setCell ⟨B, 1, none⟩ (.int .i64 (c : Int))).setCell ⟨B, 0, none⟩ (.slice none 0 0)) (some B) :=
  ⟨rfl, rfl, rfl, by simp [World.setCell], fun k _ hne => by
    rw [Below.heap_setCell _ _ _ _ (fun e => hne (by rw [e])), Below.heap_setCell _ _ _ _ (fun e => hne (by rw [e]))]⟩
set_option maxHeartbeats 1000000 in
/-- Fail, by an error that is one -/
theorem fail_any (B c : Nat) (s : Cod.S) (w : World) (h : RdA w B s) (hc : 0 < c) :
    Calls Tryz.prog 53 #[.pointer (some ⟨B, 0, none⟩), .int .i64 (c : Int)] w (GotA w B (.tuple #[]) (Cod.failS c s)) := by
  have E := Lib.hid (err_any B s w h)
  obtain ⟨l, e⟩ := s
  by_cases he : e = 0
  · subst he
    rw [Cod.failS_zero]
    have hc' : ¬ (c : Int) = 0 := by omega
    have F := Lib.hid (fail_grown w B c)
    obtain ⟨M, c0, c1, f0, f1⟩ : Hid (((w.setCell ⟨B, 1, none⟩ (.int .i64 (c : Int))).setCell ⟨B, 0, none⟩ (.slice none 0 0)).heap[B]? = some (endObj c)) ∧ (∃ v, w.cell? ⟨B, 0, none⟩ = some v) ∧ w.cell? ⟨B, 1, none⟩ = some (.int .i64 0) ∧ w.frozen? ⟨B, 0, none⟩ = false ∧ w.frozen? ⟨B, 1, none⟩ = false := by
      rcases h with ⟨_, b, o, cc, hh, _⟩ | ⟨_, hh⟩
      · obtain ⟨c0, c1, c2, _⟩ := in_cells hh
        exact ⟨fail_mk rfl rfl hh, ⟨_, c0⟩, c1, in_frozen hh 0, in_frozen hh 1⟩
      · obtain ⟨c0, c1, c2⟩ := end_cells hh
        exact ⟨fail_mk rfl rfl hh, ⟨_, c0⟩, c1, end_frozen hh 0, end_frozen hh 1⟩
    obtain ⟨v, c0⟩ := c0
    clear h
    simp only at E
    go_enter Tryz.func53, Tryz.ntmps53
    go_wp2_with fail
    refine E.out.mono ?_
    rintro e w' ⟨rfl, rfl⟩
    go_wp2
    exact bodyPost_ret (results_none rfl _ _ _) rfl ⟨rfl, .inr ⟨rfl, M.out⟩, F.out⟩
  · rw [show Cod.failS c (l, e) = (l, e) from if_neg he]
    have H := Lib.hid h
    have he' : ¬ (e : Int) = 0 := by omega
    clear h
    simp only at E
    go_enter Tryz.func53, Tryz.ntmps53
    go_wp2_with fail
    refine E.out.mono ?_
    rintro e w' ⟨rfl, rfl⟩
    go_wp2
    exact bodyPost_ret (results_none rfl _ _ _) rfl ⟨rfl, H.out, grownA_refl _ _⟩
end Go.Proofs.YtapmbankpbiglaaGreatDoor
/- A reader of any bytes: take, number, Num. -/
namespace Go.Proofs.YtapmbankpbiglaaGreatDoor
open Go Go.RowKit
set_option linter.unusedVariables false

set_option maxHeartbeats 1000000 in
theorem take_none (B : Nat) (n : Int) (s : Cod.S) (w : World) (h : RdA w B s) (hs : s.2 ≠ 0) :
    Calls Tryz.prog 76 #[.pointer (some ⟨B, 0, none⟩), .int .i64 n] w fun e w' => e = .returned (.slice none 0 0) ∧ w = w' := by
  have E := Lib.hid (err_any B s w h)
  have hs' : ¬ (s.2 : Int) = 0 := by omega
  generalize s.2 = e at E hs'
  clear h hs
  go_enter Tryz.func76, Tryz.ntmps76
  go_wp2_with fail
  refine E.out.mono ?_
  rintro e w' ⟨rfl, rfl⟩
  go_wp2
  go_ret
  exact ⟨rfl, rfl⟩
set_option maxHeartbeats 1000000 in
theorem take_short (B n : Nat) (l : List UInt8) (w : World) (h : RdA w B (l, 0)) (hn : l.length < n) (hn2 : n ≤ 1000000) :
    Calls Tryz.prog 76 #[.pointer (some ⟨B, 0, none⟩), .int .i64 n] w (GotA w B (.slice none 0 0) ([], 4)) := by
  have E := Lib.hid (err_any B _ w h)
  have F := Lib.hid (fail_any B 4 _ w h (by omega))
  rw [Cod.failS_zero] at F
  have hn' : (n : Int) > l.length := by omega
  obtain ⟨p, c, c0⟩ : ∃ p c, w.cell? ⟨B, 0, none⟩ = some (.slice p l.length c) := by
    rcases h with ⟨_, b, o, cc, hh, _⟩ | ⟨h1, hh⟩
    · exact ⟨_, _, (in_cells hh).1⟩
    · simp only at h1
      subst h1
      exact ⟨_, _, (end_cells hh).1⟩
  clear h hn
  go_enter Tryz.func76, Tryz.ntmps76
  go_wp2_with fail
  refine E.out.mono ?_
  rintro e w' ⟨rfl, rfl⟩
  go_wp2_with fail
  refine F.out.mono ?_
  rintro e w1 ⟨rfl, h1, h2⟩
  have H1 := Lib.hid h1; have H2 := Lib.hid h2
  clear h1 h2 F E
  go_wp2
  go_ret
  exact ⟨rfl, H1.out, H2.out⟩

set_option maxHeartbeats 4000000 in
set_option maxRecDepth 100000 in
theorem number_all (B : Nat) (s : Cod.S) (w : World) (h : RdA w B s) (hl : s.1.length ≤ 149000000000000) :
    Calls Tryz.prog 52 #[.pointer (some ⟨B, 0, none⟩)] w (GotA w B (.int .u64 (Cod.anyS s).1) (Cod.anyS s).2) := by
  obtain ⟨l, e⟩ := s
  by_cases he : e = 0
  · subst he
    have hA : Cod.anyS (l, 0) = Cod.next l := by unfold Cod.anyS; rw [if_pos rfl]
    rw [hA]
    clear hA
    match l, h, hl with
    | [], h, hl =>
      have T := Lib.hid (take_short B 1 [] w h (by simp) (by omega))
      clear h hl
      go_enter Tryz.func52, Tryz.ntmps52
      go_wp2_with fail
      refine T.out.mono ?_
      rintro e w1 ⟨rfl, h1, h2⟩
      have H1 := Lib.hid h1; have H2 := Lib.hid h2
      clear h1 h2 T
      go_wp2
      go_ret
      exact ⟨rfl, H1.out, H2.out⟩
    | b :: t, h, hl =>
      have hrd : Rd w B (b :: t) := by
        rcases h with ⟨_, h⟩ | ⟨h1, _⟩
        · exact h
        · cases h1
      clear h
      have h8 := Cod.ones_le b.toNat
      have hb := b.toNat_lt
      have hz : 8 - Lib.bitLen (255 - b.toNat) = Cod.ones b.toNat := rfl
      have hfs := fun j (hj : j ≤ Cod.ones b.toNat) => Cod.fold_small b t j hj
      have hfr : b.toNat &&& (127 / 2 ^ Cod.ones b.toNat) = Cod.frst b.toNat := rfl
      have t1 := take_live B 1 _ w hrd (by simp) (Nat.le_trans hl (by decide))
      have hnx : Cod.next (b :: t) = if t.length < Cod.ones b.toNat then (0, [], 4) else if Cod.bh (Cod.fold (Cod.frst b.toNat) (t.take (Cod.ones b.toNat))) = Cod.ones b.toNat then (Cod.fold (Cod.frst b.toNat) (t.take (Cod.ones b.toNat)), t.drop (Cod.ones b.toNat), 0) else (0, [], 3) := rfl
      generalize Cod.ones b.toNat = k at *
      generalize Cod.frst b.toNat = f0 at *
      have NX := Lib.hid hnx; have FS := Lib.hid hfs; have FR := Lib.hid hfr; have HL := Lib.hid hl
      have HZ := Lib.hid hz
      clear hrd hnx hfs hfr hl hz
      have s1 := shr_127 Tryz.prog k h8
      have hxor := xor_255 b.toNat hb
      go_enter Tryz.func52, Tryz.ntmps52
      go_wp2_with fail
      refine t1.mono ?_
      rintro e w1 ⟨b1, o1, rfl, hc1, hr1, hg1⟩
      have c1 : w1.cell? ⟨b1, o1, none⟩ = some (.int .u8 (b.toNat : Int)) := by
        have := hc1.at 0 (by simp) b (by simp)
        simpa using this
      have hr1' : Rd w1 B t := by simpa using hr1
      have R1 := Lib.hid hr1'; have G1 := Lib.hid hg1; have C1 := Lib.hid hc1
      clear hr1 hr1' hg1 hc1 t1
      have z1 := lz8_any (255 - b.toNat) w1 (by omega)
      rw [HZ.out] at z1
      by_cases hk : t.length < k
      · have T2 := Lib.hid (take_short B k t w1 (.inl ⟨rfl, R1.out⟩) hk (by omega))
        rw [if_pos hk] at NX
        have hk0 : (0 : Int) < k := by omega
        go_wp2_with fail
        refine z1.mono ?_
        rintro e w' ⟨rfl, rfl⟩
        clear z1 hxor s1
        go_wp2_with fail
        refine T2.out.mono ?_
        rintro e w2 ⟨rfl, h2, g2⟩
        have H2 := Lib.hid h2; have G2 := Lib.hid (grown_trans G1.out g2)
        clear h2 g2 T2 c1
        go_wp2
        go_ret
        rw [NX.out]
        exact ⟨rfl, H2.out, G2.out⟩
      · rw [if_neg hk] at NX
        have hkt : k ≤ t.length := by omega
        have hL2 := HL.out
        simp only [List.length_cons] at hL2
        have t2 := take_live B k t w1 R1.out hkt (by omega)
        have HK := Lib.hid hkt
        clear hk hkt
        go_wp2_with fail
        refine z1.mono ?_
        rintro e w' ⟨rfl, rfl⟩
        clear z1 hxor
        go_wp2_with fail
        refine t2.mono ?_
        rintro e w2 ⟨b2, o2, rfl, hc2, hr2, hg2⟩
        have c2 : w2.cell? ⟨b1, o1, none⟩ = some (.int .u8 (b.toNat : Int)) := by
          have := (R1.out.carry C1.out hg2).at 0 (by simp) b (by simp)
          simpa using this
        have R2 := Lib.hid hr2; have G2 := Lib.hid (grown_trans G1.out hg2); have C2 := Lib.hid hc2
        clear hr2 hg2 hc2 t2 c1 R1 G1 C1
        have hand : bits BinOp.and IntKind.u8 (b.toNat : Int) ((127 / 2 ^ k : Nat) : Int) = (f0 : Int) := by
          rw [u8_and_nat _ _ hb (Nat.lt_of_le_of_lt (Nat.div_le_self _ _) (by omega)), FR.out]
        have hf0 : f0 < 256 := by rw [← FR.out]; exact Nat.lt_of_le_of_lt Nat.and_le_left hb
        go_wp2
        go_quiet (fail)
        have hu0 : IntKind.u64.wrap (bits BinOp.and IntKind.u8 (b.toNat : Int) (127 / 2 ^ k)) = ((Cod.fold f0 (t.take 0) : Nat) : Int) := by
          rw [show ((127 : Int) / 2 ^ k) = ((127 / 2 ^ k : Nat) : Int) from by simp, hand]
          show IntKind.u64.wrap (f0 : Int) = (f0 : Int)
          simp [IntKind.wrap, IntKind.bits, IntKind.signed]
          omega
        rw [hu0]
        clear hand hu0 c2 s1 hf0
        go_wp2
        go_loop [6, 33] (fun u i => ∃ j : Nat, j ≤ k ∧ i = .int .i64 j ∧ u = .int .u64 (Cod.fold f0 (t.take j) : Nat)) (fun _ i => k - (intOf i).toNat)
        case atStart => exact ⟨0, Nat.zero_le _, rfl, rfl⟩
        case round =>
          obtain ⟨j, hj, rfl, rfl⟩ := hrel
          by_cases hjk : j < k
          · have hjt : j < t.length := by have := HK.out; omega
            have hc : w2.cell? ⟨b2, o2 + j, none⟩ = some (.int .u8 ((t.getD j 0).toNat : Int)) := C2.out.at j (by rw [List.length_take]; omega) _ (by simp [List.getD, hjk])
            have hst := Cod.fold_take f0 t j hjt
            have hub := (FS.out j hj).2 hjk
            have HST := Lib.hid hst
            clear hst
            generalize t.getD j 0 = c at hc HST
            generalize Cod.fold f0 (t.take j) = u at hub HST ⊢
            have hcb := c.toNat_lt
            have hor : bits BinOp.or IntKind.u64 ((u : Int) * 256) (c.toNat : Int) = ((u * 256 + c.toNat : Nat) : Int) := by
              rw [show ((u : Int) * 256) = ((u * 256 : Nat) : Int) from by simp, u64_or_nat _ _ (by omega) (by omega)]
              have := Nat.two_pow_add_eq_or_of_lt (i := 8) (b := c.toNat) (by omega) u
              rw [show u * 256 = 2 ^ 8 * u from by omega, ← this]
            have hub2 : u * 256 < 18446744073709551616 := by omega
            generalize hy : u * 256 + c.toNat = y at hor HST
            clear hy hub
            go_wp2
            go_round
            case rel => exact ⟨j + 1, by omega, by go_num, by rw [HST.out]⟩
            case measure => simp [intOf]; omega
          · obtain rfl : j = k := by omega
            have hb0 := behind_any (Cod.fold f0 (t.take j)) (w2.drewN nq)
            have hx := (FS.out j (Nat.le_refl _)).1
            have R3 : Hid (Rd (w2.drewN nq) B (t.drop j)) := R2.out.below ⟨rfl, rfl, rfl, Nat.le_refl _, fun _ _ => rfl⟩
            have G3 : Hid (w.grownBy (w2.drewN nq) (some B)) := ⟨G2.out.os, G2.out.tape, G2.out.output, G2.out.size, G2.out.block⟩
            generalize hxx : Cod.fold f0 (t.take j) = x at hb0 hx NX ⊢
            have HXX := Lib.hid hxx
            generalize w2.drewN nq = w3 at R3 G3 hb0 ⊢
            clear hxx C2 R2 G2
            by_cases hbh : Cod.bh x = j
            · rw [if_pos hbh] at NX
              rw [hbh] at hb0
              clear hbh
              go_wp2_with fail
              refine hb0.mono ?_
              rintro e w' ⟨rfl, rfl⟩
              go_wp2
              go_ret
              rw [NX.out]
              exact ⟨rfl, .inl ⟨rfl, R3.out⟩, G3.out⟩
            · rw [if_neg hbh] at NX
              have hbh' : ¬ ((Cod.bh x : Nat) : Int) = (j : Int) := by omega
              have F := Lib.hid (fail_any B 3 (t.drop j, 0) w3 (.inl ⟨rfl, R3.out⟩) (by omega))
              rw [Cod.failS_zero] at F
              clear hbh
              generalize Cod.bh x = q at hb0 hbh'
              go_wp2_with fail
              refine hb0.mono ?_
              rintro e w' ⟨rfl, rfl⟩
              go_wp2_with fail
              refine F.out.mono ?_
              rintro e w4 ⟨rfl, h4, g4⟩
              have H4 := Lib.hid h4; have G4 := Lib.hid (grown_trans G3.out g4)
              clear h4 g4 F
              go_wp2
              go_ret
              rw [NX.out]
              exact ⟨rfl, H4.out, G4.out⟩
  · have T := Lib.hid (take_none B 1 (l, e) w h he)
    have H := Lib.hid h
    have hA : Cod.anyS (l, e) = (0, (l, e)) := Cod.anyS_err he
    rw [hA]
    clear h hA
    go_enter Tryz.func52, Tryz.ntmps52
    go_wp2_with fail
    refine T.out.mono ?_
    rintro e w' ⟨rfl, rfl⟩
    go_wp2
    go_ret
    exact ⟨rfl, H.out, grownA_refl _ _⟩
set_option maxHeartbeats 1000000 in
theorem num_all (B : Nat) (most : Int) (s : Cod.S) (w : World) (h : RdA w B s) (hl : s.1.length ≤ 149000000000000) (hm : -9223372036854775808 ≤ most ∧ most ≤ 9223372036854775807) :
    Calls Tryz.prog 30 #[.pointer (some ⟨B, 0, none⟩), .int .i64 most] w (GotA w B (.int .i64 (Cod.numS most s).1) (Cod.numS most s).2) := by
  have N := Lib.hid (number_all B s w h hl)
  have hx := Cod.anyS_lt s
  have hz := fun e => Cod.anyS_zero (s := s) e
  unfold Cod.numS
  generalize Cod.anyS s = r at N hx hz ⊢
  obtain ⟨x, t⟩ := r
  simp only at N hx hz ⊢
  obtain ⟨m1, m2⟩ := hm
  clear h hl
  by_cases hbig : 9223372036854775808 ≤ x
  · rw [if_pos (.inl hbig)]
    have hq : (x : Int) / 9223372036854775808 = 1 := by omega
    clear hbig
    go_enter Tryz.func30, Tryz.ntmps30
    go_wp2_with fail
    refine N.out.mono ?_
    rintro e w1 ⟨rfl, h1, g1⟩
    have F := Lib.hid (fail_any B 5 t w1 h1 (by omega))
    have G1 := Lib.hid g1
    clear h1 g1 N
    go_wp2_with fail
    refine F.out.mono ?_
    rintro e w2 ⟨rfl, h2, g2⟩
    have H2 := Lib.hid h2; have G2 := Lib.hid (grown_trans G1.out g2)
    clear h2 g2 F
    go_wp2
    go_ret
    exact ⟨rfl, H2.out, G2.out⟩
  · have hq : (x : Int) / 9223372036854775808 = 0 := by omega
    by_cases hgt : most < (x : Int)
    · rw [if_pos (.inr hgt)]
      have hgt' : (x : Int) > most := hgt
      clear hbig
      go_enter Tryz.func30, Tryz.ntmps30
      go_wp2_with fail
      refine N.out.mono ?_
      rintro e w1 ⟨rfl, h1, g1⟩
      have F := Lib.hid (fail_any B 5 t w1 h1 (by omega))
      have G1 := Lib.hid g1
      clear h1 g1 N
      go_wp2_with fail
      refine F.out.mono ?_
      rintro e w2 ⟨rfl, h2, g2⟩
      have H2 := Lib.hid h2; have G2 := Lib.hid (grown_trans G1.out g2)
      clear h2 g2 F
      go_wp2
      go_ret
      exact ⟨rfl, H2.out, G2.out⟩
    · rw [if_neg (by omega)]
      have hgt' : ¬ (x : Int) > most := hgt
      go_enter Tryz.func30, Tryz.ntmps30
      go_wp2_with fail
      refine N.out.mono ?_
      rintro e w1 ⟨rfl, h1, g1⟩
      have H1 := Lib.hid h1; have G1 := Lib.hid g1
      clear h1 g1 N
      go_wp2
      go_ret
      exact ⟨rfl, H1.out, G1.out⟩
/-- what reading numbers that rise comes to -/
def GotRise (w : World) (B : Nat) (r : Option (List Int) × Cod.S) (e : Ending) (w' : World) : Prop :=
  ∃ v, e = .returned v ∧ w'.ownsRow w.heap.size 3 1 v (r.1.getD []).length (ints (r.1.getD [])) ∧ RdA w' B r.2 ∧ w.grownBy w' (some B)
theorem ownI_stays {w w' : World} {T R : Nat} {ty : TypeId} {n : Nat} {v : Value} {xs : List Value} (h : w.ownsRow T ty 1 v n xs) (hg : w.grownBy w' (some R)) (hR : R < T) : w'.ownsRow T ty 1 v n xs := own_stays h hg hR
theorem numS_small {many : Int} {s : Cod.S} (h0 : 0 ≤ many) : ((Cod.numS many s).1 : Int) ≤ many := by
  by_cases h : (Cod.numS many s).2.2 = 0
  · exact (Cod.numS_le h).1
  · rw [Cod.numS_zero h]; exact h0

set_option maxHeartbeats 4000000 in
set_option maxRecDepth 100000 in
theorem rising_all (B : Nat) (many top : Int) (s : Cod.S) (w : World) (h : RdA w B s) (hl : s.1.length ≤ 149000000000000) (hm : 0 ≤ many ∧ many ≤ 100000) (ht : -1 ≤ top ∧ top ≤ 9223372036854775807) :
    Calls Tryz.prog 54 #[.pointer (some ⟨B, 0, none⟩), .int .i64 many, .int .i64 top] w (GotRise w B (Cod.riseAll many top s)) := by
  have hBw := h.lt
  have N1 := Lib.hid (num_all B many s w h hl (by omega))
  have hn := numS_small (s := s) hm.1
  obtain ⟨R, hR⟩ : ∃ R, R = Cod.riseAll many top s := ⟨_, rfl⟩
  rw [← hR]
  have HR : Hid (Cod.riseS top (Cod.numS many s).1 (-1) [] (Cod.numS many s).2 = R) := by show Cod.riseS _ _ _ _ _ = R; rw [hR]; rfl
  have hlen := Cod.numS_len many s
  generalize Cod.numS many s = q at N1 hn HR hlen
  obtain ⟨n, s1⟩ := q
  simp only at N1 hn HR hlen
  have HL : Hid (s1.1.length ≤ 149000000000000) := Nat.le_trans hlen hl
  obtain ⟨hm1, hm2⟩ := hm
  obtain ⟨ht1, ht2⟩ := ht
  have hn5 : n ≤ 100000 := by omega
  clear h hl hR hlen hn
  go_enter Tryz.func54, Tryz.ntmps54
  go_wp2_with fail
  refine N1.out.mono ?_
  rintro e w1 ⟨rfl, r1, g1⟩
  have R1 := Lib.hid r1; have G1 := Lib.hid g1
  clear r1 g1 N1
  go_wp2
  go_loopw [8, 9, 17] (fun v u i wr => ∃ (k : Nat) (last : Int) (acc : List Int) (st : Cod.S), k ≤ n ∧ i = .int .i64 k ∧ u = .int .i64 last ∧ -1 ≤ last ∧ last ≤ top ∧ acc.length = k ∧ Cod.riseS top (n - k) last acc st = R ∧ st.1.length ≤ 149000000000000 ∧ wr.ownsRow w.heap.size 3 1 v k (ints acc) ∧ RdA wr B st ∧ w.grownBy wr (some B)) (fun _ _ i _ => n - (intOf i).toNat)
  case atStart => exact ⟨0, -1, [], s1, Nat.zero_le _, rfl, rfl, by omega, ht1, rfl, by rw [Nat.sub_zero]; exact HR.out, HL.out, World.ownsRow_nil _ _ _ _, R1.out, G1.out⟩
  case round =>
    obtain ⟨k, last, acc, st, hk, rfl, rfl, hl1, hl2, hacc, hrs, hst, hown, hrd, hgr⟩ := hrel
    have OW := Lib.hid hown; have RD := Lib.hid hrd; have GR := Lib.hid hgr; have RS := Lib.hid hrs; have AC := Lib.hid hacc; have ST := Lib.hid hst
    clear hown hrd hgr hrs hacc hst
    by_cases hkn : k < n
    · have NU := Lib.hid (num_all B (top - 1 - last) st wr RD.out ST.out (by omega))
      have hrs := RS.out
      rw [show n - k = (n - (k + 1)) + 1 by omega] at hrs
      have hrs : (if (Cod.numS (top - 1 - last) st).2.2 = 0 then Cod.riseS top (n - (k + 1)) (last + 1 + (Cod.numS (top - 1 - last) st).1) (acc ++ [last + 1 + ((Cod.numS (top - 1 - last) st).1 : Int)]) (Cod.numS (top - 1 - last) st).2 else (none, (Cod.numS (top - 1 - last) st).2)) = R := hrs
      have hle := fun e => Cod.numS_le (s := st) (most := top - 1 - last) e
      have hln := Cod.numS_len (top - 1 - last) st
      generalize Cod.numS (top - 1 - last) st = q at NU hrs hle hln
      obtain ⟨d, s2⟩ := q
      simp only at NU hrs hle hln
      have hln2 : Hid (s2.1.length ≤ 149000000000000) := Nat.le_trans hln ST.out
      have hkn' : (k : Int) < n := by omega
      clear hln
      by_cases he : s2.2 = 0
      · rw [if_pos he] at hrs
        obtain ⟨hd1, hd2⟩ := hle he
        have HS := Lib.hid hrs
        have HE := Lib.hid he
        clear hle hrs he RS
        go_wp2_with fail
        refine NU.out.mono ?_
        rintro e w2 ⟨rfl, r2, g2⟩
        have ER := Lib.hid (err_any B _ w2 r2)
        rw [HE.out] at ER
        have R2 := Lib.hid r2; have G2 := Lib.hid (grown_trans GR.out g2); have O2 := Lib.hid (ownI_stays OW.out g2 hBw)
        clear r2 g2 NU OW RD GR
        go_wp2_with fail
        refine ER.out.mono ?_
        rintro e w' ⟨rfl, rfl⟩
        clear ER
        have hsz := G2.out.size
        go_wp2_with (at_builtin; refine wpList_int isI64 _ rfl _ _ rfl w.heap.size k acc _ rfl O2.out _ rfl (by omega) hsz ?_)
        intro v3 w3 own3 b3
        have O3 := Lib.hid own3; have B3 := Lib.hid b3
        clear own3 b3
        go_wp2
        go_roundw
        case rel => exact ⟨k + 1, last + 1 + d, acc ++ [last + 1 + (d : Int)], s2, by omega, by go_num, rfl, by omega, by omega, by rw [List.length_append, AC.out]; rfl, HS.out, hln2.out, O3.out, R2.out.under hBw B3.out, grown_carry G2.out B3.out⟩
        case measure => simp [intOf]; omega
      · rw [if_neg he] at hrs
        have he' : ¬ (s2.2 : Int) = 0 := by omega
        subst hrs
        clear hle he RS HR
        go_wp2_with fail
        refine NU.out.mono ?_
        rintro e w2 ⟨rfl, r2, g2⟩
        have ER := Lib.hid (err_any B _ w2 r2)
        have R2 := Lib.hid r2; have G2 := Lib.hid (grown_trans GR.out g2)
        generalize (s2.2 : Int) = ee at ER he'
        clear r2 g2 NU OW RD GR
        go_wp2_with fail
        refine ER.out.mono ?_
        rintro e w' ⟨rfl, rfl⟩
        clear ER
        go_wp2
        go_ret
        exact ⟨_, rfl, World.ownsRow_nil _ _ _ _, R2.out, G2.out⟩
    · obtain rfl : k = n := by omega
      have hkn' : ¬ (k : Int) < k := by omega
      have hrs := RS.out
      rw [Nat.sub_self] at hrs
      have HS : Hid ((some acc, st) = R) := hrs
      clear hrs RS HR
      go_wp2
      go_ret
      rw [← HS.out]
      refine ⟨_, rfl, ?_, RD.out, GR.out⟩
      show _
      have := OW.out
      rw [← AC.out] at this
      exact this
end Go.Proofs.YtapmbankpbiglaaGreatDoor
/- A text of any bytes, as the program reads it. -/
namespace Go.Proofs.YtapmbankpbiglaaGreatDoor
open Go Go.RowKit
set_option linter.unusedVariables false
set_option maxRecDepth 1000000

namespace Cod
/-- what reading a text comes to -/
def textS (most : Int) (s : S) : ByteArray × S :=
  if (numS most s).1 ≤ (numS most s).2.1.length then (⟨((numS most s).2.1.take (numS most s).1).toArray⟩, ((numS most s).2.1.drop (numS most s).1, (numS most s).2.2)) else (ByteArray.empty, failS 4 (numS most s).2)
theorem numS_err {most : Int} {s : S} (h : s.2 ≠ 0) (hm : 0 ≤ most) : numS most s = (0, s) := by
  unfold numS
  rw [anyS_err h]
  rw [if_neg (by simp only; omega)]
theorem textS_err {most : Int} {s : S} (h : s.2 ≠ 0) (hm : 0 ≤ most) : textS most s = (ByteArray.empty, s) := by
  unfold textS
  rw [numS_err h hm, if_pos (Nat.zero_le _)]
  rfl
theorem textS_len (most : Int) (s : S) : (textS most s).2.1.length ≤ s.1.length := by
  have h := numS_len most s
  unfold textS
  split
  · simp only [List.length_drop]; omega
  · unfold failS; split
    · simp
    · exact h
end Cod
set_option maxHeartbeats 2000000 in
theorem take_end (B : Nat) (w : World) (h : w.heap[B]? = some (endObj 0)) :
    Calls Tryz.prog 76 #[.pointer (some ⟨B, 0, none⟩), .int .i64 0] w (GotA w B (.slice none 0 0) ([], 0)) := by
  have hA : RdA w B ([], 0) := .inr ⟨rfl, h⟩
  have E := Lib.hid (err_any B ([], 0) w hA)
  obtain ⟨c0, c1, c2⟩ := end_cells h
  have f0 := end_frozen h 0
  have HH := Lib.hid h
  clear h hA
  go_enter Tryz.func76, Tryz.ntmps76
  go_wp2_with fail
  refine E.out.mono ?_
  rintro e w' ⟨rfl, rfl⟩
  go_wp2
  go_ret
  refine ⟨rfl, .inr ⟨rfl, ?_⟩, grown_set _ _ _⟩
  have := HH.out
  unfold endObj at this ⊢
  rw [heap_setCell_same _ B 0 _ _ _ this]
  rfl
set_option maxHeartbeats 2000000 in
theorem text_all (B : Nat) (most : Int) (s : Cod.S) (w : World) (h : RdA w B s) (hl : s.1.length ≤ 1000000) (hm : 0 ≤ most ∧ most ≤ 1000000) :
    Calls Tryz.prog 80 #[.pointer (some ⟨B, 0, none⟩), .int .i64 most] w (GotA w B (.string (Cod.textS most s).1) (Cod.textS most s).2) := by
  have N := Lib.hid (num_all B most s w h (by omega) (by omega))
  have hsm := numS_small (s := s) hm.1
  have hle := Cod.numS_len most s
  have hz := fun e => Cod.numS_zero (s := s) (most := most) e
  unfold Cod.textS
  generalize Cod.numS most s = r at N hsm hle hz ⊢
  obtain ⟨n, l, e⟩ := r
  simp only at N hsm hle hz ⊢
  clear h
  by_cases he : e = 0
  · subst he
    clear hz
    by_cases hn : n ≤ l.length
    · rw [if_pos hn]
      have HN := Lib.hid hn
      clear hn
      go_enter Tryz.func80, Tryz.ntmps80
      go_wp2_with fail
      refine N.out.mono ?_
      rintro e w1 ⟨rfl, h1, g1⟩
      have G1 := Lib.hid g1
      clear g1 N
      rcases h1 with ⟨_, h1⟩ | ⟨hl0, h1⟩
      · have T := Lib.hid (take_live B n l w1 h1 HN.out (by omega))
        clear h1
        go_wp2_with fail
        refine T.out.mono ?_
        rintro e w2 ⟨b, o, rfl, hc, hr2, hg2⟩
        have hnl : (l.take n).length = n := by rw [List.length_take]; have := HN.out; omega
        have hcv := hc.lies.convert (P := Tryz.prog) n hnl.symm n 22 5 9 Tryz.underlying22 Tryz.underlying5 Tryz.underlying9
        have R := Lib.hid hr2; have G := Lib.hid (grown_trans G1.out hg2)
        clear hr2 hg2 hc hnl T
        go_wp2_with fail
        go_ret
        exact ⟨rfl, .inl ⟨rfl, R.out⟩, G.out⟩
      · simp only at hl0 h1
        subst hl0
        obtain rfl : n = 0 := by have := HN.out; simpa using this
        have T := Lib.hid (take_end B w1 h1)
        clear h1
        go_wp2_with fail
        refine T.out.mono ?_
        rintro e w2 ⟨rfl, hr2, hg2⟩
        have R := Lib.hid hr2; have G := Lib.hid (grown_trans G1.out hg2)
        have hcv := (Lies.nil w2 none).convert (P := Tryz.prog) 0 rfl 0 22 5 9 Tryz.underlying22 Tryz.underlying5 Tryz.underlying9
        clear hr2 hg2 T
        go_wp2_with fail
        go_ret
        exact ⟨rfl, R.out, G.out⟩
    · rw [if_neg hn]
      have hn2 : l.length < n := by omega
      clear hn
      go_enter Tryz.func80, Tryz.ntmps80
      go_wp2_with fail
      refine N.out.mono ?_
      rintro e w1 ⟨rfl, h1, g1⟩
      have G1 := Lib.hid g1
      have T := Lib.hid (take_short B n l w1 h1 hn2 (by omega))
      clear g1 N h1
      go_wp2_with fail
      refine T.out.mono ?_
      rintro e w2 ⟨rfl, hr2, hg2⟩
      have R := Lib.hid hr2; have G := Lib.hid (grown_trans G1.out hg2)
      have hcv := (Lies.nil w2 none).convert (P := Tryz.prog) 0 rfl 0 22 5 9 Tryz.underlying22 Tryz.underlying5 Tryz.underlying9
      clear hr2 hg2 T
      go_wp2_with fail
      go_ret
      exact ⟨rfl, R.out, G.out⟩
  · obtain rfl := hz he
    rw [if_pos (Nat.zero_le _)]
    clear hz hsm
    go_enter Tryz.func80, Tryz.ntmps80
    go_wp2_with fail
    refine N.out.mono ?_
    rintro e9 w1 ⟨rfl, h1, g1⟩
    have G1 := Lib.hid g1
    have H1 := Lib.hid h1
    have T := Lib.hid (take_none B 0 (l, e) w1 h1 he)
    clear g1 N h1
    go_wp2_with fail
    refine T.out.mono ?_
    rintro e9 w2 ⟨rfl, rfl⟩
    have hcv := (Lies.nil w1 none).convert (P := Tryz.prog) 0 rfl 0 22 5 9 Tryz.underlying22 Tryz.underlying5 Tryz.underlying9
    clear T
    go_wp2_with fail
    go_ret
    exact ⟨rfl, H1.out, G1.out⟩
end Go.Proofs.YtapmbankpbiglaaGreatDoor
