/- A reader that Read made: Rising, on what was written; and ints of the call's own. -/
import Derived.Test.YtkkepfbckpmbhaaCoderLive3
import Derived.Test.YtkkepfbckpmbhaaCoderRising
import Derived.Test.YtkkepfbckpmbhaaMemIntsOwn
namespace Go.Proofs.Ytkkepfbckpmbhaa
open Go Go.RowKit

theorem own_stays {w w' : World} {B R : Nat} {ty : TypeId} {n : Nat} {v : Value} {xs : List Value} (h : w.ownsRow B ty 1 v n xs) (hg : w.grownBy w' (some R)) (hR : R < B) : w'.ownsRow B ty 1 v n xs := by
  refine ⟨h.1, ?_⟩
  rcases h.2 with q | ⟨g, cap, cur, q1, q2, q3, q4⟩
  · exact .inl q
  · exact .inr ⟨g, cap, cur, q1, q2, by rw [hg.block g (Array.getElem?_eq_some_iff.1 q3).1 (fun e => by have := Option.some.inj e; omega)]; exact q3, q4⟩
theorem Rd.lt {w : World} {B : Nat} {l : List UInt8} (h : Rd w B l) : B < w.heap.size := by
  obtain ⟨_, _, _, hh, _, _⟩ := h
  exact (Array.getElem?_eq_some_iff.1 hh).1
/-- what is allotted above leaves a reader as it is -/
theorem Rd.below {w w' : World} {B : Nat} {l : List UInt8} (h : Rd w B l) (hb : Below w.heap.size w w') : Rd w' B l := by
  have hlt := h.lt
  obtain ⟨b, o, c, hh, hc, hl, hbB⟩ := h
  refine ⟨b, o, c, by rw [hb.block B hlt]; exact hh, fun i hi => ?_, hl, hbB⟩
  have h1 := hc i hi
  rw [hb.cell (p := ⟨b, o + i, none⟩) (World.block_lt_of_cell? w _ h1)]; exact h1
theorem Rd.under {w w' : World} {B T : Nat} {l : List UInt8} (h : Rd w B l) (hT : B < T) (hb : Below T w w') : Rd w' B l := by
  obtain ⟨b, o, c, hh, hc, hl, hbB⟩ := h
  refine ⟨b, o, c, by rw [hb.block B hT]; exact hh, fun i hi => ?_, hl, hbB⟩
  rw [hb.cell (p := ⟨b, o + i, none⟩) (Nat.lt_trans hbB hT)]; exact hc i hi
theorem grown_under {a w w' : World} {R : Option Nat} (h : a.grownBy w R) (hb : Below a.heap.size w w') : a.grownBy w' R :=
  ⟨hb.os.trans h.os, hb.tape.trans h.tape, hb.output.trans h.output, Nat.le_trans h.size hb.size, fun k hk hne => (hb.block k hk).trans (h.block k hk hne)⟩
theorem grown_carry {a w w' : World} {R : Option Nat} (h : a.grownBy w R) (hb : Below a.heap.size w w') : a.grownBy w' R :=
  ⟨hb.os.trans h.os, hb.tape.trans h.tape, hb.output.trans h.output, Nat.le_trans h.size hb.size, fun k hk hne => (hb.block k hk).trans (h.block k hk hne)⟩

namespace Cod
theorem gaps_split (l : List Int) (k n : Nat) (h : k ≤ n) : ∃ r, gaps l n = gaps l k ++ r := by
  induction n with
  | zero => obtain rfl : k = 0 := by omega
            exact ⟨[], by simp [gaps]⟩
  | succ n ih =>
    by_cases e : k = n + 1
    · subst e; exact ⟨[], by simp⟩
    · obtain ⟨r, hr⟩ := ih (by omega)
      exact ⟨r ++ enc (gap l n), by simp only [gaps, hr, List.append_assoc]⟩
def rem (l : List Int) (n k : Nat) : List UInt8 := (gaps l n).drop (gaps l k).length
theorem rem_zero (l : List Int) (n : Nat) : rem l n 0 = gaps l n := rfl
theorem rem_end (l : List Int) (n : Nat) : rem l n n = [] := by simp [rem]
theorem rem_step (l : List Int) (n k : Nat) (h : k < n) : rem l n k = enc (gap l k) ++ rem l n (k + 1) := by
  obtain ⟨r, hr⟩ := gaps_split l (k + 1) n h
  unfold rem
  rw [hr, List.drop_left]
  show (gaps l k ++ enc (gap l k) ++ r).drop _ = _
  rw [List.append_assoc, List.drop_left]
theorem rem_len (l : List Int) (n k : Nat) : (rem l n k).length ≤ (gaps l n).length := by simp [rem]
end Cod

/-- what Rising comes to -/
def GotI (w : World) (B : Nat) (l : List Int) (m : List UInt8) (e : Ending) (w' : World) : Prop :=
  ∃ v, e = .returned v ∧ w'.ownsRow w.heap.size 3 1 v l.length (ints l) ∧ Rd w' B m ∧ w.grownBy w' (some B)

set_option maxHeartbeats 2000000 in
set_option maxRecDepth 100000 in
theorem risingIn_live (B : Nat) (many top : Int) (l : List Int) (m : List UInt8) (w : World) (h : Rd w B (Cod.rising l ++ m)) (hall : Cod.riseN l = l.length) (hmany : (l.length : Int) ≤ many ∧ many ≤ 100000)
    (ht : -1 ≤ top ∧ top ≤ 9223372036854775807) (htop : ∀ i, i < l.length → l.getD i 0 ≤ top) (hl : (Cod.rising l ++ m).length ≤ 140737488355328) :
    Calls Try.prog 57 #[.pointer (some ⟨B, 0, none⟩), .int .i64 many, .int .i64 top] w (GotI w B l m) := by
  have hBw := h.lt
  obtain ⟨n, hn⟩ : ∃ n, n = l.length := ⟨_, rfl⟩
  have hl0 := hl
  unfold Cod.rising at h hl
  rw [hall, ← hn, List.append_assoc] at h hl
  rw [← hn] at hmany
  have hn1 := numIn_live B n many (Cod.gaps l n ++ m) w h (by omega) (by omega) hl
  have hgm : (Cod.gaps l n ++ m).length ≤ 140737488355328 := by rw [List.length_append] at hl; omega
  have HN := Lib.hid hn; have HT := Lib.hid htop; have HA := Lib.hid hall; have GM := Lib.hid hgm; have N1 := Lib.hid hn1
  obtain ⟨hmany1, hmany2⟩ := hmany
  obtain ⟨ht1, ht2⟩ := ht
  clear h hall htop hn hl hl0 hgm hn1
  go_enter Try.func57, Try.ntmps57
  go_wp2_with fail
  refine N1.out.mono ?_
  rintro e w1 ⟨rfl, r1, g1⟩
  have R1 := Lib.hid r1; have G1 := Lib.hid g1; clear r1 g1 N1
  go_wp2
  go_loopw [8, 9, 17] (fun v u i wr => ∃ k : Nat, k ≤ n ∧ i = .int .i64 k ∧ u = .int .i64 (Cod.lastOf l k) ∧ wr.ownsRow w.heap.size 3 1 v k (ints (l.take k)) ∧ Rd wr B (Cod.rem l n k ++ m) ∧ w.grownBy wr (some B)) (fun _ _ i _ => n - (intOf i).toNat)
  case atStart => exact ⟨0, Nat.zero_le _, rfl, rfl, World.ownsRow_nil _ _ _ _, R1.out, G1.out⟩
  case round =>
    obtain ⟨k, hk, rfl, rfl, hown, hrd, hgr⟩ := hrel
    have OW := Lib.hid hown; have RD := Lib.hid hrd; have GR := Lib.hid hgr
    clear hown hrd hgr
    by_cases hkn : k < n
    · have hkl : k < l.length := by rw [← HN.out]; exact hkn
      have hlt := Cod.rise_lt l k (by rw [HA.out]; exact hkl)
      have hge := Cod.last_ge l k (by rw [HA.out]; omega)
      have hup := HT.out k hkl
      have hgap : (Cod.gap l k : Int) = l.getD k 0 - (Cod.lastOf l k + 1) := by unfold Cod.gap; omega
      have hls : Cod.lastOf l (k + 1) = l.getD k 0 := by simp [Cod.lastOf]
      have htk : l.take (k + 1) = l.take k ++ [l.getD k 0] := by rw [List.take_succ_eq_append_getElem hkl]; simp [List.getD, List.getElem?_eq_getElem hkl]
      have rd := RD.out
      rw [Cod.rem_step l n k hkn, List.append_assoc] at rd
      have hrl : (Cod.enc (Cod.gap l k) ++ (Cod.rem l n (k + 1) ++ m)).length ≤ 140737488355328 := by
        rw [← List.append_assoc, ← Cod.rem_step l n k hkn, List.length_append]
        have := Cod.rem_len l n k; have := GM.out; rw [List.length_append] at this; omega
      obtain ⟨x, hx⟩ : ∃ x, x = l.getD k 0 := ⟨_, rfl⟩
      obtain ⟨u, hu⟩ : ∃ u, u = Cod.lastOf l k := ⟨_, rfl⟩
      obtain ⟨g, hg⟩ : ∃ g, g = Cod.gap l k := ⟨_, rfl⟩
      rw [← hu, ← hx] at hlt
      rw [← hu] at hge ⊢
      rw [← hx] at hup hls htk
      rw [← hg, ← hx, ← hu] at hgap
      rw [← hg] at rd hrl
      have nu := numIn_live B g (top - 1 - u) _ wr rd (by omega) (by omega) hrl
      have NU := Lib.hid nu; have LS := Lib.hid hls; have TK := Lib.hid htk
      have hxg : u + 1 + (g : Int) = x := by omega
      have XG := Lib.hid hxg
      clear nu hls htk rd hrl hx hu hg hxg hgap
      go_wp2_with fail
      refine NU.out.mono ?_
      rintro e w2 ⟨rfl, r2, g2⟩
      have er := err_live B _ w2 r2
      have R2 := Lib.hid r2; have G2 := Lib.hid (grown_trans GR.out g2); have O2 := Lib.hid (own_stays OW.out g2 hBw)
      have ER := Lib.hid er
      clear r2 g2 NU OW RD GR er
      go_wp2_with fail
      refine ER.out.mono ?_
      rintro e w' ⟨rfl, rfl⟩
      clear ER
      have hsz := G2.out.size
      rw [← XG.out] at hup hlt
      go_wp2_with (at_builtin; refine wpList_int isI64 _ rfl _ _ rfl w.heap.size k (l.take k) _ rfl O2.out _ rfl (by omega) hsz ?_)
      rw [XG.out]
      intro v3 w3 own3 b3
      have O3 := Lib.hid own3; have B3 := Lib.hid b3
      clear own3 b3
      go_wp2
      go_roundw
      case rel => exact ⟨k + 1, by omega, by go_num, by rw [LS.out], by rw [TK.out]; exact O3.out, R2.out.under hBw B3.out, grown_carry G2.out B3.out⟩
      case measure => simp [intOf]; omega
    · obtain rfl : k = n := by omega
      go_wp2
      go_ret
      have hown := OW.out
      have hrd := RD.out
      rw [Cod.rem_end, List.nil_append] at hrd
      rw [List.take_of_length_le (by rw [HN.out]; exact Nat.le_refl _), HN.out] at hown
      exact ⟨_, rfl, hown, hrd, GR.out⟩
end Go.Proofs.Ytkkepfbckpmbhaa
