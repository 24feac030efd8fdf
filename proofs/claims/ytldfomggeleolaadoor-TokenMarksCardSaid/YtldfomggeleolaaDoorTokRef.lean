/- The document's Pieces, Count and Single. -/
import Derived.Test.YtldfomggeleolaaDoorTokPlain
import Derived.Test.YtldfomggeleolaaDoorPairs
import Derived.Test.YtldfomggeleolaaDoorFoldRef2
import Derived.Deep.DeepCutAuto
import Derived.RegionTactic
import Derived.BigRegion
namespace Go.Proofs.YtldfomggeleolaaDoor
open Go Go.RowKit
set_option linter.unusedVariables false

namespace Tok
open Utf
theorem word_neg (r : Int) (h : r < 0) : word r = false := by
  unfold word Fol.letter Fol.digit
  simp
  omega
/-- a piece, as it lies -/
def pv (s : ByteArray) (x : Nat × Nat × Bool) : Value × Value := (.string (s.extract x.1 x.2.1), .bool x.2.2)
/-- what the document has made of a text up to p -/
def Upto (s : ByteArray) (p : Nat) (out : List (Nat × Nat × Bool)) : Prop :=
  (p = 0 ∧ out = []) ∨ ∃ init a b, out = init ++ [(a, p, b)] ∧ a < p ∧ pcs s = init ++ (a, sk s b p, b) :: pcF s s.size (sk s b p)
theorem Upto.new {s : ByteArray} {p : Nat} {out : List (Nat × Nat × Bool)} (h : Upto s p out) (hp : p < s.size) (hn : out = [] ∨ ∃ init a b, out = init ++ [(a, p, b)] ∧ b ≠ wd s p) : Upto s (p + (nx s p).2) (out ++ [(p, p + (nx s p).2, wd s p)]) := by
  have h1 := Utf.nx_step s p hp
  have h4 := sk_gt hp rfl
  rcases h with ⟨rfl, rfl⟩ | ⟨init, a, b, rfl, hab, he⟩
  · refine .inr ⟨[], 0, wd s 0, rfl, by omega, ?_⟩
    rw [← sk_go hp rfl, List.nil_append]
    unfold pcs
    rw [pc_step s s.size 0 hp (by omega), pc_fuel s (s.size - 1) s.size _ (by omega) (by omega)]
  · have hb : b ≠ wd s p := by
      rcases hn with h | ⟨i', a', b', h, hne⟩
      · simp at h
      · have := List.append_inj_right' h rfl
        simp at this
        rw [this.2]; exact hne
    refine .inr ⟨init ++ [(a, p, b)], p, wd s p, rfl, by omega, ?_⟩
    rw [sk_no (fun h => hb h.symm)] at he
    rw [← sk_go hp rfl, he, pc_step s s.size p hp (by omega), pc_fuel s (s.size - 1) s.size _ (by omega) (by omega), List.append_assoc]
    rfl
theorem Upto.more {s : ByteArray} {p : Nat} {init : List (Nat × Nat × Bool)} {a : Nat} {b : Bool} (h : Upto s p (init ++ [(a, p, b)])) (hp : p < s.size) (hb : b = wd s p) : a < p ∧ Upto s (p + (nx s p).2) (init ++ [(a, p + (nx s p).2, b)]) := by
  have h1 := Utf.nx_step s p hp
  rcases h with ⟨rfl, h⟩ | ⟨i', a', b', h, hab, he⟩
  · simp at h
  · have h2 := List.append_inj_right' h rfl
    have h3 := List.append_inj_left' h rfl
    simp at h2
    obtain ⟨rfl, rfl⟩ := h2
    subst h3
    exact ⟨hab, .inr ⟨init, a, b, rfl, by omega, by rw [← sk_go hp hb.symm]; exact he⟩⟩
theorem Upto.done {s : ByteArray} {p : Nat} {out : List (Nat × Nat × Bool)} (h : Upto s p out) (hp : s.size ≤ p) : out = pcs s := by
  rcases h with ⟨rfl, rfl⟩ | ⟨init, a, b, rfl, hab, he⟩
  · unfold pcs; rw [pc_end s _ 0 hp]
  · rw [he, sk_end hp, pc_end s _ p hp]
theorem Upto.len {s : ByteArray} {p : Nat} {out : List (Nat × Nat × Bool)} (h : Upto s p out) : out = [] ∨ ∃ init a b, out = init ++ [(a, p, b)] ∧ a < p := by
  rcases h with ⟨_, h⟩ | ⟨init, a, b, h, hab, _⟩
  · exact .inl h
  · exact .inr ⟨init, a, b, h, hab⟩
theorem text_join (s : ByteArray) (a p e : Nat) (h1 : a ≤ p) (h2 : p ≤ e) : s.extract a p ++ s.extract p e = s.extract a e := by
  apply ByteArray.ext
  rw [ByteArray.data_append, ByteArray.data_extract, ByteArray.data_extract, ByteArray.data_extract, Array.extract_append_extract]
  congr 1 <;> omega
end Tok
theorem isPiece : P2 Tryd.prog 39 42 24 := ⟨Tryd.underlying39, by kernel_rfl⟩

theorem own_mono2 {w : World} {B B' k : Nat} {ty : TypeId} {n : Nat} {v : Value} {xs : List Value} (h : w.ownsRow B ty k v n xs) (hB : B' ≤ B) : w.ownsRow B' ty k v n xs := by
  refine ⟨h.1, ?_⟩
  rcases h.2 with q | ⟨g, cap, cur, q1, q2, q3⟩
  · exact .inl q
  · exact .inr ⟨g, cap, cur, q1, Nat.le_trans hB q2, q3⟩
def pvs (s : ByteArray) (l : List (Nat × Nat × Bool)) : List (Value × Value) := l.map (Tok.pv s)
theorem pvs_set (s : ByteArray) (init : List (Nat × Nat × Bool)) (a p e : Nat) (b : Bool) : (pc (pvs s (init ++ [(a, p, b)]))).set (init.length * 2) (.string (s.extract a e)) = pc (pvs s (init ++ [(a, e, b)])) := by
  have hl : init.length < (pvs s (init ++ [(a, p, b)])).length := by simp [pvs]
  rw [pc_set _ _ _ hl]
  congr 1
  simp [pvs, Tok.pv]
set_option maxHeartbeats 4000000 in
set_option maxRecDepth 100000 in
theorem refPieces_is (s : ByteArray) (w : World) (hs : s.size ≤ 100000) :
    Calls Tryd.prog 21 #[.string s] w fun e w' => ∃ v, e = .returned v ∧ w'.ownsRow w.heap.size 42 2 v (Tok.pcs s).length (pc (pvs s (Tok.pcs s))) ∧ Below w.heap.size w w' := by
  have EN := Lib.hid (refEnds_is s w hs)
  obtain ⟨all, hall⟩ : ∃ all, all = Utf.ends s s.size 0 := ⟨_, rfl⟩
  have hlen : all.length ≤ s.size := by rw [hall]; have := Utf.ends_len s s.size 0 (Nat.zero_le _); omega
  have HA : Hid (all.drop 0 = Utf.ends s s.size 0) := hall
  rw [← hall] at EN
  clear hall
  have hl := casts_len all
  go_enter Tryd.func21, Tryd.ntmps21
  go_wp2_with fail
  refine EN.out.mono ?_
  rintro e w1 ⟨v, rfl, hown, hb⟩
  obtain ⟨_, q, c, rfl, _, lies, _⟩ := own_liesI hown
  have LI := Lib.hid lies; have B := Lib.hid hb
  rw [hl] at *
  clear EN hown hb lies hl
  go_wp2
  go_loopw [3, 4, 14] (fun v a i wr => ∃ (k p f : Nat) (out : List (Nat × Nat × Bool)), i = .int .i64 k ∧ a = .int .i64 p ∧ k ≤ all.length ∧ p ≤ s.size ∧ s.size ≤ p + f ∧ all.drop k = Utf.ends s f p ∧ out.length ≤ p ∧ Tok.Upto s p out ∧
    wr.ownsRow w1.heap.size 42 2 v out.length (pc (pvs s out)) ∧ Below w1.heap.size w1 wr) (fun _ _ i _ => all.length - (intOf i).toNat)
  case atStart => exact ⟨0, 0, s.size, [], rfl, rfl, Nat.zero_le _, Nat.zero_le _, by omega, HA.out, by simp, .inl ⟨rfl, rfl⟩, World.ownsRow_nil _ _ _ _, Below.refl _ _⟩
  case round =>
    obtain ⟨k, p, f, out, rfl, rfl, hk, hp, hf, hd, hol, hup, hown, hb1⟩ := hrel
    have HD := Lib.hid hd; have UP := Lib.hid hup; have OW := Lib.hid hown; have BV := Lib.hid hb1
    have hsz := hb1.size
    clear hd hup hown hb1
    by_cases hlt : k < all.length
    · obtain ⟨b, o, rfl, hbb, hcell⟩ := (LI.out.below BV.out).at (by rw [casts_len]; omega)
      have hc := hcell k (by rw [casts_len]; exact hlt)
      rw [casts_get all k hlt] at hc
      clear hcell
      obtain ⟨hps, hge, hd3⟩ := Utf.ends_at s all k f p HD.out hf hlt
      have hst := Utf.nx_step s p hps
      have hsm := Utf.nx_small s p
      have NX := Lib.hid (fun w h => refNext_in s p w h (by omega))
      have WD : Hid (Tok.wd s p = word (Utf.nx s p).1) := rfl
      have UN := Lib.hid (UP.out.new hps)
      have UM := Lib.hid (fun init a b (e : out = init ++ [(a, p, b)]) (hb : b = Tok.wd s p) => (show Tok.Upto s p (init ++ [(a, p, b)]) from e ▸ UP.out).more hps hb)
      rw [hge] at hc
      have HD3 := Lib.hid hd3
      clear hge hd3
      generalize Tok.wd s p = bw at WD UN UM
      generalize Utf.nx s p = xm at hst hsm NX hc HD3 WD UN UM
      obtain ⟨x, n⟩ := xm
      simp only at hst hsm hc HD3 WD UN UM
      obtain ⟨n1, n2, n3⟩ := hst
      obtain ⟨x1, x2⟩ := hsm
      go_wp2_with fail
      refine (NX.out wr hps).mono ?_
      rintro e w3 ⟨rfl, hb3⟩
      have V3 := Lib.hid (thenBelow BV.out hb3)
      have O3 := Lib.hid (own_later2 OW.out hb3)
      have S3 := V3.out.size
      have WX := Lib.hid (refWord_any x w3)
      clear hb3 NX hc OW BV
      go_upto_region 7 with fail
      go_cut [9] (fun v wx => v = .bool bw ∧ wx = w3)
      case first =>
        by_cases hx : x < 0
        · have hxx : ¬ x ≥ 0 := by omega
          have hw : bw = false := by rw [WD.out]; exact Tok.word_neg x hx
          clear WX WD UN UM
          subst hw
          go_wp2
          go_meet
          exact ⟨rfl, rfl⟩
        · have hxx : x ≥ 0 := by omega
          have WW := WX.out
          rw [← WD.out] at WW
          have WV := Lib.hid WW
          clear WX WD UN UM WW
          go_wp2_with fail
          refine WV.out.mono ?_
          rintro e w' ⟨rfl, rfl⟩
          go_wp2_with fail
          go_meet
          exact ⟨rfl, rfl⟩
      case rest =>
        obtain ⟨rfl, rfl⟩ := hcut
        clear WX WD
        rcases UP.out.len with rfl | ⟨init, a, b', rfl, hab⟩
        · have UN2 := Lib.hid (UN.out (.inl rfl))
          clear UN UM UP
          obtain ⟨_, pp, cap, rfl, hcap, hnone, _⟩ := own_pc O3.out
          clear hnone
          go_wp2_with (at_builtin; refine wpList_pair isPiece _ rfl _ _ rfl w1.heap.size _ (pvs s []) _ rfl O3.out (.string (s.extract p (p + n))) (.bool bw) rfl rfl rfl (by first | (simp; omega) | omega) (by unfold maxLen; first | (simp; omega) | omega) S3 ?_)
          intro v2 w2 hown2 hb2 _
          have O2 := Lib.hid hown2; have V2 := Lib.hid (V3.out.trans hb2)
          clear hown2 hb2 O3 V3
          go_wp2
          go_roundw
          case rel => exact ⟨k + 1, p + n, f - 1, [] ++ [(p, p + n, bw)], by go_num, by go_num, by omega, by omega, by omega, HD3.out, by simp at hol ⊢; omega, UN2.out, by have h := O2.out; simp only [pvs, Tok.pv, List.map_append, List.map_cons, List.map_nil, List.length_append, List.length_cons, List.length_nil] at h ⊢; exact h, V2.out⟩
          case measure => simp [intOf]; omega
        · obtain ⟨_, pp, cap, rfl, hcap, hnone, hsome⟩ := own_pc O3.out
          have hll : (pvs s (init ++ [(a, p, b')])).length = init.length + 1 := by simp [pvs]
          have hl2 : (init ++ [(a, p, b')]).length = init.length + 1 := by simp
          rw [hll] at hcap O3 ⊢
          obtain ⟨g, rfl, hg0, hg1, c0, c1⟩ : ∃ g, pp = some ⟨g, 0, none⟩ ∧ w1.heap.size ≤ g ∧ g < wc.heap.size ∧ wc.cell? ⟨g, init.length * 2, none⟩ = some (.string (s.extract a p)) ∧ wc.cell? ⟨g, init.length * 2 + 1, none⟩ = some (.bool b') := by
            cases pp with
            | none => have := (hnone rfl).1; rw [← List.length_eq_zero_iff, hll] at this; omega
            | some ad =>
              obtain ⟨g, rfl, h1, h2, h3⟩ := hsome ad rfl
              have h4 := h3 init.length (by rw [hll]; omega)
              simp only [pvs, Tok.pv, List.map_append, List.map_cons, List.map_nil, List.getElem_append_right, List.length_map, Nat.le_refl, Nat.sub_self, List.getElem_cons_zero] at h4
              exact ⟨g, rfl, h1, h2, h4⟩
          have f0 := World.ownsRow.frozenAt (show wc.ownsRow w1.heap.size 42 2 (.slice (some ⟨g, 0, none⟩) (init ++ [(a, p, b')]).length cap) (init ++ [(a, p, b')]).length (pc (pvs s (init ++ [(a, p, b')]))) from by rw [hl2]; rw [hl2] at O3; exact O3.out) (init.length * 2)
          rw [hl2] at hol O3
          clear hnone hsome
          by_cases hbb2 : b' = bw
          · obtain ⟨_, hum⟩ := UM.out init a b' rfl hbb2
            have UN2 := Lib.hid hum
            have ST := Lib.hid (fun u => (O3.out.stored (init.length * 2) u))
            clear UN UM UP hum
            subst hbb2
            have hsl : ((s.extract a p).size : Int) + ((s.extract p (p + n)).size : Int) ≤ 100000 := by rw [ByteArray.size_extract, ByteArray.size_extract]; omega
            go_wp2
            go_region
            rw [Nat.min_eq_left (by omega)]
            have hst := (ST.out (.string (s.extract a (p + n))))
            rw [pvs_set] at hst
            have O5 := Lib.hid ((World.ownsRow.drew hst.1))
            have V5 := Lib.hid ((V3.out.setCell (p := ⟨g, init.length * 2, none⟩) hg0 (.string (s.extract a (p + n)))).drew)
            clear hst ST c0 c1 f0
            generalize (wc.setCell ⟨g, init.length * 2, none⟩ (.string (s.extract a (p + n)))).drew = w5 at O5 V5 ⊢
            go_wp2
            go_roundw
            case rel => exact ⟨k + 1, p + n, f - 1, init ++ [(a, p + n, b')], by go_num, by go_num, by omega, by omega, by omega, HD3.out, by simp; omega, UN2.out, by have h := O5.out; simp only [List.length_append, List.length_cons, List.length_nil] at h ⊢; exact h, V5.out⟩
            case measure => simp [intOf]; omega
          · have UN2 := Lib.hid (UN.out (.inr ⟨init, a, b', rfl, hbb2⟩))
            obtain rfl : bw = !b' := by revert hbb2; cases b' <;> cases bw <;> simp
            clear UN UM UP hbb2
            go_wp2_with (at_builtin; refine wpList_pair isPiece _ rfl _ _ rfl w1.heap.size _ (pvs s (init ++ [(a, p, b')])) _ rfl O3.out (.string (s.extract p (p + n))) (.bool (!b')) rfl rfl rfl (by first | (simp; omega) | omega) (by unfold maxLen; first | (simp; omega) | omega) S3 ?_)
            intro v2 w2 hown2 hb2 _
            have O2 := Lib.hid hown2; have V2 := Lib.hid (V3.out.trans hb2)
            clear hown2 hb2 O3 V3
            go_wp2
            go_roundw
            case rel => exact ⟨k + 1, p + n, f - 1, (init ++ [(a, p, b')]) ++ [(p, p + n, !b')], by go_num, by go_num, by omega, by omega, by omega, HD3.out, by simp at hol ⊢; omega, UN2.out, by have h := O2.out; simp only [pvs, Tok.pv, List.map_append, List.map_cons, List.map_nil, List.length_append, List.length_cons, List.length_nil] at h ⊢; exact h, V2.out⟩
            case measure => simp [intOf]; omega
    · have hp2 := Utf.ends_no s all k f p HD.out hf (by omega)
      have he := UP.out.done hp2
      subst he
      have h1 : ¬ (k : Int) < all.length := by omega
      go_wp2
      go_ret
      exact ⟨u3, rfl, own_mono2 OW.out B.out.size, thenBelow B.out BV.out⟩
end Go.Proofs.YtldfomggeleolaaDoor
