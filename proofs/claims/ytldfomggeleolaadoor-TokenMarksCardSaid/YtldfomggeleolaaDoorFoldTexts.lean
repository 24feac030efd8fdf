/- Texts with small letters: the document's Text comes to the same; again it stays so. -/
import Derived.Test.YtldfomggeleolaaDoorUtfTexts
import Derived.Test.YtldfomggeleolaaDoorUtfMatch
import Derived.Test.YtldfomggeleolaaDoorFoldText
import Derived.Test.YtldfomggeleolaaDoorFoldRef
namespace Go.Proofs.YtldfomggeleolaaDoor
open Go Go.RowKit

namespace Utf
theorem getD_nat (l : List UInt8) (i : Nat) (h : i < l.length) : l.getD i 0 = l[i] := by simp [List.getD, List.getElem?_eq_getElem h]
/-- a sign's bytes are those that stand there -/
theorem bytes_at (s : ByteArray) (p : Nat) (h : ok s p) : (s.data.toList.drop p).take (nx s p).2 = enc (nx s p).1 := by
  have hm := mt_of_ok s p h
  have ha := acc_rk s p h
  rw [nx_yes h]
  obtain ⟨h1, h2, h3⟩ := hm
  simp only
  rw [ha]
  have hl : s.data.toList.length = s.size := Array.length_toList
  have hl2 : ((s.data.toList.drop p).take (led (gt s p) + 1)).length = led (gt s p) + 1 := by
    rw [List.length_take, List.length_drop, hl]; omega
  refine List.ext_getElem (by rw [hl2, h2]) fun i i1 i2 => ?_
  have h4 := h3 i (by omega)
  rw [getD_nat _ _ i2] at h4
  rw [List.getElem_take, List.getElem_drop]
  refine UInt8.toNat_inj.1 ?_
  have hh : p + i < s.data.toList.length := by rw [hl]; omega
  have h5 : gt s (p + i) = (s.data.toList[p + i]'hh).toNat := by
    show (s.data.toList.getD (p + i) 0).toNat = _
    rw [getD_nat _ _ hh]
  exact h5.symm.trans h4.symm
/-- a piece, as the document has it -/
theorem piece_ref (s : ByteArray) (p : Nat) : piece s p = if (nx s p).1 < 0 then (s.data.toList.drop p).take (nx s p).2 else enc (Fol.lower (nx s p).1) := by
  unfold piece
  by_cases h : (nx s p).1 < 0
  · rw [if_pos h]
    have hok : ¬ ok s p := fun hok => by rw [nx_yes hok] at h; simp only at h; omega
    rw [nx_no hok]
    rfl
  · rw [if_neg h]
    by_cases he : Fol.lower (nx s p).1 = (nx s p).1
    · rw [if_pos he, he, bytes_at s p (ok_of s p h)]
    · rw [if_neg he]
theorem sg_ok (s : ByteArray) (p : Nat) (h : ok s p) : sg (nx s p).1 = true := by rw [nx_yes h]; exact h.2.2.1
theorem found3' (S E : ByteArray) (q : Nat) (r : Int) (P : Nat) (h0 : nx E q = (r, sh r + 1)) (hg : gt E q = gt S q) (ha : acc E q (sh r) = acc S q (sh r)) (hgg : ∀ j, j < sh r → gt E (q + 1 + j) = gt S (q + 1 + j)) (hps : E.size = P)
    (hP : q + sh r + 1 ≤ P) (hp : P ≤ S.size) (hr : 0 ≤ r) : nx S q = (r, sh r + 1) ∧ ok S q := by
  have hk0 : ok E q := by
    refine ok_of _ _ ?_
    rw [h0]
    simp only; omega
  have h4 := nx_yes hk0
  have h2 : led (gt E q) = sh r := by
    have := congrArg Prod.snd (h4.symm.trans h0)
    simp only at this; omega
  have hk : ok S q := by
    have h3 := hk0
    unfold ok at h3 ⊢
    rw [h2, ha] at h3
    rw [← hg, h2]
    refine ⟨by omega, fun j hj => ?_, h3.2.2⟩
    have := h3.2.1 j hj
    unfold cont at this ⊢
    rw [hgg j hj] at this
    exact this
  refine ⟨?_, hk⟩
  rw [nx_yes hk, ← hg, h2, ← ha, ← h2, ← h4, h0, h2]
/-- a sign among others is found -/
theorem found3 (b c : List UInt8) (r : Int) (h : sg r = true) : nx ⟨(b ++ (enc r ++ c)).toArray⟩ b.length = (r, sh r + 1) ∧ ok ⟨(b ++ (enc r ++ c)).toArray⟩ b.length := by
  have h0 := found b r h
  have hle : (enc r).length = sh r + 1 := by unfold enc; rw [h]; exact encK_len _ _
  obtain ⟨S, hS⟩ : ∃ S : ByteArray, S = ⟨(b ++ (enc r ++ c)).toArray⟩ := ⟨_, rfl⟩
  have hz : S.size = b.length + (enc r).length + c.length := by
    rw [hS]; show (b ++ (enc r ++ c)).toArray.size = _
    simp; omega
  have hp : b.length + (enc r).length ≤ S.size := by omega
  have hpre : S.extract 0 (b.length + (enc r).length) = ⟨(b ++ enc r).toArray⟩ := by
    rw [hS]
    have e : (⟨(b ++ (enc r ++ c)).toArray⟩ : ByteArray).extract 0 (b.length + (enc r).length) = ⟨((b ++ (enc r ++ c)).toArray).extract 0 (b.length + (enc r).length)⟩ := by
      apply ByteArray.ext
      rw [ByteArray.data_extract]
    rw [e]
    congr 1
    rw [List.extract_toArray]
    congr 1
    rw [List.extract_eq_take_drop, List.drop_zero, Nat.sub_zero, ← List.append_assoc, List.take_append_of_le_length (by simp), List.take_of_length_le (by simp)]
  rw [← hS]
  rw [← hpre] at h0
  have hg := gt_pre S (b.length + (enc r).length) b.length hp (by omega)
  have ha := acc_pre S (b.length + (enc r).length) b.length hp (sh r) (by omega)
  have hgg := fun j (hj : j < sh r) => gt_pre S (b.length + (enc r).length) (b.length + 1 + j) hp (by omega)
  have hps := pre_size S (b.length + (enc r).length) hp
  clear hpre hS
  generalize S.extract 0 (b.length + (enc r).length) = E at h0 hg ha hgg hps
  exact found3' S E b.length r (b.length + (enc r).length) h0 hg ha hgg hps (by omega) hp (by unfold sg at h; simp only [decide_eq_true_eq] at h; omega)
/-- the signs of a text, step by step -/
def signs (s : ByteArray) : Nat → Nat → List Int
  | 0, _ => []
  | f + 1, p => if p < s.size then (nx s p).1 :: signs s f (p + (nx s p).2) else []
theorem signs_len (s : ByteArray) : ∀ f p, (signs s f p).length = (ends s f p).length := by
  intro f
  induction f with
  | zero => intro p; rfl
  | succ f ih => intro p; rw [signs, ends]; split <;> simp [ih]
theorem signs_valid (s : ByteArray) : ∀ f p, s.size ≤ p + f → vd s f p = true → (∀ r ∈ signs s f p, sg r = true) ∧ ft s f p = ((signs s f p).map Fol.lower).flatMap enc := by
  intro f
  induction f with
  | zero => intro p _ _; exact ⟨fun r h => by simp [signs] at h, rfl⟩
  | succ f ih =>
    intro p hf hv
    by_cases hp : p < s.size
    · have hn : ¬ (nx s p).1 < 0 := fun h => by rw [vd_no s _ p hp hf h] at hv; cases hv
      have hst := nx_step s p hp
      rw [vd_step s _ p hp hf hn, Nat.add_sub_cancel] at hv
      obtain ⟨i1, i2⟩ := ih _ (by omega) hv
      rw [ft_step s _ p hp hf, Nat.add_sub_cancel, signs, if_pos hp, i2, piece_ref, if_neg hn]
      refine ⟨fun r hr => ?_, by simp⟩
      rcases List.mem_cons.1 hr with rfl | hr
      · exact sg_ok s p (ok_of s p hn)
      · exact i1 r hr
    · rw [signs, if_neg hp]
      exact ⟨fun r h => by simp at h, by rw [ft_end s _ p (by omega)]; rfl⟩
/-- a text of signs' bytes -/
theorem made_of (X : ByteArray) : ∀ (ys : List Int) (b : List UInt8), X = ⟨(b ++ ys.flatMap enc).toArray⟩ → (∀ r ∈ ys, sg r = true) → ∀ g, X.size ≤ b.length + g →
    vd X g b.length = true ∧ (ends X g b.length).length = ys.length ∧ ft X g b.length = (ys.map Fol.lower).flatMap enc := by
  intro ys
  induction ys with
  | nil =>
    intro b hX _ g _
    have hz : X.size ≤ b.length := by rw [hX]; show (b ++ ([] : List Int).flatMap enc).toArray.size ≤ _; simp
    exact ⟨vd_end _ _ _ hz, by rw [ends_end _ _ _ hz]; rfl, by rw [ft_end _ _ _ hz]; rfl⟩
  | cons y ys ih =>
    intro b hX hs g hg
    have hy := hs y (by simp)
    rw [List.flatMap_cons] at hX
    obtain ⟨f1, f2⟩ := found3 b (ys.flatMap enc) y hy
    have hle : (enc y).length = sh y + 1 := by unfold enc; rw [hy]; exact encK_len _ _
    have hz : X.size = b.length + (enc y).length + (ys.flatMap enc).length := by
      rw [hX]; show (b ++ (enc y ++ ys.flatMap enc)).toArray.size = _
      simp; omega
    obtain ⟨i1, i2, i3⟩ := ih (b ++ enc y) (by rw [hX, List.append_assoc]) (fun r hr => hs r (by simp [hr])) (g - 1) (by rw [List.length_append]; omega)
    rw [← hX] at f1 f2
    have hnn : ¬ (nx X b.length).1 < 0 := by
      rw [f1]
      unfold sg at hy; simp only [decide_eq_true_eq] at hy; simp only; omega
    have hlt : b.length < X.size := by omega
    have e2 : b.length + (nx X b.length).2 = (b ++ enc y).length := by rw [f1, List.length_append, hle]
    refine ⟨?_, ?_, ?_⟩
    · rw [vd_step X g _ hlt hg hnn, e2]; exact i1
    · rw [ends_step X g _ hlt hg, e2, List.length_cons, i2, List.length_cons]
    · rw [ft_step X g _ hlt hg, e2, i3, piece_ref, if_neg hnn, f1]; rfl
theorem ft_len (s : ByteArray) : ∀ f p, p ≤ s.size → (ft s f p).length ≤ 4 * (s.size - p) := by
  intro f
  induction f with
  | zero => intro p _; simp [ft]
  | succ f ih =>
    intro p h
    rw [ft]
    split
    · rename_i hp
      have hst := nx_step s p hp
      have := ih (p + (nx s p).2) (by omega)
      have hpc : (piece s p).length ≤ 4 := by
        unfold piece
        split
        · rw [List.length_take]; omega
        · exact enc_le _
      have hpc2 : (piece s p).length ≤ 4 * (nx s p).2 := by omega
      rw [List.length_append]; omega
    · simp
/-- with small letters again -/
theorem again (s : ByteArray) (hv : valid s = true) (X : ByteArray) (hX : X = ⟨(ft s s.size 0).toArray⟩) :
    valid X = true ∧ (ends X X.size 0).length = (ends s s.size 0).length ∧ (⟨(ft X X.size 0).toArray⟩ : ByteArray) = X := by
  obtain ⟨h1, h2⟩ := signs_valid s s.size 0 (by omega) hv
  have h3 : ∀ r ∈ (signs s s.size 0).map Fol.lower, sg r = true := by
    intro r hr
    obtain ⟨x, hx, rfl⟩ := List.mem_map.1 hr
    have h4 := h1 x hx
    unfold sg at h4 ⊢
    simp only [decide_eq_true_eq] at h4 ⊢
    exact Fol.sign_lower x h4
  obtain ⟨i1, i2, i3⟩ := made_of X ((signs s s.size 0).map Fol.lower) [] (by rw [hX, h2]; rfl) h3 X.size (by simp)
  have e : ((signs s s.size 0).map Fol.lower).map Fol.lower = (signs s s.size 0).map Fol.lower := by
    rw [List.map_map]
    exact List.map_congr_left fun x _ => Fol.lower_lower x
  refine ⟨i1, ?_, ?_⟩
  · have i2' : (ends X X.size 0).length = _ := i2
    rw [i2', List.length_map, signs_len]
  · have i3' : ft X X.size 0 = _ := i3
    rw [i3', e, hX, h2]
end Utf

set_option maxHeartbeats 2000000 in
set_option maxRecDepth 100000 in
theorem refText_is (s : ByteArray) (w : World) (hs : s.size ≤ 100000) :
    Calls Tryd.prog 24 #[.string s] w (RetS w ⟨(Utf.ft s s.size 0).toArray⟩) := by
  have EN := Lib.hid (refEnds_is s w hs)
  obtain ⟨all, hall⟩ : ∃ all, all = Utf.ends s s.size 0 := ⟨_, rfl⟩
  have hlen : all.length ≤ s.size := by rw [hall]; have := Utf.ends_len s s.size 0 (Nat.zero_le _); omega
  have HA : Hid (all.drop 0 = Utf.ends s s.size 0) := hall
  rw [← hall] at EN
  obtain ⟨R, hR⟩ : ∃ R, R = Utf.ft s s.size 0 := ⟨_, rfl⟩
  rw [← hR]
  have HR := Lib.hid hR
  clear hall hR
  have hl := casts_len all
  go_enter Tryd.func24, Tryd.ntmps24
  go_wp2_with fail
  refine EN.out.mono ?_
  rintro e w1 ⟨v, rfl, hown, hb⟩
  obtain ⟨_, q, c, rfl, _, lies, _⟩ := own_liesI hown
  have LI := Lib.hid lies; have B := Lib.hid hb
  rw [hl] at *
  clear EN hown hb lies hl
  go_wp2
  go_loopw [3, 4, 12] (fun v a i wr => ∃ (k p f : Nat) (out : List UInt8), i = .int .i64 k ∧ a = .int .i64 p ∧ k ≤ all.length ∧ p ≤ s.size ∧ s.size ≤ p + f ∧ all.drop k = Utf.ends s f p ∧ out.length ≤ 4 * p ∧ R = out ++ Utf.ft s f p ∧
    wr.ownsRow w1.heap.size 5 1 v out.length (bys out) ∧ Below w1.heap.size w1 wr) (fun _ _ i _ => all.length - (intOf i).toNat)
  case atStart => exact ⟨0, 0, s.size, [], rfl, rfl, Nat.zero_le _, Nat.zero_le _, by omega, HA.out, by simp, HR.out, World.ownsRow_nil _ _ _ _, Below.refl _ _⟩
  case round =>
    obtain ⟨k, p, f, out, rfl, rfl, hk, hp, hf, hd, hol, hrest, hown, hb1⟩ := hrel
    have HD := Lib.hid hd; have RE := Lib.hid hrest; have OW := Lib.hid hown; have BV := Lib.hid hb1
    have hsz := hb1.size
    clear hd hrest hown hb1
    by_cases hlt : k < all.length
    · obtain ⟨b, o, rfl, hbb, hcell⟩ := (LI.out.below BV.out).at (by rw [casts_len]; omega)
      have hc := hcell k (by rw [casts_len]; exact hlt)
      rw [casts_get all k hlt] at hc
      clear hcell
      obtain ⟨hps, hge, hd3⟩ := Utf.ends_at s all k f p HD.out hf hlt
      have hst := Utf.nx_step s p hps
      have hsm := Utf.nx_small s p
      have hft := Utf.ft_step s f p hps hf
      have hpc : Hid (Utf.piece s p = if (Utf.nx s p).1 < 0 then (s.data.toList.drop p).take (Utf.nx s p).2 else Utf.enc (Fol.lower (Utf.nx s p).1)) := Utf.piece_ref s p
      have NX := Lib.hid (fun w h => refNext_in s p w h (by omega))
      rw [hge] at hc
      have HD3 := Lib.hid hd3; have FT := Lib.hid hft
      clear hge hd3 hft
      generalize Utf.nx s p = xm at hst hsm hpc NX hc HD3 FT
      obtain ⟨x, n⟩ := xm
      simp only at hst hsm hpc hc HD3 FT
      obtain ⟨n1, n2, n3⟩ := hst
      obtain ⟨x1, x2⟩ := hsm
      by_cases hx : x < 0
      · have hpc' : Hid (Utf.piece s p = (s.data.toList.drop p).take n) := by
          have := hpc.out; rw [if_pos hx] at this; exact this
        have hes : (s.extract p (p + n)).size = n := by rw [ByteArray.size_extract]; omega
        clear hpc
        go_wp2_with fail
        refine (NX.out wr hps).mono ?_
        rintro e w3 ⟨rfl, hb3⟩
        have V3 := Lib.hid (thenBelow BV.out hb3)
        have O3 := Lib.hid (own_later OW.out hb3)
        have S3 := V3.out.size
        have hc3 : w3.cell? ⟨b, o + k, none⟩ = some (.int .i64 ((p + n : Nat) : Int)) := by rw [hb3.cell (p := ⟨b, o + k, none⟩) (World.block_lt_of_cell? _ _ hc)]; exact hc
        clear hb3 NX hc
        go_wp2_with (at_builtin; refine wpList_text isU8 Tryd.underlying9 _ rfl _ _ rfl w1.heap.size _ out _ rfl O3.out (s.extract p (p + n)) rfl (by omega) S3 ?_)
        intro v2 w2 hown2 hb2
        have O2 : Hid (w2.ownsRow w1.heap.size 5 1 v2 (out ++ Utf.piece s p).length (bys (out ++ Utf.piece s p))) := by
          show w2.ownsRow w1.heap.size 5 1 v2 (out ++ Utf.piece s p).length (bys (out ++ Utf.piece s p))
          rw [hpc'.out]
          rw [(own_lies hown2).1] at hown2
          exact hown2
        have E2 : Hid ((out ++ Utf.piece s p).length ≤ 4 * (p + n)) := by
          show (out ++ Utf.piece s p).length ≤ 4 * (p + n)
          have e1 : ((s.data.toList.drop p).take n).length ≤ n := by rw [List.length_take]; omega
          rw [hpc'.out, List.length_append]; omega
        have V2 := Lib.hid (V3.out.trans hb2)
        clear hown2 hb2 hc3
        go_wp2
        go_roundw
        case rel => exact ⟨k + 1, p + n, f - 1, out ++ Utf.piece s p, by go_num, by go_num, by omega, by omega, by omega, HD3.out, E2.out, by rw [RE.out, FT.out, List.append_assoc], O2.out, V2.out⟩
        case measure => simp [intOf]; omega
      · have hpc' : Hid (Utf.piece s p = Utf.enc (Fol.lower x)) := by
          have := hpc.out; rw [if_neg hx] at this; exact this
        clear hpc
        have hle4 := Utf.enc_le (Fol.lower x)
        have LW := Lib.hid (fun w => refLower_any x w (by simp [Lit.wf, IntKind.min, IntKind.max, IntKind.bits, IntKind.signed]; omega))
        obtain ⟨y, hy⟩ : ∃ y, y = Fol.lower x := ⟨_, rfl⟩
        rw [← hy] at LW hpc' hle4
        clear hy
        obtain ⟨_, p3, c3, rfl, _, _, lies3, none3⟩ := own_lies OW.out
        have L3 := Lib.hid lies3; have N3 := Lib.hid none3
        clear lies3 none3
        go_wp2_with fail
        refine (NX.out wr hps).mono ?_
        rintro e w3 ⟨rfl, hb3⟩
        have V3 := Lib.hid (thenBelow BV.out hb3)
        have PUT := Lib.hid (refPut3 p3 c3 out y w3 (L3.out.below hb3) N3.out (by omega))
        have S3 := V3.out.size
        have hc3 : w3.cell? ⟨b, o + k, none⟩ = some (.int .i64 ((p + n : Nat) : Int)) := by rw [hb3.cell (p := ⟨b, o + k, none⟩) (World.block_lt_of_cell? _ _ hc)]; exact hc
        clear hb3 NX hc
        go_wp2_with fail
        refine (LW.out w3).mono ?_
        rintro e w' ⟨rfl, rfl⟩
        go_wp2_with fail
        refine PUT.out.mono ?_
        rintro e w2 ⟨v2, rfl, hown2, hb2⟩
        have O2 : Hid (w2.ownsRow w1.heap.size 5 1 v2 (out ++ Utf.piece s p).length (bys (out ++ Utf.piece s p))) := by
          show w2.ownsRow w1.heap.size 5 1 v2 (out ++ Utf.piece s p).length (bys (out ++ Utf.piece s p))
          rw [hpc'.out]
          exact own_mono hown2 S3
        have E2 : Hid ((out ++ Utf.piece s p).length ≤ 4 * (p + n)) := by
          show (out ++ Utf.piece s p).length ≤ 4 * (p + n)
          rw [hpc'.out, List.length_append]; omega
        have V2 := Lib.hid (thenBelow V3.out hb2)
        clear hown2 hb2 PUT LW hc3
        go_wp2
        go_roundw
        case rel => exact ⟨k + 1, p + n, f - 1, out ++ Utf.piece s p, by go_num, by go_num, by omega, by omega, by omega, HD3.out, E2.out, by rw [RE.out, FT.out, List.append_assoc], O2.out, V2.out⟩
        case measure => simp [intOf]; omega
    · have hpp := Utf.ends_no s all k f p HD.out hf (by omega)
      have hE := Lib.hid (Utf.ft_end s f p hpp)
      obtain ⟨_, p2, c2, rfl, _, _, lies2, _⟩ := own_lies OW.out
      have hcv := lies2.convert (P := Tryd.prog) out.length rfl c2 52 5 9 Tryd.underlying52 Tryd.underlying5 Tryd.underlying9
      have HRE : Hid (R = out) := by
        show R = out
        rw [RE.out, hE.out, List.append_nil]
      have hk' : ¬ (k : Int) < all.length := by omega
      have BW := Lib.hid (thenBelow B.out BV.out)
      clear lies2 OW RE hE
      go_wp2
      go_ret
      refine ⟨?_, BW.out⟩
      show Ending.returned (.string ⟨out.toArray⟩) = _
      rw [HRE.out]
end Go.Proofs.YtldfomggeleolaaDoor
