/- The statement WireDecodes, proved for every input that its row reads: part 41 of 54. -/
import Derived.Test.YtapmbankpbiglaaGreatDoorPackWireDecodes40
import Derived.Test.YtapmbankpbiglaaGreatDoorPackWireDecodes16
import Derived.Test.YtapmbankpbiglaaGreatDoorPackWireDecodes38
/- A vector's bytes behind any others: as the program writes them, and as the document does. -/
namespace Go.Proofs.YtapmbankpbiglaaGreatDoor
open Go Go.RowKit
set_option linter.unusedVariables false

theorem wf_small {n : Int} (h : -1000000000000000000 ≤ n ∧ n ≤ 1000000000000000000) : (Lit.int .i64 n).wf = true := by
  simp [Lit.wf, IntKind.min, IntKind.max, IntKind.bits, IntKind.signed]; omega
theorem own_given {w : World} {B : Nat} {ty : TypeId} {v : Value} {n : Nat} {l : List UInt8} (h : w.ownsRow B ty 1 v n (bys l)) : ∃ p c, v = .slice p l.length c ∧ Given w p c l := by
  obtain ⟨hn, p, c, rfl, hle, _, hl, hp⟩ := own_lies h
  exact ⟨p, c, rfl, hl, hle, hp⟩
set_option maxHeartbeats 4000000 in
set_option maxRecDepth 100000 in
theorem written_is (f : Nat → Int) (w : World) : Calls Tryz.prog 72 #[.agg (vf f)] w (RetOwn w 5 (vbytes f)) := by
  have GI := fun W => good_is f W
  by_cases hg : goodB f = true
  · simp only [hg] at GI
    have hv : Hid (vbytes f = Cod.rising (pl f 64) ++ tls f (pl f 64)) := by show vbytes f = _; unfold vbytes; rw [if_pos hg]
    have G := Lib.hid ((good_iff f).1 hg)
    clear hg
    go_enter Tryz.func72, Tryz.ntmps72
    go_wp2_with (refine wpList_vbox vecI rfl _ rfl f rfl ?_)
    intro ga w1 la ra hb1
    have B1 := Lib.hid hb1; have RA1 := Lib.hid ra
    clear hb1 ra
    go_wp2_with (refine wpList_vload vecI rfl _ rfl ga rfl _ f RA1.out ?_)
    go_wp2_with fail
    refine (GI w1).mono ?_
    rintro e w2 ⟨rfl, hb2⟩
    have B2 := Lib.hid (thenBelow B1.out hb2); have RA2 := Lib.hid (RA1.out.later hb2)
    clear hb2 GI
    go_wp2_with (refine wpList_vload vecI rfl _ rfl ga rfl _ f RA2.out ?_)
    go_wp2
    go_loopw [3, 13] (fun v i wr => ∃ k : Nat, k ≤ 64 ∧ i = .int .i64 k ∧ wr.ownsRow w2.heap.size 3 1 v (pl f k).length (ints (pl f k)) ∧ Below w2.heap.size w2 wr) (fun _ i _ => 64 - (intOf i).toNat)
    case atStart => exact ⟨0, by omega, rfl, World.ownsRow_nil _ _ _ _, Below.refl _ _⟩
    case round =>
      obtain ⟨k, hk, rfl, hown, hb⟩ := hrel
      have O := Lib.hid hown; have B := Lib.hid hb
      have hz := hb.size
      have hpl := pl_len f k
      clear hown hb
      by_cases hlt : k < 64
      · have hi := vecI.index f .i64 k k rfl hlt
        have hkI : (k : Int) < 64 := by omega
        by_cases h0 : f k = 0
        · have E : Hid (pl f (k + 1) = pl f k) := by show pl f (k + 1) = _; simp [pl, h0]
          rw [h0] at hi
          clear h0
          go_wp2
          go_roundw
          case rel => exact ⟨k + 1, by omega, by go_num, by rw [E.out]; exact O.out, B.out⟩
          case measure => simp [intOf]; omega
        · have E : Hid (pl f (k + 1) = pl f k ++ [(k : Int)]) := by show pl f (k + 1) = _; simp [pl, h0]
          generalize f k = x at hi h0
          go_wp2_with (at_builtin; refine wpList_int isI64 _ rfl _ _ rfl w2.heap.size (pl f k).length (pl f k) _ rfl O.out _ rfl (by omega) hz ?_)
          intro v3 w3 own3 b3
          have O3 := Lib.hid own3; have B3 := Lib.hid b3
          clear own3 b3
          go_wp2
          go_roundw
          case rel => exact ⟨k + 1, by omega, by go_num, by rw [E.out, List.length_append]; exact O3.out, B.out.trans B3.out⟩
          case measure => simp [intOf]; omega
      · obtain rfl : k = 64 := by omega
        have hO := O.out
        obtain ⟨hln, q, d, rfl, hd, hl2, hq0⟩ := own_liesI hO
        clear hln
        have L2 := Lib.hid hl2
        have B4 := Lib.hid (thenBelow B2.out B.out)
        have RA4 := Lib.hid (RA2.out.later B.out)
        clear hO hl2
        have PA : Hid (∀ k, k < (pl f 64).length → ∃ i : Nat, i < 64 ∧ f i ≠ 0 ∧ (pl f 64).getD k 0 = (i : Int)) := fun k h => pl_at f 64 k h
        have R := Lib.hid (rising_any none q 0 d [] (pl f 64) wr ⟨Lies.nil _ _, Nat.le_refl _, fun _ => ⟨rfl, rfl⟩⟩ L2.out (pl_in f 64 (by omega)) (by simp only [List.length_nil]; omega))
        have TL : Hid (∀ k, k < (pl f 64).length → tls f ((pl f 64).take (k + 1)) = tls f ((pl f 64).take k) ++ Cod.enc (f ((pl f 64).getD k 0).toNat - 1).toNat) := fun k h => tls_step f _ k h
        have TN : Hid (tls f ((pl f 64).take (pl f 64).length) = tls f (pl f 64)) := by show tls f _ = _; rw [List.take_length]
        have TZ : Hid (tls f ((pl f 64).take 0) = []) := rfl
        have RL := Lib.hid (rising_len64 (pl f 64))
        have TLN : Hid (∀ k, (tls f ((pl f 64).take k)).length ≤ 9 * 64) := fun k => by
          have h1 := tls_len f ((pl f 64).take k)
          have h2 : ((pl f 64).take k).length ≤ (pl f 64).length := by simp; omega
          omega
        generalize pl f 64 = l at hv PA R TL TN TZ RL TLN L2 O hpl ⊢
        go_wp2_with fail
        refine R.out.mono ?_
        rintro e w5 ⟨v5, rfl, ho5, hb5⟩
        have hz4 := B4.out.size
        have O5 := Lib.hid (own_mono ho5 hz4); have B5 := Lib.hid (thenBelow B4.out hb5); have RA5 := Lib.hid (RA4.out.later hb5); have L5 := Lib.hid (L2.out.below hb5)
        clear ho5 hb5 R O B RA4 L2 B4
        go_wp2
        go_loopw [6, 28] (fun v i wx => ∃ k : Nat, k ≤ l.length ∧ i = .int .i64 k ∧ wx.ownsRow w.heap.size 5 1 v (Cod.rising l ++ tls f (l.take k)).length (bys (Cod.rising l ++ tls f (l.take k))) ∧ Below w5.heap.size w5 wx) (fun _ i _ => l.length - (intOf i).toNat)
        case atStart => exact ⟨0, by omega, rfl, by rw [TZ.out, List.append_nil]; simpa using O5.out, Below.refl _ _⟩
        case round =>
          obtain ⟨k, hk, rfl, hown, hb⟩ := hrel
          have OX := Lib.hid hown; have BX := Lib.hid hb
          clear hown hb
          by_cases hlt : k < l.length
          · obtain ⟨i, hi64, hi0, hik⟩ := PA.out k hlt
            have hgi := G.out i hi64
            have hT := TL.out k hlt
            rw [hik, Int.toNat_natCast] at hT
            obtain ⟨b, o, rfl, _, hcl⟩ := (L5.out.below BX.out).at (by omega)
            have hck := hcl k hlt
            rw [hik] at hck
            have hc := (RA5.out.later BX.out).cell i hi64
            have hfr := (RA5.out.later BX.out).free i
            have hiI : (i : Int) < 64 := by omega
            have hkI : (k : Int) < l.length := by omega
            generalize hM : Cod.rising l ++ tls f (l.take k) = M at OX
            have HM := Lib.hid hM
            have hML : M.length ≤ 1200 := by rw [← hM]; have h1 := TLN.out k; have h2 := RL.out; simp only [List.length_append]; omega
            clear hM
            obtain ⟨p, c, rfl, hgv⟩ := own_given OX.out
            have NM := Lib.hid (num_any p c M (f i - 1) _ hgv.lies (fun e => (hgv.none e).1) hgv.le (wf_small (by omega)) (by omega))
            have HT := Lib.hid hT
            clear hcl hT hgv OX hik
            generalize f i = x at hc hgi hi0 NM HT
            go_wp2_with fail
            refine NM.out.mono ?_
            rintro e w6 ⟨v6, rfl, ho6, hb6⟩
            have hz6 := Nat.le_trans B5.out.size BX.out.size
            have O6 := Lib.hid (own_mono ho6 hz6); have B6 := Lib.hid (thenBelow BX.out hb6)
            clear ho6 hb6 NM hc hck
            go_wp2
            go_roundw
            case rel => exact ⟨k + 1, by omega, by go_num, by rw [HT.out, ← List.append_assoc, HM.out]; exact O6.out, B6.out⟩
            case measure => simp [intOf]; omega
          · obtain rfl : k = l.length := by omega
            have hO := OX.out
            rw [TN.out, ← hv.out] at hO
            have HO := Lib.hid hO
            have BB := Lib.hid (thenBelow B5.out BX.out)
            clear hO OX
            go_wp2
            go_ret
            exact ⟨_, rfl, HO.out, BB.out⟩
  · have hg2 : goodB f = false := by simpa using hg
    simp only [hg2] at GI
    have hv : Hid (vbytes f = []) := by show vbytes f = _; unfold vbytes; rw [if_neg hg]
    clear hg hg2
    go_enter Tryz.func72, Tryz.ntmps72
    go_wp2_with (refine wpList_vbox vecI rfl _ rfl f rfl ?_)
    intro ga w1 la ra hb1
    have B1 := Lib.hid hb1; have RA1 := Lib.hid ra
    clear hb1 ra
    go_wp2_with (refine wpList_vload vecI rfl _ rfl ga rfl _ f RA1.out ?_)
    go_wp2_with fail
    refine (GI w1).mono ?_
    rintro e w2 ⟨rfl, hb2⟩
    have B2 := Lib.hid (thenBelow B1.out hb2)
    clear hb2 GI
    go_wp2
    go_ret
    rw [hv.out]
    exact ⟨_, rfl, World.ownsRow_nil _ _ _ _, B2.out⟩
set_option maxHeartbeats 1000000 in
set_option maxRecDepth 100000 in
theorem vput_is (p : Option Addr) (c : Nat) (b : List UInt8) (f : Nat → Int) (w : World) (h : Given w p c b) (hlen : b.length ≤ 140737488352000) :
    Calls Tryz.prog 49 #[.slice p b.length c, .agg (vf f)] w (RetOwn w 5 (b ++ vbytes f)) := by
  have H := Lib.hid h
  have VL := Lib.hid (vbytes_len f)
  clear h
  go_enter Tryz.func49, Tryz.ntmps49
  go_wp2_with (refine wpList_vbox vecI rfl _ rfl f rfl ?_)
  intro ga w1 la ra hb1
  have B1 := Lib.hid hb1; have RA1 := Lib.hid ra
  clear hb1 ra
  go_wp2_with (refine wpList_vload vecI rfl _ rfl ga rfl _ f RA1.out ?_)
  go_wp2_with fail
  refine (written_is f w1).mono ?_
  intro e w2 hr
  obtain ⟨p2, c2, rfl, hg2, hb2⟩ := hr.given
  have B2 := Lib.hid (thenBelow B1.out hb2); have G2 := Lib.hid hg2
  clear hb2 hg2 hr
  go_wp2_with fail
  have al := below_alloc w2 (.cells #[.slice p b.length c, .slice p2 (vbytes f).length c2] 22)
  have r0 := heap_alloc_new w2 (.cells #[.slice p b.length c, .slice p2 (vbytes f).length c2] 22)
  refine (concatB w2.heap.size 2 c c2 p p2 b (vbytes f) _ ((H.out.below B2.out).below al).lies (G2.out.below al).lies H.out.none G2.out.none (by have := VL.out; omega) (cell_of_row _ _ 0 _ _ _ r0) (cell_of_row _ _ 1 _ _ _ r0)).mono ?_
  intro e w3 hr3
  have R3 := Lib.hid (hr3.after (thenBelow B2.out al))
  obtain ⟨v3, rfl, _, _⟩ := hr3
  go_wp2
  go_ret
  exact R3.out
end Go.Proofs.YtapmbankpbiglaaGreatDoor
