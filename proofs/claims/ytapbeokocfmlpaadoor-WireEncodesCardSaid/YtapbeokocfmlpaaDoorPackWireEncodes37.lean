/- The statement WireEncodes, proved for every input that its row reads: part 37 of 54. -/
import Derived.Test.YtapbeokocfmlpaaDoorPackWireEncodes24
import Derived.Laws.IdiomStrings
import Derived.StillTailTactics
import Derived.Deep.QuietTactic
import Derived.BigQuiet
/- The contracts of the document's own Text and Rising. -/
namespace Go.Proofs.YtapbeokocfmlpaaDoor
open Go Go.RowKit

theorem lies_row (w : World) (ty : TypeId) (m : Nat × Nat) (l : List UInt8) (cs : Array Value) (hcs : ∀ i, i < l.length → cs[i]? = some (.int .u8 ((l.getD i 0).toNat : Int))) : Lies (w.alloc (.cells cs ty m)) (some ⟨w.heap.size, 0, none⟩) l := by
  intro _
  refine ⟨w.heap.size, 0, rfl, fun i hi => ?_⟩
  rw [Nat.zero_add, cell_of_row (w.alloc _) w.heap.size i _ ty m (heap_alloc_new w _)]
  exact hcs i hi

set_option maxHeartbeats 1000000 in
theorem refText_any (p : Option Addr) (c : Nat) (l : List UInt8) (s : ByteArray) (w : World) (h : Given w p c l) (hlen : l.length + s.size ≤ 140737488354000) :
    Calls Tryd.prog 44 #[.slice p l.length c, .string s] w (RetOwn w 5 (l ++ Cod.enc s.size ++ s.data.toList)) := by
  have hcv := fun w s => run_bytes_of_string (P := Tryd.prog) w 9 32 5 s Tryd.underlying9 Tryd.underlying32 Tryd.underlying5
  have hel := enc_len s.size
  have tl : s.data.toList.length = s.size := Array.length_toList
  have HN := Lib.hid (refNum_any p c l (s.size : Nat) w h (by simp [Lit.wf, IntKind.min, IntKind.max, IntKind.bits, IntKind.signed]; omega) (by omega))
  have TL := Lib.hid tl
  clear h tl
  go_enter Tryd.func44, Tryd.ntmps44
  go_wp2_with fail
  refine HN.out.mono ?_
  intro e w1 hr1
  rw [Int.toNat_natCast] at hr1
  obtain ⟨L1, hL1⟩ : ∃ L, L = l ++ Cod.enc s.size := ⟨_, rfl⟩
  rw [← hL1] at hr1
  have k1 : L1.length ≤ l.length + 9 := by rw [hL1, List.length_append]; omega
  obtain ⟨p1, c1, rfl, g1, b1⟩ := hr1.given
  have G1 := Lib.hid g1; have B1 := Lib.hid b1; have HL1 := Lib.hid hL1
  clear hr1 g1 b1 hL1 HN
  go_wp2_with fail
  have L2 := Lib.hid (lies_row w1.drew 5 ((bytesRow s (grownCap w1 s.size 0 5)).size, (bytesRow s (grownCap w1 s.size 0 5)).size + 1) s.data.toList (bytesRow s (grownCap w1 s.size 0 5)) (fun i hi => by
    have hi' : i < s.data.size := by simpa using hi
    rw [bytesRow_at s _ i hi']
    simp [List.getD, List.getElem?_eq_getElem hi]))
  have B2 := Lib.hid ((Below.refl w1.heap.size w1).drew.alloc (Nat.le_refl _) (.cells (bytesRow s (grownCap w1 s.size 0 5)) 5 ((bytesRow s (grownCap w1 s.size 0 5)).size, (bytesRow s (grownCap w1 s.size 0 5)).size + 1)))
  refine (join_any p1 _ _ _ c1 _ L1 s.data.toList _ (G1.out.lies.below B2.out) L2.out G1.out.none (fun e => by cases e) rfl TL.out.symm (by omega)).mono ?_
  intro e w2 hr2
  obtain ⟨v, rfl, hown, b2⟩ := hr2.after (thenBelow B1.out B2.out)
  rw [HL1.out] at hown
  have O2 := Lib.hid hown; have B3 := Lib.hid b2; clear hown hr2
  go_wp2_with fail
  go_ret
  exact ⟨v, rfl, O2.out, B3.out⟩

set_option maxHeartbeats 1000000 in
set_option maxRecDepth 100000 in
theorem refRising_any (p q : Option Addr) (c d : Nat) (b : List UInt8) (l : List Int) (w : World) (h : Given w p c b) (hl : LiesI w q l) (hw : InI l) (hlen : b.length + 9 * l.length ≤ 140737488354000) :
    Calls Tryd.prog 41 #[.slice p b.length c, .slice q l.length d] w (RetOwn w 5 (b ++ Cod.rising l)) := by
  have hle := Cod.riseN_le l
  obtain ⟨N, hN⟩ : ∃ n, n = Cod.riseN l := ⟨_, rfl⟩
  have hnum := refNum_any p c b (N : Nat) w h (by simp [Lit.wf, IntKind.min, IntKind.max, IntKind.bits, IntKind.signed]; omega) (by omega)
  rw [Int.toNat_natCast] at hnum
  have hel := enc_len N
  rw [← hN] at hle
  have HN := Lib.hid hN; have HNUM := Lib.hid hnum; have HL := Lib.hid hl; have HW := Lib.hid hw
  clear hnum h hl hw hN
  go_enter Tryd.func41, Tryd.ntmps41
  go_wp2
  go_loop [5, 12] (fun n i => ∃ k : Nat, k ≤ l.length ∧ i = .int .i64 k ∧ n = .int .i64 (min k N : Nat)) (fun _ i => l.length - (intOf i).toNat)
  case atStart => exact ⟨0, Nat.zero_le _, rfl, by simp⟩
  case round =>
    obtain ⟨k, hk, rfl, rfl⟩ := hrel
    by_cases hkl : k < l.length
    · obtain ⟨bl, ol, rfl, _, ql⟩ := HL.out.at (by omega)
      have cx := ql k hkl
      have hx := HW.out k hkl
      have hlo : Cod.lastOf l k = if k = 0 then -1 else l.getD (k - 1) 0 := rfl
      have cy : 0 < k → w.cell? ⟨bl, ol + (k - 1), none⟩ = some (.int .i64 (l.getD (k - 1) 0)) := fun _ => ql (k - 1) (by omega)
      have hy := fun h : 0 < k => HW.out (k - 1) (by omega)
      have hkl' : (k : Int) < l.length := by omega
      by_cases hkN : k < N
      · have hlt := Cod.rise_lt l k (by rw [← HN.out]; exact hkN)
        have hge := Cod.last_ge l k (by rw [← HN.out]; omega)
        have hmin : min k N = k := by omega
        have hmin2 : min (k + 1) N = k + 1 := by omega
        rw [hmin]
        have HM := Lib.hid hmin2
        rw [hlo] at hlt hge
        generalize l.getD k 0 = x at cx hx hlt
        obtain ⟨hx1, hx2⟩ := hx
        clear ql hlo hmin hmin2
        by_cases h0 : k = 0
        · subst h0
          rw [if_pos rfl] at hlt
          have hx0 : 0 ≤ x := by omega
          rw [Nat.add_zero] at cx
          clear cy hy hge hlt
          go_wp2
          go_round
          case rel => exact ⟨0 + 1, by omega, by go_num, by rw [HM.out]; rfl⟩
          case measure => simp [intOf]; omega
        · rw [if_neg h0] at hlt hge
          have cy' := cy (by omega)
          have hy' := hy (by omega)
          generalize l.getD (k - 1) 0 = y at cy' hy' hlt hge
          have hk1 : ((k : Int) - 1) = ((k - 1 : Nat) : Int) := by omega
          have hk2 : ((k - 1 : Nat) : Int) < l.length := by omega
          have hx0 : 0 ≤ x := by omega
          obtain ⟨hy1, hy2⟩ := hy'
          clear cy hy hge
          go_wp2
          go_round
          case rel => exact ⟨k + 1, by omega, by go_num, by rw [HM.out]; go_num⟩
          case measure => simp [intOf]; omega
      · have hmin : min k N = N := by omega
        have hmin2 : min (k + 1) N = N := by omega
        rw [hmin]
        have HM := Lib.hid hmin2
        by_cases hkN2 : k = N
        · have hnl := Cod.rise_end l (by rw [← HN.out]; omega)
          rw [← HN.out, ← hkN2, hlo] at hnl
          generalize l.getD k 0 = x at cx hx hnl
          obtain ⟨hx1, hx2⟩ := hx
          clear ql hlo hmin hmin2
          subst hkN2
          by_cases h0 : k = 0
          · subst h0
            rw [if_pos rfl] at hnl
            have hx0 : ¬ 0 ≤ x := by omega
            rw [Nat.add_zero] at cx
            clear cy hy hnl
            go_wp2
            go_round
            case rel => exact ⟨0 + 1, by omega, by go_num, by rw [HM.out]⟩
            case measure => simp [intOf]; omega
          · rw [if_neg h0] at hnl
            have cy' := cy (by omega)
            have hy' := hy (by omega)
            generalize l.getD (k - 1) 0 = y at cy' hy' hnl
            have hk1 : ((k : Int) - 1) = ((k - 1 : Nat) : Int) := by omega
            have hk2 : ((k - 1 : Nat) : Int) < l.length := by omega
            obtain ⟨hy1, hy2⟩ := hy'
            clear cy hy
            by_cases hx0 : 0 ≤ x
            all_goals
              go_wp2
              go_round
              case rel => exact ⟨k + 1, by omega, by go_num, by rw [HM.out]⟩
              case measure => simp [intOf]; omega
        · have hne : ¬ (N : Int) = (k : Int) := by omega
          generalize l.getD k 0 = x at cx hx
          clear ql hlo hmin hmin2 cy hy
          go_wp2
          go_round
          case rel => exact ⟨k + 1, by omega, by go_num, by rw [HM.out]⟩
          case measure => simp [intOf]; omega
    · obtain rfl : k = l.length := by omega
      have hmin : min l.length N = N := by omega
      rw [hmin]
      clear hmin hkl hk
      go_wp2_with fail
      refine HNUM.out.mono ?_
      rintro e w1 ⟨v1, rfl, hown1, b1⟩
      have hown0 : w1.ownsRow w.heap.size 5 1 v1 (b ++ Cod.enc N ++ Cod.gaps l 0).length (bys (b ++ Cod.enc N ++ Cod.gaps l 0)) := by
        simpa [Cod.gaps] using hown1
      have HO := Lib.hid hown0; have HB := Lib.hid b1
      clear hown1 hown0 b1 HNUM
      go_wp2
      go_loopw [8, 44] (fun u i wr => ∃ k : Nat, k ≤ N ∧ i = .int .i64 k ∧ wr.ownsRow w.heap.size 5 1 u (b ++ Cod.enc N ++ Cod.gaps l k).length (bys (b ++ Cod.enc N ++ Cod.gaps l k)) ∧ Below w.heap.size w wr) (fun _ i _ => N - (intOf i).toNat)
      case atStart => exact ⟨0, Nat.zero_le _, rfl, HO.out, HB.out⟩
      case round =>
        obtain ⟨k, hk, rfl, hown, hbw⟩ := hrel
        have hsz := hbw.size
        by_cases hkN : k < N
        · have hkl : k < l.length := by omega
          obtain ⟨bl, ol, rfl, _, ql⟩ := (HL.out.below hbw).at (by omega)
          have cx := ql k hkl
          have hx := HW.out k hkl
          have hlo : Cod.lastOf l k = if k = 0 then -1 else l.getD (k - 1) 0 := rfl
          have cy : 0 < k → wr.cell? ⟨bl, ol + (k - 1), none⟩ = some (.int .i64 (l.getD (k - 1) 0)) := fun _ => ql (k - 1) (by omega)
          have hy := fun h : 0 < k => HW.out (k - 1) (by omega)
          have hlt := Cod.rise_lt l k (by rw [← HN.out]; exact hkN)
          have hge := Cod.last_ge l k (by rw [← HN.out]; omega)
          have hg : (Cod.gap l k : Int) = l.getD k 0 - (Cod.lastOf l k + 1) := by unfold Cod.gap; omega
          have hgl := Cod.gaps_length l k
          obtain ⟨L, hL⟩ : ∃ L, L = b ++ Cod.enc N ++ Cod.gaps l k := ⟨_, rfl⟩
          have hLn : b ++ Cod.enc N ++ Cod.gaps l (k + 1) = L ++ Cod.enc (Cod.gap l k) := by rw [Cod.gaps, hL, ← List.append_assoc]
          have hLl : L.length ≤ 140737488355000 := by rw [hL, List.length_append, List.length_append]; omega
          rw [← hL] at hown
          obtain ⟨_, pu, cu, rfl, hcu, _, liesu, noneu⟩ := own_lies hown
          have GU := Lib.hid (⟨liesu, hcu, noneu⟩ : Given wr pu cu L)
          obtain ⟨g, hgg⟩ : ∃ g, g = Cod.gap l k := ⟨_, rfl⟩
          rw [← hgg] at hg hLn
          have HLN := Lib.hid hLn; have BW := Lib.hid hbw
          rw [hlo] at hlt hge hg
          generalize l.getD k 0 = x at cx hx hlt hg
          obtain ⟨hx1, hx2⟩ := hx
          have hnum := Lib.hid (refNum_any pu cu L g wr GU.out (by simp [Lit.wf, IntKind.min, IntKind.max, IntKind.bits, IntKind.signed]; split at hg <;> omega) hLl)
          clear ql hlo hown liesu noneu hgl hbw hL hLn hgg
          by_cases h0 : k = 0
          · subst h0
            rw [if_pos rfl] at hlt hg
            obtain rfl : x = (g : Int) := by omega
            rw [Nat.add_zero] at cx
            clear cy hy hge hlt hg
            go_wp2_with fail
            refine hnum.out.mono ?_
            rintro e w2 hr2
            rw [Int.toNat_natCast] at hr2
            obtain ⟨v2, rfl, hown2, b2⟩ := hr2
            have O2 := Lib.hid (own_mono hown2 hsz); have B2 := Lib.hid (thenBelow BW.out b2)
            clear hown2 b2 hnum
            go_wp2
            go_roundw
            case rel => exact ⟨0 + 1, by omega, by go_num, by rw [HLN.out]; exact O2.out, B2.out⟩
            case measure => simp [intOf]; omega
          · rw [if_neg h0] at hlt hge hg
            have cy' := cy (by omega)
            have hy' := hy (by omega)
            have hyp : 0 ≤ l.getD (k - 1) 0 := by
              have h1 := Cod.rise_lt l (k - 1) (by rw [← HN.out]; omega)
              have h2 := Cod.last_ge l (k - 1) (by rw [← HN.out]; omega)
              omega
            generalize l.getD (k - 1) 0 = y at cy' hy' hlt hge hg hyp
            have hk0 : ¬ (k : Int) = 0 := by omega
            have hk1 : ((k : Int) - 1) = ((k - 1 : Nat) : Int) := by omega
            have hk2 : ((k - 1 : Nat) : Int) < l.length := by omega
            have hk3 : (k : Int) < l.length := by omega
            obtain ⟨hy1, hy2⟩ := hy'
            have hxy : x - y - 1 = (g : Int) := by omega
            have XY := Lib.hid hxy
            clear cy hy hxy
            go_wp2
            have hdr : ∀ w', Below wr.heap.size wr w' → Calls Tryd.prog 18 #[.slice pu L.length cu, .int .i64 g] w' (RetOwn w' 5 (L ++ Cod.enc g)) := fun w' hb => by
              have := refNum_any pu cu L g w' (GU.out.below hb) (by simp [Lit.wf, IntKind.min, IntKind.max, IntKind.bits, IntKind.signed]; omega) hLl
              rwa [Int.toNat_natCast] at this
            have HDR := Lib.hid hdr
            clear hdr hnum
            have hk4 : IntKind.i64.wrap ((k - 1 : Nat) : Int) = ((k - 1 : Nat) : Int) := IntWalk.i64_in _ (by omega)
            have hs1 : IntKind.i64.wrap (x - y) = x - y := IntWalk.i64_in _ (by omega)
            have hs2 : IntKind.i64.wrap (x - y - 1) = (g : Int) := by rw [IntWalk.i64_in _ (by omega)]; omega
            go_region_law (go_simp; go_at_call 18; rw [← hg]; refine (HDR.out _ (by first | exact (Below.refl _ _).drew | exact Below.refl _ _)).mono ?_; rintro e w2 ⟨v2, rfl, hown2, b2⟩)
            all_goals
              have O2 : Hid (w2.ownsRow w.heap.size 5 1 v2 (L ++ Cod.enc g).length (bys (L ++ Cod.enc g))) := own_mono hown2 hsz
              have B2 : Hid (Below w.heap.size w w2) := thenBelow BW.out (((Below.refl wr.heap.size wr).drew).trans b2)
              clear hown2 b2 hk4 hs1 hs2 HDR XY
              try go_wp2
              go_roundw
              case rel => exact ⟨k + 1, by omega, by go_num, by rw [HLN.out]; exact O2.out, B2.out⟩
              case measure => simp [intOf]; omega
        · obtain rfl : k = N := by omega
          go_wp2
          go_ret
          exact RetOwn.of_own (by unfold Cod.rising; rw [← HN.out, ← List.append_assoc]; exact hown) rfl hbw
end Go.Proofs.YtapbeokocfmlpaaDoor
