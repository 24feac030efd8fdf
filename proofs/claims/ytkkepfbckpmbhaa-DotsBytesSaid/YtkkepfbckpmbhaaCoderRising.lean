/- The contracts of coder's rise and Rising. -/
import Derived.Test.YtkkepfbckpmbhaaCoderRef2
import Derived.Test.YtkkepfbckpmbhaaMemInts
namespace Go.Proofs.Ytkkepfbckpmbhaa
open Go Go.RowKit

set_option maxHeartbeats 1000000 in
theorem rise_any (p : Option Addr) (c : Nat) (l : List Int) (w : World) (h : LiesI w p l) (hw : InI l) (hn : l.length ≤ 140737488355328) :
    Calls Try.prog 81 #[.slice p l.length c] w fun e w' => e = .returned (.int .i64 (Cod.riseN l : Nat)) ∧ w = w' := by
  have H := Lib.hid h; have HW := Lib.hid hw; clear h hw
  go_enter Try.func81, Try.ntmps81
  go_wp2
  go_loop [3, 4] (fun n u => ∃ k : Nat, k ≤ Cod.riseN l ∧ n = .int .i64 k ∧ u = .int .i64 (Cod.lastOf l k)) (fun n _ => l.length - (intOf n).toNat)
  case atStart => exact ⟨0, Nat.zero_le _, rfl, rfl⟩
  case round =>
    obtain ⟨k, hk, rfl, rfl⟩ := hrel
    have hkl : k ≤ l.length := Nat.le_trans hk (Cod.riseN_le l)
    have HK := Lib.hid hk; clear hk
    by_cases hlt : k < l.length
    · obtain ⟨b, o, rfl, _, hc⟩ := H.out.at (by omega)
      have hck := hc k hlt
      have hx := HW.out k hlt
      obtain ⟨x, hxe⟩ : ∃ x, x = l.getD k 0 := ⟨_, rfl⟩
      rw [← hxe] at hck hx
      obtain ⟨u, hue⟩ : ∃ u, u = Cod.lastOf l k := ⟨_, rfl⟩
      rw [← hue]
      obtain ⟨hx1, hx2⟩ := hx
      clear hc
      have hlt' : (k : Int) < l.length := by omega
      have HX := Lib.hid hxe; have HU := Lib.hid hue; clear hxe hue
      by_cases hup : u < x
      · have hup2 : Cod.lastOf l k < l.getD k 0 := by rw [← HX.out, ← HU.out]; exact hup
        have hnx := Cod.step_up l k HK.out hlt hup2
        have HN := Lib.hid hnx; clear hnx hup2
        go_wp2
        go_round
        case rel => exact ⟨k + 1, HN.out, by go_num, by rw [HX.out]; rfl⟩
        case measure => simp [intOf]; omega
      · have hat := Cod.at_count l k HK.out (.inr (by rw [← HX.out, ← HU.out]; exact hup))
        have HA := Lib.hid hat; clear hat
        go_wp2
        go_ret
        exact ⟨ret_int (by rw [HA.out]), rfl⟩
    · have hat := Cod.at_count l k HK.out (.inl (by omega))
      have HA := Lib.hid hat; clear hat
      have hge : ¬ ((k : Int) < l.length) := by omega
      go_wp2
      go_ret
      exact ⟨ret_int (by rw [HA.out]), rfl⟩

/-- what the next number must not be below -/
def leastOf (l : List Int) (k : Nat) : Int := Cod.lastOf l k + 1
theorem leastOf_zero (l : List Int) : leastOf l 0 = 0 := rfl
theorem leastOf_succ (l : List Int) (k : Nat) : leastOf l (k + 1) = l.getD k 0 + 1 := by simp [leastOf, Cod.lastOf]

set_option maxHeartbeats 1000000 in
theorem rising_any (p q : Option Addr) (c d : Nat) (b : List UInt8) (l : List Int) (w : World) (h : Given w p c b) (hl : LiesI w q l) (hw : InI l) (hlen : b.length + 9 * l.length ≤ 140737488354000) :
    Calls Try.prog 69 #[.slice p b.length c, .slice q l.length d] w (RetOwn w 5 (b ++ Cod.rising l)) := by
  have hcut := cutOff_any p b.length c h.le w
  have hrise := rise_any q d l w hl hw (by omega)
  have hle := Cod.riseN_le l
  obtain ⟨n, hn⟩ : ∃ n, n = Cod.riseN l := ⟨_, rfl⟩
  have hput := put_any w.heap.size (.slice p b.length b.length) b n w (.inr ⟨p, rfl, h.lies, fun e => (h.none e).1⟩) (Nat.le_refl _) (by omega) (by omega)
  have hel := enc_len n
  rw [← hn] at hrise hle
  have HN := Lib.hid hn; have HP := Lib.hid hput; have HL := Lib.hid hl; have HW := Lib.hid hw
  clear hput h hl hw hn
  go_enter Try.func69, Try.ntmps69
  go_wp2_with fail
  refine hrise.mono ?_
  rintro e w' ⟨rfl, rfl⟩
  go_wp2_with fail
  refine hcut.mono ?_
  rintro e w' ⟨rfl, rfl⟩
  go_wp2_with fail
  refine HP.out.mono ?_
  rintro e w1 ⟨v, rfl, hown, hb⟩
  have hown0 : w1.ownsRow w.heap.size 5 1 v (b ++ Cod.enc n ++ Cod.gaps l 0).length (bys (b ++ Cod.enc n ++ Cod.gaps l 0)) := by
    simpa [Cod.gaps] using hown
  have HO := Lib.hid hown0; have HB := Lib.hid hb
  clear hown hown0 hb hrise hcut
  go_wp2_with fail
  go_loopw [6, 7, 17] (fun u m i wr => ∃ k : Nat, k ≤ n ∧ i = .int .i64 k ∧ m = .int .i64 (wrap64 (leastOf l k)) ∧ wr.ownsRow w.heap.size 5 1 u (b ++ Cod.enc n ++ Cod.gaps l k).length (bys (b ++ Cod.enc n ++ Cod.gaps l k)) ∧ Below w.heap.size w wr) (fun _ _ i _ => n - (intOf i).toNat)
  case atStart => exact ⟨0, Nat.zero_le _, rfl, by rw [leastOf_zero, IntWalk.wrap64_in 0 ⟨by omega, by omega⟩], HO.out, HB.out⟩
  case round =>
    obtain ⟨k, hk, rfl, rfl, hown, hbw⟩ := hrel
    have hsz := hbw.size
    by_cases hkn : k < n
    · have hkl : k < l.length := by omega
      obtain ⟨b0, o, rfl, hb0, hc⟩ := HL.out.at (by omega)
      have hck0 := hc k hkl
      have hck : wr.cell? ⟨b0, o + k, none⟩ = some (.int .i64 (l.getD k 0)) := by rw [hbw.cell (p := ⟨b0, o + k, none⟩) hb0]; exact hck0
      clear hc hck0
      have hlt := Cod.rise_lt l k (by rw [← HN.out]; exact hkn)
      have hge := Cod.last_ge l k (by rw [← HN.out]; omega)
      obtain ⟨hx1, hx2⟩ := HW.out k hkl
      have hg : ((l.getD k 0) - leastOf l k) = (Cod.gap l k : Int) := by unfold Cod.gap leastOf; omega
      have hs : leastOf l (k + 1) = l.getD k 0 + 1 := leastOf_succ l k
      have hlo : 0 ≤ leastOf l k ∧ leastOf l k ≤ l.getD k 0 := by unfold leastOf; omega
      obtain ⟨x, hx⟩ : ∃ x, x = l.getD k 0 := ⟨_, rfl⟩
      obtain ⟨m, hm⟩ : ∃ m, m = leastOf l k := ⟨_, rfl⟩
      obtain ⟨g, hge'⟩ : ∃ g, g = Cod.gap l k := ⟨_, rfl⟩
      rw [← hx, ← hm] at hlo
      rw [← hx] at hck hs hx1 hx2
      rw [← hx, ← hm, ← hge'] at hg
      obtain ⟨hlo1, hlo2⟩ := hlo
      have hmw : wrap64 m = m := IntWalk.wrap64_in _ ⟨by omega, by omega⟩
      rw [← hm, hmw]
      have hgl := Cod.gaps_length l k
      have hel2 := enc_len g
      have hput := put_any w.heap.size _ (b ++ Cod.enc n ++ Cod.gaps l k) g wr (.inl hown) hsz (by omega) (by simp; omega)
      have HP2 := Lib.hid hput; have HG := Lib.hid hge'; have HS := Lib.hid hs; have HGI := Lib.hid hg
      have HBW := Lib.hid hbw
      clear hput hge' hs hg hm hx hlt hge hown hmw hbw
      go_wp2_with fail
      rw [HGI.out]
      refine HP2.out.mono ?_
      rintro e w2 ⟨v2, rfl, hown2, hb2⟩
      have hck2 : w2.cell? ⟨b0, o + k, none⟩ = some (.int .i64 x) := by rw [hb2.cell (p := ⟨b0, o + k, none⟩) hb0]; exact hck
      have O2 := Lib.hid hown2; have B2 := Lib.hid hb2
      clear hown2 hb2
      go_wp2
      go_roundw
      case rel => exact ⟨k + 1, by omega, by go_num, by first | rw [HS.out] | (rw [HS.out, IntWalk.wrap64_in _ ⟨by omega, by omega⟩]), by rw [Cod.gaps, ← HG.out, ← List.append_assoc]; exact O2.out, HBW.out.trans B2.out⟩
      case measure => simp [intOf]; omega
    · obtain rfl : k = n := by omega
      go_wp2
      go_ret
      exact RetOwn.of_own (by unfold Cod.rising; rw [← HN.out, ← List.append_assoc]; exact hown) rfl hbw
end Go.Proofs.Ytkkepfbckpmbhaa
