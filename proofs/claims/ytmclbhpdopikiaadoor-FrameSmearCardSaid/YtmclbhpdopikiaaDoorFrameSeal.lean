/- The contracts of both Seals: the sum's four bytes, and the bytes behind them. -/
import Derived.Test.YtmclbhpdopikiaaDoorFrameSum2
namespace Go.Proofs.YtmclbhpdopikiaaDoor
open Go Go.RowKit

/-- a sum's four bytes, the highest first -/
def be4 (c : Nat) : List UInt8 := [UInt8.ofNat (c / 16777216), UInt8.ofNat (c / 65536), UInt8.ofNat (c / 256), UInt8.ofNat c]
def sealed (l : List UInt8) : List UInt8 := be4 (Frm.crc l) ++ l
theorem sealed_length (l : List UInt8) : (sealed l).length = l.length + 4 := by simp [sealed, be4]

theorem be4_at {s : Nat} {k : Nat} (hk : k < 4) : ((s : Int) / 2 ^ (8 * (3 - k)) % 256) = (((be4 s).getD k 0).toNat : Int) := by
  match k, hk with
  | 0, _ => simp [be4]
  | 1, _ => simp [be4]
  | 2, _ => simp [be4]
  | 3, _ => simp [be4]
theorem be4_snoc (s : Nat) {k : Nat} (hk : k < 4) : (be4 s).take (k + 1) = (be4 s).take k ++ [(be4 s).getD k 0] := take_snoc (by simpa [be4] using hk)

set_option maxHeartbeats 1000000 in
theorem seal_own (p : Option Addr) (c : Nat) (l : List UInt8) (w : World) (h : Lies w p l) (hp : p = none → l = [] ∧ c = 0) (hT : Table w) (hn : l.length ≤ 140737488355000) :
    Calls Tryd.prog 12 #[.slice p l.length c] w (RetOwn w 5 (sealed l)) := by
  have H := Lib.hid h; clear h
  have HT := Lib.hid hT; clear hT
  have HP := Lib.hid hp; clear hp
  go_enter Tryd.func12, Tryd.ntmps12
  go_wp2_with (first
    | (go_at_call 9; refine (sum_any _ _ _ _ H.out HT.out (by omega)).mono ?_; rintro e w' ⟨rfl, rfl⟩)
    | (at_make; refine wpList_makeBytes u8 w rfl _ _ rfl _ _ _ (4 + l.length) rfl rfl (by omega) (by omega) ?_))
  intro v w1 hown hb
  obtain ⟨s, hs⟩ : ∃ s, s = Frm.crc l := ⟨_, rfl⟩
  have hs2 := Frm.crc_lt l
  rw [← hs] at hs2 ⊢
  have HS := Lib.hid hs; clear hs
  go_wp2
  go_loopw [4, 12] (fun v i wr => ∃ k : Nat, k ≤ 4 ∧ i = .int .i64 k ∧ wr.ownsRow w.heap.size 5 1 v k (bys ((be4 s).take k)) ∧ Below w.heap.size w wr) (fun _ i _ => 4 - (intOf i).toNat)
  case atStart => exact ⟨0, Nat.zero_le _, rfl, hown, hb⟩
  case round =>
    clear hown hb
    obtain ⟨k, hk, rfl, hown, hb⟩ := hrel
    by_cases hk4 : k < 4
    · go_wp2_with (at_builtin; refine wpList_byte u8 _ rfl _ _ rfl w.heap.size k ((be4 s).take k) _ rfl hown _ ((be4 s).getD k 0) rfl (be4_at hk4) (by omega) hb.size ?_)
      intro v' w' hown' hb'
      clear hown
      go_wp2
      go_roundw
      case rel => exact ⟨k + 1, by omega, by go_num, by rw [be4_snoc s hk4]; exact hown', hb.trans hb'⟩
      case measure => simp [intOf]; omega
    · obtain rfl : k = 4 := by omega
      go_wp2_with (at_builtin; refine wpList_bytes u8 _ rfl _ _ rfl w.heap.size 4 ((be4 s).take 4) _ rfl hown p l.length c l rfl (H.out.below hb) rfl (fun e => ⟨by rw [(HP.out e).1]; rfl, (HP.out e).2⟩) (by omega) hb.size ?_)
      intro v' w' hown' hb'
      go_wp2
      go_ret
      exact RetOwn.of_own (by unfold sealed; rw [← HS.out]; exact hown') rfl (hb.trans hb')
theorem seal_any (p : Option Addr) (c : Nat) (l : List UInt8) (w : World) (h : Lies w p l) (hp : p = none → l = [] ∧ c = 0) (hT : Table w) (hn : l.length ≤ 140737488355000) :
    Calls Tryd.prog 12 #[.slice p l.length c] w (RetBytes w (sealed l)) := (seal_own p c l w h hp hT hn).mono fun _ _ h => h.bytes
end Go.Proofs.YtmclbhpdopikiaaDoor
