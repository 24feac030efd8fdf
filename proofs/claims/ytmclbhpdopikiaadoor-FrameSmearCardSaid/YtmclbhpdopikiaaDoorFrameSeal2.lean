/- The contract of the document's own Seal. -/
import Derived.Test.YtmclbhpdopikiaaDoorFrameSeal
namespace Go.Proofs.YtmclbhpdopikiaaDoor
open Go Go.RowKit

set_option maxHeartbeats 1000000 in
theorem seal2_any (p : Option Addr) (c : Nat) (l : List UInt8) (w : World) (h : Lies w p l) (hp : p = none → l = [] ∧ c = 0) (hn : l.length ≤ 140737488355000) :
    Calls Tryd.prog 13 #[.slice p l.length c] w (RetBytes w (sealed l)) := by
  have H := Lib.hid h; clear h
  have HP := Lib.hid hp; clear hp
  obtain ⟨s, hs⟩ : ∃ s, s = Frm.crc l := ⟨_, rfl⟩
  have hs2 := Frm.crc_lt l
  have hsum := sum2_any p c l w H.out (by omega)
  have hown : (w.alloc (.cells #[.int .u8 ((s : Int) / 16777216), .int .u8 ((s : Int) / 65536 % 256), .int .u8 ((s : Int) / 256 % 256), .int .u8 ((s : Int) % 256)] 5)).ownsRow w.heap.size 5 1 (.slice (some ⟨w.heap.size, 0, none⟩) 4 4) 4 (bys (be4 s)) := by
    have := World.ownsRow_lit (base := w.heap.size) (e := 5) (size := 1) w #[.int .u8 ((s : Int) / 16777216), .int .u8 ((s : Int) / 65536 % 256), .int .u8 ((s : Int) / 256 % 256), .int .u8 ((s : Int) % 256)] 4 (Nat.le_refl _) (by decide) (by simp)
    have e : ((s : Int) / 16777216) % 256 = (s : Int) / 16777216 := by omega
    simpa [bys, be4, e] using this
  rw [← hs] at hs2 hsum
  have HS := Lib.hid hs; clear hs
  go_enter Tryd.func13, Tryd.ntmps13
  go_wp2_with (first
    | (go_at_call 10; refine hsum.mono ?_; rintro e w' ⟨rfl, rfl⟩)
    | (at_builtin; refine wpList_bytes u8 _ rfl _ _ rfl w.heap.size 4 (be4 s) _ rfl hown p l.length c l rfl (H.out.alloc _) rfl (fun e => ⟨by rw [(HP.out e).1]; rfl, (HP.out e).2⟩) (by omega) (by simp) ?_))
  intro v' w' hown' hb'
  go_wp2
  go_ret
  exact RetBytes.of_own (by unfold sealed; rw [← HS.out]; exact hown') rfl (((Below.refl _ _).alloc (Nat.le_refl _) _).trans hb')
end Go.Proofs.YtmclbhpdopikiaaDoor
