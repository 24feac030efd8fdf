/- The example of pages: a page written, synced, written again; power goes; what was synced is there. -/
import Derived.Test.YtfgjcgonlpbdbaaPgCrash
import Derived.Lib.SlBytesConst
namespace Go.Proofs.Ytfgjcgonlpbdbaa
open Go Go.RowKit
set_option linter.unusedVariables false

theorem below_alloc10 (w : World) (o : Obj) : Below w.heap.size w (w.alloc o) := (Below.refl _ _).alloc (Nat.le_refl _) o
theorem was_one {w : World} {M n c i : Nat} {old : Nat → List UInt8} (hm : w.heap[M]? = some (.map (ents ([] ++ [((i : Int), .agg (bys (old i)).toArray, c)])).toArray (c + 1))) (hi : i < n) (hl : (old i).length = 128) : Was w M n old [(i, c)] (c + 1) :=
  ⟨hm, by simp, by simp, fun e he => by rw [List.mem_singleton.1 he]; exact ⟨hi, Nat.lt_succ_self _⟩, fun e he => by rw [List.mem_singleton.1 he]; exact hl⟩
theorem pgC_one (pg old : Nat → List UInt8) (i c : Nat) : pgC pg old (-1) 0 (delK (-1) [] [(i, c)]) i = old i := by
  unfold pgC
  rw [if_pos ⟨(i, c), by simp [delK], rfl⟩]
  unfold patch lastsOf
  rw [if_neg (by omega)]
  simp
theorem convLit (w : World) (x y : Int) : (convert 31 31 (.slice (some ⟨w.heap.size, 0, none⟩) 2 2)).run Try.prog (w.alloc (.cells #[.int .u8 x, .int .u8 y] 5)) = .ok (.slice (some ⟨w.heap.size, 0, none⟩) 2 2) (w.alloc (.cells #[.int .u8 x, .int .u8 y] 5 (2, 3))) :=
  Lib.run_convert_bytes_const w _ _ #[.int .u8 x, .int .u8 y] 2 2 Try.underlying31 Try.underlying5
set_option maxHeartbeats 4000000 in
set_option maxRecDepth 100000 in
theorem awake10 (w : World) : Calls Try.prog 9 #[] w (Yes w) := by
  go_enter Try.func9, Try.ntmps9
  go_wp2_with fail
  refine (newDk w).mono ?_
  rintro e w1 ⟨D, P, M, rfl, ⟨hD, hP, hM⟩, hdk, hmp, hb⟩
  have DK := Lib.hid hdk; have MP := Lib.hid hmp; have B := Lib.hid hb
  clear hdk hmp hb
  have cv := convLit w1 97 98
  go_wp2_with fail
  have al := below_alloc10 w1 (.cells #[.int .u8 97, .int .u8 98] 5 (2, 3))
  have L1 := lies_lit w1 5 (2, 3) [97, 98] #[.int .u8 97, .int .u8 98] rfl
  refine (write_new w.heap.size D P M 2 (fun _ => zeroPg) [] 0 1 _ 2 [97, 98] _ (DK.out.below al) ((al.block M (Array.getElem?_eq_some_iff.1 MP.out).1).trans MP.out) (fun e he => by simp at he) (by omega) L1 (by decide) (by decide) ⟨hD, hP, hM⟩ (thenBelow B.out al).size).mono ?_
  rintro e w2 ⟨rfl, hdk, hmp, hb⟩
  have DK2 := Lib.hid hdk; have MP2 := Lib.hid hmp; have B2 := Lib.hid ((B.out.trans (al.mono B.out.size)).trans hb)
  clear hdk hmp hb DK MP B al L1
  go_wp2_with fail
  refine (sync_is w.heap.size D P M 2 _ _ 1 w2 DK2.out MP2.out hM B2.out.size).mono ?_
  rintro e w3 ⟨rfl, hdk, hmp, hb⟩
  have DK3 := Lib.hid hdk; have MP3 := Lib.hid hmp; have B3 := Lib.hid (B2.out.trans hb)
  clear hdk hmp hb DK2 MP2 B2
  have cv3 := convLit w3 99 100
  go_wp2_with fail
  have al := below_alloc10 w3 (.cells #[.int .u8 99, .int .u8 100] 5 (2, 3))
  have L1 := lies_lit w3 5 (2, 3) [99, 100] #[.int .u8 99, .int .u8 100] rfl
  refine (write_new w.heap.size D P M 2 _ [] 1 1 _ 2 [99, 100] _ (DK3.out.below al) ((al.block M (Array.getElem?_eq_some_iff.1 MP3.out).1).trans MP3.out) (fun e he => by simp at he) (by omega) L1 (by decide) (by decide) ⟨hD, hP, hM⟩ (B3.out.trans (al.mono B3.out.size)).size).mono ?_
  rintro e w4 ⟨rfl, hdk, hmp, hb⟩
  have DK4 := Lib.hid hdk; have B4 := Lib.hid ((B3.out.trans (al.mono B3.out.size)).trans hb)
  have WS4 := Lib.hid (was_one (n := 2) hmp (by omega) (by decide))
  clear hdk hmp hb DK3 MP3 B3 al L1
  go_wp2_with fail
  refine (crash_is D P M 2 2 _ _ _ false (-1) none 0 [] (-1) 0 w w4 DK4.out WS4.out B4.out (LiesI.nil _ _) (by simp) hD hP hM).mono ?_
  rintro e w5 ⟨rfl, hdk, hmp, hb⟩
  have DK5 := Lib.hid hdk; have B5 := Lib.hid hb
  clear hdk hmp hb DK4 WS4 B4
  go_wp2_with fail
  refine (read_is D P M 2 _ 1 w5 DK5.out (by omega)).mono ?_
  rintro e w6 ⟨v, rfl, ho, hb⟩
  rw [pgC_one, show upd (fun _ => zeroPg) 1 (padded [97, 98]) 1 = padded [97, 98] from rfl] at ho
  have B6 := Lib.hid (thenBelow B5.out hb)
  obtain ⟨hkk, p6, c6, rfl, hle, _, hl, _⟩ := own_lies ho
  obtain ⟨b, o, rfl, hc⟩ := hl (by decide)
  have h128 : (padded [97, 98]).length = 128 := by decide
  rw [h128] at hle ⊢
  have hl2 : Lies w6 (some ⟨b, o, none⟩) [97, 98] := fun _ => ⟨b, o, rfl, fun i hi => by
    have h2 : i < 2 := hi
    rw [hc i (by omega)]
    rcases (show i = 0 ∨ i = 1 by omega) with rfl | rfl <;> rfl⟩
  have cvs := hl2.convert 2 rfl c6 31 5 9 Try.underlying31 Try.underlying5 Try.underlying9
  clear hkk ho hb hc hl hl2 cv cv3 DK5 B5 h128
  go_wp2
  go_ret
  exact ⟨rfl, B6.out⟩
end Go.Proofs.Ytfgjcgonlpbdbaa
