/- The walk of CoderBack. -/
import Derived.Test.YtgdhaijaiogiiaaCoderAwake
import Derived.Test.YtgdhaijaiogiiaaCoderLive3
namespace Go.Proofs.Ytgdhaijaiogiiaa
open Go Go.RowKit

theorem Came.given' {w : World} {p : Option Addr} {c : Nat} {l : List UInt8} (h : Came w p c l) : Given w p c l := ⟨h.lies, h.le, h.none⟩

set_option maxHeartbeats 2000000 in
set_option maxRecDepth 100000 in
theorem coderBack_walk (n k : Int) (s : ByteArray) (p : Option Addr) (c : Nat) (l : List UInt8) (W : World) (hn : (Lit.int .i64 n).wf = true) (hk : (Lit.int .i64 k).wf = true) (hs : s.size ≤ 140737488351232) (h : Came W p c l) :
    Calls Try.prog 5 #[.int .i64 n, .int .i64 k, .string s, .slice p l.length c] W (Yes W) := by
  have hr := h.reach
  have hle := h.le
  have G := Lib.hid h.given'
  have KW := Lib.hid hk
  have hnr := int_range hn
  clear h hn hk
  have hmin : min (s.size : Int) 1000 = ((min s.size 1000 : Nat) : Int) := by omega
  have hmax : max n 0 = ((n.toNat : Nat) : Int) := by omega
  have hm1 : min s.size 1000 ≤ s.size := Nat.min_le_left _ _
  go_enter Try.func5, Try.ntmps5
  go_wp2_with fail
  go_quiet (fail)
  have e1 : (if n < 0 then 0 else n) = ((n.toNat : Nat) : Int) := by split <;> omega
  rw [e1]
  obtain ⟨m, hm⟩ : ∃ m, m = n.toNat := ⟨_, rfl⟩
  rw [← hm]
  have hmb : m ≤ 9223372036854775807 := by omega
  have ht : (s.extract 0 (if 1000 < (s.size : Int) then 1000 else (s.size : Int)).toNat).size ≤ 1000 := by
    rw [ByteArray.size_extract]; split <;> omega
  generalize (if 1000 < (s.size : Int) then 1000 else (s.size : Int)) = z16 at ht ⊢
  generalize s.extract 0 z16.toNat = t at ht ⊢
  have b0 : Below W.heap.size W (W.drewN nq) := below_drewN (Below.refl _ _) nq
  generalize W.drewN nq = w0 at b0 ⊢
  have tl : t.data.toList.length = t.size := Array.length_toList
  have TL := Lib.hid tl; have B0 := Lib.hid b0
  clear hmin hmax hm1 e1 hm hnr b0 tl hs
  have q1 := enc_len m; have q2 := enc_len (zz k); have q3 := enc_len t.size
  go_wp2_with fail
  refine (num_any none 0 [] m w0 (Lies.nil _ _) (fun _ => rfl) (Nat.le_refl _) (by simp [Lit.wf, IntKind.min, IntKind.max, IntKind.bits, IntKind.signed]; omega) (by simp)).mono ?_
  intro e w1 hr1
  rw [List.nil_append, Int.toNat_natCast] at hr1
  obtain ⟨p1, c1, rfl, g1, b1⟩ := hr1.given
  have G1 := Lib.hid g1; have B1 := Lib.hid (thenBelow B0.out b1); clear hr1 g1 b1
  go_wp2_with fail
  refine (sign_any p1 c1 (Cod.enc m) k w1 G1.out.lies (fun e => (G1.out.none e).1) G1.out.le KW.out (by omega)).mono ?_
  intro e w2 hr2
  obtain ⟨L2, hL2⟩ : ∃ L, L = Cod.enc m ++ Cod.enc (zz k) := ⟨_, rfl⟩
  rw [← hL2] at hr2
  obtain ⟨p2, c2, rfl, g2, b2⟩ := hr2.given
  have G2 := Lib.hid g2; have B2 := Lib.hid (thenBelow B1.out b2); clear hr2 g2 b2
  have q4 : L2.length ≤ 18 := by rw [hL2, List.length_append]; omega
  have HL2 := Lib.hid hL2; clear hL2
  go_wp2_with fail
  refine (text_any p2 c2 L2 t w2 G2.out (by omega)).mono ?_
  rintro e w3 ⟨v3, rfl, hown3, b3⟩
  obtain ⟨L3, hL3⟩ : ∃ L, L = L2 ++ Cod.enc t.size ++ t.data.toList := ⟨_, rfl⟩
  rw [← hL3] at hown3
  have q5 : L3.length ≤ 1027 := by rw [hL3, List.length_append, List.length_append, TL.out]; omega
  have HL3 := Lib.hid hL3; clear hL3
  have g3 := Lib.hid (G.out.below (thenBelow B2.out b3)); have B3 := Lib.hid (thenBelow B2.out b3)
  have O3 := Lib.hid hown3; have S3 := Lib.hid b3.size
  clear hown3 b3
  go_wp2_with (at_builtin; refine wpList_bytes isU8 _ rfl _ _ rfl w2.heap.size _ _ _ rfl O3.out p l.length c l rfl g3.out.lies rfl (fun e => ⟨by rw [(g3.out.none e).1]; rfl, (g3.out.none e).2⟩) (by omega) S3.out ?_)
  intro v4 w4 hown4 hb4
  obtain ⟨L4, hL4⟩ : ∃ L, L = L3 ++ l := ⟨_, rfl⟩
  have e4 : L4 = Cod.enc m ++ (Cod.enc (zz k) ++ (Cod.enc t.data.toList.length ++ (t.data.toList ++ l))) := by rw [hL4, HL3.out, HL2.out, TL.out]; simp only [List.append_assoc]
  have e5 : L4.length = L3.length + l.length := by rw [hL4, List.length_append]
  rw [← hL4] at hown4
  obtain ⟨n4, p4, c4, rfl, le4, _, lies4, none4⟩ := own_lies hown4
  have q6 : L4.length ≤ 140737488355328 := by omega
  have r6 := q6
  rw [e4] at r6
  have q7 : (Cod.enc (zz k) ++ (Cod.enc t.data.toList.length ++ (t.data.toList ++ l))).length ≤ 140737488355328 := by rw [List.length_append] at r6; omega
  have q8 : (Cod.enc t.data.toList.length ++ (t.data.toList ++ l)).length ≤ 140737488355328 := by rw [List.length_append] at q7; omega
  have q9 : 0 < L4.length := by rw [e4, List.length_append, Cod.enc_length]; omega
  have B4 : Hid (Below W.heap.size W w4) := B3.out.trans (hb4.mono (Nat.le_trans B2.out.size (Nat.le_refl _)))
  have G4 : Hid (Given w4 p4 c4 L4) := ⟨lies4, le4, none4⟩
  have E4 := Lib.hid e4; have R6' := Lib.hid r6
  clear hown4 hb4 le4 lies4 none4 e4 n4 r6 e5 hL4
  have Q6 := Lib.hid q6; have Q7 := Lib.hid q7; have Q8 := Lib.hid q8; have Q9 := Lib.hid q9
  clear q6 q7 q8 q9
  go_wp2_with fail
  refine (read_any p4 c4 _ w4 G4.out Q9.out Q6.out).mono ?_
  rintro e w5 ⟨B, rfl, hB, r5, b5⟩
  rw [E4.out] at r5
  have R5 := Lib.hid r5; have B5 := Lib.hid (thenBelow B4.out b5); have HB := Lib.hid (Nat.le_trans B4.out.size hB)
  clear r5 b5 hB
  go_wp2_with fail
  refine (numIn_live B m m _ w5 R5.out (by omega) (by omega) R6'.out).mono ?_
  rintro e w6 ⟨rfl, r6, g6⟩
  have R6 := Lib.hid r6; have G6 := Lib.hid g6; clear r6 g6
  go_wp2_with fail
  refine (signIn_live B k _ w6 R6.out (int_range KW.out) Q7.out).mono ?_
  rintro e w7 ⟨rfl, r7, g7⟩
  have R7 := Lib.hid r7; have G7 := Lib.hid (grown_trans G6.out g7); clear r7 g7
  go_wp2_with fail
  refine (textIn_live B 1000 t.data.toList l w7 R7.out (by rw [TL.out]; omega) (by omega) Q8.out).mono ?_
  rintro e w8 ⟨rfl, r8, g8⟩
  have R8 := Lib.hid r8; have G8 := Lib.hid (grown_trans G7.out g8); clear r8 g8
  go_wp2_with fail
  refine (err_live B l w8 R8.out).mono ?_
  rintro e w' ⟨rfl, rfl⟩
  go_wp2_with fail
  refine (left_live B l w8 R8.out).mono ?_
  rintro e w' ⟨rfl, rfl⟩
  have B8 := Lib.hid (B5.out.grown G8.out B5.out.size (fun k hk => by cases hk; exact HB.out))
  go_wp2_with fail
  refine (awake_any w8).mono ?_
  rintro e w9 ⟨rfl, b9⟩
  have B9 := Lib.hid (thenBelow B8.out b9)
  go_wp2_with fail
  go_ret
  exact ⟨rfl, B9.out⟩
end Go.Proofs.Ytgdhaijaiogiiaa
