/- The statement WireDecodes, proved for every input that its row reads: part 20 of 54. -/
import Derived.Test.YtapmbankpbiglaaGreatDoorMemWide
import Derived.Test.YtapmbankpbiglaaGreatDoorPackWireDecodes19
import Derived.Test.YtapmbankpbiglaaGreatDoorPackWireDecodes12
/- A reader that Read made, as far as what it is asked is there: Read, Err, Left, take, number. -/
namespace Go.Proofs.YtapmbankpbiglaaGreatDoor
open Go Go.RowKit

def Cells (w : World) (b o : Nat) (l : List UInt8) : Prop := ∀ i, i < l.length → w.cell? ⟨b, o + i, none⟩ = some (.int .u8 ((l.getD i 0).toNat : Int))
theorem Cells.lies {w : World} {b o : Nat} {l : List UInt8} (h : Cells w b o l) : Lies w (some ⟨b, o, none⟩) l := fun _ => ⟨b, o, rfl, h⟩
def inObj (v : Value) : Obj := .cells #[v, .int .i64 0, .bool true] 64 (0, 0)
/-- the reader at block B has the bytes l left -/
def Rd (w : World) (B : Nat) (l : List UInt8) : Prop :=
  ∃ b o c, w.heap[B]? = some (inObj (.slice (some ⟨b, o, none⟩) l.length c)) ∧ Cells w b o l ∧ l.length ≤ c ∧ b < B
theorem in_cells {w : World} {B : Nat} {v : Value} (h : w.heap[B]? = some (inObj v)) : w.cell? ⟨B, 0, none⟩ = some v ∧ w.cell? ⟨B, 1, none⟩ = some (.int .i64 0) ∧ w.cell? ⟨B, 2, none⟩ = some (.bool true) ∧ w.frozen? ⟨B, 0, none⟩ = false := by
  unfold inObj at h
  exact ⟨by rw [cell_of_row w B 0 _ _ _ h]; rfl, by rw [cell_of_row w B 1 _ _ _ h]; rfl, by rw [cell_of_row w B 2 _ _ _ h]; rfl, frozen_of_row w B 0 _ _ h⟩
theorem in_set {w : World} {B : Nat} {v : Value} (u : Value) (h : w.heap[B]? = some (inObj v)) : (w.setCell ⟨B, 0, none⟩ u).heap[B]? = some (inObj u) := by
  unfold inObj at h ⊢
  rw [heap_setCell_same w B 0 _ _ u h]
  rfl
theorem grown_set (w : World) (B : Nat) (u : Value) : w.grownBy (w.setCell ⟨B, 0, none⟩ u) (some B) :=
  ⟨rfl, rfl, rfl, by simp [World.setCell], fun k _ hne => Below.heap_setCell _ _ _ _ (fun e => hne (by rw [e]))⟩
theorem cells_set {w : World} {B b o : Nat} {v : Value} {l : List UInt8} (u : Value) (h : w.heap[B]? = some (inObj v)) (hv : ∀ n, v ≠ .int .u8 n) (hc : Cells w b o l) : Cells (w.setCell ⟨B, 0, none⟩ u) b o l := by
  intro i hi
  have h1 := hc i hi
  have hne : b ≠ B := by
    rintro rfl
    unfold inObj at h
    rw [cell_of_row w b (o + i) _ _ _ h] at h1
    generalize o + i = j at h1
    match j, h1 with
    | 0, h1 => simp at h1; exact hv _ h1
    | 1, h1 => simp at h1
    | 2, h1 => simp at h1
    | k + 3, h1 => simp at h1
  rw [World.cell?_of_block (w := w) (Below.heap_setCell w ⟨B, 0, none⟩ u b hne)]
  exact h1
theorem Cells.grown {w w' : World} {B b o : Nat} {v : Value} {l : List UInt8} (hb : w.heap[B]? = some (inObj v)) (hv : ∀ n, v ≠ .int .u8 n) (h : Cells w b o l) (hg : w.grownBy w' (some B)) : Cells w' b o l := by
  intro i hi
  have h1 := h i hi
  have hne : b ≠ B := by
    rintro rfl
    unfold inObj at hb
    rw [cell_of_row w b (o + i) _ _ _ hb] at h1
    generalize o + i = j at h1
    match j, h1 with
    | 0, h1 => simp at h1; exact hv _ h1
    | 1, h1 => simp at h1
    | 2, h1 => simp at h1
    | k + 3, h1 => simp at h1
  exact hg.cell h1 (fun e => hne (Option.some.inj e))
theorem grown_trans {a b c : World} {row : Option Nat} (h : a.grownBy b row) (k : b.grownBy c row) : a.grownBy c row :=
  ⟨k.os.trans h.os, k.tape.trans h.tape, k.output.trans h.output, Nat.le_trans h.size k.size, fun i hi hn => (k.block i (Nat.lt_of_lt_of_le hi h.size) hn).trans (h.block i hi hn)⟩

set_option maxHeartbeats 1000000 in
theorem read_any (p : Option Addr) (c : Nat) (l : List UInt8) (w : World) (h : Given w p c l) (h0 : 0 < l.length) (hn : l.length ≤ 150000000000000) :
    Calls Tryz.prog 12 #[.slice p l.length c] w fun e w' => ∃ B, e = .returned (.pointer (some ⟨B, 0, none⟩)) ∧ w.heap.size ≤ B ∧ Rd w' B l ∧ Below w.heap.size w w' := by
  have H := Lib.hid h; clear h
  go_enter Tryz.func12, Tryz.ntmps12
  go_wp2_with (at_builtin; refine wpList_bytesW isU8 _ rfl _ _ rfl w.heap.size 0 [] _ rfl (World.ownsRow_nil _ _ _ _) p l.length c l rfl H.out.lies rfl (fun e => ⟨by rw [(H.out.none e).1]; rfl, (H.out.none e).2⟩) (by omega) (Nat.le_refl _) ?_)
  intro v w1 hown hb
  have hown1 : w1.ownsRow w.heap.size 5 1 v l.length (bys l) := by simpa using hown
  obtain ⟨g, cap, rfl, _⟩ := own_some hown1 h0
  have hc : Cells w1 g 0 l := fun i hi => by have := (own_cell hown1 i hi).1; simpa using this
  obtain ⟨_, p', c', hv, hle, _, _, _⟩ := own_lies hown1
  have hcap : l.length ≤ cap := by
    simp only [Value.slice.injEq] at hv
    omega
  have HC := Lib.hid hc; have HB := Lib.hid hb
  have HG := Lib.hid (World.block_lt_of_cell? w1 _ (hc 0 h0))
  clear hown hown1 hv hc hb hle
  go_wp2
  go_ret
  refine ⟨w1.heap.size, rfl, HB.out.size, ⟨g, 0, cap, ?_, ?_, hcap, HG.out⟩, HB.out.alloc HB.out.size _⟩
  · exact heap_alloc_new w1 _
  · exact fun i hi => cell_alloc _ (HC.out i hi)

set_option maxHeartbeats 1000000 in
theorem err_live (B : Nat) (l : List UInt8) (w : World) (h : Rd w B l) : Calls Tryz.prog 34 #[.pointer (some ⟨B, 0, none⟩)] w fun e w' => e = .returned (.int .i64 0) ∧ w = w' := by
  obtain ⟨b, o, c, hh, _, _⟩ := h
  obtain ⟨c0, c1, c2, _⟩ := in_cells hh
  clear hh
  go_enter Tryz.func34, Tryz.ntmps34
  go_wp2
  go_ret
  exact ⟨rfl, rfl⟩

set_option maxHeartbeats 1000000 in
theorem left_live (B : Nat) (l : List UInt8) (w : World) (h : Rd w B l) : Calls Tryz.prog 35 #[.pointer (some ⟨B, 0, none⟩)] w fun e w' => e = .returned (.int .i64 l.length) ∧ w = w' := by
  obtain ⟨b, o, c, hh, _, _⟩ := h
  obtain ⟨c0, c1, c2, _⟩ := in_cells hh
  clear hh
  go_enter Tryz.func35, Tryz.ntmps35
  go_wp2
  go_ret
  exact ⟨rfl, rfl⟩

/-- what 'take' comes to -/
def Took (w : World) (B n : Nat) (l : List UInt8) (e : Ending) (w' : World) : Prop :=
  ∃ b o, e = .returned (.slice (some ⟨b, o, none⟩) n n) ∧ Cells w' b o (l.take n) ∧ Rd w' B (l.drop n) ∧ w.grownBy w' (some B)
theorem took {w : World} {B b o c n b' o' c' : Nat} {l : List UInt8} {m : Nat} {e : Ending} (hh : w.heap[B]? = some (inObj (.slice (some ⟨b, o, none⟩) l.length c))) (hc : Cells w b o l) (hm : m = (l.drop n).length)
    (hc' : Cells w b' o' (l.drop n)) (hle : (l.drop n).length ≤ c') (hb' : b' < B) (he : e = .returned (.slice (some ⟨b, o, none⟩) n n)) : Took w B n l e (w.setCell ⟨B, 0, none⟩ (.slice (some ⟨b', o', none⟩) m c')) := by
  subst hm
  refine ⟨b, o, he, ?_, ⟨b', o', c', in_set _ hh, cells_set _ hh (by intro n h; cases h) hc', hle, hb'⟩, grown_set w B _⟩
  refine cells_set _ hh (by intro n h; cases h) ?_
  intro i hi
  simp only [List.length_take] at hi
  rw [hc i (by omega)]
  simp [List.getD, show i < n from by omega]
set_option maxHeartbeats 1000000 in
theorem take_live (B n : Nat) (l : List UInt8) (w : World) (h : Rd w B l) (hn : n ≤ l.length) (hl : l.length ≤ 150000000000000) :
    Calls Tryz.prog 76 #[.pointer (some ⟨B, 0, none⟩), .int .i64 n] w (Took w B n l) := by
  have he := err_live B l w h
  obtain ⟨b, o, c, hh, hc, hlc, hbB⟩ := h
  obtain ⟨c0, c1, c2, f0⟩ := in_cells hh
  have HH := Lib.hid hh; have HC := Lib.hid hc; have BB := Lib.hid hbB
  clear hh hc hbB
  go_enter Tryz.func76, Tryz.ntmps76
  go_wp2_with (go_at_call 34; refine he.mono ?_; rintro e w' ⟨rfl, rfl⟩)
  · rename_i hcn
    go_ret
    refine took HH.out HC.out (by simp) ?_ ?_ BB.out rfl
    · intro i hi; simp at hi; omega
    · simp; omega
  · go_ret
    refine took HH.out HC.out (by simp) ?_ ?_ BB.out rfl
    · intro i hi
      simp only [List.length_drop] at hi
      rw [Nat.add_assoc, HC.out (n + i) (by omega)]
      simp [List.getD]
    · simp; omega
end Go.Proofs.YtapmbankpbiglaaGreatDoor
/- A reader that Read made: number, on the bytes of a number. -/
namespace Go.Proofs.YtapmbankpbiglaaGreatDoor
open Go Go.RowKit

theorem shr_127 (P : Program) (k : Nat) (hk : k ≤ 8) (w : World) : Sem.run P (Op.shift BinOp.shr IntKind.u8 127 IntKind.i64 (k : Int)) w = .ok (.int .u8 ((127 / 2 ^ k : Nat) : Int)) w := by
  unfold Op.shift
  rw [if_neg (by omega)]
  have e2 : min k IntKind.u8.bits = k := by simp [IntKind.bits]; omega
  simp only [Int.toNat_natCast, e2]
  rw [Sem.run_pure]
  have : (127 : Int).fdiv (2 ^ k) = ((127 / 2 ^ k : Nat) : Int) := by
    rw [show ((2 : Int) ^ k) = ((2 ^ k : Nat) : Int) from by simp, Int.fdiv_eq_ediv_of_nonneg _ (Int.natCast_nonneg _)]; simp
  simp only [this]

theorem xor_255 (n : Nat) (h : n < 256) : bits BinOp.xor IntKind.u8 IntKind.u8.max (n : Int) = ((255 - n : Nat) : Int) := by
  have : ∀ n : Fin 256, (255 ^^^ n.val) = 255 - n.val := by decide +kernel
  rw [show IntKind.u8.max = ((255 : Nat) : Int) from rfl, u8_xor_nat _ _ (by omega) h, this ⟨n, h⟩]
/-- what reading comes to: a value, the bytes that are left, and nothing that was there is other, the reader aside -/
def Got (w : World) (B : Nat) (v : Value) (l : List UInt8) (e : Ending) (w' : World) : Prop := e = .returned v ∧ Rd w' B l ∧ w.grownBy w' (some B)

theorem Rd.carry {w w' : World} {B b o : Nat} {l m : List UInt8} (h : Rd w B l) (hc : Cells w b o m) (hg : w.grownBy w' (some B)) : Cells w' b o m := by
  obtain ⟨_, _, _, hh, _, _⟩ := h
  exact hc.grown hh (by intro n h; cases h) hg
theorem Cells.at {w : World} {b o : Nat} {l : List UInt8} (h : Cells w b o l) (i : Nat) (hi : i < l.length) (x : UInt8) (hx : l.getD i 0 = x) : w.cell? ⟨b, o + i, none⟩ = some (.int .u8 (x.toNat : Int)) := by rw [h i hi, hx]

set_option maxHeartbeats 2000000 in
set_option maxRecDepth 100000 in
theorem number_live (B x : Nat) (l : List UInt8) (w : World) (h : Rd w B (Cod.enc x ++ l)) (hx : x < 18446744073709551616) (hl : (Cod.enc x ++ l).length ≤ 150000000000000) :
    Calls Tryz.prog 52 #[.pointer (some ⟨B, 0, none⟩)] w (Got w B (.int .u64 x) l) := by
  have h8 := Cod.bh_le x
  have hlen := Cod.enc_length x
  have hz := head_ones x hx
  have hh := Cod.head_lt x hx
  have ht := top_of x hx
  have hbe : ∀ w, Calls Tryz.prog 78 #[.int .u64 x] w fun e w' => e = .returned (.int .i64 (Cod.bh x : Nat)) ∧ w = w' := behind_any x
  have hg0 : (Cod.enc x).getD 0 0 = UInt8.ofNat (Cod.head x (Cod.bh x)) := rfl
  obtain ⟨k, hk⟩ : ∃ k, k = Cod.bh x := ⟨_, rfl⟩
  obtain ⟨d, hd⟩ : ∃ d, d = UInt8.ofNat (Cod.head x (Cod.bh x)) := ⟨_, rfl⟩
  have hdn : d.toNat = Cod.head x (Cod.bh x) := by rw [hd, UInt8.toNat_ofNat', Nat.mod_eq_of_lt hh]
  rw [← hd] at hg0
  rw [← hdn] at hz ht hh
  rw [← hk] at hlen h8 hz ht hbe
  clear hd hdn
  have t1 := take_live B 1 _ w h (by rw [List.length_append, hlen]; omega) hl
  have HT := Lib.hid ht; have HK := Lib.hid hk; have HG0 := Lib.hid hg0; have HLEN := Lib.hid hlen; have HL := Lib.hid hl
  have HZ := Lib.hid hz
  clear ht hk hg0 hlen hz hl
  have s1 := shr_127 Tryz.prog k h8
  go_enter Tryz.func52, Tryz.ntmps52
  go_wp2_with fail
  refine t1.mono ?_
  rintro e w1 ⟨b1, o1, rfl, hc1, hr1, hg1⟩
  have e1 : (Cod.enc x ++ l).drop 1 = (Cod.enc x).drop 1 ++ l := by rw [List.drop_append_of_le_length (by rw [HLEN.out]; omega)]
  rw [e1] at hr1
  have c1 : w1.cell? ⟨b1, o1, none⟩ = some (.int .u8 (d.toNat : Int)) := by
    have := hc1.at 0 (by rw [List.length_take, List.length_append, HLEN.out]; omega) d (by rw [← HG0.out]; simp [Cod.enc])
    simpa using this
  have R1 := Lib.hid hr1; have G1 := Lib.hid hg1; have C1 := Lib.hid hc1
  clear e1 hr1 hg1 hc1 t1
  have z1 := lz8_any (255 - d.toNat) w1 (by omega)
  rw [HZ.out] at z1
  have hL2 := HL.out
  rw [List.length_append, HLEN.out] at hL2
  have hD : ((Cod.enc x).drop 1).length = k := by rw [List.length_drop, HLEN.out]; rfl
  have t2 := take_live B k _ w1 R1.out (by rw [List.length_append, hD]; omega) (by rw [List.length_append, hD]; omega)
  have HD := Lib.hid hD
  clear hD
  have hxor := xor_255 d.toNat hh
  go_wp2_with fail
  refine z1.mono ?_
  rintro e w' ⟨rfl, rfl⟩
  clear z1 hxor
  go_wp2_with fail
  refine t2.mono ?_
  rintro e w2 ⟨b2, o2, rfl, hc2, hr2, hg2⟩
  have e2 : ((Cod.enc x).drop 1 ++ l).drop k = l := by rw [List.drop_append_of_le_length (by rw [HD.out]; exact Nat.le_refl _), List.drop_of_length_le (by rw [HD.out]; exact Nat.le_refl _)]; rfl
  have e3 : ((Cod.enc x).drop 1 ++ l).take k = Cod.dig k x := by
    rw [List.take_append_of_le_length (by rw [HD.out]; exact Nat.le_refl _), List.take_of_length_le (by rw [HD.out]; exact Nat.le_refl _), HK.out]; rfl
  rw [e2] at hr2
  rw [e3] at hc2
  have c2 : w2.cell? ⟨b1, o1, none⟩ = some (.int .u8 (d.toNat : Int)) := by
    have := (R1.out.carry C1.out hg2).at 0 (by rw [List.length_take, List.length_append, HLEN.out]; omega) d (by rw [← HG0.out]; simp [Cod.enc])
    simpa using this
  have R2 := Lib.hid hr2; have G2 := Lib.hid (grown_trans G1.out hg2); have C2 := Lib.hid hc2
  clear e2 e3 hr2 hg2 hc2 t2 c1 R1 G1 C1
  have hand : bits BinOp.and IntKind.u8 (d.toNat : Int) ((127 / 2 ^ k : Nat) : Int) = ((x / 256 ^ k : Nat) : Int) := by
    rw [u8_and_nat _ _ hh (Nat.lt_of_le_of_lt (Nat.div_le_self _ _) (by omega)), HT.out]
  go_wp2
  go_quiet (fail)
  have hu0 : IntKind.u64.wrap (bits BinOp.and IntKind.u8 (d.toNat : Int) (127 / 2 ^ k)) = ((x / 256 ^ (k - 0) : Nat) : Int) := by
    rw [show ((127 : Int) / 2 ^ k) = ((127 / 2 ^ k : Nat) : Int) from by simp, hand, Nat.sub_zero]
    have : x / 256 ^ k ≤ x := Nat.div_le_self _ _
    generalize x / 256 ^ k = t at this ⊢
    simp [IntKind.wrap, IntKind.bits, IntKind.signed]
    omega
  rw [hu0]
  clear hand hu0 c2 s1
  go_wp2
  go_loop [6, 33] (fun u i => ∃ j : Nat, j ≤ k ∧ i = .int .i64 j ∧ u = .int .u64 (x / 256 ^ (k - j) : Nat)) (fun _ i => k - (intOf i).toNat)
  case atStart => exact ⟨0, Nat.zero_le _, rfl, rfl⟩
  case round =>
    obtain ⟨j, hj, rfl, rfl⟩ := hrel
    by_cases hjk : j < k
    · have hc : w2.cell? ⟨b2, o2 + j, none⟩ = some (.int .u8 ((UInt8.ofNat (x / 256 ^ (k - 1 - j))).toNat : Int)) := C2.out.at j (by rw [Cod.dig_length]; exact hjk) _ (Cod.dig_get k x j hjk)
      have hq : x / 256 ^ (k - j) = x / 256 ^ (k - 1 - j) / 256 := by rw [Nat.div_div_eq_div_mul, show k - j = (k - 1 - j) + 1 from by omega, Nat.pow_succ]
      have hy : x / 256 ^ (k - 1 - j) ≤ x := Nat.div_le_self _ _
      have hk1 : k - (j + 1) = k - 1 - j := by omega
      have HK1 := Lib.hid hk1
      clear hk1
      rw [hq]
      obtain ⟨y, hyy⟩ : ∃ y, y = x / 256 ^ (k - 1 - j) := ⟨_, rfl⟩
      rw [← hyy] at hc hy ⊢
      obtain ⟨c, hcc⟩ : ∃ c, c = UInt8.ofNat y := ⟨_, rfl⟩
      rw [← hcc] at hc
      have hcn : c.toNat = y % 256 := by rw [hcc, UInt8.toNat_ofNat']
      obtain ⟨u, hu⟩ : ∃ u, u = y / 256 := ⟨_, rfl⟩
      rw [← hu]
      have hub : u * 256 < 18446744073709551616 := by omega
      have hor : bits BinOp.or IntKind.u64 ((u : Int) * 256) (c.toNat : Int) = (y : Int) := by
        rw [show ((u : Int) * 256) = ((u * 256 : Nat) : Int) from by simp, u64_or_nat _ _ (by omega) (by omega)]
        have := Nat.two_pow_add_eq_or_of_lt (i := 8) (b := c.toNat) (by omega) u
        rw [show u * 256 = 2 ^ 8 * u from by omega, ← this]
        omega
      have hcb : c.toNat < 256 := by omega
      have HY := Lib.hid hyy
      clear hyy hcc hcn hu hq hy
      go_wp2
      go_round
      case rel => exact ⟨j + 1, by omega, by go_num, by rw [HK1.out, ← HY.out]⟩
      case measure => simp [intOf]; omega
    · obtain rfl : j = k := by omega
      have hb0 := hbe (w2.drewN nq)
      rw [Nat.sub_self, Nat.pow_zero, Nat.div_one]
      go_wp2_with (go_at_call 78; refine hb0.mono ?_; rintro e w' ⟨rfl, rfl⟩)
      go_ret
      exact ⟨rfl, R2.out, ⟨G2.out.os, G2.out.tape, G2.out.output, G2.out.size, G2.out.block⟩⟩
set_option maxHeartbeats 1000000 in
theorem numIn_live (B x : Nat) (most : Int) (l : List UInt8) (w : World) (h : Rd w B (Cod.enc x ++ l)) (hx : (x : Int) ≤ most) (hm : most ≤ 9223372036854775807) (hl : (Cod.enc x ++ l).length ≤ 150000000000000) :
    Calls Tryz.prog 30 #[.pointer (some ⟨B, 0, none⟩), .int .i64 most] w (Got w B (.int .i64 x) l) := by
  have hn := number_live B x l w h (by omega) hl
  have hz : (x : Int) / 9223372036854775808 = 0 := by omega
  clear h hl
  go_enter Tryz.func30, Tryz.ntmps30
  go_wp2_with (go_at_call 52; refine hn.mono ?_; rintro e w1 ⟨rfl, hr, hg⟩)
  go_ret
  exact ⟨rfl, hr, hg⟩

theorem xor_i64_ones (q : Nat) (h : q ≤ 9223372036854775807) : bits BinOp.xor IntKind.i64 (q : Int) (-1) = -1 - (q : Int) := by
  have e1 : (BitVec.ofInt 64 (-1)).toNat = 18446744073709551615 := by decide +kernel
  have e2 : (BitVec.ofInt 64 (q : Int)).toNat = q := by rw [BitVec.ofInt_natCast, BitVec.toNat_ofNat, Nat.mod_eq_of_lt (by omega)]
  have e3 : bits BinOp.xor IntKind.i64 (q : Int) (-1) = IntKind.i64.wrap (((BitVec.ofInt 64 (q : Int) ^^^ BitVec.ofInt 64 (-1)).toNat : Nat) : Int) := rfl
  rw [e3, BitVec.toNat_xor, e1, e2, xor_ones q (by omega), IntKind.wrap_i64]
  omega
theorem xor_i64_zero (q : Nat) (h : q ≤ 9223372036854775807) : bits BinOp.xor IntKind.i64 (q : Int) 0 = (q : Int) := by
  have e1 : (BitVec.ofInt 64 0).toNat = 0 := by decide +kernel
  have e2 : (BitVec.ofInt 64 (q : Int)).toNat = q := by rw [BitVec.ofInt_natCast, BitVec.toNat_ofNat, Nat.mod_eq_of_lt (by omega)]
  have e3 : bits BinOp.xor IntKind.i64 (q : Int) 0 = IntKind.i64.wrap (((BitVec.ofInt 64 (q : Int) ^^^ BitVec.ofInt 64 0).toNat : Nat) : Int) := rfl
  rw [e3, BitVec.toNat_xor, e1, e2, Nat.xor_zero, IntKind.wrap_i64]
  omega
theorem zz_back {n : Int} (h : -9223372036854775808 ≤ n ∧ n ≤ 9223372036854775807) : (n < 0 → zz n % 2 = 1 ∧ n = -1 - ((zz n / 2 : Nat) : Int)) ∧ (0 ≤ n → zz n % 2 = 0 ∧ n = ((zz n / 2 : Nat) : Int)) := by
  unfold zz
  constructor <;> intro h0
  · rw [if_pos h0]; omega
  · rw [if_neg (by omega)]; omega

set_option maxHeartbeats 1000000 in
theorem textIn_live (B : Nat) (most : Int) (t l : List UInt8) (w : World) (h : Rd w B (Cod.enc t.length ++ (t ++ l))) (hx : (t.length : Int) ≤ most) (hm : most ≤ 9223372036854775807) (hl : (Cod.enc t.length ++ (t ++ l)).length ≤ 150000000000000) :
    Calls Tryz.prog 80 #[.pointer (some ⟨B, 0, none⟩), .int .i64 most] w (Got w B (.string ⟨t.toArray⟩) l) := by
  have hn := numIn_live B t.length most (t ++ l) w h hx hm hl
  rw [List.length_append] at hl
  have hl2 : (t ++ l).length ≤ 150000000000000 := by omega
  clear h hl
  go_enter Tryz.func80, Tryz.ntmps80
  go_wp2_with fail
  refine hn.mono ?_
  rintro e w1 ⟨rfl, hr, hg⟩
  have ht := take_live B t.length (t ++ l) w1 hr (by rw [List.length_append]; omega) hl2
  clear hn hr
  go_wp2_with fail
  refine ht.mono ?_
  rintro e w2 ⟨b, o, rfl, hc, hr2, hg2⟩
  rw [List.take_append_of_le_length (Nat.le_refl _), List.take_length] at hc
  rw [List.drop_append_of_le_length (Nat.le_refl _), List.drop_length, List.nil_append] at hr2
  have hcv := hc.lies.convert (P := Tryz.prog) t.length rfl t.length 22 5 9 Tryz.underlying22 Tryz.underlying5 Tryz.underlying9
  have R := Lib.hid hr2; have G := Lib.hid (grown_trans hg hg2)
  clear ht hr2 hg hg2 hc
  go_wp2_with fail
  go_ret
  exact ⟨rfl, R.out, G.out⟩
end Go.Proofs.YtapmbankpbiglaaGreatDoor
