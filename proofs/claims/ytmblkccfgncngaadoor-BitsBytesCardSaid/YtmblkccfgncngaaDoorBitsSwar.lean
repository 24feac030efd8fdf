/- How math/bits counts the bits of a word: the plain part. -/
import Derived.Test.YtmblkccfgncngaaDoorBitsPlain
namespace Go.Proofs.YtmblkccfgncngaaDoor
namespace Bit
/-! how math/bits counts -/
theorem and_split (a b a' b' : Nat) (h : b < 256) (h' : b' < 256) : (256 * a + b) &&& (256 * a' + b') = 256 * (a &&& a') + (b &&& b') := by
  have hb : b &&& b' < 2 ^ 8 := Nat.and_lt_two_pow _ h'
  refine Nat.eq_of_testBit_eq fun i => ?_
  rw [Nat.testBit_and, show (256 : Nat) = 2 ^ 8 from rfl, Nat.testBit_two_pow_mul_add a h, Nat.testBit_two_pow_mul_add a' h', Nat.testBit_two_pow_mul_add _ hb]
  split <;> simp
def val : List Nat → Nat
  | [] => 0
  | c :: t => 256 * val t + c
def s1 (c : Nat) : Nat := (c / 2 &&& 85) + (c &&& 85)
def s2 (c : Nat) : Nat := (c / 4 &&& 51) + (c &&& 51)
def s3 (c : Nat) : Nat := (c / 16 + c) &&& 15
theorem f1 : ∀ h : Fin 2, ∀ c : Fin 256, (128 * h.val + c.val / 2) &&& 85 = c.val / 2 &&& 85 := by decide +kernel
theorem f2 : ∀ h : Fin 4, ∀ c : Fin 256, (64 * h.val + c.val / 4) &&& 51 = c.val / 4 &&& 51 := by decide +kernel
theorem b1 : ∀ c : Fin 256, s1 c.val < 171 ∧ s2 (s1 c.val) % 16 ≤ 4 ∧ s2 (s1 c.val) / 16 ≤ 4 ∧ s3 (s2 (s1 c.val)) ≤ 8 ∧ cnt c.val.testBit 8 = s3 (s2 (s1 c.val)) := by decide +kernel
theorem f3 : ∀ h : Fin 5, ∀ c : Fin 69, (16 * h.val + c.val / 16 + c.val) &&& 15 = s3 c.val := by decide +kernel
theorem stage1 (t : List Nat) (h : ∀ c ∈ t, c < 256) : (val t / 2 &&& val (t.map fun _ => 85)) + (val t &&& val (t.map fun _ => 85)) = val (t.map s1) := by
  induction t with
  | nil => rfl
  | cons c t ih =>
    have hc := h c (by simp)
    have ih' := ih fun c hc => h c (by simp [hc])
    simp only [val, List.map_cons]
    rw [show (256 * val t + c) / 2 = 256 * (val t / 2) + (128 * (val t % 2) + c / 2) by omega, and_split _ _ _ _ (by omega) (by omega), and_split _ _ _ _ hc (by omega), ← ih',
      f1 ⟨val t % 2, by omega⟩ ⟨c, hc⟩]
    simp only [s1]; omega
theorem stage2 (t : List Nat) (h : ∀ c ∈ t, c < 256) : (val t / 4 &&& val (t.map fun _ => 51)) + (val t &&& val (t.map fun _ => 51)) = val (t.map s2) := by
  induction t with
  | nil => rfl
  | cons c t ih =>
    have hc := h c (by simp)
    have ih' := ih fun c hc => h c (by simp [hc])
    simp only [val, List.map_cons]
    rw [show (256 * val t + c) / 4 = 256 * (val t / 4) + (64 * (val t % 4) + c / 4) by omega, and_split _ _ _ _ (by omega) (by omega), and_split _ _ _ _ hc (by omega), ← ih',
      f2 ⟨val t % 4, by omega⟩ ⟨c, hc⟩]
    simp only [s2]; omega
theorem stage3 (t : List Nat) (h : ∀ c ∈ t, c % 16 ≤ 4 ∧ c / 16 ≤ 4) : (val t / 16 + val t) &&& val (t.map fun _ => 15) = val (t.map s3) := by
  induction t with
  | nil => rfl
  | cons c t ih =>
    have hc := h c (by simp)
    have ih' := ih fun c hc => h c (by simp [hc])
    have hl : val t % 16 ≤ 4 := by
      cases t with
      | nil => simp [val]
      | cons d t =>
        have := h d (by simp)
        simp only [val]; omega
    simp only [val, List.map_cons]
    rw [show (256 * val t + c) / 16 + (256 * val t + c) = 256 * (val t / 16 + val t) + (16 * (val t % 16) + c / 16 + c) by omega, and_split _ _ _ _ (by omega) (by omega), ← ih',
      f3 ⟨val t % 16, by omega⟩ ⟨c, by omega⟩]
theorem cnt_val (c : Nat) (t : List Nat) (h : c < 256) (m : Nat) : cnt (val (c :: t)).testBit (8 + m) = cnt c.testBit 8 + cnt (val t).testBit m := by
  have e : ∀ i, (val (c :: t)).testBit i = if i < 8 then c.testBit i else (val t).testBit (i - 8) := fun i => by
    simp only [val]
    rw [show (256 : Nat) = 2 ^ 8 from rfl, Nat.testBit_two_pow_mul_add _ h]
  rw [cnt_add]
  congr 1
  · exact cnt_congr fun k hk => by rw [e, if_pos hk]
  · exact cnt_congr fun k hk => by rw [e, if_neg (by omega)]; congr 1; omega
/-- the bytes of a word -/
def byteL : Nat → Nat → List Nat
  | 0, _ => []
  | n + 1, x => x % 256 :: byteL n (x / 256)
theorem byteL_val : ∀ (n x : Nat), x < 256 ^ n → val (byteL n x) = x
  | 0, x, h => by simp at h; subst h; rfl
  | n + 1, x, h => by
    have h1 : x / 256 < 256 ^ n := by rw [Nat.pow_succ] at h; omega
    simp only [byteL, val]
    rw [byteL_val n _ h1]; omega
theorem byteL_lt : ∀ (n x : Nat), ∀ c ∈ byteL n x, c < 256
  | 0, _, c, h => by simp [byteL] at h
  | n + 1, x, c, h => by
    simp only [byteL, List.mem_cons] at h
    rcases h with rfl | h
    · omega
    · exact byteL_lt n _ c h
def bytes8 (x : Nat) : List Nat := byteL 8 x
theorem bytes8_val (x : Nat) (h : x < 18446744073709551616) : val (bytes8 x) = x := byteL_val 8 x h
theorem bytes8_lt (x : Nat) : ∀ c ∈ bytes8 x, c < 256 := byteL_lt 8 x
theorem bytes8_is (x : Nat) : ∃ a b c d e f g h, bytes8 x = [a, b, c, d, e, f, g, h] := ⟨_, _, _, _, _, _, _, _, rfl⟩
theorem half (A B C D a b c : Nat) (h1 : A = 256 * B + a) (h2 : B = 256 * C + b) (h3 : C = 256 * D + c) (ha : a ≤ 8) (hb : b ≤ 8) (hc : c ≤ 8) : A / 256 = B ∧ (A + B) / 65536 = C + D := by
  constructor
  · omega
  · have : A + B = 65536 * (C + D) + (256 * (b + c) + (a + b)) := by omega
    omega
theorem quarter (A B C D E F G H a b c d e f g : Nat) (h1 : A = 256 * B + a) (h2 : B = 256 * C + b) (h3 : C = 256 * D + c) (h4 : D = 256 * E + d) (h5 : E = 256 * F + e) (h6 : F = 256 * G + f) (h7 : G = 256 * H + g)
    (ha : a ≤ 8) (hb : b ≤ 8) (hc : c ≤ 8) (hd : d ≤ 8) (he : e ≤ 8) (hf : f ≤ 8) (hg : g ≤ 8) : (A + B + C + D) / 4294967296 = E + F + G + H := by
  have eA : A = 4294967296 * E + (16777216 * d + 65536 * c + 256 * b + a) := by omega
  have eB : B = 4294967296 * F + (16777216 * e + 65536 * d + 256 * c + b) := by omega
  have eC : C = 4294967296 * G + (16777216 * f + 65536 * e + 256 * d + c) := by omega
  have eD : D = 4294967296 * H + (16777216 * g + 65536 * f + 256 * e + d) := by omega
  clear h1 h2 h3 h4 h5 h6 h7
  have hr : (16777216 * d + 65536 * c + 256 * b + a) + (16777216 * e + 65536 * d + 256 * c + b) + (16777216 * f + 65536 * e + 256 * d + c) + (16777216 * g + 65536 * f + 256 * e + d) < 4294967296 := by omega
  generalize 16777216 * d + 65536 * c + 256 * b + a = ra at *
  generalize 16777216 * e + 65536 * d + 256 * c + b = rb at *
  generalize 16777216 * f + 65536 * e + 256 * d + c = rc at *
  generalize 16777216 * g + 65536 * f + 256 * e + d = rd at *
  omega
theorem vlt (B b m : Nat) (hb : b ≤ 8) (hB : B < m) : 256 * B + b < 256 * m := by omega
theorem sum8 (a b c d e f g h : Nat) (ha : a ≤ 8) (hb : b ≤ 8) (hc : c ≤ 8) (hd : d ≤ 8) (he : e ≤ 8) (hf : f ≤ 8) (hg : g ≤ 8) (hh : h ≤ 8) (x y z : Nat)
    (hx : x = val [a, b, c, d, e, f, g, h] + val [a, b, c, d, e, f, g, h] / 256) (hy : y = x + x / 65536) (hz : z = y + y / 4294967296) : z % 128 = a + b + c + d + e + f + g + h ∧ x < 18446744073709551616 ∧ y < 18446744073709551616 ∧ z < 18446744073709551616 := by
  simp only [val] at hx
  obtain ⟨H, hH⟩ : ∃ H, H = 256 * 0 + h := ⟨_, rfl⟩
  rw [← hH] at hx
  obtain ⟨G, hG⟩ : ∃ G, G = 256 * H + g := ⟨_, rfl⟩
  rw [← hG] at hx
  obtain ⟨F, hF⟩ : ∃ F, F = 256 * G + f := ⟨_, rfl⟩
  rw [← hF] at hx
  obtain ⟨E, hE⟩ : ∃ E, E = 256 * F + e := ⟨_, rfl⟩
  rw [← hE] at hx
  obtain ⟨D, hD⟩ : ∃ D, D = 256 * E + d := ⟨_, rfl⟩
  rw [← hD] at hx
  obtain ⟨C, hC⟩ : ∃ C, C = 256 * D + c := ⟨_, rfl⟩
  rw [← hC] at hx
  obtain ⟨B, hB⟩ : ∃ B, B = 256 * C + b := ⟨_, rfl⟩
  rw [← hB] at hx
  obtain ⟨A, hA⟩ : ∃ A, A = 256 * B + a := ⟨_, rfl⟩
  rw [← hA] at hx
  obtain ⟨q1, q2⟩ := half A B C D a b c hA hB hC ha hb hc
  have q3 := quarter A B C D E F G H a b c d e f g hA hB hC hD hE hF hG ha hb hc hd he hf hg
  rw [q1] at hx
  rw [hx, q2] at hy
  have hy' : y = A + B + C + D := by omega
  rw [hy', q3] at hz
  have lH : H < 9 := by omega
  have lG : G < 256 * 9 := by rw [hG]; exact vlt _ _ _ hg lH
  have lF : F < 256 * (256 * 9) := by rw [hF]; exact vlt _ _ _ hf lG
  have lE : E < 256 * (256 * (256 * 9)) := by rw [hE]; exact vlt _ _ _ he lF
  have lD : D < 256 * (256 * (256 * (256 * 9))) := by rw [hD]; exact vlt _ _ _ hd lE
  have lC : C < 256 * (256 * (256 * (256 * (256 * 9)))) := by rw [hC]; exact vlt _ _ _ hc lD
  have lB : B < 256 * (256 * (256 * (256 * (256 * (256 * 9))))) := by rw [hB]; exact vlt _ _ _ hb lC
  have lA : A < 256 * (256 * (256 * (256 * (256 * (256 * (256 * 9)))))) := by rw [hA]; exact vlt _ _ _ ha lB
  clear q1 q2 q3
  refine ⟨?_, by omega, by omega, by omega⟩
  have hz' : z = 256 * (B + C + D + E + F + G + H) + (a + b + c + d + e + f + g + h) := by omega
  clear hA hB hC hD hE hF hG hx hy hy' hz lH lG lF lE lD lC lB lA
  generalize B + C + D + E + F + G + H = S at hz'
  omega
def m0 : Nat := 6148914691236517205
def m1 : Nat := 3689348814741910323
def m2 : Nat := 1085102592571150095
/-- how math/bits counts a word's bits: step by step, without running over -/
theorem swar (x : Nat) (h : x < 18446744073709551616) (x1 x2 x3 x4 x5 x6 : Nat) (h1 : x1 = (x / 2 &&& m0) + (x &&& m0)) (h2 : x2 = (x1 / 4 &&& m1) + (x1 &&& m1)) (h3 : x3 = (x2 / 16 + x2) &&& m2)
    (h4 : x4 = x3 + x3 / 256) (h5 : x5 = x4 + x4 / 65536) (h6 : x6 = x5 + x5 / 4294967296) :
    x6 % 128 = ones x ∧ x4 < 18446744073709551616 ∧ x5 < 18446744073709551616 ∧ x6 < 18446744073709551616 := by
  have hv := bytes8_val x h
  have hl := bytes8_lt x
  have hm : ∀ L : List Nat, L.length = 8 → (val (L.map fun _ => 85) = m0 ∧ val (L.map fun _ => 51) = m1 ∧ val (L.map fun _ => 15) = m2) := by
    intro L hL
    have e : ∀ k : Nat, (L.map fun _ => k) = List.replicate 8 k := fun k => by rw [← hL]; exact List.map_const'
    rw [e, e, e]; exact ⟨rfl, rfl, rfl⟩
  have hlen : (bytes8 x).length = 8 := rfl
  have e1 : x1 = val ((bytes8 x).map s1) := by
    rw [h1, ← stage1 _ hl, hv, (hm _ hlen).1]
  have hl1 : ∀ c ∈ (bytes8 x).map s1, c < 256 := by
    intro c hc; obtain ⟨d, hd, rfl⟩ := List.mem_map.1 hc
    have h171 : s1 d < 171 := (b1 ⟨d, hl d hd⟩).1
    omega
  have e2 : x2 = val (((bytes8 x).map s1).map s2) := by
    rw [h2, e1, ← stage2 _ hl1, (hm _ (by rw [List.length_map, hlen])).2.1]
  have hl2 : ∀ c ∈ ((bytes8 x).map s1).map s2, c % 16 ≤ 4 ∧ c / 16 ≤ 4 := by
    intro c hc; obtain ⟨c', hc', rfl⟩ := List.mem_map.1 hc
    obtain ⟨d, hd, rfl⟩ := List.mem_map.1 hc'
    have := b1 ⟨d, hl d hd⟩
    exact ⟨this.2.1, this.2.2.1⟩
  have e3 : x3 = val ((((bytes8 x).map s1).map s2).map s3) := by
    rw [h3, e2, ← stage3 _ hl2, (hm _ (by rw [List.length_map, List.length_map, hlen])).2.2]
  have hp : ∀ c ∈ bytes8 x, s3 (s2 (s1 c)) ≤ 8 ∧ cnt c.testBit 8 = s3 (s2 (s1 c)) := by
    intro c hc
    have := b1 ⟨c, hl c hc⟩
    exact ⟨this.2.2.2.1, this.2.2.2.2⟩
  clear hl1 hl2 h1 h2 h3 e1 e2 hm hlen
  obtain ⟨c0, c1, c2, c3, c4, c5, c6, c7, hb⟩ := bytes8_is x
  rw [hb] at hv hl e3 hp
  simp only [List.mem_cons, List.not_mem_nil, or_false, forall_eq_or_imp, forall_eq] at hp hl
  obtain ⟨l0, l1, l2, l3, l4, l5, l6, l7⟩ := hl
  obtain ⟨⟨p0, q0⟩, ⟨p1, q1⟩, ⟨p2, q2⟩, ⟨p3, q3⟩, ⟨p4, q4⟩, ⟨p5, q5⟩, ⟨p6, q6⟩, ⟨p7, q7⟩⟩ := hp
  have ho : ones x = s3 (s2 (s1 c0)) + s3 (s2 (s1 c1)) + s3 (s2 (s1 c2)) + s3 (s2 (s1 c3)) + s3 (s2 (s1 c4)) + s3 (s2 (s1 c5)) + s3 (s2 (s1 c6)) + s3 (s2 (s1 c7)) := by
    unfold ones
    conv => lhs; rw [← hv]
    rw [show (64 : Nat) = 8 + (8 + (8 + (8 + (8 + (8 + (8 + (8 + 0))))))) from rfl]
    rw [cnt_val _ _ l0, cnt_val _ _ l1, cnt_val _ _ l2, cnt_val _ _ l3, cnt_val _ _ l4, cnt_val _ _ l5, cnt_val _ _ l6, cnt_val _ _ l7, q0, q1, q2, q3, q4, q5, q6, q7]
    simp only [cnt]; omega
  simp only [List.map_cons, List.map_nil] at e3
  obtain ⟨r, r1, r2, r3⟩ := sum8 _ _ _ _ _ _ _ _ p0 p1 p2 p3 p4 p5 p6 p7 x4 x5 x6 (by rw [h4, e3]) h5 h6
  exact ⟨by rw [r, ho], r1, r2, r3⟩
end Bit
end Go.Proofs.YtmblkccfgncngaaDoor
