/- The statement AuditLooks, proved for every input that its row reads: part 42 of 54. -/
import Derived.Test.YtkpldjiloinaoaaDoorPackAuditLooks38
import Derived.Test.YtkpldjiloinaoaaDoorPackAuditLooks35
import Derived.Test.YtkpldjiloinaoaaDoorPackAuditLooks39
import Derived.Test.YtkpldjiloinaoaaDoorAppIntLays
import Derived.Deep.CutBlock
import Derived.Lib.OwnKind
import Derived.Lib.BufferKept
import Derived.Test.YtkpldjiloinaoaaDoorPackAuditLooks41
import Derived.Test.YtkpldjiloinaoaaDoorPackAuditLooks29
/- audit.Text of any troubles. -/
namespace Go.Proofs.YtkpldjiloinaoaaDoor
open Go Go.RowKit
set_option linter.unusedVariables false
set_option maxRecDepth 1000000

section
variable {P : Program} {ops : Array Oper} {rest : List Oper} {o : Oper} {a : Act} {Q : Exit → Act → World → Prop} {t e : TypeId}
/-- one byte more; whatever is no row of bytes, stays -/
theorem wpList_byteS (U : U8 P t e) (w : World) (hg : o.guard = none) (s x : Operand) (ho : o.op = .call { callee := .builtin .append, args := #[s, x], argTypes := #[t, t] })
    (B n : Nat) (l : List UInt8) (v : Value) (hs : a.eval s = v) (hown : w.ownsRow B e 1 v n (bys l)) (X : Int) (b : UInt8) (hx : a.eval x = .slice (some ⟨w.heap.size, 0, none⟩) 1 1) (hX : X = (b.toNat : Int))
    (hlen : n + 1 ≤ 140737488355328) (hB : B ≤ w.heap.size)
    (h : ∀ v' w', w'.ownsRow B e 1 v' (n + 1) (bys (l ++ [b])) → Below B w w' → Lib.OthersKept e none w w' → wpList P ops Q rest (a.put o.dst v') w') : wpList P ops Q (o :: rest) a (w.alloc (.cells #[.int .u8 X] e)) := by
  obtain ⟨i0, hi, hz0, hz1, hz2⟩ := info_parts U.info
  refine wpList_append_own _ hg s x t ho B e i0 (.int .u8 0) 1 1 U.slice hi hz0 hz1 hz2 rfl (by decide) v n (bys l) hs (hown.alloc _) ⟨w.heap.size, 0, none⟩ 1 1 (bys [b]) hx rfl ?_ (bys_one _) (by unfold maxLen; omega) (by omega) (by simp; omega) ?_
  · intro j u hu
    match j, hu with
    | 0, hu => simp [bys] at hu; subst hu; subst hX; simp [Addr.add]
  · intro v' w' h1 h2 _
    exact h v' w' (by rw [bys_append]; exact h1) (((Below.refl B w).alloc hB _).grown h2 (by simp; omega) (fun k hk => (hown.lt k hk).1)) (((Lib.OthersKept.refl _ _ w).alloc _).grown h2 (Lib.ownsRow_kind (hown.alloc _)))
theorem wpList_textS (U : U8 P t e) {u : TypeId} (hu : P.underlying u = some .string) (w : World) (hg : o.guard = none) (sl x : Operand) (ho : o.op = .call { callee := .builtin .append, args := #[sl, x], argTypes := #[t, u] })
    (B n : Nat) (l : List UInt8) (v : Value) (hs : a.eval sl = v) (hown : w.ownsRow B e 1 v n (bys l)) (s : ByteArray) (hx : a.eval x = .string s) (hlen : n + s.size ≤ 140737488355328) (hB : B ≤ w.heap.size)
    (h : ∀ v' w', w'.ownsRow B e 1 v' (n + s.size) (bys (l ++ s.data.toList)) → Below B w w' → Lib.OthersKept e none w w' → wpList P ops Q rest (a.put o.dst v') w') : wpList P ops Q (o :: rest) a w := by
  obtain ⟨i0, hi, hz0, hz1, hz2⟩ := info_parts U.info
  refine Lib.wpList_append_own_string w hg sl x t u ho B e i0 U.slice hu hi hz0 hz1 hz2 v n (bys l) hs hown s hx (by unfold maxLen; omega) hlen hB ?_
  intro v' w' h1 h2 _
  exact h v' w' (by rw [bys_append]; exact h1) ((Below.refl B w).grown h2 hB (fun k hk => (hown.lt k hk).1)) ((Lib.OthersKept.refl _ _ w).grown h2 (Lib.ownsRow_kind hown))
end
def AppRS (B : Nat) (w : World) (l : List UInt8) (e : Ending) (w' : World) : Prop := ∃ v, e = .returned v ∧ OwnB w' B v l ∧ Below B w w' ∧ Lib.OthersKept 5 none w w'
/-- what kinds of troubles are called -/
def wordsB : List (List UInt8) := [[63], [115, 116, 97, 116, 101], [101, 118, 101, 110, 116], [117, 110, 107, 110, 111, 119, 110], [111, 114, 100, 101, 114], [103, 111, 110, 101], [108, 105, 118, 101], [102, 108, 111, 111, 114], [116, 119, 105, 99, 101]]
def wordL (k : Int) : List UInt8 := if k < 0 ∨ 9 ≤ k then [63] else wordsB.getD k.toNat []
def wordC (k : Int) : ByteArray := ⟨(wordL k).toArray⟩
theorem wordL_len (k : Int) : (wordL k).length ≤ 7 := by
  unfold wordL
  split
  · decide
  · rename_i h
    obtain ⟨n, rfl⟩ : ∃ n : Nat, k = n := ⟨k.toNat, by omega⟩
    have hn : n < 9 := by omega
    rw [Int.toNat_natCast]
    match n, hn with
    | 0, _ => decide
    | 1, _ => decide
    | 2, _ => decide
    | 3, _ => decide
    | 4, _ => decide
    | 5, _ => decide
    | 6, _ => decide
    | 7, _ => decide
    | 8, _ => decide
/-- all words lie in their table -/
def WordsA (w : World) : Prop := ∀ i, i < 9 → w.cell? ⟨0, i, none⟩ = some (.string ⟨(wordsB.getD i []).toArray⟩)
theorem WordsA.later {w w' : World} (h : WordsA w) (hb : Below w.heap.size w w') : WordsA w' := fun i hi => (hb.cell (p := ⟨0, i, none⟩) (World.block_lt_of_cell? w _ (h i hi))).trans (h i hi)
def Pow (w : World) : Prop := Lib.TabIs Tryd.prog w "internal/strconv.uint64pow10" .u64 Lib.pow10Tab
theorem Pow.later {w w' : World} (h : Pow w) (hb : Below w.heap.size w w') : Pow w' := Lib.tabBelow_of_tabIs h w' hb
set_option maxHeartbeats 1000000 in
theorem wordG_is (k : Int) (w : World) (h : WordsA w) : Calls Tryd.prog 21 #[.int .i64 k] w fun e w' => e = .returned (.string (wordC k)) ∧ w = w' := by
  by_cases h0 : k < 0
  · have hc := h 0 (by decide)
    have e : Hid (wordC k = ⟨#[63]⟩) := Lib.hid (by rw [wordC, wordL, if_pos (.inl h0)])
    clear h
    go_enter Tryd.func21, Tryd.ntmps21
    go_wp2
    go_ret
    exact ⟨by rw [e.out]; rfl, rfl⟩
  · by_cases h9 : 9 ≤ k
    · have hc := h 0 (by decide)
      have e : Hid (wordC k = ⟨#[63]⟩) := Lib.hid (by rw [wordC, wordL, if_pos (.inr h9)])
      clear h
      go_enter Tryd.func21, Tryd.ntmps21
      go_wp2
      go_ret
      exact ⟨by rw [e.out]; rfl, rfl⟩
    · obtain ⟨n, rfl⟩ : ∃ n : Nat, k = n := ⟨k.toNat, by omega⟩
      have hn : n < 9 := by omega
      have hc := h n hn
      have e : Hid (wordC n = ⟨(wordsB.getD n []).toArray⟩) := Lib.hid (by rw [wordC, wordL, if_neg (by omega), Int.toNat_natCast])
      generalize (⟨(wordsB.getD n []).toArray⟩ : ByteArray) = W at hc e
      have hn2 : ¬ ((n : Int) ≥ 9) := by omega
      have hn3 : (n : Int) < 9 := by omega
      clear h
      go_enter Tryd.func21, Tryd.ntmps21
      go_wp2
      go_ret
      exact ⟨by rw [e.out]; rfl, rfl⟩
/-- a trouble's line -/
def lineT (t : Tr) : List UInt8 := wordL t.1 ++ [32] ++ Lib.itoa t.2.1 ++ [46] ++ Lib.itoa t.2.2 ++ [10]
def textT (T : List Tr) : List UInt8 := T.flatMap lineT
def OkT (t : Tr) : Prop := (-9223372036854775808 ≤ t.2.1 ∧ t.2.1 ≤ 9223372036854775807) ∧ (-9223372036854775808 ≤ t.2.2 ∧ t.2.2 ≤ 9223372036854775807)
theorem itoa_len (i : Int) (h : -9223372036854775808 ≤ i ∧ i ≤ 9223372036854775807) : (Lib.itoa i).length ≤ 20 := by
  have := itoB_size i h.1 h.2
  simpa [itoB, ByteArray.size] using this
theorem lineT_len (t : Tr) (h : OkT t) : (lineT t).length ≤ 50 := by
  have h1 := wordL_len t.1; have h2 := itoa_len _ h.1; have h3 := itoa_len _ h.2
  simp only [lineT, List.length_append, List.length_cons, List.length_nil]; omega
theorem textT_len : ∀ (T : List Tr), (∀ t ∈ T, OkT t) → (textT T).length ≤ 50 * T.length
  | [], _ => Nat.zero_le _
  | t :: T, h => by
    have h1 := lineT_len t (h t (by simp)); have h2 := textT_len T (fun u hu => h u (by simp [hu]))
    simp only [textT, List.flatMap_cons, List.length_append, List.length_cons] at h2 ⊢; omega
theorem textT_snoc (T : List Tr) (t : Tr) : textT (T ++ [t]) = textT T ++ lineT t := by simp [textT]
/-- troubles that lie at p -/
def TrAt (w : World) (p : Option Addr) (T : List Tr) : Prop := T ≠ [] → ∃ b o, p = some ⟨b, o, none⟩ ∧ w.rangeAt b o (trs T)
theorem trV_len (t : Tr) : (trV t).length = 3 := rfl
theorem TrAt.below {w w' : World} {p : Option Addr} {T : List Tr} (h : TrAt w p T) (hb : Below w.heap.size w w') : TrAt w' p T := fun hn => by
  obtain ⟨b, o, e, hr⟩ := h hn
  exact ⟨b, o, e, range_below hr hb⟩
theorem TrAt.at {w : World} {p : Option Addr} {T : List Tr} (h : TrAt w p T) {i : Nat} (hi : i < T.length) :
    ∃ b o, p = some ⟨b, o, Option.none⟩ ∧ w.rangeAt b (o + i * 3) (trV T[i]) := by
  obtain ⟨b, o, rfl, hr⟩ := h (by intro e; subst e; simp at hi)
  refine ⟨b, o, rfl, fun j u hu => ?_⟩
  have hj : j < 3 := (List.getElem?_eq_some_iff.1 hu).1
  have := hr (i * 3 + j) u (by rw [show trs T = T.flatMap trV from rfl, flat_get trV_len T i hi j hj]; exact hu)
  rw [Nat.add_assoc]; exact this
def TextR (w : World) (T : List Tr) (e : Ending) (w' : World) : Prop := e = .returned (.string ⟨(textT T).toArray⟩) ∧ Below w.heap.size w w'
/-- strconv.AppendInt at base 10, behind bytes of one's own -/
theorem appInt10 (i : Int) (hi : -9223372036854775808 ≤ i ∧ i ≤ 9223372036854775807) (B : Nat) (v : Value) (l : List UInt8) (w : World) (ho : OwnB w B v l) (hl : l.length ≤ 100000) (hB : B ≤ w.heap.size) (hP : Lib.TabBelow Tryd.prog B w "internal/strconv.uint64pow10" .u64 Lib.pow10Tab) : Calls Tryd.prog 22 #[v, .int .i64 i, .int .i64 10] w (AppRS B w (l ++ Lib.itoa i)) := by
  refine (Tryd.strconv_AppendInt_10 B l.length i hi.1 hi.2 v (bys l) w ho hB (by omega) hP).mono ?_
  rintro e w' ⟨v', rfl, h1, h2, h3⟩
  refine ⟨v', rfl, ?_, h2, h3⟩
  unfold OwnB
  rw [List.length_append, bys_append]
  exact h1
set_option maxHeartbeats 1000000 in
theorem textG_is (p : Option Addr) (c : Nat) (T : List Tr) (w : World) (hT : TrAt w p T) (hn : T.length ≤ 1000) (hok : ∀ t ∈ T, OkT t) (hW : WordsA w) (hP : Pow w) : Calls Tryd.prog 11 #[.slice p T.length c] w (TextR w T) := by
  have HT := Lib.hid hT; have HW := Lib.hid hW; have HP := Lib.hid (Lib.tabBelow_of_tabIs hP); have HO := Lib.hid hok
  clear hT hW hP hok
  go_enter Tryd.func11, Tryd.ntmps11
  go_wp2
  go_loopw [3, 8] (fun v i wr => ∃ k : Nat, k ≤ T.length ∧ i = .int .i64 k ∧ OwnB wr w.heap.size v (textT (T.take k)) ∧ Below w.heap.size w wr) (fun _ i _ => T.length - (RowKit.intOf i).toNat)
  case atStart => exact ⟨0, Nat.zero_le _, rfl, ⟨rfl, .inl ⟨rfl, rfl⟩⟩, Below.refl _ _⟩
  case round =>
    obtain ⟨k, hk, rfl, ow, hb⟩ := hrel
    have OW := Lib.hid ow; have BR := Lib.hid hb
    clear ow hb
    by_cases hkl : k < T.length
    · have hkl' : (k : Int) < T.length := by omega
      have TK : Hid (textT (T.take (k + 1)) = textT (T.take k) ++ lineT T[k]) := Lib.hid (by rw [List.take_succ_eq_append_getElem hkl, textT_snoc])
      have OT := Lib.hid (HO.out _ (List.getElem_mem hkl))
      have hl : (textT (T.take k)).length ≤ 50000 := by
        have := textT_len (T.take k) (fun t ht => HO.out t (List.mem_of_mem_take ht))
        rw [List.length_take] at this; omega
      obtain ⟨b, o, rfl, hq⟩ := (HT.out.below BR.out).at hkl
      obtain ⟨⟨tk, tr, tn⟩, hy⟩ : ∃ y, T[k] = y := ⟨_, rfl⟩
      rw [hy] at hq TK OT
      have c0 : wr.cell? ⟨b, o + k * 3, none⟩ = some (.int .i64 tk) := hq 0 _ rfl
      have c1 : wr.cell? ⟨b, o + k * 3 + 1, none⟩ = some (.int .i64 tr) := hq 1 _ rfl
      have c2 : wr.cell? ⟨b, o + k * 3 + 2, none⟩ = some (.int .i64 tn) := hq 2 _ rfl
      have hkl2 := wordL_len tk; have hi1 := itoa_len tr OT.out.1; have hi2 := itoa_len tn OT.out.2
      clear hy hq
      generalize textT (T.take k) = l0 at OW TK hl
      have ba := below_alloc wr (.cells #[.int .i64 tk, .int .i64 tr, .int .i64 tn] 39)
      have na := heap_alloc_new wr (.cells #[.int .i64 tk, .int .i64 tr, .int .i64 tn] 39)
      have B6 := Lib.hid (thenBelow BR.out ba); have N6 := Lib.hid na; have O6 := Lib.hid (own_later OW.out ba)
      clear ba na OW
      go_upto_region 5 with fail
      clear c0 c1 c2 BR
      generalize wr.alloc (.cells #[.int .i64 tk, .int .i64 tr, .int .i64 tn] 39) = w6 at B6 N6 O6 ⊢
      generalize wr.heap.size = G at N6 ⊢
      have hG : G < w6.heap.size := (Array.getElem?_eq_some_iff.1 N6.out).1
      have CE : Hid (∀ V : World, Lib.OthersKept 5 none w6 V → V.cell? ⟨G, 0, none⟩ = some (.int .i64 tk) ∧ V.cell? ⟨G, 1, none⟩ = some (.int .i64 tr) ∧ V.cell? ⟨G, 2, none⟩ = some (.int .i64 tn)) := Lib.hid fun V hV => by
        have h := hV G _ N6.out (by simp) (fun c fz e => by cases e)
        exact ⟨cell_of_row _ G 0 _ _ _ h, cell_of_row _ G 1 _ _ _ h, cell_of_row _ G 2 _ _ _ h⟩
      have k0 := (CE.out w6 (Lib.OthersKept.refl _ _ _)).1
      have WD := Lib.hid (wordG_is tk w6 (HW.out.later B6.out))
      obtain ⟨N0, hN0⟩ : ∃ n, l0.length = n := ⟨_, rfl⟩
      have O6 : Hid (w6.ownsRow w.heap.size 5 1 u3 N0 (bys l0)) := Lib.hid (by rw [← hN0]; exact O6.out)
      have NL0 := Lib.hid hN0
      rw [hN0] at hl
      obtain ⟨WL, hWL⟩ : ∃ l, wordL tk = l := ⟨_, rfl⟩
      have WC : Hid (wordC tk = ⟨WL.toArray⟩) := Lib.hid (by rw [wordC, hWL])
      have LN : Hid (lineT (tk, tr, tn) = WL ++ [32] ++ Lib.itoa tr ++ [46] ++ Lib.itoa tn ++ [10]) := Lib.hid (by rw [lineT, hWL])
      rw [hWL] at hkl2
      obtain ⟨NW, hNW⟩ : ∃ n, WL.length = n := ⟨_, rfl⟩
      have SW : Hid ((⟨WL.toArray⟩ : ByteArray).size = NW) := Lib.hid (by simpa [ByteArray.size] using hNW)
      have NWH := Lib.hid hNW
      rw [hNW] at hkl2
      obtain ⟨n1, hn1⟩ : ∃ n, (Lib.itoa tr).length = n := ⟨_, rfl⟩
      obtain ⟨n2, hn2⟩ : ∃ n, (Lib.itoa tn).length = n := ⟨_, rfl⟩
      rw [hn1] at hi1; rw [hn2] at hi2
      have N1H := Lib.hid hn1; have N2H := Lib.hid hn2
      clear hN0 hWL hNW hn1 hn2
      go_wp2_with fail
      refine WD.out.mono ?_
      rintro e w7 ⟨rfl, rfl⟩
      dsimp only
      rw [WC.out]
      clear k0 WD
      go_wp2_with (at_builtin; refine wpList_textS isU8 Tryd.underlying9 _ rfl _ _ rfl w.heap.size N0 l0 _ rfl O6.out _ rfl (by rw [SW.out]; omega) B6.out.size ?_)
      intro v7 w7 o7 b7 s7
      rw [NWH.out] at o7
      have O7 := Lib.hid o7; have B7 := Lib.hid (B6.out.trans b7); have S7 := Lib.hid s7
      clear o7 b7 s7 O6
      go_wp2_with (at_builtin; refine wpList_byteS isU8 _ rfl _ _ rfl w.heap.size (N0 + NW) (l0 ++ WL) _ rfl O7.out 32 32 rfl rfl (by omega) B7.out.size ?_)
      intro v8 w8 o8 b8 s8
      have O8 : Hid (OwnB w8 w.heap.size v8 (l0 ++ WL ++ [32])) := Lib.hid (by unfold OwnB; rw [List.length_append, List.length_append, NL0.out, NWH.out]; simpa using o8)
      have B8 := Lib.hid (B7.out.trans b8); have S8 := Lib.hid (S7.out.trans s8)
      have k1 := (CE.out w8 S8.out).2.1
      have AI := Lib.hid (appInt10 tr OT.out.1 w.heap.size v8 _ w8 O8.out (by rw [List.length_append, List.length_append, NL0.out, NWH.out]; show _ + _ + 1 ≤ _; omega) B8.out.size (HP.out.on B8.out))
      clear o8 b8 s8 O7 B7 S7
      go_wp2_with fail
      refine AI.out.mono ?_
      rintro e w9 ⟨v9, rfl, o9, b9, s9⟩
      have O9 : Hid (w9.ownsRow w.heap.size 5 1 v9 (N0 + NW + 1 + n1) (bys (l0 ++ WL ++ [32] ++ Lib.itoa tr))) := Lib.hid (by unfold OwnB at o9; rw [List.length_append, List.length_append, List.length_append, NL0.out, NWH.out, N1H.out] at o9; exact o9)
      have B9 := Lib.hid (B8.out.trans b9); have S9 := Lib.hid (S8.out.trans s9)
      clear o9 b9 s9 O8 B8 S8 k1 AI
      dsimp only
      go_wp2_with (at_builtin; refine wpList_byteS isU8 _ rfl _ _ rfl w.heap.size (N0 + NW + 1 + n1) (l0 ++ WL ++ [32] ++ Lib.itoa tr) _ rfl O9.out 46 46 rfl rfl (by omega) B9.out.size ?_)
      intro v10 w10 o10 b10 s10
      have O10 : Hid (OwnB w10 w.heap.size v10 (l0 ++ WL ++ [32] ++ Lib.itoa tr ++ [46])) := Lib.hid (by unfold OwnB; rw [List.length_append, List.length_append, List.length_append, List.length_append, NL0.out, NWH.out, N1H.out]; simpa using o10)
      have B10 := Lib.hid (B9.out.trans b10); have S10 := Lib.hid (S9.out.trans s10)
      have k2 := (CE.out w10 S10.out).2.2
      have AI := Lib.hid (appInt10 tn OT.out.2 w.heap.size v10 _ w10 O10.out (by rw [List.length_append, List.length_append, List.length_append, List.length_append, NL0.out, NWH.out, N1H.out]; show _ + _ + 1 + _ + 1 ≤ _; omega) B10.out.size (HP.out.on B10.out))
      clear o10 b10 s10 O9 B9 S9
      go_wp2_with fail
      refine AI.out.mono ?_
      rintro e w11 ⟨v11, rfl, o11, b11, s11⟩
      have O11 : Hid (w11.ownsRow w.heap.size 5 1 v11 (N0 + NW + 1 + n1 + 1 + n2) (bys (l0 ++ WL ++ [32] ++ Lib.itoa tr ++ [46] ++ Lib.itoa tn))) := Lib.hid (by unfold OwnB at o11; rw [List.length_append, List.length_append, List.length_append, List.length_append, List.length_append, NL0.out, NWH.out, N1H.out, N2H.out] at o11; exact o11)
      have B11 := Lib.hid (B10.out.trans b11)
      clear o11 b11 s11 O10 B10 S10 k2 AI
      dsimp only
      go_wp2_with (at_builtin; refine wpList_byteS isU8 _ rfl _ _ rfl w.heap.size (N0 + NW + 1 + n1 + 1 + n2) (l0 ++ WL ++ [32] ++ Lib.itoa tr ++ [46] ++ Lib.itoa tn) _ rfl O11.out 10 10 rfl rfl (by omega) B11.out.size ?_)
      intro v12 w12 o12 b12 _
      have O12 : Hid (OwnB w12 w.heap.size v12 (l0 ++ lineT (tk, tr, tn))) := Lib.hid (by
        rw [LN.out]
        have e : l0 ++ (WL ++ [32] ++ Lib.itoa tr ++ [46] ++ Lib.itoa tn ++ [10]) = l0 ++ WL ++ [32] ++ Lib.itoa tr ++ [46] ++ Lib.itoa tn ++ [10] := by simp
        rw [e]
        unfold OwnB; rw [List.length_append, List.length_append, List.length_append, List.length_append, List.length_append, List.length_append, NL0.out, NWH.out, N1H.out, N2H.out]; simpa using o12)
      have B12 := Lib.hid (B11.out.trans b12)
      clear o12 b12 O11 B11
      go_wp2
      go_roundw
      case rel => exact ⟨k + 1, by omega, by go_num, by rw [TK.out]; exact O12.out, B12.out⟩
      case measure => simp [intOf]; omega
    · obtain rfl : k = T.length := by omega
      have hkl' : ¬ ((T.length : Nat) : Int) < T.length := by omega
      rw [List.take_length] at OW
      obtain ⟨-, p2, cap, hv, -, -, ls, -⟩ := own_lies (show wr.ownsRow w.heap.size 5 1 u3 (textT T).length (bys (textT T)) from OW.out)
      have hcv := ls.convert (P := Tryd.prog) (textT T).length rfl cap 56 5 9 Tryd.underlying56 Tryd.underlying5 Tryd.underlying9
      generalize (textT T).length = N at hv hcv
      subst hv
      clear ls OW
      go_wp2
      go_ret
      exact ⟨rfl, BR.out⟩
end Go.Proofs.YtkpldjiloinaoaaDoor
/- slices.Equal of the same troubles; Fine. -/
namespace Go.Proofs.YtkpldjiloinaoaaDoor
open Go Go.RowKit
set_option linter.unusedVariables false
set_option maxRecDepth 1000000

theorem runEqTr (k r n : Int) (w : World) : (Op.equalIn 10000 39 (.agg #[.int .i64 k, .int .i64 r, .int .i64 n]) (.agg #[.int .i64 k, .int .i64 r, .int .i64 n])).run Tryd.prog w = .ok true w := by
  have u3 := Tryd.underlying3
  have a3 := Tryd.isAgg3
  have z3 := Tryd.sizeOf3
  have ud := Tryd.underlying37
  have ad := Tryd.isAgg37
  have zd := Tryd.sizeOf37
  have hS : Tryd.prog.underlying 39 = some (.struct (Tryd.prog.fieldsOf 39)) := by kernel_rfl
  have hp : Tryd.prog.stoodInHeld 39 = false := by kernel_rfl
  have hd := runEqDt9 r n
  rw [show (10000 : Nat) = 9999 + 1 from rfl, run_equalIn_agg w 9999 39 _ _ hS hp]
  simp only [Program.fieldsOf, Tryd.underlying39]
  go_simp
theorem exec_neqTr {o : Oper} {a : Act} (t : TypeId) (x y : Operand) (ho : o.op = .binOp .neq 39 x y t) (k r n : Int) (hx : a.eval x = .agg #[.int .i64 k, .int .i64 r, .int .i64 n]) (hy : a.eval y = .agg #[.int .i64 k, .int .i64 r, .int .i64 n]) (w : World) :
    (execOp a.eval o).run Tryd.prog w = .ok (.value (.bool false)) w := by
  have h : (binOp .neq 39 (.agg #[.int .i64 k, .int .i64 r, .int .i64 n]) (.agg #[.int .i64 k, .int .i64 r, .int .i64 n])).run Tryd.prog w = .ok (.bool false) w := by
    rw [run_neq_struct, runEqTr k r n w]; rfl
  unfold execOp
  simp only [ho, hx, hy]
  refine run_value_of ?_
  rw [Sem.run_bind]
  have hg : (eqGuard .neq 39 x y (.agg #[.int .i64 k, .int .i64 r, .int .i64 n]) (.agg #[.int .i64 k, .int .i64 r, .int .i64 n])).run Tryd.prog w = .ok () w := by
    unfold eqGuard
    go_simp
  rw [hg]
  exact h
theorem exec_idxTr {o : Oper} {a : Act} (x y : Operand) (ho : o.op = .indexAddr 30 x y) (b f len cap k : Nat) (hx : a.eval x = .slice (some ⟨b, f, none⟩) len cap) (hy : a.eval y = .int .i64 (k : Int)) (hk : k < len) (w : World) :
    (execOp a.eval o).run Tryd.prog w = .ok (.value (.pointer (some ⟨b, f + k * 3, none⟩))) w := by
  have hs : ∀ w : World, (sizeOf (Tryd.prog.elem 30)).run Tryd.prog w = .ok 3 w := fun w => by kernel_rfl
  unfold execOp
  simp only [ho, hx, hy]
  refine run_value_of ?_
  rw [run_indexAt_slice (h := Tryd.underlying30), if_pos (by omega), hs]
  simp only [Result.andThen_ok, Int.toNat_natCast]
  cases k <;> simp [Addr.add]
theorem sizeTrA (t : Tr) : (Tryd.prog.info? 39).map (·.size) = some (trV t).length := by rw [trV_len]; kernel_rfl
theorem own_tr {w : World} {B : Nat} {v : Value} {T : List Tr} (h : w.ownsRow B 39 3 v T.length (trs T)) : ∃ p c, v = .slice p T.length c ∧ TrAt w p T := by
  have h' := h
  rcases h.2 with ⟨rfl, h0⟩ | ⟨g, cap, cur, rfl, _⟩
  · have : T = [] := List.eq_nil_of_length_eq_zero h0
    subst this
    exact ⟨none, 0, rfl, fun hn => absurd rfl hn⟩
  · refine ⟨some ⟨g, 0, none⟩, cap, rfl, fun _ => ⟨g, 0, rfl, fun j u hu => ?_⟩⟩
    have hl : ∀ T : List Tr, (trs T).length = T.length * 3 := fun T => by
      induction T with
      | nil => rfl
      | cons t T ih => simp only [trs, List.flatMap_cons, List.length_append, List.length_cons] at ih ⊢; rw [ih]; simp [trV]; omega
    have hj : j < T.length * 3 := by rw [← hl]; exact (List.getElem?_eq_some_iff.1 hu).1
    have := h'.cellAt j hj
    rw [Nat.zero_add, this]; exact hu
set_option maxHeartbeats 1000000 in
theorem equalT_is (p q : Option Addr) (c d : Nat) (T : List Tr) (w : World) (h1 : TrAt w p T) (h2 : TrAt w q T) (hn : T.length ≤ 100000) :
    Calls Tryd.prog 9 #[.slice p T.length c, .slice q T.length d] w (RetBool w true) := by
  have H1 := Lib.hid h1; have H2 := Lib.hid h2
  clear h1 h2
  go_enter Tryd.func9, Tryd.ntmps9
  go_wp2
  go_loopw [13] (fun i wr => ∃ k : Nat, k ≤ T.length ∧ i = .int .i64 k ∧ Below w.heap.size w wr) (fun i _ => T.length - (RowKit.intOf i).toNat)
  case atStart => exact ⟨0, Nat.zero_le _, rfl, Below.refl _ _⟩
  case round =>
    obtain ⟨k, hk, rfl, hb⟩ := hrel
    have BR := Lib.hid hb
    clear hb
    by_cases hkl : k < T.length
    · have hkl' : (k : Int) < T.length := by omega
      obtain ⟨b1, o1, rfl, r1⟩ := (H1.out.below BR.out).at hkl
      obtain ⟨b2, o2, rfl, r2⟩ := (H2.out.below BR.out).at hkl
      obtain ⟨⟨tk, tr, tn⟩, hy⟩ : ∃ y, T[k] = y := ⟨_, rfl⟩
      rw [hy] at r1 r2
      have R1 := Lib.hid r1; have R2 := Lib.hid r2
      clear r1 r2 hy
      go_wp2_with fail
      have m0 : wr.drew.rangeAt b1 (o1 + k * 3) (trV (tk, tr, tn)) ∧ wr.drew.rangeAt b2 (o2 + k * 3) (trV (tk, tr, tn)) := ⟨R1.out, R2.out⟩
      refine rg_calm (by kernel_rfl) rfl (S := fun U => U.rangeAt b1 (o1 + k * 3) (trV (tk, tr, tn)) ∧ U.rangeAt b2 (o2 + k * 3) (trV (tk, tr, tn))) ?_
      refine rgd_pure 0 (some 16) rfl rfl (.slice (some ⟨b1, o1, none⟩) T.length c) (by kernel_rfl) (by kernel_rfl) (by kernel_rfl) (fun _ _ _ _ h => h) (by kernel_rfl) (fun w => by kernel_rfl) m0 ?_
      refine rgd_pure 1 (some 17) rfl rfl (.int .i64 k) (by kernel_rfl) (by kernel_rfl) (by kernel_rfl) (fun _ _ _ _ h => h) (by kernel_rfl) (fun w => by kernel_rfl) m0 ?_
      refine rgd_pure 2 (some 18) rfl rfl (.pointer (some ⟨b1, o1 + k * 3, none⟩)) (by kernel_rfl) (by kernel_rfl) (by kernel_rfl) (fun _ _ _ _ h => h) (by kernel_rfl) (fun w => exec_idxTr _ _ rfl b1 o1 T.length c k (by kernel_rfl) (by kernel_rfl) hkl w) m0 ?_
      refine rgd_pureS 3 (some 19) rfl rfl (.agg #[.int .i64 tk, .int .i64 tr, .int .i64 tn]) (by kernel_rfl) (by kernel_rfl) (by kernel_rfl) (fun _ _ _ _ h => h) (by kernel_rfl) (fun U hU => exec_gload 39 _ rfl b1 (o1 + k * 3) (by kernel_rfl) (trV (tk, tr, tn)) hU.1 Tryd.underlying39 rfl (sizeTrA (tk, tr, tn))) m0 ?_
      refine rgd_pure 4 (some 20) rfl rfl (.slice (some ⟨b2, o2, none⟩) T.length d) (by kernel_rfl) (by kernel_rfl) (by kernel_rfl) (fun _ _ _ _ h => h) (by kernel_rfl) (fun w => by kernel_rfl) m0 ?_
      refine rgd_pure 5 (some 21) rfl rfl (.int .i64 k) (by kernel_rfl) (by kernel_rfl) (by kernel_rfl) (fun _ _ _ _ h => h) (by kernel_rfl) (fun w => by kernel_rfl) m0 ?_
      refine rgd_pure 6 (some 22) rfl rfl (.pointer (some ⟨b2, o2 + k * 3, none⟩)) (by kernel_rfl) (by kernel_rfl) (by kernel_rfl) (fun _ _ _ _ h => h) (by kernel_rfl) (fun w => exec_idxTr _ _ rfl b2 o2 T.length d k (by kernel_rfl) (by kernel_rfl) hkl w) m0 ?_
      refine rgd_pureS 7 (some 23) rfl rfl (.agg #[.int .i64 tk, .int .i64 tr, .int .i64 tn]) (by kernel_rfl) (by kernel_rfl) (by kernel_rfl) (fun _ _ _ _ h => h) (by kernel_rfl) (fun U hU => exec_gload 39 _ rfl b2 (o2 + k * 3) (by kernel_rfl) (trV (tk, tr, tn)) hU.2 Tryd.underlying39 rfl (sizeTrA (tk, tr, tn))) m0 ?_
      refine rgd_pure 8 (some 24) rfl rfl (.bool false) (by kernel_rfl) (by kernel_rfl) (by kernel_rfl) (fun _ _ _ _ h => h) (by kernel_rfl) (fun w => exec_neqTr _ _ _ rfl tk tr tn (by kernel_rfl) (by kernel_rfl) w) m0 ?_
      have BF := Lib.hid (to_drew BR.out)
      clear m0 R1 R2 BR
      generalize wr.drew = V2 at BF ⊢
      refine wpAnyH_done (by kernel_rfl) ?_ _
      have key : ∀ X Y : Act, X = Y → ∀ K : Act → World → Prop, K Y V2 → K X V2 := fun X Y e K h => e ▸ h
      refine key _ { tmps := #[.slice (some ⟨b1, o1, none⟩) T.length c, .slice (some ⟨b2, o2, none⟩) T.length d, undef, undef, u4, .int .i64 k, .slice (some ⟨b1, o1, none⟩) T.length c, .int .i64 T.length, .slice (some ⟨b2, o2, none⟩) T.length d, .int .i64 T.length, .bool false, .slice (some ⟨b1, o1, none⟩) T.length c, .int .i64 T.length, .int .i64 k, .bool true, .int .i64 k, .slice (some ⟨b1, o1, none⟩) T.length c, .int .i64 k, .pointer (some ⟨b1, o1 + k * 3, none⟩), .agg #[.int .i64 tk, .int .i64 tr, .int .i64 tn], .slice (some ⟨b2, o2, none⟩) T.length d, .int .i64 k, .pointer (some ⟨b2, o2 + k * 3, none⟩), .agg #[.int .i64 tk, .int .i64 tr, .int .i64 tn], .bool false, u25], defers := [] } (by kernel_rfl) _ ?_
      simp only [Exit.then, Exit.inBlock]
      go_wp2
      go_roundw
      case rel => exact ⟨k + 1, by omega, by go_num, BF.out⟩
      case measure => simp [intOf]; omega
    · obtain rfl : k = T.length := by omega
      have hkl' : ¬ ((T.length : Nat) : Int) < T.length := by omega
      go_wp2
      go_ret
      exact ⟨rfl, BR.out⟩
set_option maxHeartbeats 1000000 in
theorem fine_is (F : Nat → Int) (q : Option Addr) (d : Nat) (L : List Wr) (p : Option Addr) (c : Nat) (E : List EvP) (fl : Nat → Int) (w : World) (hw : WrsAt w q L) (hE : EvsAt w p E) (hT : Shapes w) (hn : L.length ≤ 10000) (hm : E.length ≤ 100) (hg : ∀ x ∈ E, x.e.gone.length ≤ 1000) :
    Calls Tryd.prog 10 #[.agg (scs F (.slice q L.length d)), .agg (pcs (.slice p E.length c) fl)] w (RetBool w (decide ((lookT F L fl E).length = 0))) := by
  have LK : Hid (∀ V : World, Below w.heap.size w V → Calls Tryd.prog 7 #[.agg (scs F (.slice q L.length d)), .agg (pcs (.slice p E.length c) fl)] V (TrR V (lookT F L fl E))) := Lib.hid fun V hV => lookG_is F q d L p c E fl V (hw.below hV) (hE.below hV) (hT.below hV) hn hm hg
  clear hw hE hT hg
  generalize lookT F L fl E = T at LK
  go_enter Tryd.func10, Tryd.ntmps10
  go_wp2_with (refine wpList_gbox rfl _ rfl (scs F (.slice q L.length d)) rfl ?_)
  intro g2 w1 l2 h2 hb1
  have S1 : Hid (Sx w1 g2 F (.slice q L.length d)) := Lib.hid h2
  have B1 := Lib.hid hb1
  clear h2 hb1
  go_wp2_with (refine wpList_gbox rfl _ rfl (pcs (.slice p E.length c) fl) rfl ?_)
  intro g3 w2 l3 h3 hb2
  have P2 : Hid (Px w2 g3 (.slice p E.length c) fl) := Lib.hid h3
  have S2 := Lib.hid (S1.out.later hb2); have B2 := Lib.hid (thenBelow B1.out hb2)
  have SW := Lib.hid S2.out.whole; have PW := Lib.hid P2.out.whole
  clear h3 hb2 S1 B1
  go_wp2_with (first | refine wpList_gload (t := 26) rfl _ rfl g2 0 rfl _ SW.out _ Tryd.underlying26 rfl (sizeStl _ _) ?_ | refine wpList_gload (t := 29) rfl _ rfl g3 0 rfl _ PW.out _ Tryd.underlying29 rfl (sizePl _ _) ?_)
  refine (LK.out w2 B2.out).mono ?_
  rintro e w3 ⟨v, rfl, ow, hb3⟩
  have B3 := Lib.hid (thenBelow B2.out hb3)
  obtain ⟨p3, c3, hv, -⟩ := own_tr ow
  obtain ⟨N, hN⟩ : ∃ n, T.length = n := ⟨_, rfl⟩
  rw [hN] at hv
  have NH := Lib.hid hN
  clear hN
  subst hv
  clear ow hb3 LK SW PW S2 P2
  dsimp only
  by_cases h0 : N = 0
  · subst h0
    go_wp2
    go_ret
    exact ⟨by rw [NH.out]; rfl, B3.out⟩
  · have h1 : ¬ (N : Int) = 0 := by omega
    have E1 : Hid (((N : Int) == 0) = false) := Lib.hid (by simpa using h0)
    have E2 : Hid (decide (T.length = 0) = false) := Lib.hid (by rw [NH.out]; exact decide_eq_false h0)
    clear h0
    go_wp2
    go_ret
    refine ⟨?_, B3.out⟩
    show Ending.returned (Value.bool ((N : Int) == 0)) = Ending.returned (Value.bool (decide (T.length = 0)))
    rw [E1.out, E2.out]
end Go.Proofs.YtkpldjiloinaoaaDoor
