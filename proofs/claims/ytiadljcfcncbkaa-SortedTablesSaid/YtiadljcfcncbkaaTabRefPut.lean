/- The document's Put of rows by texts. -/
import Derived.Test.YtiadljcfcncbkaaTabRef
import Derived.Laws.AppendOwnNone
namespace Go.Proofs.Ytiadljcfcncbkaa
open Go Go.RowKit
set_option linter.unusedVariables false
set_option maxHeartbeats 2000000
set_option maxRecDepth 100000
section
variable {P : Program} {t e : TypeId} {b : Nat} {ops : Array Oper} {rest : List Oper} {o : Oper} {a : Act} {Q : Exit → Act → World → Prop}
/-- 'append(out, none...)' -/
theorem wpList_pairs_none (U : P2 P t e b) (w : World) (hg : o.guard = none) (s x : Operand) (ho : o.op = .call { callee := .builtin .append, args := #[s, x], argTypes := #[t, t] })
    (B n : Nat) (l : List (Value × Value)) (v : Value) (hs : a.eval s = v) (hown : w.ownsRow B e 2 v n (pc l)) (hx : a.eval x = .slice none 0 0) (h : wpList P ops Q rest (a.put o.dst v) w) : wpList P ops Q (o :: rest) a w := by
  obtain ⟨i0, z, hi, hz0, hz1, hz2, hz3⟩ := U.parts
  exact wpList_append_own_none hg s x t ho B e i0 2 U.slice hi v n (pc l) hs hown hx h
/-- 'append(out, some...)', things of two cells -/
theorem wpList_pairs (U : P2 P t e b) (w : World) (hg : o.guard = none) (s x : Operand) (ho : o.op = .call { callee := .builtin .append, args := #[s, x], argTypes := #[t, t] })
    (B n : Nat) (l : List (Value × Value)) (v : Value) (hs : a.eval s = v) (hown : w.ownsRow B e 2 v n (pc l)) (ad : Addr) (m c : Nat) (news : List (Value × Value)) (hx : a.eval x = .slice (some ad) m c) (hl : news.length = m)
    (hnews : ∀ j u, (pc news)[j]? = some u → w.cell? (ad.add j) = some u) (h1 : ∀ u ∈ pc news, u.oneCell' = true) (hn : n + m ≤ maxLen) (hlen : (n + m) * b ≤ 140737488355328) (hB : B ≤ w.heap.size)
    (h : ∀ v' w', w'.ownsRow B e 2 v' (n + m) (pc (l ++ news)) → Below B w w' → (∀ k, k < w.heap.size → some k ≠ v.ownBlock → w'.heap[k]? = w.heap[k]?) → wpList P ops Q rest (a.put o.dst v') w') : wpList P ops Q (o :: rest) a w := by
  obtain ⟨i0, z, hi, hz0, hz1, hz2, hz3⟩ := U.parts
  refine wpList_append_own _ hg s x t ho B e i0 z 2 b U.slice hi hz0 hz1 hz2 hz3 (by decide) v n (pc l) hs hown ad m c (pc news) hx (by rw [pc_length, hl]) hnews h1 hn hlen hB ?_
  intro v' w' h3 h4 _
  exact h v' w' (by rw [pc_append]; exact h3) ((Below.refl B w).grown h4 hB (fun k hk => (hown.lt k hk).1)) (fun k hk hne => h4.block k hk hne)
end
theorem rowP2 : P2 Try.prog 27 37 24 := ⟨Try.underlying27, by kernel_rfl⟩
theorem rows_one (l : Tb.Rows ByteArray) : ∀ u ∈ pc (rowsE l), u.oneCell' = true := pc_one _ (fun x hx => by
  obtain ⟨r, _, rfl⟩ := List.mem_map.1 hx
  exact ⟨rfl, rfl⟩)
theorem lies_piece {w : World} {b o : Nat} {l : Tb.Rows ByteArray} (h : ∀ i, i < l.length → w.cell? ⟨b, o + i * 2, none⟩ = some (.string (l.getD i rowD).1) ∧ w.cell? ⟨b, o + i * 2 + 1, none⟩ = some (.int .i64 (l.getD i rowD).2)) (k : Nat) (A : Tb.Rows ByteArray) (C : Tb.Rows ByteArray) (hl : l.drop k = A ++ C) (hk : k + A.length ≤ l.length) :
    ∀ j u, (pc (rowsE A))[j]? = some u → w.cell? ((⟨b, o + k * 2, none⟩ : Addr).add j) = some u := fun j u hu => by
  have hj : j < A.length * 2 := by have := (List.getElem?_eq_some_iff.1 hu).1; rwa [pc_length, rowsE_len] at this
  have hi : j / 2 < A.length := by omega
  obtain ⟨g1, g2⟩ := pc_get (rowsE A) (j / 2) (by rw [rowsE_len]; exact hi)
  have e0 : l.getD (k + j / 2) rowD = A[j / 2] := by
    have : (l.drop k)[j / 2]? = some A[j / 2] := by rw [hl, List.getElem?_append_left hi, List.getElem?_eq_getElem hi]
    rw [List.getElem?_drop] at this
    rw [List.getD, this]; rfl
  obtain ⟨c1, c2⟩ := h (k + j / 2) (by omega)
  rw [e0] at c1 c2
  have e1 : (rowsE A)[j / 2]'(by rw [rowsE_len]; exact hi) = rowE A[j / 2] := by simp [rowsE]
  rw [Addr.add_lit]
  rcases Nat.mod_two_eq_zero_or_one j with hm | hm
  · have ej : j = j / 2 * 2 := by omega
    rw [ej, g1, e1] at hu
    injection hu with hu
    rw [show o + k * 2 + j = o + (k + j / 2) * 2 by omega, c1, ← hu]; rfl
  · have ej : j = j / 2 * 2 + 1 := by omega
    rw [ej, g2, e1] at hu
    injection hu with hu
    rw [show o + k * 2 + j = o + (k + j / 2) * 2 + 1 by omega, c2, ← hu]; rfl
set_option maxRecDepth 1000000 in
theorem refPut_is (p : Option Addr) (c : Nat) (l A B0 Bs : Tb.Rows ByteArray) (tt : Bool) (x : ByteArray) (y : Int) (w : World) (hl : LiesR w p l) (hn : l.length ≤ 1000) (hlc : l.length ≤ c) (hp : p = none → l = [] ∧ c = 0)
    (s : Tb.Sp ltB l x A B0) (htt : isR l x = tt) (hB : l = A ++ (if tt then B0.take 1 else []) ++ Bs) (hB1 : tt = true → 0 < B0.length) :
    Calls Try.prog 12 #[.slice p l.length c, .string x, .int .i64 y] w fun e w' => ∃ v, e = .returned v ∧ w'.ownsRow w.heap.size 37 2 v (A ++ (x, y) :: Bs).length (pc (rowsE (A ++ (x, y) :: Bs))) ∧ Below w.heap.size w w' := by
  have RB := Lib.hid (refBelow_is p c l x w hl hn hlc)
  rw [s.count, htt] at RB
  have CL := Lib.hid hl
  have hAl : A.length ≤ l.length := by rw [s.eq]; simp
  have HB := Lib.hid hB; have HB1 := Lib.hid hB1; have HP := Lib.hid hp
  clear hl s htt hB hB1 hp
  obtain ⟨n, hnA⟩ : ∃ n, A.length = n := ⟨_, rfl⟩
  rw [hnA] at RB hAl
  have HNA := Lib.hid hnA
  clear hnA
  cases p with
  | none =>
    obtain ⟨rfl, rfl⟩ := HP.out rfl
    obtain rfl : n = 0 := by simpa using hAl
    clear HP hlc hn hAl
    go_enter Try.func12, Try.ntmps12
    go_wp2_with fail
    refine RB.out.mono ?_
    rintro e w1 ⟨rfl, hb⟩
    have B1 := Lib.hid hb
    clear hb
    have own0 : ∀ W : World, W.ownsRow w.heap.size 37 2 (.slice none 0 0) 0 (pc []) := fun W => ⟨rfl, .inl ⟨rfl, rfl⟩⟩
    have hA0 : A = [] := List.eq_nil_of_length_eq_zero HNA.out
    have htt : tt = false := by
      cases tt with
      | false => rfl
      | true =>
        have h1 := HB.out; have h2 := HB1.out rfl
        rw [hA0] at h1
        cases B0 with
        | nil => simp at h2
        | cons b B0 => simp at h1
    have hBs : Bs = [] := by
      have h1 := HB.out
      rw [hA0, htt] at h1
      simpa using h1.symm
    subst htt; subst hA0; subst hBs
    have hw1 : w.heap.size ≤ w1.heap.size := B1.out.size
    clear RB HB HB1 HNA CL
    go_wp2_with (at_builtin; refine wpList_pair rowP2 w1 rfl _ _ rfl w.heap.size 0 [] (.slice none 0 0) rfl (own0 _) (.string x) (.int .i64 y) rfl rfl rfl (by omega) (by decide) hw1 ?_)
    intro v2 w2 ho2 hb2 _
    have O2 := Lib.hid ho2; have B2 := Lib.hid (B1.out.trans (hb2.mono (Nat.le_refl _)))
    clear ho2 hb2
    go_wp2_with (at_builtin; refine wpList_pairs_none rowP2 _ rfl _ _ rfl w.heap.size 1 _ v2 rfl O2.out rfl ?_)
    go_wp2_with fail
    go_ret
    exact ⟨v2, rfl, O2.out, B2.out⟩
  | some ad =>
    go_enter Try.func12, Try.ntmps12
    go_wp2_with fail
    refine RB.out.mono ?_
    rintro e w1 ⟨rfl, hb⟩
    have B1 := Lib.hid hb
    clear hb RB
    have hAl' : (n : Int) ≤ l.length := by omega
    have own0 : ∀ W : World, W.ownsRow w.heap.size 37 2 (.slice none 0 0) 0 (pc []) := fun W => ⟨rfl, .inl ⟨rfl, rfl⟩⟩
    have hw1 : w.heap.size ≤ w1.heap.size := B1.out.size
    have hcell : ∀ (W : World), Below w.heap.size w W → ∀ (k : Nat) (C D : Tb.Rows ByteArray), l.drop k = C ++ D → k + C.length ≤ l.length → C ≠ [] → ∀ j u, (pc (rowsE C))[j]? = some u → W.cell? ((ad.add (k * 2)).add j) = some u := fun W hW k C D hd hk hC => by
      obtain ⟨b1, o1, e, _, q1⟩ := (CL.out.below hW).at (by cases C with | nil => exact absurd rfl hC | cons c C => simp at hk; omega)
      injection e with e
      subst e
      have := lies_piece q1 k C D hd hk
      rw [Addr.add_lit]
      exact this
    have HC := Lib.hid hcell
    clear hcell CL HP
    go_wp2_with (at_builtin; refine wpList_pairs rowP2 w1 rfl _ _ rfl w.heap.size 0 [] (.slice none 0 0) rfl (own0 _) ad n c (rowsE A) rfl (by rw [rowsE_len]; exact HNA.out) ?_ (rows_one A) ?_ ?_ hw1 ?_)
    · intro j u hu
      by_cases hA0 : A = []
      · rw [hA0] at hu; simp [rowsE, pc] at hu
      · have := HC.out w1 B1.out 0 A ((if tt then B0.take 1 else []) ++ Bs) (by rw [List.drop_zero, ← List.append_assoc]; exact HB.out) (by rw [HNA.out]; omega) hA0 j u hu
        rwa [Nat.zero_mul, Addr.add_add, Nat.zero_add] at this
    · unfold maxLen; omega
    · omega
    intro v2 w2 ho2 hb2 _
    have O2 := Lib.hid ho2; have B2 := Lib.hid (B1.out.trans (hb2.mono (Nat.le_refl _)))
    clear ho2 hb2
    have hw2 : w.heap.size ≤ w2.heap.size := B2.out.size
    go_wp2_with (at_builtin; refine wpList_pair rowP2 w2 rfl _ _ rfl w.heap.size n (rowsE A) v2 rfl O2.out (.string x) (.int .i64 y) rfl rfl rfl (by omega) (by unfold maxLen; omega) hw2 ?_)
    intro v3 w3 ho3 hb3 _
    have O3 := Lib.hid ho3; have B3 := Lib.hid (B2.out.trans (hb3.mono (Nat.le_refl _)))
    clear ho3 hb3
    have hw3 : w.heap.size ≤ w3.heap.size := B3.out.size
    cases tt with
    | true =>
      have hd : l.drop (n + 1) = Bs ++ [] := by
        rw [List.append_nil]
        have h1 := HB.out
        have h2 := HNA.out
        rw [h1]
        have h3 := HB1.out rfl
        rw [if_pos rfl, List.drop_append_of_le_length (by simp; omega), List.drop_eq_nil_of_le (by simp; omega), List.nil_append]
      have hbl : Bs.length = l.length - (n + 1) := by rw [← List.length_drop, hd, List.append_nil]
      have hnl : n + 1 ≤ l.length := by
        have h1 := congrArg List.length HB.out
        have h3 := HB1.out rfl
        have h2 := HNA.out
        rw [if_pos rfl] at h1
        simp at h1
        omega
      have hni : ((n : Int) + 1 : Int) ≤ l.length := by omega
      have FIN : ∀ v4 w4 N M, World.ownsRow w4 w.heap.size 37 2 v4 N (pc M) → N = n + 1 + Bs.length → M = rowsE (A ++ (x, y) :: Bs) → w4.ownsRow w.heap.size 37 2 v4 (A ++ (x, y) :: Bs).length (pc (rowsE (A ++ (x, y) :: Bs))) := fun v4 w4 N M h hN hM => by
        have e1 : (A ++ (x, y) :: Bs).length = n + 1 + Bs.length := by have := HNA.out; simp; omega
        rw [e1, ← hN, ← hM]; exact h
      have FH := Lib.hid FIN
      have HD := Lib.hid hd; have HBL := Lib.hid hbl
      clear hd FIN HB HB1 hbl
      by_cases hcn : c = n + 1
      · have hl0 : l.length - (n + 1) = 0 := by omega
        have hBs : Bs = [] := List.eq_nil_of_length_eq_zero (by rw [HBL.out]; exact hl0)
        clear hl0
        go_wp2_with (at_builtin; refine wpList_pairs rowP2 w3 rfl _ _ rfl w.heap.size (n + 1) _ v3 rfl O3.out ad (l.length - (n + 1)) _ (rowsE Bs) rfl (by rw [rowsE_len]; exact HBL.out) (fun j u hu => by rw [hBs] at hu; simp [rowsE, pc] at hu) (rows_one Bs) (by unfold maxLen; omega) (by omega) hw3 ?_)
        intro v4 w4 ho4 hb4 _
        have O4 := Lib.hid (FH.out v4 w4 _ _ ho4 (by have := HBL.out; omega) (by simp [rowsE, rowE, hBs])); have B4 := Lib.hid (B3.out.trans (hb4.mono (Nat.le_refl _)))
        clear ho4 hb4 O3 O2 HC FH
        go_wp2_with fail
        go_ret
        exact ⟨v4, rfl, O4.out, B4.out⟩
      · go_wp2_with (at_builtin; refine wpList_pairs rowP2 w3 rfl _ _ rfl w.heap.size (n + 1) _ v3 rfl O3.out (ad.add ((n + 1) * 2)) (l.length - (n + 1)) _ (rowsE Bs) rfl (by rw [rowsE_len]; exact HBL.out) (fun j u hu => by
          by_cases hB0 : Bs = []
          · rw [hB0] at hu; simp [rowsE, pc] at hu
          · exact HC.out w3 B3.out (n + 1) Bs [] HD.out (by rw [HBL.out]; omega) hB0 j u hu) (rows_one Bs) (by unfold maxLen; omega) (by omega) hw3 ?_)
        intro v4 w4 ho4 hb4 _
        have O4 := Lib.hid (FH.out v4 w4 _ _ ho4 (by have := HBL.out; omega) (by simp [rowsE, rowE])); have B4 := Lib.hid (B3.out.trans (hb4.mono (Nat.le_refl _)))
        clear ho4 hb4 O3 O2 HC FH
        go_wp2_with fail
        go_ret
        exact ⟨v4, rfl, O4.out, B4.out⟩
    | false =>
      have hd : l.drop (n) = Bs ++ [] := by
        rw [List.append_nil]
        have h1 := HB.out
        have h2 := HNA.out
        rw [h1]
        simp only [Bool.false_eq_true, if_false, List.append_nil]
        rw [← h2, List.drop_left']
        rfl
      have hbl : Bs.length = l.length - (n) := by rw [← List.length_drop, hd, List.append_nil]
      have hnl : n ≤ l.length := by
        exact hAl
      have hni : ((n : Int) : Int) ≤ l.length := by omega
      have FIN : ∀ v4 w4 N M, World.ownsRow w4 w.heap.size 37 2 v4 N (pc M) → N = n + 1 + Bs.length → M = rowsE (A ++ (x, y) :: Bs) → w4.ownsRow w.heap.size 37 2 v4 (A ++ (x, y) :: Bs).length (pc (rowsE (A ++ (x, y) :: Bs))) := fun v4 w4 N M h hN hM => by
        have e1 : (A ++ (x, y) :: Bs).length = n + 1 + Bs.length := by have := HNA.out; simp; omega
        rw [e1, ← hN, ← hM]; exact h
      have FH := Lib.hid FIN
      have HD := Lib.hid hd; have HBL := Lib.hid hbl
      clear hd FIN HB HB1 hbl
      by_cases hcn : c = n
      · have hl0 : l.length - (n) = 0 := by omega
        have hBs : Bs = [] := List.eq_nil_of_length_eq_zero (by rw [HBL.out]; exact hl0)
        clear hl0
        go_wp2_with (at_builtin; refine wpList_pairs rowP2 w3 rfl _ _ rfl w.heap.size (n + 1) _ v3 rfl O3.out ad (l.length - (n)) _ (rowsE Bs) rfl (by rw [rowsE_len]; exact HBL.out) (fun j u hu => by rw [hBs] at hu; simp [rowsE, pc] at hu) (rows_one Bs) (by unfold maxLen; omega) (by omega) hw3 ?_)
        intro v4 w4 ho4 hb4 _
        have O4 := Lib.hid (FH.out v4 w4 _ _ ho4 (by have := HBL.out; omega) (by simp [rowsE, rowE, hBs])); have B4 := Lib.hid (B3.out.trans (hb4.mono (Nat.le_refl _)))
        clear ho4 hb4 O3 O2 HC FH
        go_wp2_with fail
        go_ret
        exact ⟨v4, rfl, O4.out, B4.out⟩
      · go_wp2_with (at_builtin; refine wpList_pairs rowP2 w3 rfl _ _ rfl w.heap.size (n + 1) _ v3 rfl O3.out (ad.add ((n) * 2)) (l.length - (n)) _ (rowsE Bs) rfl (by rw [rowsE_len]; exact HBL.out) (fun j u hu => by
          by_cases hB0 : Bs = []
          · rw [hB0] at hu; simp [rowsE, pc] at hu
          · exact HC.out w3 B3.out (n) Bs [] HD.out (by rw [HBL.out]; omega) hB0 j u hu) (rows_one Bs) (by unfold maxLen; omega) (by omega) hw3 ?_)
        intro v4 w4 ho4 hb4 _
        have O4 := Lib.hid (FH.out v4 w4 _ _ ho4 (by have := HBL.out; omega) (by simp [rowsE, rowE])); have B4 := Lib.hid (B3.out.trans (hb4.mono (Nat.le_refl _)))
        clear ho4 hb4 O3 O2 HC FH
        go_wp2_with fail
        go_ret
        exact ⟨v4, rfl, O4.out, B4.out⟩
end Go.Proofs.Ytiadljcfcncbkaa
