/- Lanes, the program's and the document's, side by side. -/
import Derived.Test.YtfdiclamjgldnaaLnDoc9
import Derived.Test.YtfdiclamjgldnaaLnOnce
import Derived.Test.YtfdiclamjgldnaaStd
namespace Go.Proofs.Ytfdiclamjgldnaa
open Go Go.RowKit Go.Conc
set_option linter.unusedVariables false

def nm (x : Mg) : List UInt8 × Nat × UInt8 := (x.whole, (max x.at_ 0).toNat, x.by_)
def pm (p : Pc) : List UInt8 × Nat × UInt8 := (p.b, p.at_, p.by_)
def Rel (F : Wy → List Mg) (L : List Pc) : Prop := ∀ d, (F d).map nm = (on d L).map pm
theorem Rel.len {F : Wy → List Mg} {L : List Pc} (h : Rel F L) (d : Wy) : (F d).length = (on d L).length := by
  have := congrArg List.length (h d)
  simpa using this
theorem Rel.get {F : Wy → List Mg} {L : List Pc} (h : Rel F L) (d : Wy) (k : Nat) (y : Pc) (hy : (on d L)[k]? = some y) (hk : k < (F d).length) : nm ((F d).getD k ⟨[], 0, 0⟩) = pm y := by
  have h1 := congrArg (·[k]?) (h d)
  simp only [List.getElem?_map, hy, Option.map_some] at h1
  rw [List.getElem?_eq_getElem hk] at h1
  rw [List.getD_eq_getElem?_getD, List.getElem?_eq_getElem hk]
  simpa using h1
theorem seen_same {x : Mg} {y : Pc} (h : nm x = pm y) : seen x = seenP y := by
  unfold nm pm at h
  simp only [Prod.mk.injEq] at h
  obtain ⟨h1, h2, h3⟩ := h
  unfold seen seenP turnAt
  rw [h1, h2, h3]
theorem Rel.nil : Rel (fun _ => []) [] := fun d => rfl
theorem Rel.push {F : Wy → List Mg} {L : List Pc} (h : Rel F L) (d : Wy) (x : Mg) (y : Pc) (hd : y.k = d) (hxy : nm x = pm y) : Rel (updF F d (F d ++ [x])) (L ++ [y]) := fun d' => by
  rw [on_append]
  unfold updF
  by_cases q : d' = d
  · subst q
    rw [if_pos rfl, List.map_append, List.map_append, h d']
    congr 1
    simp [on, hd, hxy]
  · rw [if_neg q, List.map_append, h d']
    have : on d' [y] = [] := by unfold on; rw [List.filter_cons, if_neg (by simp [hd]; exact fun e => q e.symm)]; rfl
    rw [this]; simp
theorem map_erase {α β : Type} (f : α → β) : ∀ (l : List α) (k : Nat), (l.eraseIdx k).map f = (l.map f).eraseIdx k
  | [], _ => rfl
  | _ :: _, 0 => rfl
  | x :: l, k + 1 => by simp only [List.eraseIdx_cons_succ, List.map_cons, map_erase f l k]
theorem Rel.erase {F : Wy → List Mg} {L : List Pc} (h : Rel F L) (d : Wy) (k i : Nat) (hat : AtW L d k i) : Rel (updF F d ((F d).eraseIdx k)) (L.take i ++ L.drop (i + 1)) := fun d' => by
  rw [on_erase hat]
  unfold updF
  by_cases q : d' = d
  · subst q
    rw [if_pos rfl, if_pos rfl, map_erase, map_erase, h d']
  · rw [if_neg q, if_neg q]; exact h d'
theorem Rel.set {F : Wy → List Mg} {L : List Pc} (h : Rel F L) (d : Wy) (k i : Nat) (hat : AtW L d k i) (x : Mg) (y : Pc) (hd : y.k = d) (hxy : nm x = pm y) : Rel (updF F d ((F d).set k x)) (L.set i y) := fun d' => by
  rw [on_set hat y hd]
  unfold updF
  by_cases q : d' = d
  · subst q
    rw [if_pos rfl, if_pos rfl, List.map_set, List.map_set, h d', hxy]
  · rw [if_neg q, if_neg q]; exact h d'
theorem in_push {n : Int} {L : List Pc} {d : Wy} {y : Pc} (h : ∀ p ∈ L, InN n p.k) (hk : InN n d) (hy : y.k = d) : ∀ p ∈ L ++ [y], InN n p.k := fun p hp => by
  rcases List.mem_append.1 hp with hp | hp
  · exact h p hp
  · obtain rfl := List.mem_singleton.1 hp
    rw [hy]; exact hk
theorem in_erase {n : Int} {L : List Pc} {i : Nat} (h : ∀ p ∈ L, InN n p.k) : ∀ p ∈ L.take i ++ L.drop (i + 1), InN n p.k := fun p hp => by
  rcases List.mem_append.1 hp with hp | hp
  · exact h p (List.mem_of_mem_take hp)
  · exact h p (List.mem_of_mem_drop hp)
theorem in_set {n : Int} {L : List Pc} {i : Nat} {d : Wy} {y : Pc} (h : ∀ p ∈ L, InN n p.k) (hk : InN n d) (hy : y.k = d) : ∀ p ∈ L.set i y, InN n p.k := fun p hp => by
  rcases List.mem_or_eq_of_mem_set hp with hp | rfl
  · exact h p hp
  · rw [hy]; exact hk
theorem in_none {n : Int} {L : List Pc} {d : Wy} (h : ∀ p ∈ L, InN n p.k) (hk : ¬ InN n d) : on d L = [] := by
  unfold on
  rw [List.filter_eq_nil_iff]
  intro p hp q
  have : p.k = d := by simpa using q
  exact hk (by rw [← this]; exact h p hp)
/-- both, behind k deeds -/
def St (B A R n : Nat) (W : World) (k : Nat) (w : World) : Prop :=
  ∃ F L S Lo, Lx w B A n F S Lo ∧ Rl w B R n L S Lo ∧ Rel F L ∧ (∀ p ∈ L, InN n p.k) ∧ L.length ≤ k ∧ (0 ≤ S ∧ S ≤ k) ∧ (0 ≤ Lo ∧ Lo ≤ k) ∧ Below B W w
theorem whyNot_15 {L : List Pc} {n : Int} {d : Wy} {K r : Int} (h : WhyNot L n d K r) (hk : ¬ InN n d) : r = 15 := by
  rcases h with ⟨h, _⟩ | ⟨_, q, _⟩
  · exact h
  · exact absurd q hk
theorem whyNot_10 {L : List Pc} {n : Int} {d : Wy} {K r : Int} (h : WhyNot L n d K r) (hk : InN n d) : r = 10 ∧ (K < 0 ∨ (on d L).length ≤ K) := by
  rcases h with ⟨_, q⟩ | ⟨h, _, q⟩
  · exact absurd hk q
  · exact ⟨h, q⟩
/-- blocks of cells but lanes and messages stay -/
def Stay (w w' : World) : Prop := ∀ (i : Nat) (cur : Array Value) (ty : TypeId) (m : Nat × Nat), ty ≠ 49 → ty ≠ 67 → w.heap[i]? = some (.cells cur ty m) → w'.heap[i]? = some (.cells cur ty m)
def Dos (w w' : World) : Prop := ∀ (i : Nat) (cur : Array Value) (m : Nat × Nat), w.heap[i]? = some (.cells cur 32 m) → w'.heap[i]? = some (.cells cur 32 m)
theorem Stay.refl (w : World) : Stay w w := fun _ _ _ _ _ _ h => h
/-- a call of the program's, then one of the document's, both answering a number -/
def TwoN (B A R n : Nat) (W : World) (k : Nat) (w : World) (g : FuncId) (args : Array Value) (e : Ending) (w1 : World) : Prop :=
  ∃ r : Int, e = .returned (.int .i64 r) ∧ Stay w w1 ∧ Calls Try.prog g args w1 fun e2 w2 => e2 = .returned (.int .i64 r) ∧ Dos w1 w2 ∧ St B A R n W (k + 1) w2
theorem two_send (B A R n : Nat) (W : World) (k : Nat) (hk80 : k ≤ 80) (w : World) (h : St B A R n W k w) (f t : Int) (p : Option Addr) (c : Nat) (l : List UInt8) (hl : ∀ V, Below B W V → Lies V p l) (hp : p = none → l = []) (hbig : l.length ≤ 1000) :
    Calls Try.prog 13 #[.pointer (some ⟨A, 0, none⟩), .int .i64 f, .int .i64 t, .slice p l.length c] w (TwoN B A R n W k w 26 #[.pointer (some ⟨R, 0, none⟩), .int .i64 f, .int .i64 t, .slice p l.length c]) := by
  obtain ⟨F, L, S, Lo, hx, hr, hrel, hin, hL, hS, hLo, hb⟩ := h
  by_cases hk : InN n (f, t)
  · have hd := fun (w1 : World) (h1 : Rl w1 B R n L S Lo) (hb1 : Below B W w1) => refSend_yes B R n L S Lo f t p c l w1 h1 (by omega) hk (fun V hV => hl V (hb1.trans hV)) hbig ⟨by omega, by omega⟩ ⟨by omega, by omega⟩
    by_cases h40 : (F (f, t)).length < 40
    · refine (send_yes B A n F S Lo w hx f t hk p c l (hl w hb) hp hbig h40 ⟨by omega, by omega⟩).mono ?_
      rintro e w1 ⟨rfl, hx1, hb1⟩
      have hr1 := hr.stay hb1.stay
      refine ⟨0, rfl, hb1.stay, (hd w1 hr1 (hb.trans hb1.bel)).mono ?_⟩
      rw [if_neg (by rw [← hrel.len]; omega)]
      rintro e w2 ⟨rfl, hr2, hb2, hs2⟩
      exact ⟨rfl, hs2.dos, _, _, _, _, hs2.lx _ _ _ _ _ _ hx1, hr2, hrel.push (f, t) _ _ rfl rfl, in_push hin hk rfl, by simp; omega, ⟨by omega, by omega⟩, ⟨by omega, by omega⟩, hb.trans (hb1.bel.trans hb2)⟩
    · refine (send_full B A n F S Lo w hx f t hk p c l (hl w hb) hp hbig h40 ⟨by omega, by omega⟩ ⟨by omega, by omega⟩).mono ?_
      rintro e w1 ⟨rfl, hx1, hb1⟩
      have hr1 := hr.stay hb1.stay
      refine ⟨8, rfl, hb1.stay, (hd w1 hr1 (hb.trans hb1.bel)).mono ?_⟩
      rw [if_pos (by rw [← hrel.len]; omega)]
      rintro e w2 ⟨rfl, hr2, hb2, hs2⟩
      exact ⟨rfl, hs2.dos, F, L, S + 1, Lo + 1, hs2.lx _ _ _ _ _ _ hx1, hr2, hrel, hin, by omega, ⟨by omega, by omega⟩, ⟨by omega, by omega⟩, hb.trans (hb1.bel.trans hb2)⟩
  · refine (send_noway B A n F S Lo w hx f t _ ⟨_, _, _, rfl⟩ hk).mono ?_
    rintro e w1 ⟨rfl, rfl⟩
    refine ⟨15, rfl, Stay.refl _, (refSend_no B R n L S Lo f t _ ⟨_, _, _, rfl⟩ w hr hk).mono ?_⟩
    rintro e w2 ⟨rfl, hr2, hb2, hs2⟩
    exact ⟨rfl, hs2.dos, F, L, S, Lo, hs2.lx _ _ _ _ _ _ hx, hr2, hrel, hin, by omega, ⟨by omega, by omega⟩, ⟨by omega, by omega⟩, hb.trans hb2⟩
theorem two_lose (B A R n : Nat) (W : World) (k : Nat) (hk80 : k ≤ 80) (w : World) (h : St B A R n W k w) (f t K : Int) :
    Calls Try.prog 18 #[.pointer (some ⟨A, 0, none⟩), .int .i64 f, .int .i64 t, .int .i64 K] w (TwoN B A R n W k w 22 #[.pointer (some ⟨R, 0, none⟩), .int .i64 f, .int .i64 t, .int .i64 K]) := by
  obtain ⟨F, L, S, Lo, hx, hr, hrel, hin, hL, hS, hLo, hb⟩ := h
  have hd := fun (w1 : World) (h1 : Rl w1 B R n L S Lo) => refLose_is B R n L S Lo f t K w1 h1 (by omega) ⟨by omega, by omega⟩
  by_cases hk : InN n (f, t)
  · by_cases hK : 0 ≤ K ∧ K < (F (f, t)).length
    · obtain ⟨i, rfl⟩ := Int.eq_ofNat_of_zero_le hK.1
      refine (lose_is B A n F S Lo w hx f t hk i (by omega) ⟨by omega, by omega⟩).mono ?_
      rintro e w1 ⟨rfl, hx1, hb1⟩
      have hr1 := hr.stay hb1.stay
      refine ⟨0, rfl, hb1.stay, (hd w1 hr1).mono ?_⟩
      rintro e w2 (⟨r, hw, _⟩ | ⟨_, x, j, _, hxx, hat, rfl, hr2, hb2, hs2⟩)
      · have := (whyNot_10 hw hk).2
        rw [← hrel.len] at this; omega
      · rw [Int.toNat_natCast] at hat
        exact ⟨rfl, hs2.dos, _, _, _, _, hs2.lx _ _ _ _ _ _ hx1, hr2, hrel.erase (f, t) i j hat, in_erase hin, by simp; omega, ⟨by omega, by omega⟩, ⟨by omega, by omega⟩, hb.trans (hb1.bel.trans hb2)⟩
    · refine (lose_err _ f t K 10 w (noFind_out B A n F S Lo w hx f t K hk (by omega))).mono ?_
      rintro e w1 ⟨rfl, rfl⟩
      refine ⟨10, rfl, Stay.refl _, (hd w hr).mono ?_⟩
      rintro e w2 (⟨r, hw, rfl, hr2, hb2, hs2⟩ | ⟨_, x, j, h0, hxx, _⟩)
      · exact ⟨by rw [(whyNot_10 hw hk).1], hs2.dos, F, L, S, Lo, hs2.lx _ _ _ _ _ _ hx, hr2, hrel, hin, by omega, ⟨by omega, by omega⟩, ⟨by omega, by omega⟩, hb.trans hb2⟩
      · have := (List.getElem?_eq_some_iff.1 hxx).1
        rw [← hrel.len] at this; omega
  · refine (lose_err _ f t K 15 w (noFind_way B A n F S Lo w hx f t K hk)).mono ?_
    rintro e w1 ⟨rfl, rfl⟩
    refine ⟨15, rfl, Stay.refl _, (hd w hr).mono ?_⟩
    rintro e w2 (⟨r, hw, rfl, hr2, hb2, hs2⟩ | ⟨q, _⟩)
    · exact ⟨by rw [whyNot_15 hw hk], hs2.dos, F, L, S, Lo, hs2.lx _ _ _ _ _ _ hx, hr2, hrel, hin, by omega, ⟨by omega, by omega⟩, ⟨by omega, by omega⟩, hb.trans hb2⟩
    · exact absurd q hk
theorem two_double (B A R n : Nat) (W : World) (k : Nat) (hk80 : k ≤ 80) (w : World) (h : St B A R n W k w) (f t K : Int) :
    Calls Try.prog 15 #[.pointer (some ⟨A, 0, none⟩), .int .i64 f, .int .i64 t, .int .i64 K] w (TwoN B A R n W k w 23 #[.pointer (some ⟨R, 0, none⟩), .int .i64 f, .int .i64 t, .int .i64 K]) := by
  obtain ⟨F, L, S, Lo, hx, hr, hrel, hin, hL, hS, hLo, hb⟩ := h
  have hd := fun (w1 : World) (h1 : Rl w1 B R n L S Lo) => refDouble_is B R n L S Lo f t K w1 h1 (by omega)
  by_cases hk : InN n (f, t)
  · by_cases hK : 0 ≤ K ∧ K < (F (f, t)).length
    · obtain ⟨i, rfl⟩ := Int.eq_ofNat_of_zero_le hK.1
      by_cases h40 : (F (f, t)).length < 40
      · refine (double_yes B A n F S Lo w hx f t hk i (by omega) h40).mono ?_
        rintro e w1 ⟨rfl, hx1, hb1⟩
        have hr1 := hr.stay hb1.stay
        refine ⟨0, rfl, hb1.stay, (hd w1 hr1).mono ?_⟩
        rintro e w2 (⟨r, hw, _⟩ | ⟨_, x, _, hxx, hq⟩)
        · have := (whyNot_10 hw hk).2
          rw [← hrel.len] at this; omega
        · rw [if_neg (by rw [← hrel.len]; omega)] at hq
          obtain ⟨rfl, hr2, hb2, hs2⟩ := hq
          rw [Int.toNat_natCast] at hxx
          have hxk : x.k = (f, t) := by
            have := List.mem_of_getElem? hxx
            unfold on at this
            simpa using (List.mem_filter.1 this).2
          exact ⟨rfl, hs2.dos, _, _, _, _, hs2.lx _ _ _ _ _ _ hx1, hr2, hrel.push (f, t) _ x hxk (hrel.get (f, t) i x hxx (by omega)), in_push hin hk hxk, by simp; omega, ⟨by omega, by omega⟩, ⟨by omega, by omega⟩, hb.trans (hb1.bel.trans hb2)⟩
      · refine (double_full B A n F S Lo w hx f t hk i (by omega) h40).mono ?_
        rintro e w1 ⟨rfl, hx1, hb1⟩
        have hr1 := hr.stay hb1.stay
        refine ⟨8, rfl, hb1.stay, (hd w1 hr1).mono ?_⟩
        rintro e w2 (⟨r, hw, _⟩ | ⟨_, x, _, hxx, hq⟩)
        · have := (whyNot_10 hw hk).2
          rw [← hrel.len] at this; omega
        · rw [if_pos (by rw [← hrel.len]; omega)] at hq
          obtain ⟨rfl, hr2, hb2, hs2⟩ := hq
          exact ⟨rfl, hs2.dos, F, L, S, Lo, hs2.lx _ _ _ _ _ _ hx1, hr2, hrel, hin, by omega, ⟨by omega, by omega⟩, ⟨by omega, by omega⟩, hb.trans (hb1.bel.trans hb2)⟩
    · refine (double_err _ f t K 10 w (noFind_out B A n F S Lo w hx f t K hk (by omega))).mono ?_
      rintro e w1 ⟨rfl, rfl⟩
      refine ⟨10, rfl, Stay.refl _, (hd w hr).mono ?_⟩
      rintro e w2 (⟨r, hw, rfl, hr2, hb2, hs2⟩ | ⟨_, x, h0, hxx, _⟩)
      · exact ⟨by rw [(whyNot_10 hw hk).1], hs2.dos, F, L, S, Lo, hs2.lx _ _ _ _ _ _ hx, hr2, hrel, hin, by omega, ⟨by omega, by omega⟩, ⟨by omega, by omega⟩, hb.trans hb2⟩
      · have := (List.getElem?_eq_some_iff.1 hxx).1
        rw [← hrel.len] at this; omega
  · refine (double_err _ f t K 15 w (noFind_way B A n F S Lo w hx f t K hk)).mono ?_
    rintro e w1 ⟨rfl, rfl⟩
    refine ⟨15, rfl, Stay.refl _, (hd w hr).mono ?_⟩
    rintro e w2 (⟨r, hw, rfl, hr2, hb2, hs2⟩ | ⟨q, _⟩)
    · exact ⟨by rw [whyNot_15 hw hk], hs2.dos, F, L, S, Lo, hs2.lx _ _ _ _ _ _ hx, hr2, hrel, hin, by omega, ⟨by omega, by omega⟩, ⟨by omega, by omega⟩, hb.trans hb2⟩
    · exact absurd q hk
theorem two_spoil (B A R n : Nat) (W : World) (k : Nat) (hk80 : k ≤ 80) (w : World) (h : St B A R n W k w) (f t K at0 : Int) (hat : -9223372036854775808 ≤ at0 ∧ at0 ≤ 9223372036854775807) (by0 : UInt8) :
    Calls Try.prog 14 #[.pointer (some ⟨A, 0, none⟩), .int .i64 f, .int .i64 t, .int .i64 K, .int .i64 at0, .int .u8 (by0.toNat : Int)] w (TwoN B A R n W k w 24 #[.pointer (some ⟨R, 0, none⟩), .int .i64 f, .int .i64 t, .int .i64 K, .int .i64 at0, .int .u8 (by0.toNat : Int)]) := by
  obtain ⟨F, L, S, Lo, hx, hr, hrel, hin, hL, hS, hLo, hb⟩ := h
  have hd := fun (w1 : World) (h1 : Rl w1 B R n L S Lo) => refSpoil_is B R n L S Lo f t K at0 by0 w1 h1 (by omega) hat
  by_cases hk : InN n (f, t)
  · by_cases hK : 0 ≤ K ∧ K < (F (f, t)).length
    · obtain ⟨i, rfl⟩ := Int.eq_ofNat_of_zero_le hK.1
      refine (spoil_is B A n F S Lo w hx f t hk i (by omega) at0 hat by0).mono ?_
      rintro e w1 ⟨rfl, hx1, hb1⟩
      have hr1 := hr.stay hb1.stay
      refine ⟨0, rfl, hb1.stay, (hd w1 hr1).mono ?_⟩
      rintro e w2 (⟨r, hw, _⟩ | ⟨_, x, j, _, hxx, hat2, rfl, hr2, hb2, hs2⟩)
      · have := (whyNot_10 hw hk).2
        rw [← hrel.len] at this; omega
      · rw [Int.toNat_natCast] at hat2 hxx
        have hg := hrel.get (f, t) i x hxx (by omega)
        unfold nm pm at hg
        simp only [Prod.mk.injEq] at hg
        exact ⟨rfl, hs2.dos, _, _, _, _, hs2.lx _ _ _ _ _ _ hx1, hr2, hrel.set (f, t) i j hat2 _ _ rfl (by unfold nm pm; simp only [hg.1]), in_set hin hk rfl, by simp; omega, ⟨by omega, by omega⟩, ⟨by omega, by omega⟩, hb.trans (hb1.bel.trans hb2)⟩
    · refine (spoil_err _ f t K 10 at0 _ w (noFind_out B A n F S Lo w hx f t K hk (by omega))).mono ?_
      rintro e w1 ⟨rfl, rfl⟩
      refine ⟨10, rfl, Stay.refl _, (hd w hr).mono ?_⟩
      rintro e w2 (⟨r, hw, rfl, hr2, hb2, hs2⟩ | ⟨_, x, j, h0, hxx, _⟩)
      · exact ⟨by rw [(whyNot_10 hw hk).1], hs2.dos, F, L, S, Lo, hs2.lx _ _ _ _ _ _ hx, hr2, hrel, hin, by omega, ⟨by omega, by omega⟩, ⟨by omega, by omega⟩, hb.trans hb2⟩
      · have := (List.getElem?_eq_some_iff.1 hxx).1
        rw [← hrel.len] at this; omega
  · refine (spoil_err _ f t K 15 at0 _ w (noFind_way B A n F S Lo w hx f t K hk)).mono ?_
    rintro e w1 ⟨rfl, rfl⟩
    refine ⟨15, rfl, Stay.refl _, (hd w hr).mono ?_⟩
    rintro e w2 (⟨r, hw, rfl, hr2, hb2, hs2⟩ | ⟨q, _⟩)
    · exact ⟨by rw [whyNot_15 hw hk], hs2.dos, F, L, S, Lo, hs2.lx _ _ _ _ _ _ hx, hr2, hrel, hin, by omega, ⟨by omega, by omega⟩, ⟨by omega, by omega⟩, hb.trans hb2⟩
    · exact absurd q hk
end Go.Proofs.Ytfdiclamjgldnaa
