/- A set of any bytes. -/
import Derived.Test.YtmblkccfgncngaaDoorBitsCoder
import Derived.Test.YtmblkccfgncngaaDoorRefAny2
import Derived.Test.YtmblkccfgncngaaDoorBitsBlend
namespace Go.Proofs.YtmblkccfgncngaaDoor
open Go Go.RowKit
set_option linter.unusedVariables false

namespace Cod
def AllIn (top : Int) (l : List Int) : Prop := ∀ x ∈ l, 0 ≤ x ∧ x ≤ top
theorem riseS_in (top : Int) (n : Nat) : ∀ (last : Int) (acc : List Int) (s : S), -1 ≤ last → AllIn top acc → AllIn top ((riseS top n last acc s).1.getD []) := by
  induction n with
  | zero => intro last acc s _ h; exact h
  | succ n ih =>
    intro last acc s hl h
    simp only [riseS]
    split
    · rename_i h0
      have := numS_le h0
      refine ih _ _ _ (by omega) fun x hx => ?_
      rcases List.mem_append.1 hx with hx | hx
      · exact h x hx
      · rw [List.mem_singleton] at hx; omega
    · intro x hx; simp at hx
theorem riseS_len (top : Int) (n : Nat) : ∀ (last : Int) (acc : List Int) (s : S), ((riseS top n last acc s).1.getD []).length ≤ acc.length + n := by
  induction n with
  | zero => intro last acc s; exact Nat.le_refl _
  | succ n ih =>
    intro last acc s
    simp only [riseS]
    split
    · have := ih (last + 1 + (numS (top - 1 - last) s).1) (acc ++ [last + 1 + ((numS (top - 1 - last) s).1 : Int)]) (numS (top - 1 - last) s).2
      simp only [List.length_append, List.length_cons, List.length_nil] at this
      omega
    · simp
theorem riseS_stl (top : Int) (n : Nat) : ∀ (last : Int) (acc : List Int) (s : S), (riseS top n last acc s).2.1.length ≤ s.1.length := by
  induction n with
  | zero => intro last acc s; exact Nat.le_refl _
  | succ n ih =>
    intro last acc s
    simp only [riseS]
    split
    · exact Nat.le_trans (ih _ _ _) (numS_len _ _)
    · exact numS_len _ _
/-- what a set of any bytes is: its size, the numbers, and what is left -/
def setN (s : S) : Nat := (numS 65536 s).1
def setR (s : S) : Option (List Int) × S := riseAll (setN s) ((setN s : Int) - 1) (numS 65536 s).2
def setS (s : S) : S := (setR s).2
def setL (s : S) : List Int := (setR s).1.getD []
theorem setN_le (s : S) : setN s ≤ 65536 := by
  have := numS_small (many := 65536) (s := s) (by omega)
  unfold setN; omega
theorem setL_in (s : S) : AllIn ((setN s : Int) - 1) (setL s) := riseS_in _ _ _ _ _ (by omega) (fun x hx => by simp at hx)
theorem setL_len (s : S) : (setL s).length ≤ 65536 := by
  have := riseS_len ((setN s : Int) - 1) (numS (setN s : Int) (numS 65536 s).2).1 (-1) [] (numS (setN s : Int) (numS 65536 s).2).2
  have h2 := numS_small (many := (setN s : Int)) (s := (numS 65536 s).2) (by omega)
  have h3 := setN_le s
  have e : setL s = ((riseS ((setN s : Int) - 1) (numS (setN s : Int) (numS 65536 s).2).1 (-1) [] (numS (setN s : Int) (numS 65536 s).2).2).1.getD []) := rfl
  rw [e]
  simp only [List.length_nil] at this
  omega
end Cod
/-- the first numbers of a list, as a set -/
def firstsI (l : List Int) (k : Nat) : Nat → Bool := fun i => decide ((i : Int) ∈ l.take k)
theorem firstsI_step (l : List Int) (k x : Nat) (h : k < l.length) (hx : l.getD k 0 = (x : Int)) : firstsI l (k + 1) = Bit.turn (firstsI l k) x true := by
  have hx2 : l[k] = (x : Int) := by rw [← hx, List.getD_eq_getElem?_getD, List.getElem?_eq_getElem h]; rfl
  funext i
  unfold firstsI Bit.turn
  rw [List.take_succ_eq_append_getElem h, hx2]
  show decide ((i : Int) ∈ l.take k ++ [(x : Int)]) = if i = x then true else decide ((i : Int) ∈ l.take k)
  by_cases hi : i = x
  · rw [if_pos hi]
    exact decide_eq_true (List.mem_append.2 (.inr (List.mem_singleton.2 (by rw [hi]))))
  · rw [if_neg hi]
    have : (i : Int) ∈ l.take k ++ [(x : Int)] ↔ (i : Int) ∈ l.take k := ⟨fun q => (List.mem_append.1 q).elim id (fun q => absurd (Int.ofNat_inj.1 (List.mem_singleton.1 q)) hi), fun q => List.mem_append.2 (.inl q)⟩
    exact decide_eq_decide.2 this
theorem inList {top : Int} {l : List Int} (h : Cod.AllIn top l) (k : Nat) (hk : k < l.length) : ∃ x : Nat, l.getD k 0 = (x : Int) ∧ (x : Int) ≤ top := by
  have hm : l.getD k 0 ∈ l := by
    rw [List.getD_eq_getElem?_getD, List.getElem?_eq_getElem hk]; exact List.getElem_mem _
  obtain ⟨h1, h2⟩ := h _ hm
  exact ⟨(l.getD k 0).toNat, by omega, by omega⟩
/-- size and numbers, if there is no error -/
def Cod.outN (s : Cod.S) : Nat := if (Cod.setS s).2 = 0 then Cod.setN s else 0
def Cod.outF (s : Cod.S) : Nat → Bool := if (Cod.setS s).2 = 0 then firstsI (Cod.setL s) (Cod.setL s).length else fun _ => false
def ReadOut (w : World) (B n : Nat) (f : Nat → Bool) (s : Cod.S) (e : Ending) (w' : World) : Prop :=
  ∃ a G, e = .returned (.pointer (some ⟨a, 0, none⟩)) ∧ w.heap.size ≤ a ∧ w.heap.size ≤ G ∧ St w' a G n f ∧ RdA w' B s ∧ w.grownBy w' (some B)
def ReadAny (w : World) (B : Nat) (s : Cod.S) : Ending → World → Prop := ReadOut w B (Cod.outN s) (Cod.outF s) (Cod.setS s)
set_option maxHeartbeats 4000000 in
set_option maxRecDepth 100000 in
theorem readSet_all (B : Nat) (s : Cod.S) (w : World) (h : RdA w B s) (hl : s.1.length ≤ 140737488355328) :
    Calls Tryd.prog 34 #[.pointer (some ⟨B, 0, none⟩)] w (ReadAny w B s) := by
  have hBw := h.lt
  have N1 := Lib.hid (num_all B 65536 s w h hl (by omega))
  have hn := Cod.setN_le s
  have hln := Cod.numS_len 65536 s
  have R1 : Hid (∀ w', RdA w' B (Cod.numS 65536 s).2 → Calls Tryd.prog 57 #[.pointer (some ⟨B, 0, none⟩), .int .i64 (Cod.setN s), .int .i64 ((Cod.setN s : Int) - 1)] w' (GotRise w' B (Cod.setR s))) := fun w' h' =>
    rising_all B (Cod.setN s) ((Cod.setN s : Int) - 1) (Cod.numS 65536 s).2 w' h' (by omega) ⟨by omega, by omega⟩ ⟨by omega, by omega⟩
  have N1 : Hid (Calls Tryd.prog 56 #[.pointer (some ⟨B, 0, none⟩), .int .i64 65536] w (GotA w B (.int .i64 (Cod.setN s)) (Cod.numS 65536 s).2)) := N1
  have LI := Lib.hid (Cod.setL_in s)
  have LL := Cod.setL_len s
  have ON : Cod.outN s = if (Cod.setS s).2 = 0 then Cod.setN s else 0 := rfl
  have OF : Cod.outF s = if (Cod.setS s).2 = 0 then firstsI (Cod.setL s) (Cod.setL s).length else fun _ => false := rfl
  have R1 : Hid (∀ w', RdA w' B (Cod.numS 65536 s).2 → Calls Tryd.prog 57 #[.pointer (some ⟨B, 0, none⟩), .int .i64 (Cod.setN s), .int .i64 ((Cod.setN s : Int) - 1)] w' (fun e w2 => ∃ v, e = .returned v ∧ w2.ownsRow w'.heap.size 3 1 v (Cod.setL s).length (ints (Cod.setL s)) ∧ RdA w2 B (Cod.setS s) ∧ w'.grownBy w2 (some B))) := R1
  unfold ReadAny
  rw [ON, OF]
  clear ON OF h hl hln
  generalize Cod.setN s = n at N1 hn R1 LI ⊢
  generalize Cod.setL s = l at R1 LI LL ⊢
  generalize Cod.setS s = s2 at R1 ⊢
  generalize (Cod.numS 65536 s).2 = s1 at N1 R1
  by_cases he : s2.2 = 0
  · rw [if_pos he, if_pos he]
    have HE := Lib.hid he
    clear he
    go_enter Tryd.func34, Tryd.ntmps34
    go_wp2_with fail
    refine N1.out.mono ?_
    rintro e w1 ⟨rfl, h1, g1⟩
    have G1 := Lib.hid g1
    have R2 := Lib.hid (R1.out w1 h1)
    clear h1 g1 N1 R1
    go_wp2_with fail
    refine R2.out.mono ?_
    rintro e w2 ⟨v2, rfl, ho2, h2, g2⟩
    obtain ⟨hk2, q, d, rfl, hd, hl2, _⟩ := own_liesI ho2
    clear hk2
    have G2 := Lib.hid (grown_trans G1.out g2)
    have RD := Lib.hid h2
    have L2 := Lib.hid hl2
    have ER := Lib.hid (err_any B s2 w2 h2)
    rw [HE.out] at ER
    have N := Lib.hid (newSet n n w2 (by omega) (by omega) (by omega))
    clear ho2 g2 h2 hl2 R2 G1
    go_wp2_with fail
    refine ER.out.mono ?_
    rintro e w' ⟨rfl, rfl⟩
    clear ER
    go_wp2_with fail
    refine N.out.mono ?_
    rintro e w3 ⟨a, G, rfl, ha, hG, hst, hb3⟩
    have S3 := Lib.hid hst; have B3 := Lib.hid hb3
    clear N hst hb3
    go_wp2
    go_loopw [23] (fun i wr => ∃ k : Nat, k ≤ l.length ∧ i = .int .i64 k ∧ St wr a G n (firstsI l k) ∧ Below w2.heap.size w2 wr) (fun i _ => l.length - (intOf i).toNat)
    case atStart => exact ⟨0, Nat.zero_le _, rfl, by (have e : firstsI l 0 = fun _ => false := (by funext i; simp [firstsI])); rw [e]; exact S3.out, B3.out⟩
    case round =>
      obtain ⟨k, hk, rfl, hst, hb⟩ := hrel
      have S := Lib.hid hst; have BB := Lib.hid hb
      clear hst hb
      by_cases hlt : k < l.length
      · obtain ⟨b1, o1, rfl, _, q1⟩ := (L2.out.below BB.out).at (by omega)
        have r1 := q1 k hlt
        obtain ⟨x, hx1, hx2⟩ := inList LI.out k hlt
        have FS := Lib.hid (firstsI_step l k x hlt hx1)
        rw [hx1] at r1
        have PU := Lib.hid (put_in a G n _ x wr S.out (by omega))
        have hlt' : (k : Int) < l.length := by omega
        clear q1 hx1 hx2
        go_wp2_with fail
        refine PU.out.mono ?_
        intro e w4 ht4
        have B4 := Lib.hid (BB.out.trans (turned_below ht4 hG BB.out.size))
        obtain ⟨rfl, hst4, _⟩ := ht4
        have S4 := Lib.hid hst4
        clear hst4 PU
        go_wp2
        go_roundw
        case rel => exact ⟨k + 1, by omega, by go_num, by rw [FS.out]; exact S4.out, B4.out⟩
        case measure => simp [intOf]; omega
      · obtain rfl : k = l.length := by omega
        have hlt' : ¬ ((l.length : Nat) : Int) < l.length := by omega
        go_wp2
        go_ret
        exact ⟨a, G, rfl, Nat.le_trans G2.out.size ha, Nat.le_trans G2.out.size hG, S.out, RD.out.below BB.out, grown_below G2.out (BB.out.mono G2.out.size)⟩
  · rw [if_neg he, if_neg he]
    have he' : ¬ (s2.2 : Int) = 0 := by omega
    clear he
    go_enter Tryd.func34, Tryd.ntmps34
    go_wp2_with fail
    refine N1.out.mono ?_
    rintro e w1 ⟨rfl, h1, g1⟩
    have G1 := Lib.hid g1
    have R2 := Lib.hid (R1.out w1 h1)
    clear h1 g1 N1 R1
    go_wp2_with fail
    refine R2.out.mono ?_
    rintro e w2 ⟨v2, rfl, ho2, h2, g2⟩
    have G2 := Lib.hid (grown_trans G1.out g2)
    have RD := Lib.hid h2
    have ER := Lib.hid (err_any B s2 w2 h2)
    have N := Lib.hid (newSet 0 0 w2 (by omega) (by omega) (by omega))
    generalize (s2.2 : Int) = ee at ER he'
    clear ho2 g2 h2 R2 G1
    go_wp2_with fail
    refine ER.out.mono ?_
    rintro e w' ⟨rfl, rfl⟩
    clear ER
    go_wp2_with fail
    refine N.out.mono ?_
    rintro e w3 ⟨a, G, rfl, ha, hG, hst, hb3⟩
    have S3 := Lib.hid hst; have B3 := Lib.hid hb3
    clear N hst hb3
    go_wp2
    go_ret
    exact ⟨a, G, rfl, Nat.le_trans G2.out.size ha, Nat.le_trans G2.out.size hG, S3.out, RD.out.below B3.out, grown_below G2.out (B3.out.mono G2.out.size)⟩
def RReadOut (w : World) (A lo n : Nat) (f : Nat → Bool) (s : Cod.S) (e : Ending) (w' : World) : Prop :=
  ∃ a G, e = .returned (.pointer (some ⟨a, 0, none⟩)) ∧ w.heap.size ≤ a ∧ w.heap.size ≤ G ∧ RSt w' a G n f ∧ RRd w' A lo s ∧ w.grownBy w' (some A)
set_option maxHeartbeats 4000000 in
set_option maxRecDepth 100000 in
theorem refRead_all (A lo : Nat) (s : Cod.S) (w : World) (h : RRd w A lo s) (hl : s.1.length ≤ 140737488355328) :
    Calls Tryd.prog 35 #[.pointer (some ⟨A, 0, none⟩)] w (RReadOut w A lo (Cod.outN s) (Cod.outF s) (Cod.setS s)) := by
  have hBw := h.lt
  have N1 := Lib.hid (refNum_all A lo 65536 s w h hl (by omega))
  have hn := Cod.setN_le s
  have hln := Cod.numS_len 65536 s
  have R1 : Hid (∀ w', RRd w' A lo (Cod.numS 65536 s).2 → Calls Tryd.prog 59 #[.pointer (some ⟨A, 0, none⟩), .int .i64 (Cod.setN s), .int .i64 ((Cod.setN s : Int) - 1)] w' (fun e w2 => ∃ v, e = .returned v ∧ w2.ownsRow w'.heap.size 3 1 v (Cod.setL s).length (ints (Cod.setL s)) ∧ RRd w2 A lo (Cod.setS s) ∧ w'.grownBy w2 (some A))) := fun w' h' =>
    refRising_all A lo (Cod.setN s) ((Cod.setN s : Int) - 1) (Cod.numS 65536 s).2 w' h' (by omega) ⟨by omega, by omega⟩ ⟨by omega, by omega⟩
  have N1 : Hid (Calls Tryd.prog 58 #[.pointer (some ⟨A, 0, none⟩), .int .i64 65536] w (GotR w A lo (.int .i64 (Cod.setN s)) (Cod.numS 65536 s).2)) := N1
  have LI := Lib.hid (Cod.setL_in s)
  have LL := Cod.setL_len s
  have ON : Cod.outN s = if (Cod.setS s).2 = 0 then Cod.setN s else 0 := rfl
  have OF : Cod.outF s = if (Cod.setS s).2 = 0 then firstsI (Cod.setL s) (Cod.setL s).length else fun _ => false := rfl
  rw [ON, OF]
  clear ON OF h hl hln
  generalize Cod.setN s = n at N1 hn R1 LI ⊢
  generalize Cod.setL s = l at R1 LI LL ⊢
  generalize Cod.setS s = s2 at R1 ⊢
  generalize (Cod.numS 65536 s).2 = s1 at N1 R1
  by_cases he : s2.2 = 0
  · rw [if_pos he, if_pos he]
    have HE := Lib.hid he
    clear he
    go_enter Tryd.func35, Tryd.ntmps35
    go_wp2_with fail
    refine N1.out.mono ?_
    rintro e w1 ⟨rfl, h1, g1⟩
    have G1 := Lib.hid g1; have H1 := Lib.hid h1
    have NR := Lib.hid (newR n n w1 (by omega) (by omega) (by omega))
    clear h1 g1 N1
    go_wp2_with fail
    refine NR.out.mono ?_
    rintro e w2 ⟨a, G, rfl, ha, hG, hst, hb2⟩
    have B2 := Lib.hid hb2; have S2 := Lib.hid hst
    have hA1 : A < w1.heap.size := H1.out.lt
    have RI := R1.out w2.drew ((H1.out.below hb2).below (Below.refl _ _).drew)
    have cd : w2.drew.cell? ⟨a, 0, none⟩ = some (.slice (some ⟨G, 0, none⟩) n n) := hst.c0
    have hsub : IntKind.i64.wrap ((n : Int) - 1) = (n : Int) - 1 := IntWalk.i64_in _ ⟨by omega, by omega⟩
    clear hst hb2 NR
    go_wp2
    refine rg_start (n := 14) (S := fun w' => w'.cell? ⟨a, 0, none⟩ = some (.slice (some ⟨G, 0, none⟩) n n)) (by kernel_rfl) rfl cd ?_
    refine rgd_pure 0 (some 10) rfl rfl (.pointer (some ⟨A, 0, none⟩)) (by kernel_rfl) (by kernel_rfl) (by kernel_rfl) (fun _ _ _ _ h => h) (by kernel_rfl) (fun _ => by kernel_rfl) cd ?_
    refine rgd_pure 1 (some 11) rfl rfl (.pointer (some ⟨a, 0, none⟩)) (by kernel_rfl) (by kernel_rfl) (by kernel_rfl) (fun _ _ _ _ h => h) (by kernel_rfl) (fun _ => by kernel_rfl) cd ?_
    refine rgd_pure 2 (some 12) rfl rfl (.pointer (some ⟨a, 0, none⟩)) (by kernel_rfl) (by kernel_rfl) (by kernel_rfl) (fun _ _ _ _ h => h) (by kernel_rfl) (fun _ => by kernel_rfl) cd ?_
    refine rgd_pure 3 (some 13) rfl rfl (.pointer (some ⟨a, 0, none⟩)) (by kernel_rfl) (by kernel_rfl) (by kernel_rfl) (fun _ _ _ _ h => h) (by kernel_rfl) (fun _ => by kernel_rfl) cd ?_
    refine rgd_load 4 (some 14) rfl rfl (by kernel_rfl) (by kernel_rfl) (by kernel_rfl) (fun _ _ _ _ h => h) (by kernel_rfl) _ _ rfl Tryd.underlying64 rfl ⟨a, 0, none⟩ (.slice (some ⟨G, 0, none⟩) n n) (by kernel_rfl) (fun w h => h) cd ?_
    refine rgd_pure 5 (some 15) rfl rfl (.int .i64 (n : Int)) (by kernel_rfl) (by kernel_rfl) (by kernel_rfl) (fun _ _ _ _ h => h) (by kernel_rfl) (fun _ => by kernel_rfl) cd ?_
    refine rgd_pure 6 (some 16) rfl rfl (.pointer (some ⟨a, 0, none⟩)) (by kernel_rfl) (by kernel_rfl) (by kernel_rfl) (fun _ _ _ _ h => h) (by kernel_rfl) (fun _ => by kernel_rfl) cd ?_
    refine rgd_pure 7 (some 17) rfl rfl (.pointer (some ⟨a, 0, none⟩)) (by kernel_rfl) (by kernel_rfl) (by kernel_rfl) (fun _ _ _ _ h => h) (by kernel_rfl) (fun _ => by kernel_rfl) cd ?_
    refine rgd_pure 8 (some 18) rfl rfl (.pointer (some ⟨a, 0, none⟩)) (by kernel_rfl) (by kernel_rfl) (by kernel_rfl) (fun _ _ _ _ h => h) (by kernel_rfl) (fun _ => by kernel_rfl) cd ?_
    refine rgd_load 9 (some 19) rfl rfl (by kernel_rfl) (by kernel_rfl) (by kernel_rfl) (fun _ _ _ _ h => h) (by kernel_rfl) _ _ rfl Tryd.underlying64 rfl ⟨a, 0, none⟩ (.slice (some ⟨G, 0, none⟩) n n) (by kernel_rfl) (fun w h => h) cd ?_
    refine rgd_pure 10 (some 20) rfl rfl (.int .i64 (n : Int)) (by kernel_rfl) (by kernel_rfl) (by kernel_rfl) (fun _ _ _ _ h => h) (by kernel_rfl) (fun _ => by kernel_rfl) cd ?_
    refine rgd_pure 11 (some 21) rfl rfl (.int .i64 ((n : Int) - 1)) (by kernel_rfl) (by kernel_rfl) (by kernel_rfl) (fun _ _ _ _ h => h) (by kernel_rfl) (exec_sub _ _ _ _ rfl (n : Int) 1 ((n : Int) - 1) hsub (by kernel_rfl) (by kernel_rfl)) cd ?_
    refine rg_call 12 (by kernel_rfl) rfl (by kernel_rfl) 59 #[.pointer (some ⟨A, 0, none⟩), .int .i64 (n : Int), .int .i64 ((n : Int) - 1)] (by kernel_rfl) RI ?_
    rintro e w3 ⟨v3, rfl, ho3, h3, g3⟩
    have S3 : Hid (RSt w3 a G n (fun _ => false)) := by
      refine ⟨g3.cell S2.out.c0 (fun e => ?_), (g3.block G S2.out.lt (fun e => ?_)).trans S2.out.ins, S2.out.le⟩
      · have e2 : _ = A := Option.some.inj e
        try simp only at e2
        omega
      · have e2 : _ = A := Option.some.inj e
        try simp only at e2
        omega
    have c3 := S3.out.c0
    refine ⟨_, rfl, c3, ?_⟩
    refine rgd_pure 13 (some 4) rfl rfl v3 (by kernel_rfl) (by kernel_rfl) (by kernel_rfl) (fun _ _ _ _ h => h) (by kernel_rfl) (fun _ => by kernel_rfl) c3 ?_
    refine wpAnyH_done (by kernel_rfl) ?_ _
    obtain ⟨hk3, q, d, rfl, hd, hl3, _⟩ := own_liesI ho3
    clear hk3
    have G3 : Hid (w.grownBy w3 (some A)) := grown_trans (grown_trans G1.out ⟨B2.out.os, B2.out.tape, B2.out.output, B2.out.size, fun i hi _ => B2.out.block i hi⟩) (⟨g3.os, g3.tape, g3.output, g3.size, g3.block⟩ : w2.grownBy w3 (some A))
    have H3 := Lib.hid h3; have L3 := Lib.hid hl3
    have ce := h3.err
    have hz1 := G1.out.size
    clear ho3 h3 g3 hl3 RI cd hsub c3 S2 B2 G1 H1
    rw [HE.out] at ce
    go_wp2
    go_loopw [31] (fun i wr => ∃ k : Nat, k ≤ l.length ∧ i = .int .i64 k ∧ RSt wr a G n (firstsI l k) ∧ RRd wr A lo s2 ∧ LiesI wr q l ∧ w.grownBy wr (some A)) (fun i _ => l.length - (intOf i).toNat)
    case atStart => exact ⟨0, Nat.zero_le _, rfl, by (have e : firstsI l 0 = fun _ => false := (by funext i; simp [firstsI])); rw [e]; exact S3.out, H3.out, L3.out, G3.out⟩
    case round =>
      obtain ⟨k, hk, rfl, hst, hrr, hli, hgr⟩ := hrel
      have S := Lib.hid hst; have RR := Lib.hid hrr; have LL2 := Lib.hid hli; have GR := Lib.hid hgr
      clear hst hrr hli hgr
      by_cases hlt : k < l.length
      · obtain ⟨b1, o1, rfl, _, q1⟩ := LL2.out.at (by omega)
        have r1 := q1 k hlt
        obtain ⟨x, hx1, hx2⟩ := inList LI.out k hlt
        have FS := Lib.hid (firstsI_step l k x hlt hx1)
        rw [hx1] at r1
        have hxn : x < n := by omega
        have hg := grown_setCell wr G x (.bool true)
        have S4 : Hid (RSt (wr.setCell ⟨G, x, none⟩ (.bool true)) a G n (firstsI l (k + 1))) := by
          show RSt _ a G n (firstsI l (k + 1)); rw [FS.out]; exact S.out.turn x true hxn
        have R4 : Hid (RRd (wr.setCell ⟨G, x, none⟩ (.bool true)) A lo s2) := RR.out.kept (hg.block A RR.out.lt (fun e => by have e2 : A = G := Option.some.inj e; omega)) (fun b' _ h2 => hg.block b' (by have := RR.out.lt; omega) (fun e => by have e2 : b' = G := Option.some.inj e; omega))
        have L4 : Hid (LiesI (wr.setCell ⟨G, x, none⟩ (.bool true)) (some ⟨b1, o1, none⟩) l) := fun _ => ⟨b1, o1, rfl, fun i hi => hg.cell (q1 i hi) (fun e => S.out.apart (q1 i hi) (fun _ h => by cases h) (Option.some.inj e))⟩
        have G4 : Hid (w.grownBy (wr.setCell ⟨G, x, none⟩ (.bool true)) (some A)) := ⟨hg.os.trans GR.out.os, hg.tape.trans GR.out.tape, hg.output.trans GR.out.output, Nat.le_trans GR.out.size hg.size, fun i hi hne => (hg.block i (Nat.lt_of_lt_of_le hi GR.out.size) (fun e => by have e2 : i = G := Option.some.inj e; omega)).trans (GR.out.block i hi hne)⟩
        have hlt' : (k : Int) < l.length := by omega
        have hxn' : (x : Int) < n := by omega
        have c0 := S.out.c0
        have cx := S.out.cell x hxn
        have fx := S.out.free x
        clear q1 hx1 hx2 hg FS
        generalize firstsI l k x = ov at cx
        go_wp2
        go_roundw
        case rel => exact ⟨k + 1, by omega, by go_num, S4.out, R4.out, L4.out, G4.out⟩
        case measure => simp [intOf]; omega
      · obtain rfl : k = l.length := by omega
        have hlt' : ¬ ((l.length : Nat) : Int) < l.length := by omega
        go_wp2
        go_ret
        exact ⟨a, G, rfl, Nat.le_trans hz1 ha, Nat.le_trans hz1 hG, S.out, RR.out, GR.out⟩
  · rw [if_neg he, if_neg he]
    have he' : ¬ (s2.2 : Int) = 0 := by omega
    clear he
    go_enter Tryd.func35, Tryd.ntmps35
    go_wp2_with fail
    refine N1.out.mono ?_
    rintro e w1 ⟨rfl, h1, g1⟩
    have G1 := Lib.hid g1; have H1 := Lib.hid h1
    have NR := Lib.hid (newR n n w1 (by omega) (by omega) (by omega))
    clear h1 g1 N1
    go_wp2_with fail
    refine NR.out.mono ?_
    rintro e w2 ⟨a, G, rfl, ha, hG, hst, hb2⟩
    have B2 := Lib.hid hb2; have S2 := Lib.hid hst
    have hA1 : A < w1.heap.size := H1.out.lt
    have RI := R1.out w2.drew ((H1.out.below hb2).below (Below.refl _ _).drew)
    have cd : w2.drew.cell? ⟨a, 0, none⟩ = some (.slice (some ⟨G, 0, none⟩) n n) := hst.c0
    have hsub : IntKind.i64.wrap ((n : Int) - 1) = (n : Int) - 1 := IntWalk.i64_in _ ⟨by omega, by omega⟩
    clear hst hb2 NR
    go_wp2
    refine rg_start (n := 14) (S := fun w' => w'.cell? ⟨a, 0, none⟩ = some (.slice (some ⟨G, 0, none⟩) n n)) (by kernel_rfl) rfl cd ?_
    refine rgd_pure 0 (some 10) rfl rfl (.pointer (some ⟨A, 0, none⟩)) (by kernel_rfl) (by kernel_rfl) (by kernel_rfl) (fun _ _ _ _ h => h) (by kernel_rfl) (fun _ => by kernel_rfl) cd ?_
    refine rgd_pure 1 (some 11) rfl rfl (.pointer (some ⟨a, 0, none⟩)) (by kernel_rfl) (by kernel_rfl) (by kernel_rfl) (fun _ _ _ _ h => h) (by kernel_rfl) (fun _ => by kernel_rfl) cd ?_
    refine rgd_pure 2 (some 12) rfl rfl (.pointer (some ⟨a, 0, none⟩)) (by kernel_rfl) (by kernel_rfl) (by kernel_rfl) (fun _ _ _ _ h => h) (by kernel_rfl) (fun _ => by kernel_rfl) cd ?_
    refine rgd_pure 3 (some 13) rfl rfl (.pointer (some ⟨a, 0, none⟩)) (by kernel_rfl) (by kernel_rfl) (by kernel_rfl) (fun _ _ _ _ h => h) (by kernel_rfl) (fun _ => by kernel_rfl) cd ?_
    refine rgd_load 4 (some 14) rfl rfl (by kernel_rfl) (by kernel_rfl) (by kernel_rfl) (fun _ _ _ _ h => h) (by kernel_rfl) _ _ rfl Tryd.underlying64 rfl ⟨a, 0, none⟩ (.slice (some ⟨G, 0, none⟩) n n) (by kernel_rfl) (fun w h => h) cd ?_
    refine rgd_pure 5 (some 15) rfl rfl (.int .i64 (n : Int)) (by kernel_rfl) (by kernel_rfl) (by kernel_rfl) (fun _ _ _ _ h => h) (by kernel_rfl) (fun _ => by kernel_rfl) cd ?_
    refine rgd_pure 6 (some 16) rfl rfl (.pointer (some ⟨a, 0, none⟩)) (by kernel_rfl) (by kernel_rfl) (by kernel_rfl) (fun _ _ _ _ h => h) (by kernel_rfl) (fun _ => by kernel_rfl) cd ?_
    refine rgd_pure 7 (some 17) rfl rfl (.pointer (some ⟨a, 0, none⟩)) (by kernel_rfl) (by kernel_rfl) (by kernel_rfl) (fun _ _ _ _ h => h) (by kernel_rfl) (fun _ => by kernel_rfl) cd ?_
    refine rgd_pure 8 (some 18) rfl rfl (.pointer (some ⟨a, 0, none⟩)) (by kernel_rfl) (by kernel_rfl) (by kernel_rfl) (fun _ _ _ _ h => h) (by kernel_rfl) (fun _ => by kernel_rfl) cd ?_
    refine rgd_load 9 (some 19) rfl rfl (by kernel_rfl) (by kernel_rfl) (by kernel_rfl) (fun _ _ _ _ h => h) (by kernel_rfl) _ _ rfl Tryd.underlying64 rfl ⟨a, 0, none⟩ (.slice (some ⟨G, 0, none⟩) n n) (by kernel_rfl) (fun w h => h) cd ?_
    refine rgd_pure 10 (some 20) rfl rfl (.int .i64 (n : Int)) (by kernel_rfl) (by kernel_rfl) (by kernel_rfl) (fun _ _ _ _ h => h) (by kernel_rfl) (fun _ => by kernel_rfl) cd ?_
    refine rgd_pure 11 (some 21) rfl rfl (.int .i64 ((n : Int) - 1)) (by kernel_rfl) (by kernel_rfl) (by kernel_rfl) (fun _ _ _ _ h => h) (by kernel_rfl) (exec_sub _ _ _ _ rfl (n : Int) 1 ((n : Int) - 1) hsub (by kernel_rfl) (by kernel_rfl)) cd ?_
    refine rg_call 12 (by kernel_rfl) rfl (by kernel_rfl) 59 #[.pointer (some ⟨A, 0, none⟩), .int .i64 (n : Int), .int .i64 ((n : Int) - 1)] (by kernel_rfl) RI ?_
    rintro e w3 ⟨v3, rfl, ho3, h3, g3⟩
    have S3 : Hid (RSt w3 a G n (fun _ => false)) := by
      refine ⟨g3.cell S2.out.c0 (fun e => ?_), (g3.block G S2.out.lt (fun e => ?_)).trans S2.out.ins, S2.out.le⟩
      · have e2 : _ = A := Option.some.inj e
        try simp only at e2
        omega
      · have e2 : _ = A := Option.some.inj e
        try simp only at e2
        omega
    have c3 := S3.out.c0
    refine ⟨_, rfl, c3, ?_⟩
    refine rgd_pure 13 (some 4) rfl rfl v3 (by kernel_rfl) (by kernel_rfl) (by kernel_rfl) (fun _ _ _ _ h => h) (by kernel_rfl) (fun _ => by kernel_rfl) c3 ?_
    refine wpAnyH_done (by kernel_rfl) ?_ _
    obtain ⟨hk3, q, d, rfl, hd, hl3, _⟩ := own_liesI ho3
    clear hk3
    have G3 : Hid (w.grownBy w3 (some A)) := grown_trans (grown_trans G1.out ⟨B2.out.os, B2.out.tape, B2.out.output, B2.out.size, fun i hi _ => B2.out.block i hi⟩) (⟨g3.os, g3.tape, g3.output, g3.size, g3.block⟩ : w2.grownBy w3 (some A))
    have H3 := Lib.hid h3; have L3 := Lib.hid hl3
    have ce := h3.err
    have hz1 := G1.out.size
    clear ho3 h3 g3 hl3 RI cd hsub c3 S2 B2 G1 H1 hA1
    have N := Lib.hid (newR 0 0 w3 (by omega) (by omega) (by omega))
    generalize (s2.2 : Int) = ee at ce he'
    go_wp2_with fail
    refine N.out.mono ?_
    rintro e w4 ⟨a4, G4, rfl, ha4, hG4, hst4, hb4⟩
    have S4 := Lib.hid hst4; have B4 := Lib.hid hb4
    clear N hst4 hb4
    go_wp2
    go_ret
    exact ⟨a4, G4, rfl, Nat.le_trans G3.out.size ha4, Nat.le_trans G3.out.size hG4, S4.out, H3.out.below B4.out, grown_below G3.out (B4.out.mono G3.out.size)⟩
end Go.Proofs.YtmblkccfgncngaaDoor
