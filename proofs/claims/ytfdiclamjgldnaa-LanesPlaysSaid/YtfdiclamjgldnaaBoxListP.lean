/- What a box of *scholia/lanes.message holds, as a list. -/
import Derived.Test.YtfdiclamjgldnaaBoxIsP
import Derived.Test.YtfdiclamjgldnaaMemOne
import Derived.Outline
namespace Go.Proofs.Ytfdiclamjgldnaa
open Go Go.RowKit Go.Conc

theorem infoP : (Try.prog.info? 54).map (fun i => (i.zero, i.size, i.bytes)) = some (some (.pointer none), 1, 8) := by kernel_rfl
theorem isOneP : One Try.prog 80 54 (.pointer none) 8 := ⟨Try.underlying80, infoP, rfl, by decide, by decide⟩
/-- the variable that a closure appends to -/
structure GrowP (w : World) (B Bl : Nat) (vs : List (Option Addr)) : Prop where
  own : ∃ V, w.heap[Bl]? = some (.cells #[V] 80 (0, 0)) ∧ w.ownsRow B 54 1 V vs.length (vs.map encP)
  base : B ≤ Bl
theorem GrowP.kept {w w' : World} {B Bl C : Nat} {vs : List (Option Addr)} (h : GrowP w B Bl vs) (hg : w.grownBy w' (some C)) (hC : C < B) : GrowP w' B Bl vs := by
  obtain ⟨⟨V, hV, hown⟩, hb⟩ := h
  refine ⟨⟨V, ?_, hown.kept hg ?_⟩, hb⟩
  · rw [hg.block Bl (lt_of_block hV) (fun e => by have := Option.some.inj e; omega)]; exact hV
  · cases he : V.ownBlock with
    | none => exact .inl rfl
    | some k => exact .inr (fun e => by have h1 := (hown.lt k he).1; have := Option.some.inj e; omega)
def GrownP (w : World) (B Bl : Nat) (vs : List (Option Addr)) (e : Ending) (w' : World) : Prop := e = .returned (.bool true) ∧ GrowP w' B Bl vs ∧ Below B w w'

set_option maxHeartbeats 1000000 in
theorem listFP (g B Bl : Nat) (v : (Option Addr)) (vs : List (Option Addr)) (w : World) (hg : w.cell? ⟨g, 0, none⟩ = some (encP v)) (h : GrowP w B Bl vs) (hn : vs.length ≤ 100000) :
    Calls Try.prog 43 #[.pointer (some ⟨g, 0, none⟩), .pointer (some ⟨Bl, 0, none⟩)] w (GrownP w B Bl (vs ++ [v])) := by
  obtain ⟨⟨V, hV, hown⟩, hb⟩ := h
  have hlt := lt_of_block hV
  have hc := cell_of_one hV
  have hf := free_of_one hV
  have O := Lib.hid hown; have HV := Lib.hid hV
  have hgl := World.block_lt_of_cell? w _ hg
  unfold encP at hg
  clear hown hV
  go_enter Try.func43, Try.ntmps43
  go_wp2
  go_region_law (refine step_one isOneP rfl (.tmp 4) (.tmp 8) rfl B vs.length (vs.map encP) V (by simp [Act.eval, Act.put]) (own_laterV O.out (by first | exact ((Below.refl _ _).alloc (Nat.le_refl _) _).drew | exact (Below.refl _ _).drew.alloc (Nat.le_refl _) _)) ⟨w.heap.size, 0, none⟩ (.pointer v) rfl (by simp [Act.eval, Act.put]) (by simp) (by omega) (by simp; omega) ?_; intro v1 w1 hown1 hb1 hst1; obtain ⟨g1, cap1, rfl, hg1, hcap1⟩ := ownV_some hown1 (by omega); have hV1 := hst1 Bl #[V] 80 (0, 0) (heap_new HV.out (by first | exact ((Below.refl _ _).alloc (Nat.le_refl _) _).drew | exact (Below.refl _ _).drew.alloc (Nat.le_refl _) _)) (by decide); have hc1 := cell_of_one hV1; have hf1 := free_of_one hV1)
  all_goals
    have G : Hid (GrowP (w1.setCell ⟨Bl, 0, none⟩ (.slice (some ⟨g1, 0, none⟩) (vs.length + 1) cap1)) B Bl (vs ++ [v])) :=
      ⟨⟨_, one_setCell hV1, by rw [List.length_append, List.map_append]; exact own_setOther hown1 hV1 (by decide) _ _⟩, hb⟩
    have B1 : Hid (Below B w (w1.setCell ⟨Bl, 0, none⟩ (.slice (some ⟨g1, 0, none⟩) (vs.length + 1) cap1))) :=
      ((((Below.refl B w).alloc (by omega) _).drew).trans (by first | exact hb1 | exact hb1)).setCell hb _
    clear hown1 hb1 hst1 hV1 hc1 hf1
    go_wp2
    go_ret
    exact ⟨rfl, G.out, B1.out⟩

/-- what a walk round a box comes to -/
structure RoundP (a C cap B Bl : Nat) (gs : List Nat) (vs : List (Option Addr)) (w w' : World) : Prop where
  box : Bx w' a C cap gs
  vals : Vals encP w' gs vs
  grow : GrowP w' B Bl vs
  part : Part B (some C) w w'
def RoundToP (a C cap B Bl : Nat) (gs : List Nat) (vs : List (Option Addr)) (w : World) (e : Ending) (w' : World) : Prop := (∃ v, e = .returned v) ∧ RoundP a C cap B Bl gs vs w w'

set_option maxHeartbeats 2000000 in
theorem roundP (a C cap B Bl : Nat) (gs : List Nat) (vs : List (Option Addr)) (w : World) (h : Bx w a C cap gs) (hv : Vals encP w gs vs) (hG : GrowP w B Bl []) (hcap : cap ≤ 4096) (ha : a < B) (hC : C < B) (hgs : ∀ g ∈ gs, g < B) :
    Calls Try.prog 40 #[.pointer (some ⟨a, 0, none⟩), .func (.func 43) #[] #[.pointer (some ⟨Bl, 0, none⟩)]] w (RoundToP a C cap B Bl gs vs w) := by
  have LN := Lib.hid (lenP a C cap gs w h)
  have hle := h.le
  have hvl := hv.len
  have H := Lib.hid h; have HV := Lib.hid hv; have HG := Lib.hid hG; have HS := Lib.hid hgs; have VL := Lib.hid hvl
  have HB : Hid (B ≤ w.heap.size) := by
    obtain ⟨⟨V, hV, _⟩, hb⟩ := hG
    have := lt_of_block hV
    show B ≤ w.heap.size; omega
  clear h hv hG hgs hvl
  go_enter Try.func40, Try.ntmps40
  go_wp2_with fail
  refine LN.out.mono ?_
  rintro e w' ⟨rfl, rfl⟩
  clear LN
  go_wp2
  go_loopw [7] (fun i wr => ∃ k : Nat, k ≤ gs.length ∧ i = .int .i64 k ∧ Bx wr a C cap (gs.drop k ++ gs.take k) ∧ Vals encP wr gs vs ∧ GrowP wr B Bl (vs.take k) ∧ Part B (some C) w wr) (fun i _ => gs.length - (intOf i).toNat)
  case atStart => exact ⟨0, Nat.zero_le _, rfl, by simpa using H.out, HV.out, HG.out, Part.refl _ _ _⟩
  case round =>
    obtain ⟨k, hk, rfl, hb, hvs, hgr, hp⟩ := hrel
    have HB0 : Hid (B ≤ wr.heap.size) := by have h1 := HB.out; have h2 := hp.size; show B ≤ wr.heap.size; omega
    have BX := Lib.hid hb; have VS := Lib.hid hvs; have GR := Lib.hid hgr; have PT := Lib.hid hp
    clear hb hvs hgr hp
    by_cases hlt : k < gs.length
    · have hlt' : (k : Int) < gs.length := by omega
      have b0 : Bx wr a C cap (gs.getD k 0 :: (gs.drop (k + 1) ++ gs.take k)) := by
        have := BX.out; rw [rot_cut gs k hlt] at this; exact this
      have T := Lib.hid (takeP_yes a C cap (gs.drop (k + 1) ++ gs.take k) (gs.getD k 0) wr b0)
      have hcell := VS.out.at none k hlt
      have HC := Lib.hid hcell; have B0 := Lib.hid b0
      have HPUT := Lib.hid (rot_put gs k hlt)
      have HTN := Lib.hid (take_next vs none k (by have := VL.out; omega))
      have HGS : Hid (gs.getD k 0 < B) := HS.out _ (getD_mem gs k hlt)
      have HLL : Hid ((gs.drop (k + 1) ++ gs.take k).length < cap) := by show (gs.drop (k + 1) ++ gs.take k).length < cap; simp; omega
      have HTL : Hid ((vs.take k).length ≤ 100000) := by show (vs.take k).length ≤ 100000; rw [List.length_take]; omega
      clear hcell b0 BX
      generalize gs.getD k 0 = g at T HC B0 HPUT HGS
      generalize vs.getD k none = v at HC HTN
      go_wp2_with fail
      refine T.out.mono ?_
      rintro e w1 ⟨rfl, hb1, hg1⟩
      have B1 := Lib.hid hb1; have P1 := Lib.hid (PT.out.trans (Part.of_grown hg1 HB0.out)); have G1 := Lib.hid hg1
      have C1 := Lib.hid (B0.out.cell hg1 HC.out)
      have Q1 : Hid (Part B (some C) wr w1) := Part.of_grown hg1 HB0.out
      have F := Lib.hid (listFP g B Bl v (vs.take k) w1 C1.out (GR.out.kept hg1 hC) HTL.out)
      rw [HTN.out] at F
      clear hb1 hg1 T
      go_wp2_with fail
      refine F.out.mono ?_
      rintro e w2 ⟨rfl, hgr2, hb2⟩
      have G2 := Lib.hid hgr2
      have B2 := Lib.hid (B1.out.belowB hb2 hC ha)
      have Q2 : Hid (Part B (some C) wr w2) := Q1.out.trans (Part.of_below hb2)
      have P := Lib.hid (putP_yes a C cap (gs.drop (k + 1) ++ gs.take k) g w2 B2.out HLL.out)
      rw [HPUT.out] at P
      have HB2 : Hid (B ≤ w2.heap.size) := by have h1 := HB0.out; have h2 := Q2.out.size; show B ≤ w2.heap.size; omega
      clear hgr2 hb2 F B1 G1 C1 HC HTN
      go_wp2_with fail
      refine P.out.mono ?_
      rintro e w3 ⟨rfl, hb3, hg3⟩
      have B3 := Lib.hid hb3
      have G3 := Lib.hid (G2.out.kept hg3 hC)
      have Q3 : Hid (Part B (some C) wr w3) := Q2.out.trans (Part.of_grown hg3 HB2.out)
      have V3 : Hid (Vals encP w3 gs vs) := VS.out.part Q3.out (by obtain ⟨s, r, hc⟩ := B0.out.chan; exact ⟨_, _, _, _, _, _, hc⟩) HS.out
      have P3 := Lib.hid (PT.out.trans Q3.out)
      clear hb3 hg3 P
      go_wp2
      go_roundw
      case rel => exact ⟨k + 1, by omega, by go_num, B3.out, V3.out, G3.out, P3.out⟩
      case measure => simp [intOf]; omega
    · obtain rfl : k = gs.length := by omega
      have R : Hid (RoundP a C cap B Bl gs vs w wr) := by
        refine ⟨?_, VS.out, ?_, PT.out⟩
        · have := BX.out; rwa [List.drop_length, List.take_length, List.nil_append] at this
        · have := GR.out; rwa [List.take_of_length_le (by have := VL.out; omega)] at this
      go_wp2
      go_end0
      exact ⟨⟨_, rfl⟩, R.out⟩
/-- a list of the call's own, of what a box holds; but for the box's channel nothing has turned -/
def ListToP (a C cap : Nat) (gs : List Nat) (vs : List (Option Addr)) (w : World) (e : Ending) (w' : World) : Prop :=
  ∃ v, e = .returned v ∧ w'.ownsRow w.heap.size 54 1 v vs.length (vs.map encP) ∧ Bx w' a C cap gs ∧ Vals encP w' gs vs ∧ w.grownBy w' (some C)

set_option maxHeartbeats 1000000 in
theorem listP (a C cap : Nat) (gs : List Nat) (vs : List (Option Addr)) (w : World) (h : Bx w a C cap gs) (hv : Vals encP w gs vs) (hcap : cap ≤ 4096) :
    Calls Try.prog 39 #[.pointer (some ⟨a, 0, none⟩)] w (ListToP a C cap gs vs w) := by
  have LN := Lib.hid (lenP a C cap gs w h)
  have hle := h.le
  have H := Lib.hid h; have HV := Lib.hid hv
  clear h hv
  go_enter Try.func39, Try.ntmps39
  go_wp2_with fail
  refine LN.out.mono ?_
  rintro e w' ⟨rfl, rfl⟩
  go_wp2_with (refine wpList_mk isOneP _ rfl _ _ rfl _ _ _ gs.length rfl rfl rfl (by omega) ?_)
  intro v0 w0 hown0 hb0
  obtain ⟨p0, c0, rfl⟩ := ownV_slice hown0
  have hz := hb0.size
  have hb1 : Below w.heap.size w (w0.alloc (.cells #[.slice p0 0 c0] 80)) := hb0.alloc hz _
  have R := Lib.hid (roundP a C cap w.heap.size w0.heap.size gs vs (w0.alloc (.cells #[.slice p0 0 c0] 80)) (H.out.below hb1) (HV.out.below hb1)
    ⟨⟨_, heap_alloc_new _ _, by exact hown0.alloc _⟩, hz⟩ hcap H.out.alt H.out.lt HV.out.lt)
  have B0 := Lib.hid hb1
  clear hown0 hb0 hb1
  go_wp2_with fail
  refine R.out.mono ?_
  rintro e w2 ⟨⟨v, rfl⟩, hr⟩
  obtain ⟨hbx, hvs, ⟨⟨V, hV, hown⟩, _⟩, hp⟩ := hr
  have hc := cell_of_one hV
  have E : Hid (ListToP a C cap gs vs w (.returned V) w2) := ⟨V, rfl, hown, hbx, hvs, ((Part.of_below B0.out).trans hp).grown⟩
  clear hbx hvs hV hown hp R
  go_wp2
  go_ret
  exact E.out
end Go.Proofs.Ytfdiclamjgldnaa
