/- sorted's steady order: what its closure tells. -/
import Derived.Test.YtiadljcfcncbkaaHpRow
import Derived.Deep.DeepCutAuto
namespace Go.Proofs.Ytiadljcfcncbkaa
open Go Go.RowKit Hp
set_option linter.unusedVariables false

/-- an order of numbers that a closure tells -/
structure TellI (L : FuncId) (caps : Array Value) (lt : Int → Int → Bool) (dom : Int → Prop) (S : World → Prop) : Prop where
  tell : ∀ a b w, dom a → dom b → S w → Calls Try.prog L (#[.int .i64 a, .int .i64 b] ++ caps) w fun e w' => e = .returned (.bool (lt a b)) ∧ Below w.heap.size w w'
  enter : ∀ args w, (callFunc L args).run Try.prog w = .ok (.enter L args) w
def Hp.steady (lt : Int → Int → Bool) (a b : E) : Bool := lt a.1 b.1 || (decide (a.2 < b.2) && !lt b.1 a.1)
def InBox (b : Nat) (L : FuncId) (caps : Array Value) (w : World) : Prop := w.heap[b]? = some (Obj.cells #[.func (.func L) #[] caps] 49 (0, 0))
set_option maxHeartbeats 4000000 in
set_option maxRecDepth 100000 in
theorem steady_tell (L : FuncId) (caps : Array Value) (lt : Int → Int → Bool) (dom : Int → Prop) (S : World → Prop) (T : TellI L caps lt dom S) (hS : ∀ w w', S w → Below w.heap.size w w' → S w') (b : Nat) :
    Tell 69 #[.pointer (some ⟨b, 0, none⟩)] (Hp.steady lt) (fun e => dom e.1) (fun w => S w ∧ InBox b L caps w) := by
  refine ⟨?_, fun args w => by kernel_rfl⟩
  rintro ⟨x, t⟩ ⟨y, u⟩ w hx hy ⟨hs, hb⟩
  have TT := Lib.hid T; have HS := Lib.hid hS; have SW := Lib.hid hs; have HB := Lib.hid hb; have DX := Lib.hid hx; have DY := Lib.hid hy
  obtain ⟨r, hr⟩ : ∃ r, r = Hp.steady lt (x, t) (y, u) := ⟨_, rfl⟩
  rw [← hr]
  have HR := Lib.hid hr
  clear T hS hs hb hx hy hr
  show Calls Try.prog 69 #[.agg #[.int .i64 x, .int .i64 t], .agg #[.int .i64 y, .int .i64 u], .pointer (some ⟨b, 0, none⟩)] w _
  have he := TT.out.enter
  go_enter Try.func69, Try.ntmps69
  go_upto_region 1 with fail
  have h3 := heap_alloc_new w (.cells #[.int .i64 x, .int .i64 t] 89)
  have h4 := heap_alloc_new (w.alloc (.cells #[.int .i64 x, .int .i64 t] 89)) (.cells #[.int .i64 y, .int .i64 u] 89)
  have h3' := (Below.heap_alloc (w.alloc (.cells #[.int .i64 x, .int .i64 t] 89)) (.cells #[.int .i64 y, .int .i64 u] 89) _ (Array.getElem?_eq_some_iff.1 h3).1).trans h3
  have hb0 : Below w.heap.size w ((w.alloc (.cells #[.int .i64 x, .int .i64 t] 89)).alloc (.cells #[.int .i64 y, .int .i64 u] 89)) := ((Below.refl _ w).alloc (Nat.le_refl _) _).alloc (by simp) _
  rw [World.size_alloc] at h4
  generalize (w.alloc (.cells #[.int .i64 x, .int .i64 t] 89)).alloc (.cells #[.int .i64 y, .int .i64 u] 89) = w1 at h3' h4 hb0 ⊢
  have S1 := Lib.hid (HS.out _ _ SW.out hb0)
  have B1 := Lib.hid (show InBox b L caps w1 from (hb0.block b (Array.getElem?_eq_some_iff.1 HB.out).1).trans HB.out)
  have BW := Lib.hid hb0
  obtain ⟨n, hn⟩ : ∃ n, n = w.heap.size := ⟨_, rfl⟩
  rw [← hn] at h3' h4 ⊢
  clear h3 hb0 SW HB hn
  have H3 := Lib.hid h3'; have H4 := Lib.hid h4
  have cells : ∀ V : World, (∀ k, k < w1.heap.size → V.heap[k]? = w1.heap[k]?) → V.cell? ⟨b, 0, none⟩ = some (.func (.func L) #[] caps) ∧ V.cell? ⟨n, 0, none⟩ = some (.int .i64 x) ∧ V.cell? ⟨n, 1, none⟩ = some (.int .i64 t) ∧ V.cell? ⟨n + 1, 0, none⟩ = some (.int .i64 y) ∧ V.cell? ⟨n + 1, 1, none⟩ = some (.int .i64 u) := fun V h => by
    have hb1 := (h b (Array.getElem?_eq_some_iff.1 B1.out).1).trans B1.out
    have h31 := (h n (Array.getElem?_eq_some_iff.1 H3.out).1).trans H3.out
    have h41 := (h (n + 1) (Array.getElem?_eq_some_iff.1 H4.out).1).trans H4.out
    exact ⟨(cell_of_row V b 0 _ _ _ hb1).trans rfl, (cell_of_row V n 0 _ _ _ h31).trans rfl, (cell_of_row V n 1 _ _ _ h31).trans rfl, (cell_of_row V (n + 1) 0 _ _ _ h41).trans rfl, (cell_of_row V (n + 1) 1 _ _ _ h41).trans rfl⟩
  have CC := Lib.hid cells
  obtain ⟨c0, c1, c2, c3, c4⟩ := cells w1 (fun _ _ => rfl)
  clear cells h3' h4
  go_wp2_with fail
  refine (TT.out.tell x y w1 DX.out DY.out S1.out).mono ?_
  rintro e w2 ⟨rfl, hb2⟩
  have S2 := Lib.hid (HS.out _ _ S1.out hb2)
  have B2 := Lib.hid hb2
  clear c0 c1 c2 c3 c4 hb2
  obtain ⟨c0, c1, c2, c3, c4⟩ := CC.out w2 (fun k hk => B2.out.block k hk)
  have HR2 := HR.out
  unfold Hp.steady at HR2
  simp only at HR2
  generalize lt x y = p at HR2 ⊢
  have HR3 := Lib.hid HR2
  clear HR HR2
  cases p with
  | true =>
    go_wp2_with fail
    go_ret
    exact ⟨ret_bool (by rw [HR3.out]; rfl), thenBelow BW.out B2.out⟩
  | false =>
    by_cases htu : t < u
    · go_wp2_with fail
      refine (TT.out.tell y x w2 DY.out DX.out S2.out).mono ?_
      rintro e w3 ⟨rfl, hb3⟩
      have B3 := Lib.hid hb3
      have HR4 := HR3.out
      rw [decide_eq_true htu, Bool.true_and, Bool.false_or] at HR4
      have HR5 := Lib.hid HR4
      clear HR3 HR4 hb3
      go_wp2_with fail
      go_ret
      exact ⟨ret_bool (by rw [HR5.out]), thenBelow (thenBelow BW.out B2.out) B3.out⟩
    · have HR4 := HR3.out
      rw [decide_eq_false htu, Bool.false_and, Bool.false_or] at HR4
      have HR5 := Lib.hid HR4
      clear HR3 HR4
      go_wp2_with fail
      go_ret
      exact ⟨ret_bool (by rw [HR5.out]), thenBelow BW.out B2.out⟩
end Go.Proofs.Ytiadljcfcncbkaa
