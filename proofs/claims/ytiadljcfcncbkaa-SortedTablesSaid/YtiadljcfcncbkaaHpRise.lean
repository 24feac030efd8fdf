/- sorted's rise. -/
import Derived.Test.YtiadljcfcncbkaaHpRow
namespace Go.Proofs.Ytiadljcfcncbkaa
open Go Go.RowKit Hp
set_option linter.unusedVariables false

theorem half_nat (k : Nat) (h : 0 < k) : Int.tdiv ((k : Int) - 1) 2 = (((k - 1) / 2 : Nat) : Int) := by
  rw [show ((k : Int) - 1) = ((k - 1 : Nat) : Int) from by omega]; rfl
set_option maxHeartbeats 4000000 in
set_option maxRecDepth 100000 in
theorem rise_is (B G cap : Nat) (l : List E) (F : FuncId) (caps : Array Value) (lt : E → E → Bool) (dom : E → Prop) (S : World → Prop) (T : Tell F caps lt dom S) (hF : Free G S) (w : World) (hr : ERow w B G cap l) (hd : ∀ e ∈ l, dom e) (hs : S w) (h0 : 0 < l.length) (hlen : l.length ≤ 1000000) :
    Calls Try.prog 54 #[.slice (some ⟨G, 0, none⟩) l.length cap, .func (.func F) #[] caps] w fun e w' => e = .returned (.tuple #[]) ∧ ERow w' B G cap (rise lt l) ∧ w.grownBy w' (some G) := by
  have HR := Lib.hid hr; have HD := Lib.hid hd; have HS := Lib.hid hs; have TT := Lib.hid T; have FF := Lib.hid hF
  obtain ⟨R, hR⟩ : ∃ R, R = rise lt l := ⟨_, rfl⟩
  rw [← hR]
  have RR := Lib.hid hR
  clear hr hd hs T hF hR
  go_enter Try.func54, Try.ntmps54
  go_wp2
  go_loopw [4] (fun i wr => ∃ (k f : Nat) (l' : List E), i = .int .i64 k ∧ l'.length = l.length ∧ k < l.length ∧ k ≤ f ∧ R = riseF lt f l' k ∧ ERow wr B G cap l' ∧ (∀ e ∈ l', dom e) ∧ S wr ∧ w.grownBy wr (some G)) (fun i _ => (intOf i).toNat)
  case atStart => exact ⟨l.length - 1, l.length, l, by go_num, rfl, by omega, by omega, RR.out, HR.out, HD.out, HS.out, grown_refl w G⟩
  case round =>
    obtain ⟨k, f, l', rfl, hl, hk, hf, hRf, hrow, hdm, hsw, hgr⟩ := hrel
    have RF := Lib.hid hRf; have RW := Lib.hid hrow; have DM := Lib.hid hdm; have SW := Lib.hid hsw; have GR := Lib.hid hgr
    clear hRf hrow hdm hsw hgr
    by_cases hk0 : k = 0
    · subst hk0
      have e : R = l' := by
        have := RF.out
        cases f with
        | zero => exact this
        | succ f => rw [riseF, if_pos rfl] at this; exact this
      go_wp2
      go_end0
      exact ⟨rfl, by rw [e]; exact RW.out, GR.out⟩
    · have h6 : (k : Int) > 0 := by omega
      have hh := half_nat k (by omega)
      obtain ⟨m, hm⟩ : ∃ m, m = (k - 1) / 2 := ⟨_, rfl⟩
      have hmk : m < k := by omega
      rw [← hm] at hh
      go_wp2_with fail
      rename_i K hK
      have hm2 : ((k - 1 : Nat) : Int) / 2 = (m : Int) := by omega
      rw [hm2]
      obtain ⟨b, hb⟩ : ∃ b, b = lt (l'.getD k d) (l'.getD m d) := ⟨_, rfl⟩
      have hkl : k < l'.length := by omega
      have hml : m < l'.length := by omega
      have KK : ∀ V2, (ERow V2 B G cap l' ∧ S V2 ∧ wr.grownBy V2 (some G)) → K { tmps := #[.slice (some ⟨G, 0, none⟩) l.length cap, .func (.func F) #[] caps, undef, undef, .int .i64 (k : Int), .int .i64 (m : Int), .slice (some ⟨G, 0, none⟩) l.length cap, .int .i64 (l.length : Int), .int .i64 ((l.length : Int) - 1), .int .i64 (k : Int), .bool (decide (0 < k)), .int .i64 (k : Int), .int .i64 ((k : Int) - 1), .int .i64 (m : Int), .func (.func F) #[] caps, .slice (some ⟨G, 0, none⟩) l.length cap, .int .i64 (k : Int), .pointer (some ⟨G, k * 2, none⟩), ev (l'.getD k d), .slice (some ⟨G, 0, none⟩) l.length cap, .int .i64 (m : Int), .pointer (some ⟨G, m * 2, none⟩), ev (l'.getD m d), .bool b, .bool (!b), u25, u26, u27, u28, u29, u30, u31, u32, u33, u34, u35, u36, u37, u38, u39], defers := [] } V2 := by
        rintro V2 ⟨hr2, hs2, hg2⟩
        refine hK _ _ ?_
        clear hK
        have RW2 := Lib.hid hr2; have SW2 := Lib.hid hs2; have GR2 := Lib.hid (grown_trans GR.out hg2)
        have HB := Lib.hid hb
        clear hr2 hs2 hg2 hb
        cases b with
        | false =>
          have e : R = l' := by
            have := RF.out
            cases f with
            | zero => omega
            | succ f => rw [riseF, if_neg hk0, ← hm, ← HB.out, if_neg (by simp)] at this; exact this
          go_wp2
          refine bodyPost_ret (v := .tuple #[]) (by kernel_rfl) (by kernel_rfl) ?_
          exact ⟨rfl, by rw [e]; exact RW2.out, GR2.out⟩
        | true =>
          obtain ⟨n1, n2⟩ := (show ERow V2.drew B G cap l' from RW2.out).set k (l'.getD m d) hkl
          obtain ⟨n3, n4⟩ := n1.set m (l'.getD k d) (by rw [List.length_set]; exact hml)
          have hg4 : V2.grownBy (setE (setE V2.drew G k (l'.getD m d)) G m (l'.getD k d)) (some G) := grown_trans ⟨n2.os, n2.tape, n2.output, n2.size, n2.block⟩ n4
          have R4 := Lib.hid (show ERow (setE (setE V2.drew G k (l'.getD m d)) G m (l'.getD k d)) B G cap (sw l' k m) from n3)
          have G4 := Lib.hid (grown_trans GR2.out hg4)
          have S4 := Lib.hid (FF.out _ _ SW2.out hg4)
          clear n1 n2 n3 n4 hg4
          go_wp2_with fail
          rename_i K2 hK2
          have K4 : K2 { tmps := #[.slice (some ⟨G, 0, none⟩) l.length cap, .func (.func F) #[] caps, undef, undef, .int .i64 (k : Int), .int .i64 (m : Int), .slice (some ⟨G, 0, none⟩) l.length cap, .int .i64 (l.length : Int), .int .i64 ((l.length : Int) - 1), .int .i64 (k : Int), .bool (decide (0 < k)), .int .i64 (k : Int), .int .i64 ((k : Int) - 1), .int .i64 (m : Int), .func (.func F) #[] caps, .slice (some ⟨G, 0, none⟩) l.length cap, .int .i64 (k : Int), .pointer (some ⟨G, k * 2, none⟩), ev (l'.getD k d), .slice (some ⟨G, 0, none⟩) l.length cap, .int .i64 (m : Int), .pointer (some ⟨G, m * 2, none⟩), ev (l'.getD m d), .bool true, .bool (!true), .slice (some ⟨G, 0, none⟩) l.length cap, .int .i64 (k : Int), .slice (some ⟨G, 0, none⟩) l.length cap, .int .i64 (m : Int), .slice (some ⟨G, 0, none⟩) l.length cap, .int .i64 (m : Int), .pointer (some ⟨G, m * 2, none⟩), ev (l'.getD m d), .slice (some ⟨G, 0, none⟩) l.length cap, .int .i64 (k : Int), .pointer (some ⟨G, k * 2, none⟩), ev (l'.getD k d), .pointer (some ⟨G, k * 2, none⟩), .pointer (some ⟨G, m * 2, none⟩), u39], defers := [] } (setE (setE V2.drew G k (l'.getD m d)) G m (l'.getD k d)) := by
            refine hK2 _ _ ?_
            have HM := Lib.hid hm
            clear hK2 hm hh hm2
            generalize setE (setE V2.drew G k (l'.getD m d)) G m (l'.getD k d) = w5 at R4 G4 S4
            go_wp2
            go_roundw
            case rel =>
              refine ⟨m, f - 1, sw l' k m, rfl, by rw [sw_len]; exact hl, by omega, by omega, ?_, R4.out, sw_mem hkl hml DM.out, S4.out, G4.out⟩
              have := RF.out
              cases f with
              | zero => omega
              | succ f => rw [riseF, if_neg hk0, ← HM.out, ← HB.out, if_pos rfl] at this; exact this
            case measure => simp [intOf]; omega
          refine rg_calm (by kernel_rfl) rfl (S := fun _ => True) ?_
          refine rgd_pure 0 (some 25) rfl rfl (.slice (some ⟨G, 0, none⟩) l.length cap) (by kernel_rfl) (by kernel_rfl) (by kernel_rfl) (fun _ _ _ _ h => h) (by kernel_rfl) (exec_is _ (.inl rfl) _ (by kernel_rfl)) trivial ?_
          refine rgd_pure 1 (some 26) rfl rfl (.int .i64 (k : Int)) (by kernel_rfl) (by kernel_rfl) (by kernel_rfl) (fun _ _ _ _ h => h) (by kernel_rfl) (exec_is _ (.inl rfl) _ (by kernel_rfl)) trivial ?_
          refine rgd_pure 2 (some 27) rfl rfl (.slice (some ⟨G, 0, none⟩) l.length cap) (by kernel_rfl) (by kernel_rfl) (by kernel_rfl) (fun _ _ _ _ h => h) (by kernel_rfl) (exec_is _ (.inl rfl) _ (by kernel_rfl)) trivial ?_
          refine rgd_pure 3 (some 28) rfl rfl (.int .i64 (m : Int)) (by kernel_rfl) (by kernel_rfl) (by kernel_rfl) (fun _ _ _ _ h => h) (by kernel_rfl) (exec_is _ (.inl rfl) _ (by kernel_rfl)) trivial ?_
          refine rgd_pure 4 (some 29) rfl rfl (.slice (some ⟨G, 0, none⟩) l.length cap) (by kernel_rfl) (by kernel_rfl) (by kernel_rfl) (fun _ _ _ _ h => h) (by kernel_rfl) (exec_is _ (.inl rfl) _ (by kernel_rfl)) trivial ?_
          refine rgd_pure 5 (some 30) rfl rfl (.int .i64 (m : Int)) (by kernel_rfl) (by kernel_rfl) (by kernel_rfl) (fun _ _ _ _ h => h) (by kernel_rfl) (exec_is _ (.inl rfl) _ (by kernel_rfl)) trivial ?_
          refine rgd_pure 6 (some 31) rfl rfl (.pointer (some ⟨G, m * 2, none⟩)) (by kernel_rfl) (by kernel_rfl) (by kernel_rfl) (fun _ _ _ _ h => h) (by kernel_rfl) (exec_idxE _ _ rfl G l.length cap m (by kernel_rfl) (by kernel_rfl) (by omega)) trivial ?_
          refine rgd_pure 8 (some 33) rfl rfl (.slice (some ⟨G, 0, none⟩) l.length cap) (by kernel_rfl) (by kernel_rfl) (by kernel_rfl) (fun _ _ _ _ h => h) (by kernel_rfl) (exec_is _ (.inl rfl) _ (by kernel_rfl)) trivial ?_
          refine rgd_pure 9 (some 34) rfl rfl (.int .i64 (k : Int)) (by kernel_rfl) (by kernel_rfl) (by kernel_rfl) (fun _ _ _ _ h => h) (by kernel_rfl) (exec_is _ (.inl rfl) _ (by kernel_rfl)) trivial ?_
          refine rgd_pure 10 (some 35) rfl rfl (.pointer (some ⟨G, k * 2, none⟩)) (by kernel_rfl) (by kernel_rfl) (by kernel_rfl) (fun _ _ _ _ h => h) (by kernel_rfl) (exec_idxE _ _ rfl G l.length cap k (by kernel_rfl) (by kernel_rfl) (by omega)) trivial ?_
          refine rgd_acts 7 11 (some 32) (some 36) (by kernel_rfl) rfl rfl (by kernel_rfl) (ev (l'.getD m d)) V2.drew (exec_loadE _ rfl G m _ (by kernel_rfl) ((show ERow V2.drew B G cap l' from RW2.out).cells m (by omega)).1 ((show ERow V2.drew B G cap l' from RW2.out).cells m (by omega)).2) trivial rfl rfl (by kernel_rfl) (ev (l'.getD k d)) V2.drew (exec_loadE _ rfl G k _ (by kernel_rfl) ((show ERow V2.drew B G cap l' from RW2.out).cells k (by omega)).1 ((show ERow V2.drew B G cap l' from RW2.out).cells k (by omega)).2) trivial ?_ ?_
          · refine rgd_run 11 (some 36) (by kernel_rfl) rfl rfl (by kernel_rfl) (ev (l'.getD k d)) V2.drew (exec_loadE _ rfl G k _ (by kernel_rfl) ((show ERow V2.drew B G cap l' from RW2.out).cells k (by omega)).1 ((show ERow V2.drew B G cap l' from RW2.out).cells k (by omega)).2) trivial ?_
            refine rgd_pure 12 (some 37) rfl rfl (.pointer (some ⟨G, k * 2, none⟩)) (by kernel_rfl) (by kernel_rfl) (by kernel_rfl) (fun _ _ _ _ h => h) (by kernel_rfl) (exec_idxE _ _ rfl G l.length cap k (by kernel_rfl) (by kernel_rfl) (by omega)) trivial ?_
            refine rgd_do 13 none (by kernel_rfl) rfl rfl (by kernel_rfl) (setE V2.drew G k (l'.getD m d)) (exec_storeE _ _ rfl G k _ (by kernel_rfl) (by kernel_rfl) (show ERow V2.drew B G cap l' from RW2.out) (by omega)) trivial ?_
            refine rgd_pure 14 (some 38) rfl rfl (.pointer (some ⟨G, m * 2, none⟩)) (by kernel_rfl) (by kernel_rfl) (by kernel_rfl) (fun _ _ _ _ h => h) (by kernel_rfl) (exec_idxE _ _ rfl G l.length cap m (by kernel_rfl) (by kernel_rfl) (by omega)) trivial ?_
            refine rgd_do 15 none (by kernel_rfl) rfl rfl (by kernel_rfl) (setE (setE V2.drew G k (l'.getD m d)) G m (l'.getD k d)) (exec_storeE _ _ rfl G m _ (by kernel_rfl) (by kernel_rfl) ((show ERow V2.drew B G cap l' from RW2.out).set k (l'.getD m d) (by omega)).1 (by rw [List.length_set]; omega)) trivial ?_
            exact wpAnyH_done (by kernel_rfl) (Eq.mp (by kernel_rfl) K4) _
          · refine rgd_run 7 (some 32) (by kernel_rfl) rfl rfl (by kernel_rfl) (ev (l'.getD m d)) V2.drew (exec_loadE _ rfl G m _ (by kernel_rfl) ((show ERow V2.drew B G cap l' from RW2.out).cells m (by omega)).1 ((show ERow V2.drew B G cap l' from RW2.out).cells m (by omega)).2) trivial ?_
            refine rgd_pure 12 (some 37) rfl rfl (.pointer (some ⟨G, k * 2, none⟩)) (by kernel_rfl) (by kernel_rfl) (by kernel_rfl) (fun _ _ _ _ h => h) (by kernel_rfl) (exec_idxE _ _ rfl G l.length cap k (by kernel_rfl) (by kernel_rfl) (by omega)) trivial ?_
            refine rgd_do 13 none (by kernel_rfl) rfl rfl (by kernel_rfl) (setE V2.drew G k (l'.getD m d)) (exec_storeE _ _ rfl G k _ (by kernel_rfl) (by kernel_rfl) (show ERow V2.drew B G cap l' from RW2.out) (by omega)) trivial ?_
            refine rgd_pure 14 (some 38) rfl rfl (.pointer (some ⟨G, m * 2, none⟩)) (by kernel_rfl) (by kernel_rfl) (by kernel_rfl) (fun _ _ _ _ h => h) (by kernel_rfl) (exec_idxE _ _ rfl G l.length cap m (by kernel_rfl) (by kernel_rfl) (by omega)) trivial ?_
            refine rgd_do 15 none (by kernel_rfl) rfl rfl (by kernel_rfl) (setE (setE V2.drew G k (l'.getD m d)) G m (l'.getD k d)) (exec_storeE _ _ rfl G m _ (by kernel_rfl) (by kernel_rfl) ((show ERow V2.drew B G cap l' from RW2.out).set k (l'.getD m d) (by omega)).1 (by rw [List.length_set]; omega)) trivial ?_
            exact wpAnyH_done (by kernel_rfl) (Eq.mp (by kernel_rfl) K4) _
      refine rg_calm (by kernel_rfl) rfl (S := fun V => ERow V B G cap l' ∧ S V ∧ wr.grownBy V (some G)) ?_
      have hS0 : ERow wr.drew B G cap l' ∧ S wr.drew ∧ wr.grownBy wr.drew (some G) := ⟨RW.out, FF.out _ _ SW.out ⟨rfl, rfl, rfl, Nat.le_refl _, fun _ _ _ => rfl⟩, ⟨rfl, rfl, rfl, Nat.le_refl _, fun _ _ _ => rfl⟩⟩
      refine rgd_pure 0 (some 14) rfl rfl (.func (.func F) #[] caps) (by kernel_rfl) (by kernel_rfl) (by kernel_rfl) (fun _ _ _ _ h => h) (by kernel_rfl) (exec_is _ (.inl rfl) _ (by kernel_rfl)) hS0 ?_
      refine rgd_pure 1 (some 15) rfl rfl (.slice (some ⟨G, 0, none⟩) l.length cap) (by kernel_rfl) (by kernel_rfl) (by kernel_rfl) (fun _ _ _ _ h => h) (by kernel_rfl) (exec_is _ (.inl rfl) _ (by kernel_rfl)) hS0 ?_
      refine rgd_pure 2 (some 16) rfl rfl (.int .i64 (k : Int)) (by kernel_rfl) (by kernel_rfl) (by kernel_rfl) (fun _ _ _ _ h => h) (by kernel_rfl) (exec_is _ (.inl rfl) _ (by kernel_rfl)) hS0 ?_
      refine rgd_pure 3 (some 17) rfl rfl (.pointer (some ⟨G, k * 2, none⟩)) (by kernel_rfl) (by kernel_rfl) (by kernel_rfl) (fun _ _ _ _ h => h) (by kernel_rfl) (exec_idxE _ _ rfl G l.length cap k (by kernel_rfl) (by kernel_rfl) hk) hS0 ?_
      refine rgd_pureS 4 (some 18) rfl rfl (ev (l'.getD k d)) (by kernel_rfl) (by kernel_rfl) (by kernel_rfl) (fun _ _ _ _ h => h) (by kernel_rfl) (fun V h => exec_loadE _ rfl G k _ (by kernel_rfl) (h.1.cells k hkl).1 (h.1.cells k hkl).2) hS0 ?_
      refine rgd_pure 5 (some 19) rfl rfl (.slice (some ⟨G, 0, none⟩) l.length cap) (by kernel_rfl) (by kernel_rfl) (by kernel_rfl) (fun _ _ _ _ h => h) (by kernel_rfl) (exec_is _ (.inl rfl) _ (by kernel_rfl)) hS0 ?_
      refine rgd_pure 6 (some 20) rfl rfl (.int .i64 (m : Int)) (by kernel_rfl) (by kernel_rfl) (by kernel_rfl) (fun _ _ _ _ h => h) (by kernel_rfl) (exec_is _ (.inl rfl) _ (by kernel_rfl)) hS0 ?_
      refine rgd_pure 7 (some 21) rfl rfl (.pointer (some ⟨G, m * 2, none⟩)) (by kernel_rfl) (by kernel_rfl) (by kernel_rfl) (fun _ _ _ _ h => h) (by kernel_rfl) (exec_idxE _ _ rfl G l.length cap m (by kernel_rfl) (by kernel_rfl) (by omega)) hS0 ?_
      refine rgd_pureS 8 (some 22) rfl rfl (ev (l'.getD m d)) (by kernel_rfl) (by kernel_rfl) (by kernel_rfl) (fun _ _ _ _ h => h) (by kernel_rfl) (fun V h => exec_loadE _ rfl G m _ (by kernel_rfl) (h.1.cells m hml).1 (h.1.cells m hml).2) hS0 ?_
      refine rgd_call 9 (some 23) (by kernel_rfl) rfl rfl (by kernel_rfl) F (#[ev (l'.getD k d), ev (l'.getD m d)] ++ caps) (exec_tell _ _ _ rfl F caps (by kernel_rfl) _ (by kernel_rfl) (TT.out.enter _ _)) (TT.out.tell _ _ _ (dom_at DM.out hkl) (dom_at DM.out hml) hS0.2.1) ?_
      rintro e V2 ⟨rfl, hb2⟩
      have hS2 : ERow V2 B G cap l' ∧ S V2 ∧ wr.grownBy V2 (some G) := ⟨hS0.1.kept hb2, FF.out _ _ hS0.2.1 (grown_below hb2), grown_trans hS0.2.2 (grown_below hb2)⟩
      refine ⟨_, rfl, hS2, ?_⟩
      rw [← hb]
      refine rgd_pure 10 (some 24) rfl rfl (.bool (!b)) (by kernel_rfl) (by kernel_rfl) (by kernel_rfl) (fun _ _ _ _ h => h) (by kernel_rfl) (fun w => by kernel_rfl) hS2 ?_
      exact wpAnyH_done (by kernel_rfl) (Eq.mp (by kernel_rfl) (KK _ hS2)) _
end Go.Proofs.Ytiadljcfcncbkaa
