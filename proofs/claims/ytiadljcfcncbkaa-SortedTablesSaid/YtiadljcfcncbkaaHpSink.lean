/- sorted's sink. -/
import Derived.Test.YtiadljcfcncbkaaHpRow
namespace Go.Proofs.Ytiadljcfcncbkaa
open Go Go.RowKit Hp
set_option linter.unusedVariables false

theorem nxt_lt (lt : E → E → Bool) (l : List E) (k : Nat) (h : 2 * k + 1 < l.length) : nxt lt l k < l.length ∧ k < nxt lt l k := by
  unfold nxt
  split
  · rename_i h2; exact ⟨h2.1, by omega⟩
  · exact ⟨h, by omega⟩
set_option maxHeartbeats 4000000 in
set_option maxRecDepth 100000 in
theorem sink_is (B G cap : Nat) (l : List E) (F : FuncId) (caps : Array Value) (lt : E → E → Bool) (dom : E → Prop) (S : World → Prop) (T : Tell F caps lt dom S) (hF : Free G S) (w : World) (hr : ERow w B G cap l) (hd : ∀ e ∈ l, dom e) (hs : S w) (hlen : l.length ≤ 1000000) :
    Calls Try.prog 59 #[.slice (some ⟨G, 0, none⟩) l.length cap, .func (.func F) #[] caps] w fun e w' => e = .returned (.tuple #[]) ∧ ERow w' B G cap (sink lt l) ∧ w.grownBy w' (some G) := by
  have HR := Lib.hid hr; have HD := Lib.hid hd; have HS := Lib.hid hs; have TT := Lib.hid T; have FF := Lib.hid hF
  obtain ⟨R, hR⟩ : ∃ R, R = sink lt l := ⟨_, rfl⟩
  rw [← hR]
  have RR := Lib.hid hR
  clear hr hd hs T hF hR
  go_enter Try.func59, Try.ntmps59
  go_wp2
  go_loopw [4] (fun i wr => ∃ (k f : Nat) (l' : List E), i = .int .i64 k ∧ l'.length = l.length ∧ k ≤ l.length ∧ l.length ≤ k + f ∧ R = sinkF lt f l' k ∧ ERow wr B G cap l' ∧ (∀ e ∈ l', dom e) ∧ S wr ∧ w.grownBy wr (some G)) (fun i _ => l.length - (intOf i).toNat)
  case atStart => exact ⟨0, l.length, l, rfl, rfl, Nat.zero_le _, by omega, RR.out, HR.out, HD.out, HS.out, grown_refl w G⟩
  case round =>
    obtain ⟨k, f, l', rfl, hl, hk, hf, hRf, hrow, hdm, hsw, hgr⟩ := hrel
    have RF := Lib.hid hRf; have RW := Lib.hid hrow; have DM := Lib.hid hdm; have SW := Lib.hid hsw; have GR := Lib.hid hgr
    clear hRf hrow hdm hsw hgr
    by_cases h1 : 2 * k + 1 < l.length
    · have h1' : 2 * (k : Int) + 1 < (l.length : Int) := by omega
      go_wp2_with fail
      rename_i K2 hK2 K hK
      have KN : ∀ (V1 : World) (j : Nat) (J : Int) (x15 x16 x17 x18 x19 x20 x21 x22 x23 x24 x25 x26 x27 x28 x29 x30 x31 x32 x33 x34 : Value), J = (j : Int) → j = nxt lt l' k → (ERow V1 B G cap l' ∧ S V1 ∧ w.grownBy V1 (some G)) → K2 { tmps := #[.slice (some ⟨G, 0, none⟩) l.length cap, .func (.func F) #[] caps, undef, undef, .int .i64 (k : Int), .int .i64 J, .int .i64 (k : Int), .int .i64 (2 * (k : Int)), .int .i64 (2 * (k : Int) + 1), .slice (some ⟨G, 0, none⟩) l.length cap, .int .i64 (l.length : Int), .bool true, .int .i64 (k : Int), .int .i64 (2 * (k : Int)), .int .i64 (2 * (k : Int) + 1), x15, x16, x17, x18, x19, x20, x21, x22, x23, x24, x25, x26, x27, x28, x29, x30, x31, x32, x33, x34, u35, u36, u37, u38, u39, u40, u41, u42, u43, u44, u45, u46, u47, u48, u49, u50, u51, u52, u53, u54, u55, u56, u57, u58, u59, u60], defers := [] } V1 := by
        rintro V1 j J x15 x16 x17 x18 x19 x20 x21 x22 x23 x24 x25 x26 x27 x28 x29 x30 x31 x32 x33 x34 rfl hj ⟨hr1, hs1, hg1⟩
        refine hK2 _ _ ?_
        have hjn := nxt_lt lt l' k (by omega)
        rw [← hj] at hjn
        obtain ⟨hj1, hj2⟩ := hjn
        have RW1 := Lib.hid hr1; have SW1 := Lib.hid hs1; have GR1 := Lib.hid hg1; have HJ := Lib.hid hj
        clear hK2 hK hr1 hs1 hg1 hj RW SW GR h1'
        go_wp2_with fail
        rename_i K5 hK5
        obtain ⟨b, hb⟩ : ∃ b, b = lt (l'.getD j d) (l'.getD k d) := ⟨_, rfl⟩
        have KK : ∀ V2, (ERow V2 B G cap l' ∧ S V2 ∧ V1.grownBy V2 (some G)) → K5 { tmps := #[.slice (some ⟨G, 0, none⟩) l.length cap, .func (.func F) #[] caps, undef, undef, .int .i64 (k : Int), .int .i64 (j : Int), .int .i64 (k : Int), .int .i64 (2 * (k : Int)), .int .i64 (2 * (k : Int) + 1), .slice (some ⟨G, 0, none⟩) l.length cap, .int .i64 (l.length : Int), .bool true, .int .i64 (k : Int), .int .i64 (2 * (k : Int)), .int .i64 (2 * (k : Int) + 1), x15, x16, x17, x18, x19, x20, x21, x22, x23, x24, x25, x26, x27, x28, x29, x30, x31, x32, x33, x34, .func (.func F) #[] caps, .slice (some ⟨G, 0, none⟩) l.length cap, .int .i64 (j : Int), .pointer (some ⟨G, j * 2, none⟩), ev (l'.getD j d), .slice (some ⟨G, 0, none⟩) l.length cap, .int .i64 (k : Int), .pointer (some ⟨G, k * 2, none⟩), ev (l'.getD k d), .bool b, .bool (!b), u46, u47, u48, u49, u50, u51, u52, u53, u54, u55, u56, u57, u58, u59, u60], defers := [] } V2 := by
          rintro V2 ⟨hr2, hs2, hg2⟩
          refine hK5 _ _ ?_
          clear hK5
          have RW2 := Lib.hid hr2; have SW2 := Lib.hid hs2; have GR2 := Lib.hid (grown_trans GR1.out hg2); have HB := Lib.hid hb
          clear hr2 hs2 hg2 hb
          cases b with
          | false =>
            have e : R = l' := by
              have := RF.out
              cases f with
              | zero => omega
              | succ f => rw [sinkF, if_pos (by omega), ← HJ.out, ← HB.out, if_neg (by simp)] at this; exact this
            have E := Lib.hid e
            clear e
            go_wp2
            refine bodyPost_ret (v := .tuple #[]) (by kernel_rfl) (by kernel_rfl) ?_
            exact ⟨rfl, by rw [E.out]; exact RW2.out, GR2.out⟩
          | true =>
            obtain ⟨n1, n2⟩ := (show ERow V2.drew B G cap l' from RW2.out).set k (l'.getD j d) (by omega)
            obtain ⟨n3, n4⟩ := n1.set j (l'.getD k d) (by rw [List.length_set]; omega)
            have hg4 : V2.grownBy (setE (setE V2.drew G k (l'.getD j d)) G j (l'.getD k d)) (some G) := grown_trans ⟨n2.os, n2.tape, n2.output, n2.size, n2.block⟩ n4
            have R4 := Lib.hid (show ERow (setE (setE V2.drew G k (l'.getD j d)) G j (l'.getD k d)) B G cap (sw l' k j) from n3)
            have G4 := Lib.hid (grown_trans GR2.out hg4)
            have S4 := Lib.hid (FF.out _ _ SW2.out hg4)
            clear n1 n2 n3 n4 hg4
            go_wp2_with fail
            rename_i K6 hK6
            have K7 : K6 { tmps := #[.slice (some ⟨G, 0, none⟩) l.length cap, .func (.func F) #[] caps, undef, undef, .int .i64 (k : Int), .int .i64 (j : Int), .int .i64 (k : Int), .int .i64 (2 * (k : Int)), .int .i64 (2 * (k : Int) + 1), .slice (some ⟨G, 0, none⟩) l.length cap, .int .i64 (l.length : Int), .bool true, .int .i64 (k : Int), .int .i64 (2 * (k : Int)), .int .i64 (2 * (k : Int) + 1), x15, x16, x17, x18, x19, x20, x21, x22, x23, x24, x25, x26, x27, x28, x29, x30, x31, x32, x33, x34, .func (.func F) #[] caps, .slice (some ⟨G, 0, none⟩) l.length cap, .int .i64 (j : Int), .pointer (some ⟨G, j * 2, none⟩), ev (l'.getD j d), .slice (some ⟨G, 0, none⟩) l.length cap, .int .i64 (k : Int), .pointer (some ⟨G, k * 2, none⟩), ev (l'.getD k d), .bool true, .bool (!true), .slice (some ⟨G, 0, none⟩) l.length cap, .int .i64 (k : Int), .slice (some ⟨G, 0, none⟩) l.length cap, .int .i64 (j : Int), .slice (some ⟨G, 0, none⟩) l.length cap, .int .i64 (j : Int), .pointer (some ⟨G, j * 2, none⟩), ev (l'.getD j d), .slice (some ⟨G, 0, none⟩) l.length cap, .int .i64 (k : Int), .pointer (some ⟨G, k * 2, none⟩), ev (l'.getD k d), .pointer (some ⟨G, k * 2, none⟩), .pointer (some ⟨G, j * 2, none⟩), u60], defers := [] } (setE (setE V2.drew G k (l'.getD j d)) G j (l'.getD k d)) := by
              refine hK6 _ _ ?_
              clear hK6
              generalize setE (setE V2.drew G k (l'.getD j d)) G j (l'.getD k d) = w5 at R4 G4 S4
              go_wp2
              go_roundw
              case rel =>
                refine ⟨j, f - 1, sw l' k j, rfl, by rw [sw_len]; exact hl, by omega, by omega, ?_, R4.out, sw_mem (by omega) (by omega) DM.out, S4.out, G4.out⟩
                have := RF.out
                cases f with
                | zero => omega
                | succ f => rw [sinkF, if_pos (by omega), ← HJ.out, ← HB.out, if_pos rfl] at this; exact this
              case measure => simp [intOf]; omega
            refine rg_calm (by kernel_rfl) rfl (S := fun _ => True) ?_
            refine rgd_pure 0 (some 46) rfl rfl (.slice (some ⟨G, 0, none⟩) l.length cap) (by kernel_rfl) (by kernel_rfl) (by kernel_rfl) (fun _ _ _ _ h => h) (by kernel_rfl) (exec_is _ (.inl rfl) _ (by kernel_rfl)) trivial ?_
            refine rgd_pure 1 (some 47) rfl rfl (.int .i64 (k : Int)) (by kernel_rfl) (by kernel_rfl) (by kernel_rfl) (fun _ _ _ _ h => h) (by kernel_rfl) (exec_is _ (.inl rfl) _ (by kernel_rfl)) trivial ?_
            refine rgd_pure 2 (some 48) rfl rfl (.slice (some ⟨G, 0, none⟩) l.length cap) (by kernel_rfl) (by kernel_rfl) (by kernel_rfl) (fun _ _ _ _ h => h) (by kernel_rfl) (exec_is _ (.inl rfl) _ (by kernel_rfl)) trivial ?_
            refine rgd_pure 3 (some 49) rfl rfl (.int .i64 (j : Int)) (by kernel_rfl) (by kernel_rfl) (by kernel_rfl) (fun _ _ _ _ h => h) (by kernel_rfl) (exec_is _ (.inl rfl) _ (by kernel_rfl)) trivial ?_
            refine rgd_pure 4 (some 50) rfl rfl (.slice (some ⟨G, 0, none⟩) l.length cap) (by kernel_rfl) (by kernel_rfl) (by kernel_rfl) (fun _ _ _ _ h => h) (by kernel_rfl) (exec_is _ (.inl rfl) _ (by kernel_rfl)) trivial ?_
            refine rgd_pure 5 (some 51) rfl rfl (.int .i64 (j : Int)) (by kernel_rfl) (by kernel_rfl) (by kernel_rfl) (fun _ _ _ _ h => h) (by kernel_rfl) (exec_is _ (.inl rfl) _ (by kernel_rfl)) trivial ?_
            refine rgd_pure 6 (some 52) rfl rfl (.pointer (some ⟨G, j * 2, none⟩)) (by kernel_rfl) (by kernel_rfl) (by kernel_rfl) (fun _ _ _ _ h => h) (by kernel_rfl) (exec_idxE _ _ rfl G l.length cap j (by kernel_rfl) (by kernel_rfl) (by omega)) trivial ?_
            refine rgd_pure 8 (some 54) rfl rfl (.slice (some ⟨G, 0, none⟩) l.length cap) (by kernel_rfl) (by kernel_rfl) (by kernel_rfl) (fun _ _ _ _ h => h) (by kernel_rfl) (exec_is _ (.inl rfl) _ (by kernel_rfl)) trivial ?_
            refine rgd_pure 9 (some 55) rfl rfl (.int .i64 (k : Int)) (by kernel_rfl) (by kernel_rfl) (by kernel_rfl) (fun _ _ _ _ h => h) (by kernel_rfl) (exec_is _ (.inl rfl) _ (by kernel_rfl)) trivial ?_
            refine rgd_pure 10 (some 56) rfl rfl (.pointer (some ⟨G, k * 2, none⟩)) (by kernel_rfl) (by kernel_rfl) (by kernel_rfl) (fun _ _ _ _ h => h) (by kernel_rfl) (exec_idxE _ _ rfl G l.length cap k (by kernel_rfl) (by kernel_rfl) (by omega)) trivial ?_
            refine rgd_acts 7 11 (some 53) (some 57) (by kernel_rfl) rfl rfl (by kernel_rfl) (ev (l'.getD j d)) V2.drew (exec_loadE _ rfl G j _ (by kernel_rfl) ((show ERow V2.drew B G cap l' from RW2.out).cells j (by omega)).1 ((show ERow V2.drew B G cap l' from RW2.out).cells j (by omega)).2) trivial rfl rfl (by kernel_rfl) (ev (l'.getD k d)) V2.drew (exec_loadE _ rfl G k _ (by kernel_rfl) ((show ERow V2.drew B G cap l' from RW2.out).cells k (by omega)).1 ((show ERow V2.drew B G cap l' from RW2.out).cells k (by omega)).2) trivial ?_ ?_
            · refine rgd_run 11 (some 57) (by kernel_rfl) rfl rfl (by kernel_rfl) (ev (l'.getD k d)) V2.drew (exec_loadE _ rfl G k _ (by kernel_rfl) ((show ERow V2.drew B G cap l' from RW2.out).cells k (by omega)).1 ((show ERow V2.drew B G cap l' from RW2.out).cells k (by omega)).2) trivial ?_
              refine rgd_pure 12 (some 58) rfl rfl (.pointer (some ⟨G, k * 2, none⟩)) (by kernel_rfl) (by kernel_rfl) (by kernel_rfl) (fun _ _ _ _ h => h) (by kernel_rfl) (exec_idxE _ _ rfl G l.length cap k (by kernel_rfl) (by kernel_rfl) (by omega)) trivial ?_
              refine rgd_do 13 none (by kernel_rfl) rfl rfl (by kernel_rfl) (setE V2.drew G k (l'.getD j d)) (exec_storeE _ _ rfl G k _ (by kernel_rfl) (by kernel_rfl) (show ERow V2.drew B G cap l' from RW2.out) (by omega)) trivial ?_
              refine rgd_pure 14 (some 59) rfl rfl (.pointer (some ⟨G, j * 2, none⟩)) (by kernel_rfl) (by kernel_rfl) (by kernel_rfl) (fun _ _ _ _ h => h) (by kernel_rfl) (exec_idxE _ _ rfl G l.length cap j (by kernel_rfl) (by kernel_rfl) (by omega)) trivial ?_
              refine rgd_do 15 none (by kernel_rfl) rfl rfl (by kernel_rfl) (setE (setE V2.drew G k (l'.getD j d)) G j (l'.getD k d)) (exec_storeE _ _ rfl G j _ (by kernel_rfl) (by kernel_rfl) ((show ERow V2.drew B G cap l' from RW2.out).set k (l'.getD j d) (by omega)).1 (by rw [List.length_set]; omega)) trivial ?_
              exact wpAnyH_done (by kernel_rfl) (Eq.mp (by kernel_rfl) K7) _
            · refine rgd_run 7 (some 53) (by kernel_rfl) rfl rfl (by kernel_rfl) (ev (l'.getD j d)) V2.drew (exec_loadE _ rfl G j _ (by kernel_rfl) ((show ERow V2.drew B G cap l' from RW2.out).cells j (by omega)).1 ((show ERow V2.drew B G cap l' from RW2.out).cells j (by omega)).2) trivial ?_
              refine rgd_pure 12 (some 58) rfl rfl (.pointer (some ⟨G, k * 2, none⟩)) (by kernel_rfl) (by kernel_rfl) (by kernel_rfl) (fun _ _ _ _ h => h) (by kernel_rfl) (exec_idxE _ _ rfl G l.length cap k (by kernel_rfl) (by kernel_rfl) (by omega)) trivial ?_
              refine rgd_do 13 none (by kernel_rfl) rfl rfl (by kernel_rfl) (setE V2.drew G k (l'.getD j d)) (exec_storeE _ _ rfl G k _ (by kernel_rfl) (by kernel_rfl) (show ERow V2.drew B G cap l' from RW2.out) (by omega)) trivial ?_
              refine rgd_pure 14 (some 59) rfl rfl (.pointer (some ⟨G, j * 2, none⟩)) (by kernel_rfl) (by kernel_rfl) (by kernel_rfl) (fun _ _ _ _ h => h) (by kernel_rfl) (exec_idxE _ _ rfl G l.length cap j (by kernel_rfl) (by kernel_rfl) (by omega)) trivial ?_
              refine rgd_do 15 none (by kernel_rfl) rfl rfl (by kernel_rfl) (setE (setE V2.drew G k (l'.getD j d)) G j (l'.getD k d)) (exec_storeE _ _ rfl G j _ (by kernel_rfl) (by kernel_rfl) ((show ERow V2.drew B G cap l' from RW2.out).set k (l'.getD j d) (by omega)).1 (by rw [List.length_set]; omega)) trivial ?_
              exact wpAnyH_done (by kernel_rfl) (Eq.mp (by kernel_rfl) K7) _
        refine rg_calm (by kernel_rfl) rfl (S := fun V => ERow V B G cap l' ∧ S V ∧ V1.grownBy V (some G)) ?_
        have hS0 : ERow V1.drew B G cap l' ∧ S V1.drew ∧ V1.grownBy V1.drew (some G) := ⟨RW1.out, FF.out _ _ SW1.out ⟨rfl, rfl, rfl, Nat.le_refl _, fun _ _ _ => rfl⟩, ⟨rfl, rfl, rfl, Nat.le_refl _, fun _ _ _ => rfl⟩⟩
        refine rgd_pure 0 (some 35) rfl rfl (.func (.func F) #[] caps) (by kernel_rfl) (by kernel_rfl) (by kernel_rfl) (fun _ _ _ _ h => h) (by kernel_rfl) (exec_is _ (.inl rfl) _ (by kernel_rfl)) hS0 ?_
        refine rgd_pure 1 (some 36) rfl rfl (.slice (some ⟨G, 0, none⟩) l.length cap) (by kernel_rfl) (by kernel_rfl) (by kernel_rfl) (fun _ _ _ _ h => h) (by kernel_rfl) (exec_is _ (.inl rfl) _ (by kernel_rfl)) hS0 ?_
        refine rgd_pure 2 (some 37) rfl rfl (.int .i64 (j : Int)) (by kernel_rfl) (by kernel_rfl) (by kernel_rfl) (fun _ _ _ _ h => h) (by kernel_rfl) (exec_is _ (.inl rfl) _ (by kernel_rfl)) hS0 ?_
        refine rgd_pure 3 (some 38) rfl rfl (.pointer (some ⟨G, j * 2, none⟩)) (by kernel_rfl) (by kernel_rfl) (by kernel_rfl) (fun _ _ _ _ h => h) (by kernel_rfl) (exec_idxE _ _ rfl G l.length cap j (by kernel_rfl) (by kernel_rfl) (by omega)) hS0 ?_
        refine rgd_pureS 4 (some 39) rfl rfl (ev (l'.getD j d)) (by kernel_rfl) (by kernel_rfl) (by kernel_rfl) (fun _ _ _ _ h => h) (by kernel_rfl) (fun V h => exec_loadE _ rfl G j _ (by kernel_rfl) (h.1.cells j (by omega)).1 (h.1.cells j (by omega)).2) hS0 ?_
        refine rgd_pure 5 (some 40) rfl rfl (.slice (some ⟨G, 0, none⟩) l.length cap) (by kernel_rfl) (by kernel_rfl) (by kernel_rfl) (fun _ _ _ _ h => h) (by kernel_rfl) (exec_is _ (.inl rfl) _ (by kernel_rfl)) hS0 ?_
        refine rgd_pure 6 (some 41) rfl rfl (.int .i64 (k : Int)) (by kernel_rfl) (by kernel_rfl) (by kernel_rfl) (fun _ _ _ _ h => h) (by kernel_rfl) (exec_is _ (.inl rfl) _ (by kernel_rfl)) hS0 ?_
        refine rgd_pure 7 (some 42) rfl rfl (.pointer (some ⟨G, k * 2, none⟩)) (by kernel_rfl) (by kernel_rfl) (by kernel_rfl) (fun _ _ _ _ h => h) (by kernel_rfl) (exec_idxE _ _ rfl G l.length cap k (by kernel_rfl) (by kernel_rfl) (by omega)) hS0 ?_
        refine rgd_pureS 8 (some 43) rfl rfl (ev (l'.getD k d)) (by kernel_rfl) (by kernel_rfl) (by kernel_rfl) (fun _ _ _ _ h => h) (by kernel_rfl) (fun V h => exec_loadE _ rfl G k _ (by kernel_rfl) (h.1.cells k (by omega)).1 (h.1.cells k (by omega)).2) hS0 ?_
        refine rgd_call 9 (some 44) (by kernel_rfl) rfl rfl (by kernel_rfl) F (#[ev (l'.getD j d), ev (l'.getD k d)] ++ caps) (exec_tell _ _ _ rfl F caps (by kernel_rfl) _ (by kernel_rfl) (TT.out.enter _ _)) (TT.out.tell _ _ _ (dom_at DM.out (by omega)) (dom_at DM.out (by omega)) hS0.2.1) ?_
        rintro e V2 ⟨rfl, hb2⟩
        have hS2 : ERow V2 B G cap l' ∧ S V2 ∧ V1.grownBy V2 (some G) := ⟨hS0.1.kept hb2, FF.out _ _ hS0.2.1 (grown_below hb2), grown_trans hS0.2.2 (grown_below hb2)⟩
        refine ⟨_, rfl, hS2, ?_⟩
        rw [← hb]
        refine rgd_pure 10 (some 45) rfl rfl (.bool (!b)) (by kernel_rfl) (by kernel_rfl) (by kernel_rfl) (fun _ _ _ _ h => h) (by kernel_rfl) (fun w => by kernel_rfl) hS2 ?_
        exact wpAnyH_done (by kernel_rfl) (Eq.mp (by kernel_rfl) (KK _ hS2)) _
      clear hK2
      have hS0 : ERow wr.drew B G cap l' ∧ S wr.drew ∧ w.grownBy wr.drew (some G) := ⟨RW.out, FF.out _ _ SW.out ⟨rfl, rfl, rfl, Nat.le_refl _, fun _ _ _ => rfl⟩, grown_trans GR.out ⟨rfl, rfl, rfl, Nat.le_refl _, fun _ _ _ => rfl⟩⟩
      have wr1 : IntKind.i64.wrap (2 * (k : Int) + 1 + 1) = 2 * (k : Int) + 1 + 1 := IntWalk.i64_in _ ⟨by omega, by omega⟩
      have wr2 : IntKind.i64.wrap (2 * (k : Int) + 1 + 1) = ((2 * k + 2 : Nat) : Int) := by rw [wr1]; omega
      have e1 : (2 * (k : Int) + 1) = ((2 * k + 1 : Nat) : Int) := by omega
      by_cases h2 : 2 * k + 2 < l.length
      · obtain ⟨c, hc⟩ : ∃ c, c = lt (l'.getD (2 * k + 2) d) (l'.getD (2 * k + 1) d) := ⟨_, rfl⟩
        have KA : ∀ V2, (ERow V2 B G cap l' ∧ S V2 ∧ w.grownBy V2 (some G)) → K { tmps := #[.slice (some ⟨G, 0, none⟩) l.length cap, .func (.func F) #[] caps, undef, undef, .int .i64 (k : Int), .int .i64 (2 * (k : Int) + 1), .int .i64 (k : Int), .int .i64 (2 * (k : Int)), .int .i64 (2 * (k : Int) + 1), .slice (some ⟨G, 0, none⟩) l.length cap, .int .i64 (l.length : Int), .bool true, .int .i64 (k : Int), .int .i64 (2 * (k : Int)), .int .i64 (2 * (k : Int) + 1), .int .i64 (2 * (k : Int) + 1), .int .i64 (2 * (k : Int) + 1 + 1), .slice (some ⟨G, 0, none⟩) l.length cap, .int .i64 (l.length : Int), .bool true, .bool true, .func (.func F) #[] caps, .slice (some ⟨G, 0, none⟩) l.length cap, .int .i64 (2 * (k : Int) + 1), .int .i64 ((2 * k + 2 : Nat) : Int), .pointer (some ⟨G, (2 * k + 2) * 2, none⟩), ev (l'.getD (2 * k + 2) d), .slice (some ⟨G, 0, none⟩) l.length cap, .int .i64 (2 * (k : Int) + 1), .pointer (some ⟨G, (2 * k + 1) * 2, none⟩), ev (l'.getD (2 * k + 1) d), .bool c, .bool c, u33, u34, u35, u36, u37, u38, u39, u40, u41, u42, u43, u44, u45, u46, u47, u48, u49, u50, u51, u52, u53, u54, u55, u56, u57, u58, u59, u60], defers := [] } V2 := by
          intro V2 hS2
          refine hK _ _ ?_
          clear hK hS0
          have HS2 := Lib.hid hS2; have HC := Lib.hid hc
          clear hS2 hc wr1 wr2 e1
          cases c with
          | true =>
            go_wp2
            exact KN V2 (2 * k + 2) _ _ _ _ _ _ _ _ _ _ _ _ _ _ _ _ _ _ _ _ _ (by omega) (by unfold nxt; rw [if_pos ⟨by omega, HC.out.symm⟩]) HS2.out
          | false =>
            go_wp2
            exact KN V2 (2 * k + 1) _ _ _ _ _ _ _ _ _ _ _ _ _ _ _ _ _ _ _ _ _ (by omega) (by unfold nxt; rw [if_neg (fun h => by have := HC.out.trans h.2; cases this)]) HS2.out
        refine rg_calm (by kernel_rfl) rfl (S := fun V => ERow V B G cap l' ∧ S V ∧ w.grownBy V (some G)) ?_
        refine rgd_pure 0 (some 15) rfl rfl (.int .i64 (2 * (k : Int) + 1)) (by kernel_rfl) (by kernel_rfl) (by kernel_rfl) (fun _ _ _ _ h => h) (by kernel_rfl) (exec_is _ (.inl rfl) _ (by kernel_rfl)) hS0 ?_
        refine rgd_pure 1 (some 16) rfl rfl (.int .i64 (2 * (k : Int) + 1 + 1)) (by kernel_rfl) (by kernel_rfl) (by kernel_rfl) (fun _ _ _ _ h => h) (by kernel_rfl) (exec_addI _ _ _ _ rfl (2 * (k : Int) + 1) 1 _ wr1 (by kernel_rfl) (by kernel_rfl)) hS0 ?_
        refine rgd_pure 2 (some 17) rfl rfl (.slice (some ⟨G, 0, none⟩) l.length cap) (by kernel_rfl) (by kernel_rfl) (by kernel_rfl) (fun _ _ _ _ h => h) (by kernel_rfl) (exec_is _ (.inl rfl) _ (by kernel_rfl)) hS0 ?_
        refine rgd_pure 3 (some 18) rfl rfl (.int .i64 (l.length : Int)) (by kernel_rfl) (by kernel_rfl) (by kernel_rfl) (fun _ _ _ _ h => h) (by kernel_rfl) (fun w => by kernel_rfl) hS0 ?_
        refine rgd_pure 4 (some 19) rfl rfl (.bool true) (by kernel_rfl) (by kernel_rfl) (by kernel_rfl) (fun _ _ _ _ h => h) (by kernel_rfl) (exec_lss _ _ _ _ rfl (2 * (k : Int) + 1 + 1) (l.length : Int) true (decide_eq_true (by omega)) (by kernel_rfl) (by kernel_rfl)) hS0 ?_
        refine rgd_pure 5 (some 20) rfl rfl (.bool true) (by kernel_rfl) (by kernel_rfl) (by kernel_rfl) (fun _ _ _ _ h => h) (by kernel_rfl) (exec_is _ (.inl rfl) _ (by kernel_rfl)) hS0 ?_
        refine rgd_pure 6 (some 21) rfl rfl (.func (.func F) #[] caps) (by kernel_rfl) (by kernel_rfl) (by kernel_rfl) (fun _ _ _ _ h => h) (by kernel_rfl) (exec_is _ (.inl rfl) _ (by kernel_rfl)) hS0 ?_
        refine rgd_pure 7 (some 22) rfl rfl (.slice (some ⟨G, 0, none⟩) l.length cap) (by kernel_rfl) (by kernel_rfl) (by kernel_rfl) (fun _ _ _ _ h => h) (by kernel_rfl) (exec_is _ (.inl rfl) _ (by kernel_rfl)) hS0 ?_
        refine rgd_pure 8 (some 23) rfl rfl (.int .i64 (2 * (k : Int) + 1)) (by kernel_rfl) (by kernel_rfl) (by kernel_rfl) (fun _ _ _ _ h => h) (by kernel_rfl) (exec_is _ (.inl rfl) _ (by kernel_rfl)) hS0 ?_
        refine rgd_pure 9 (some 24) rfl rfl (.int .i64 ((2 * k + 2 : Nat) : Int)) (by kernel_rfl) (by kernel_rfl) (by kernel_rfl) (fun _ _ _ _ h => h) (by kernel_rfl) (exec_addI _ _ _ _ rfl (2 * (k : Int) + 1) 1 _ wr2 (by kernel_rfl) (by kernel_rfl)) hS0 ?_
        refine rgd_pure 10 (some 25) rfl rfl (.pointer (some ⟨G, (2 * k + 2) * 2, none⟩)) (by kernel_rfl) (by kernel_rfl) (by kernel_rfl) (fun _ _ _ _ h => h) (by kernel_rfl) (exec_idxE _ _ rfl G l.length cap (2 * k + 2) (by kernel_rfl) (by kernel_rfl) (by omega)) hS0 ?_
        refine rgd_pureS 11 (some 26) rfl rfl (ev (l'.getD (2 * k + 2) d)) (by kernel_rfl) (by kernel_rfl) (by kernel_rfl) (fun _ _ _ _ h => h) (by kernel_rfl) (fun V h => exec_loadE _ rfl G (2 * k + 2) _ (by kernel_rfl) (h.1.cells (2 * k + 2) (by omega)).1 (h.1.cells (2 * k + 2) (by omega)).2) hS0 ?_
        refine rgd_pure 12 (some 27) rfl rfl (.slice (some ⟨G, 0, none⟩) l.length cap) (by kernel_rfl) (by kernel_rfl) (by kernel_rfl) (fun _ _ _ _ h => h) (by kernel_rfl) (exec_is _ (.inl rfl) _ (by kernel_rfl)) hS0 ?_
        refine rgd_pure 13 (some 28) rfl rfl (.int .i64 (2 * (k : Int) + 1)) (by kernel_rfl) (by kernel_rfl) (by kernel_rfl) (fun _ _ _ _ h => h) (by kernel_rfl) (exec_is _ (.inl rfl) _ (by kernel_rfl)) hS0 ?_
        refine rgd_pure 14 (some 29) rfl rfl (.pointer (some ⟨G, (2 * k + 1) * 2, none⟩)) (by kernel_rfl) (by kernel_rfl) (by kernel_rfl) (fun _ _ _ _ h => h) (by kernel_rfl) (exec_idxE _ _ rfl G l.length cap (2 * k + 1) (by kernel_rfl) (by rw [← e1]; kernel_rfl) (by omega)) hS0 ?_
        refine rgd_pureS 15 (some 30) rfl rfl (ev (l'.getD (2 * k + 1) d)) (by kernel_rfl) (by kernel_rfl) (by kernel_rfl) (fun _ _ _ _ h => h) (by kernel_rfl) (fun V h => exec_loadE _ rfl G (2 * k + 1) _ (by kernel_rfl) (h.1.cells (2 * k + 1) (by omega)).1 (h.1.cells (2 * k + 1) (by omega)).2) hS0 ?_
        refine rgd_call 16 (some 31) (by kernel_rfl) rfl rfl (by kernel_rfl) F (#[ev (l'.getD (2 * k + 2) d), ev (l'.getD (2 * k + 1) d)] ++ caps) (exec_tell _ _ _ rfl F caps (by kernel_rfl) _ (by kernel_rfl) (TT.out.enter _ _)) (TT.out.tell _ _ _ (dom_at DM.out (by omega)) (dom_at DM.out (by omega)) hS0.2.1) ?_
        rintro e V2 ⟨rfl, hb2⟩
        have hS2 : ERow V2 B G cap l' ∧ S V2 ∧ w.grownBy V2 (some G) := ⟨hS0.1.kept hb2, FF.out _ _ hS0.2.1 (grown_below hb2), grown_trans hS0.2.2 (grown_below hb2)⟩
        refine ⟨_, rfl, hS2, ?_⟩
        rw [← hc]
        refine rgd_pure 17 (some 32) rfl rfl (.bool c) (by kernel_rfl) (by kernel_rfl) (by kernel_rfl) (fun _ _ _ _ h => h) (by kernel_rfl) (exec_pickT _ _ _ rfl _ (by kernel_rfl) (by kernel_rfl)) hS2 ?_
        exact wpAnyH_done (by kernel_rfl) (Eq.mp (by kernel_rfl) (KA _ hS2)) _
      · have KB : K { tmps := #[.slice (some ⟨G, 0, none⟩) l.length cap, .func (.func F) #[] caps, undef, undef, .int .i64 (k : Int), .int .i64 (2 * (k : Int) + 1), .int .i64 (k : Int), .int .i64 (2 * (k : Int)), .int .i64 (2 * (k : Int) + 1), .slice (some ⟨G, 0, none⟩) l.length cap, .int .i64 (l.length : Int), .bool true, .int .i64 (k : Int), .int .i64 (2 * (k : Int)), .int .i64 (2 * (k : Int) + 1), .int .i64 (2 * (k : Int) + 1), .int .i64 (2 * (k : Int) + 1 + 1), .slice (some ⟨G, 0, none⟩) l.length cap, .int .i64 (l.length : Int), .bool false, .bool false, undef, undef, undef, undef, undef, undef, undef, undef, undef, undef, undef, .bool false, u33, u34, u35, u36, u37, u38, u39, u40, u41, u42, u43, u44, u45, u46, u47, u48, u49, u50, u51, u52, u53, u54, u55, u56, u57, u58, u59, u60], defers := [] } wr.drew := by
          refine hK _ _ ?_
          have HS2 := Lib.hid hS0
          clear hK hS0 wr1 wr2 e1
          go_wp2
          exact KN wr.drew (2 * k + 1) _ _ _ _ _ _ _ _ _ _ _ _ _ _ _ _ _ _ _ _ _ (by omega) (by unfold nxt; rw [if_neg (fun h => h2 (by omega))]) HS2.out
        refine rg_calm (by kernel_rfl) rfl (S := fun V => ERow V B G cap l' ∧ S V ∧ w.grownBy V (some G)) ?_
        refine rgd_pure 0 (some 15) rfl rfl (.int .i64 (2 * (k : Int) + 1)) (by kernel_rfl) (by kernel_rfl) (by kernel_rfl) (fun _ _ _ _ h => h) (by kernel_rfl) (exec_is _ (.inl rfl) _ (by kernel_rfl)) hS0 ?_
        refine rgd_pure 1 (some 16) rfl rfl (.int .i64 (2 * (k : Int) + 1 + 1)) (by kernel_rfl) (by kernel_rfl) (by kernel_rfl) (fun _ _ _ _ h => h) (by kernel_rfl) (exec_addI _ _ _ _ rfl (2 * (k : Int) + 1) 1 _ wr1 (by kernel_rfl) (by kernel_rfl)) hS0 ?_
        refine rgd_pure 2 (some 17) rfl rfl (.slice (some ⟨G, 0, none⟩) l.length cap) (by kernel_rfl) (by kernel_rfl) (by kernel_rfl) (fun _ _ _ _ h => h) (by kernel_rfl) (exec_is _ (.inl rfl) _ (by kernel_rfl)) hS0 ?_
        refine rgd_pure 3 (some 18) rfl rfl (.int .i64 (l.length : Int)) (by kernel_rfl) (by kernel_rfl) (by kernel_rfl) (fun _ _ _ _ h => h) (by kernel_rfl) (fun w => by kernel_rfl) hS0 ?_
        refine rgd_pure 4 (some 19) rfl rfl (.bool false) (by kernel_rfl) (by kernel_rfl) (by kernel_rfl) (fun _ _ _ _ h => h) (by kernel_rfl) (exec_lss _ _ _ _ rfl (2 * (k : Int) + 1 + 1) (l.length : Int) false (decide_eq_false (by omega)) (by kernel_rfl) (by kernel_rfl)) hS0 ?_
        refine rgd_pure 5 (some 20) rfl rfl (.bool false) (by kernel_rfl) (by kernel_rfl) (by kernel_rfl) (fun _ _ _ _ h => h) (by kernel_rfl) (exec_is _ (.inl rfl) _ (by kernel_rfl)) hS0 ?_
        refine rgd_skip 6 (some 21) rfl rfl (by kernel_rfl) (by kernel_rfl) (by kernel_rfl) (fun _ _ _ _ h => h) (by kernel_rfl) hS0 ?_
        refine rgd_skip 7 (some 22) rfl rfl (by kernel_rfl) (by kernel_rfl) (by kernel_rfl) (fun _ _ _ _ h => h) (by kernel_rfl) hS0 ?_
        refine rgd_skip 8 (some 23) rfl rfl (by kernel_rfl) (by kernel_rfl) (by kernel_rfl) (fun _ _ _ _ h => h) (by kernel_rfl) hS0 ?_
        refine rgd_skip 9 (some 24) rfl rfl (by kernel_rfl) (by kernel_rfl) (by kernel_rfl) (fun _ _ _ _ h => h) (by kernel_rfl) hS0 ?_
        refine rgd_skip 10 (some 25) rfl rfl (by kernel_rfl) (by kernel_rfl) (by kernel_rfl) (fun _ _ _ _ h => h) (by kernel_rfl) hS0 ?_
        refine rgd_skip 11 (some 26) rfl rfl (by kernel_rfl) (by kernel_rfl) (by kernel_rfl) (fun _ _ _ _ h => h) (by kernel_rfl) hS0 ?_
        refine rgd_skip 12 (some 27) rfl rfl (by kernel_rfl) (by kernel_rfl) (by kernel_rfl) (fun _ _ _ _ h => h) (by kernel_rfl) hS0 ?_
        refine rgd_skip 13 (some 28) rfl rfl (by kernel_rfl) (by kernel_rfl) (by kernel_rfl) (fun _ _ _ _ h => h) (by kernel_rfl) hS0 ?_
        refine rgd_skip 14 (some 29) rfl rfl (by kernel_rfl) (by kernel_rfl) (by kernel_rfl) (fun _ _ _ _ h => h) (by kernel_rfl) hS0 ?_
        refine rgd_skip 15 (some 30) rfl rfl (by kernel_rfl) (by kernel_rfl) (by kernel_rfl) (fun _ _ _ _ h => h) (by kernel_rfl) hS0 ?_
        refine rgd_skip 16 (some 31) rfl rfl (by kernel_rfl) (by kernel_rfl) (by kernel_rfl) (fun _ _ _ _ h => h) (by kernel_rfl) hS0 ?_
        refine rgd_pure 17 (some 32) rfl rfl (.bool false) (by kernel_rfl) (by kernel_rfl) (by kernel_rfl) (fun _ _ _ _ h => h) (by kernel_rfl) (fun w => by kernel_rfl) hS0 ?_
        exact wpAnyH_done (by kernel_rfl) (Eq.mp (by kernel_rfl) KB) _
    · have h1' : ¬ 2 * (k : Int) + 1 < (l.length : Int) := by omega
      have e : R = l' := by
        have := RF.out
        cases f with
        | zero => exact this
        | succ f => rw [sinkF, if_neg (by omega)] at this; exact this
      go_wp2
      go_end0
      exact ⟨rfl, by first | exact RW.out | (rw [e]; exact RW.out), GR.out⟩
end Go.Proofs.Ytiadljcfcncbkaa
