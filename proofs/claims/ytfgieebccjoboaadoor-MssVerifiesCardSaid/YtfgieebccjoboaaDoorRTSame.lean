/- Whether two rows of hashes are one: the document's own answer, and the statements'. -/
import Derived.Test.YtfgieebccjoboaaDoorHashD
import Derived.Test.YtfgieebccjoboaaDoorTreeC
namespace Go.Proofs.YtfgieebccjoboaaDoor
open Go.RowKit

theorem hashes_ne {l k : List (List UInt8)} {j : Nat} (h1 : j < l.length) (h2 : j < k.length) (h : l[j] ≠ k[j]) : l ≠ k := by
  rintro rfl
  exact h rfl
theorem hashes_eq {l k : List (List UInt8)} {j : Nat} (h1 : j < l.length) (h2 : j < k.length) (ht : l.take j = k.take j) (h : l[j] = k[j]) : l.take (j + 1) = k.take (j + 1) := by
  rw [List.take_succ_eq_append_getElem h1, List.take_succ_eq_append_getElem h2, ht, h]
set_option maxRecDepth 100000 in
set_option maxHeartbeats 8000000 in
theorem ksame7_any {w : World} {a b : Value} {hs ks : List (List UInt8)} (ha : HV w a hs) (hb : HV w b ks) (h1 : hs.length ≤ 100000) :
    Calls Tryd.prog 22 #[a, b] w fun e w' => e = .returned (.bool (decide (hs = ks))) ∧ Below w.heap.size w w' := by
  obtain ⟨hl1, A, c, rfl, _, hr1⟩ := ha
  obtain ⟨hl2, B, d, rfl, _, hr2⟩ := hb
  obtain ⟨n, hn⟩ : ∃ n, hs.length = n := ⟨_, rfl⟩
  obtain ⟨m, hm⟩ : ∃ m, ks.length = m := ⟨_, rfl⟩
  have HN := Lib.hid hn
  have HM := Lib.hid hm
  rw [hn] at h1
  rw [hn, hm]
  clear hn hm
  by_cases hnm : n = m
  · have hne : ((n : Int) != (m : Int)) = false := by simp [hnm]
    subst hnm
    go_enter Tryd.func22, Tryd.ntmps22
    go_wp2_with fail
    go_loopw [5] (fun t wr => ∃ j : Nat, j ≤ n ∧ t = .int .i64 j ∧ Hid (hs.take j = ks.take j) ∧ Below w.heap.size w wr) (fun t _ => n - (intOf t).toNat)
    case atStart => exact ⟨0, Nat.zero_le _, rfl, Lib.hid rfl, Below.refl _ _⟩
    case round =>
      obtain ⟨j, hj, rfl, HT0, hbel⟩ := hrel
      by_cases hlt : j < n
      · have hji : (j : Int) < (n : Int) := by omega
        have hj1 : j < hs.length := by rw [HN.out]; exact hlt
        have hj2 : j < ks.length := by rw [HM.out]; exact hlt
        rcases hr1 with h0 | ⟨b1, o1, rfl, hb1, hc1⟩
        · rw [h0] at hj1; simp at hj1
        rcases hr2 with h0 | ⟨b2, o2, rfl, hb2, hc2⟩
        · rw [h0] at hj2; simp at hj2
        have hx1 := hc1 j hj1
        have hy1 := hc2 j hj2
        have HXL := Lib.hid (hl1 _ (List.getElem_mem hj1))
        have HYL := Lib.hid (hl2 _ (List.getElem_mem hj2))
        have HTY := Lib.hid (fun e => hashes_eq hj1 hj2 HT0.out e)
        have HTN := Lib.hid (fun e => hashes_ne hj1 hj2 e)
        obtain ⟨x, hx⟩ : ∃ x, hs[j] = x := ⟨_, rfl⟩
        obtain ⟨y, hy⟩ : ∃ y, ks[j] = y := ⟨_, rfl⟩
        rw [hx] at hx1 HXL HTY HTN
        rw [hy] at hy1 HYL HTY HTN
        obtain ⟨X, hX⟩ : ∃ X, X = (Lib.byteCells x).toArray := ⟨_, rfl⟩
        obtain ⟨Y, hY⟩ : ∃ Y, Y = (Lib.byteCells y).toArray := ⟨_, rfl⟩
        have HEX := Lib.hid hX
        have HEY := Lib.hid hY
        have HIX := Lib.hid (show (Tryd.prog.info? 29).map (·.size) = some (Lib.byteCells x).length by rw [Lib.byteCells_length, HXL.out]; kernel_rfl)
        have HIY := Lib.hid (show (Tryd.prog.info? 29).map (·.size) = some (Lib.byteCells y).length by rw [Lib.byteCells_length, HYL.out]; kernel_rfl)
        have HXB := Lib.hid (fun W (hb : Below wr.heap.size wr W) => rangeAt_keep hx1 fun j => (hbel.trans (hb.mono hbel.size)).cell hb1)
        have HYB := Lib.hid (fun W (hb : Below wr.heap.size wr W) => rangeAt_keep hy1 fun j => (hbel.trans (hb.mono hbel.size)).cell hb2)
        clear hx1 hy1 hc1 hc2 hx hy hX hY hj1 hj2
        by_cases he : x = y
        · have HT := Lib.hid (HTY.out he)
          have HD := Lib.hid (show decide (x = y) = true from decide_eq_true he)
          have HQ := Lib.hid (fun W => (show (Op.equalIn 10000 29 (.agg X) (.agg Y)).run Tryd.prog W = .ok true W by rw [HEX.out, HEY.out, ← HD.out]; exact run_hash_eq W x y HXL.out HYL.out))
          clear HT0 HTY HTN he HD
          go_wp2_with fail
          refine wp_region_loose 9 0 (fun i => false) (promises [.is (.slice (some ⟨b1, o1, none⟩) n c), .is (.int .i64 (j : Int)), .is (.pointer (some ⟨b1, o1 + j * 32, none⟩)), .is (.agg X), .is (.slice (some ⟨b2, o2, none⟩) n d), .is (.int .i64 (j : Int)), .is (.pointer (some ⟨b2, o2 + j * 32, none⟩)), .is (.agg Y), .is (.bool false)]) (by kernel_rfl) rfl (by kernel_rfl) (fun i v w w' h hb => Spec.keep h hb) ⟨?_, ?_, ?_, ?_, ?_, ?_, ?_, ?_, ?_, trivial⟩ ?_
          · refine StepOKl.of ?_
            intro ac w hb hu hk
            refine ⟨wanted_none rfl, ?_⟩
            have e0 : ac.eval (.tmp 0) = .slice (some ⟨b1, o1, none⟩) n c := hu.is (t := 0) (by kernel_rfl)
            exact step_value (BigFrame.run_move (.tmp 0) rfl w) (Below.refl _ _) e0
          · refine StepOKl.of ?_
            intro ac w hb hu hk
            refine ⟨wanted_none rfl, ?_⟩
            have e5 : ac.eval (.tmp 5) = .int .i64 (j : Int) := hu.is (t := 5) (by kernel_rfl)
            exact step_value (BigFrame.run_move (.tmp 5) rfl w) (Below.refl _ _) e5
          · refine StepOKl.of ?_
            intro ac w hb hu hk
            refine ⟨wanted_none rfl, ?_⟩
            have e17 : ac.eval (.tmp 17) = (.slice (some ⟨b1, o1, none⟩) n c) := (hk ⟨0, .data⟩ (by simp) rfl).is rfl rfl
            have e18 : ac.eval (.tmp 18) = (.int .i64 (j : Int)) := (hk ⟨1, .data⟩ (by simp) rfl).is rfl rfl
            refine step_value (w' := w) (v := (.pointer (some ⟨b1, o1 + j * 32, none⟩))) ?_ (Below.refl _ _) rfl
            generalize ac.eval = ρ at e17 e18 ⊢
            go_simp
          · refine StepOKl.of ?_
            intro ac w hb hu hk
            refine ⟨wanted_none rfl, ?_⟩
            have e19 : ac.eval (.tmp 19) = (.pointer (some ⟨b1, o1 + j * 32, none⟩)) := (hk ⟨2, .data⟩ (by simp) rfl).is rfl rfl
            refine step_value (w' := w) (v := .agg X) (run_load_row 29 (.tmp 19) rfl b1 (o1 + j * 32) e19 (Lib.byteCells x) _ (HXB.out w hb) Tryd.underlying29 rfl HIX.out HEX.out) (Below.refl _ _) rfl
          · refine StepOKl.of ?_
            intro ac w hb hu hk
            refine ⟨wanted_none rfl, ?_⟩
            have e1 : ac.eval (.tmp 1) = .slice (some ⟨b2, o2, none⟩) n d := hu.is (t := 1) (by kernel_rfl)
            exact step_value (BigFrame.run_move (.tmp 1) rfl w) (Below.refl _ _) e1
          · refine StepOKl.of ?_
            intro ac w hb hu hk
            refine ⟨wanted_none rfl, ?_⟩
            have e5 : ac.eval (.tmp 5) = .int .i64 (j : Int) := hu.is (t := 5) (by kernel_rfl)
            exact step_value (BigFrame.run_move (.tmp 5) rfl w) (Below.refl _ _) e5
          · refine StepOKl.of ?_
            intro ac w hb hu hk
            refine ⟨wanted_none rfl, ?_⟩
            have e21 : ac.eval (.tmp 21) = (.slice (some ⟨b2, o2, none⟩) n d) := (hk ⟨4, .data⟩ (by simp) rfl).is rfl rfl
            have e22 : ac.eval (.tmp 22) = (.int .i64 (j : Int)) := (hk ⟨5, .data⟩ (by simp) rfl).is rfl rfl
            refine step_value (w' := w) (v := (.pointer (some ⟨b2, o2 + j * 32, none⟩))) ?_ (Below.refl _ _) rfl
            generalize ac.eval = ρ at e21 e22 ⊢
            go_simp
          · refine StepOKl.of ?_
            intro ac w hb hu hk
            refine ⟨wanted_none rfl, ?_⟩
            have e23 : ac.eval (.tmp 23) = (.pointer (some ⟨b2, o2 + j * 32, none⟩)) := (hk ⟨6, .data⟩ (by simp) rfl).is rfl rfl
            refine step_value (w' := w) (v := .agg Y) (run_load_row 29 (.tmp 23) rfl b2 (o2 + j * 32) e23 (Lib.byteCells y) _ (HYB.out w hb) Tryd.underlying29 rfl HIY.out HEY.out) (Below.refl _ _) rfl
          · refine StepOKl.of ?_
            intro ac w hb hu hk
            refine ⟨wanted_none rfl, ?_⟩
            have e20 : ac.eval (.tmp 20) = (.agg X) := (hk ⟨3, .data⟩ (by simp) rfl).is rfl rfl
            have e24 : ac.eval (.tmp 24) = (.agg Y) := (hk ⟨7, .data⟩ (by simp) rfl).is rfl rfl
            refine step_value (w' := w) (v := .bool false) ?_ (Below.refl _ _) rfl
            have hq := HQ.out w
            generalize ac.eval = ρ at e20 e24 ⊢
            go_simp
          · intro ac w' hb hu hk hap
            obtain ⟨_, h17, rfl⟩ := (hk 0 (by decide)).put rfl rfl
            obtain ⟨_, h18, rfl⟩ := (hk 1 (by decide)).put rfl rfl
            obtain ⟨_, h19, rfl⟩ := (hk 2 (by decide)).put rfl rfl
            obtain ⟨_, h20, rfl⟩ := (hk 3 (by decide)).put rfl rfl
            obtain ⟨_, h21, rfl⟩ := (hk 4 (by decide)).put rfl rfl
            obtain ⟨_, h22, rfl⟩ := (hk 5 (by decide)).put rfl rfl
            obtain ⟨_, h23, rfl⟩ := (hk 6 (by decide)).put rfl rfl
            obtain ⟨_, h24, rfl⟩ := (hk 7 (by decide)).put rfl rfl
            obtain ⟨_, h25, rfl⟩ := (hk 8 (by decide)).put rfl rfl
            clear hap
            have hF : AllPuts ac.tmps ((17, _) :: (18, _) :: (19, _) :: (20, _) :: (21, _) :: (22, _) :: (23, _) :: (24, _) :: (25, _) :: []) := ⟨h17, h18, h19, h20, h21, h22, h23, h24, h25, trivial⟩
            obtain rfl := frame_puts hu (by kernel_rfl) hF
            simp only [puts, Act.put, List.setIfInBounds_toArray, List.set_cons_zero, List.set_cons_succ, List.drop_succ_cons, List.drop_nil]
            clear hk hu hF h17 h18 h19 h20 h21 h22 h23 h24 h25
            have hb2 := hbel.trans (hb.mono hbel.size)
            clear hb hbel HXB HYB HQ
            go_wp2_with fail
            go_roundw
            case rel => exact ⟨j + 1, by omega, by go_num, HT, hb2⟩
            case measure => simp [intOf]; omega
        · have HF := Lib.hid (show decide (hs = ks) = false from decide_eq_false (HTN.out he))
          have HD := Lib.hid (show decide (x = y) = false from decide_eq_false he)
          have HQ := Lib.hid (fun W => (show (Op.equalIn 10000 29 (.agg X) (.agg Y)).run Tryd.prog W = .ok false W by rw [HEX.out, HEY.out, ← HD.out]; exact run_hash_eq W x y HXL.out HYL.out))
          clear HT0 HTY HTN he HD
          go_wp2_with fail
          refine wp_region_loose 9 0 (fun i => false) (promises [.is (.slice (some ⟨b1, o1, none⟩) n c), .is (.int .i64 (j : Int)), .is (.pointer (some ⟨b1, o1 + j * 32, none⟩)), .is (.agg X), .is (.slice (some ⟨b2, o2, none⟩) n d), .is (.int .i64 (j : Int)), .is (.pointer (some ⟨b2, o2 + j * 32, none⟩)), .is (.agg Y), .is (.bool true)]) (by kernel_rfl) rfl (by kernel_rfl) (fun i v w w' h hb => Spec.keep h hb) ⟨?_, ?_, ?_, ?_, ?_, ?_, ?_, ?_, ?_, trivial⟩ ?_
          · refine StepOKl.of ?_
            intro ac w hb hu hk
            refine ⟨wanted_none rfl, ?_⟩
            have e0 : ac.eval (.tmp 0) = .slice (some ⟨b1, o1, none⟩) n c := hu.is (t := 0) (by kernel_rfl)
            exact step_value (BigFrame.run_move (.tmp 0) rfl w) (Below.refl _ _) e0
          · refine StepOKl.of ?_
            intro ac w hb hu hk
            refine ⟨wanted_none rfl, ?_⟩
            have e5 : ac.eval (.tmp 5) = .int .i64 (j : Int) := hu.is (t := 5) (by kernel_rfl)
            exact step_value (BigFrame.run_move (.tmp 5) rfl w) (Below.refl _ _) e5
          · refine StepOKl.of ?_
            intro ac w hb hu hk
            refine ⟨wanted_none rfl, ?_⟩
            have e17 : ac.eval (.tmp 17) = (.slice (some ⟨b1, o1, none⟩) n c) := (hk ⟨0, .data⟩ (by simp) rfl).is rfl rfl
            have e18 : ac.eval (.tmp 18) = (.int .i64 (j : Int)) := (hk ⟨1, .data⟩ (by simp) rfl).is rfl rfl
            refine step_value (w' := w) (v := (.pointer (some ⟨b1, o1 + j * 32, none⟩))) ?_ (Below.refl _ _) rfl
            generalize ac.eval = ρ at e17 e18 ⊢
            go_simp
          · refine StepOKl.of ?_
            intro ac w hb hu hk
            refine ⟨wanted_none rfl, ?_⟩
            have e19 : ac.eval (.tmp 19) = (.pointer (some ⟨b1, o1 + j * 32, none⟩)) := (hk ⟨2, .data⟩ (by simp) rfl).is rfl rfl
            refine step_value (w' := w) (v := .agg X) (run_load_row 29 (.tmp 19) rfl b1 (o1 + j * 32) e19 (Lib.byteCells x) _ (HXB.out w hb) Tryd.underlying29 rfl HIX.out HEX.out) (Below.refl _ _) rfl
          · refine StepOKl.of ?_
            intro ac w hb hu hk
            refine ⟨wanted_none rfl, ?_⟩
            have e1 : ac.eval (.tmp 1) = .slice (some ⟨b2, o2, none⟩) n d := hu.is (t := 1) (by kernel_rfl)
            exact step_value (BigFrame.run_move (.tmp 1) rfl w) (Below.refl _ _) e1
          · refine StepOKl.of ?_
            intro ac w hb hu hk
            refine ⟨wanted_none rfl, ?_⟩
            have e5 : ac.eval (.tmp 5) = .int .i64 (j : Int) := hu.is (t := 5) (by kernel_rfl)
            exact step_value (BigFrame.run_move (.tmp 5) rfl w) (Below.refl _ _) e5
          · refine StepOKl.of ?_
            intro ac w hb hu hk
            refine ⟨wanted_none rfl, ?_⟩
            have e21 : ac.eval (.tmp 21) = (.slice (some ⟨b2, o2, none⟩) n d) := (hk ⟨4, .data⟩ (by simp) rfl).is rfl rfl
            have e22 : ac.eval (.tmp 22) = (.int .i64 (j : Int)) := (hk ⟨5, .data⟩ (by simp) rfl).is rfl rfl
            refine step_value (w' := w) (v := (.pointer (some ⟨b2, o2 + j * 32, none⟩))) ?_ (Below.refl _ _) rfl
            generalize ac.eval = ρ at e21 e22 ⊢
            go_simp
          · refine StepOKl.of ?_
            intro ac w hb hu hk
            refine ⟨wanted_none rfl, ?_⟩
            have e23 : ac.eval (.tmp 23) = (.pointer (some ⟨b2, o2 + j * 32, none⟩)) := (hk ⟨6, .data⟩ (by simp) rfl).is rfl rfl
            refine step_value (w' := w) (v := .agg Y) (run_load_row 29 (.tmp 23) rfl b2 (o2 + j * 32) e23 (Lib.byteCells y) _ (HYB.out w hb) Tryd.underlying29 rfl HIY.out HEY.out) (Below.refl _ _) rfl
          · refine StepOKl.of ?_
            intro ac w hb hu hk
            refine ⟨wanted_none rfl, ?_⟩
            have e20 : ac.eval (.tmp 20) = (.agg X) := (hk ⟨3, .data⟩ (by simp) rfl).is rfl rfl
            have e24 : ac.eval (.tmp 24) = (.agg Y) := (hk ⟨7, .data⟩ (by simp) rfl).is rfl rfl
            refine step_value (w' := w) (v := .bool true) ?_ (Below.refl _ _) rfl
            have hq := HQ.out w
            generalize ac.eval = ρ at e20 e24 ⊢
            go_simp
          · intro ac w' hb hu hk hap
            obtain ⟨_, h17, rfl⟩ := (hk 0 (by decide)).put rfl rfl
            obtain ⟨_, h18, rfl⟩ := (hk 1 (by decide)).put rfl rfl
            obtain ⟨_, h19, rfl⟩ := (hk 2 (by decide)).put rfl rfl
            obtain ⟨_, h20, rfl⟩ := (hk 3 (by decide)).put rfl rfl
            obtain ⟨_, h21, rfl⟩ := (hk 4 (by decide)).put rfl rfl
            obtain ⟨_, h22, rfl⟩ := (hk 5 (by decide)).put rfl rfl
            obtain ⟨_, h23, rfl⟩ := (hk 6 (by decide)).put rfl rfl
            obtain ⟨_, h24, rfl⟩ := (hk 7 (by decide)).put rfl rfl
            obtain ⟨_, h25, rfl⟩ := (hk 8 (by decide)).put rfl rfl
            clear hap
            have hF : AllPuts ac.tmps ((17, _) :: (18, _) :: (19, _) :: (20, _) :: (21, _) :: (22, _) :: (23, _) :: (24, _) :: (25, _) :: []) := ⟨h17, h18, h19, h20, h21, h22, h23, h24, h25, trivial⟩
            obtain rfl := frame_puts hu (by kernel_rfl) hF
            simp only [puts, Act.put, List.setIfInBounds_toArray, List.set_cons_zero, List.set_cons_succ, List.drop_succ_cons, List.drop_nil]
            clear hk hu hF h17 h18 h19 h20 h21 h22 h23 h24 h25
            have hb2 := hbel.trans (hb.mono hbel.size)
            clear hb hbel HXB HYB HQ
            go_wp2_with fail
            go_ret
            exact ⟨ret_bool HF.out.symm, hb2⟩
      · obtain rfl : j = n := by omega
        have hji : ¬ (j : Int) < (j : Int) := by omega
        have HF := Lib.hid (show decide (hs = ks) = true from decide_eq_true (by
          have := HT0.out
          rwa [List.take_of_length_le (by rw [HN.out]; exact Nat.le_refl _), List.take_of_length_le (by rw [HM.out]; exact Nat.le_refl _)] at this))
        clear HT0
        go_wp2_with fail
        go_ret
        exact ⟨ret_bool HF.out.symm, hbel⟩
  · have hne : ((n : Int) != (m : Int)) = true := by simp only [bne_iff_ne, ne_eq]; omega
    have HF := Lib.hid (show decide (hs = ks) = false from decide_eq_false (fun e => hnm (by rw [← HN.out, ← HM.out, e])))
    clear hnm
    go_enter Tryd.func22, Tryd.ntmps22
    go_wp2_with fail
    go_ret
    exact ⟨ret_bool HF.out.symm, Below.refl _ _⟩
end Go.Proofs.YtfgieebccjoboaaDoor
