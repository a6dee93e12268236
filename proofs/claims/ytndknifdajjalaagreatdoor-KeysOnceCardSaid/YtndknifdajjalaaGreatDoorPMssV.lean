/- The document's own check of a signature. -/
import Derived.Test.YtndknifdajjalaaGreatDoorPMpB
import Derived.Test.YtndknifdajjalaaGreatDoorPWotsD
namespace Go.Proofs.YtndknifdajjalaaGreatDoor
open Go.RowKit

set_option maxRecDepth 100000 in
set_option maxHeartbeats 16000000 in
theorem rverify9_any (fp : List UInt8) (A : Option Addr) (n c : Nat) (m : List UInt8) (s : SigV) (V P : Option Addr) (nv cv np cp : Nat) (w : World) (hfp : fp.length = 32) (hn : m.length = n) (h1 : n ≤ 1000) (hc : n ≤ c) (hcm : c ≤ maxLen) (hr : Rd w w.heap.size A m) (hv : HV w (.slice V nv cv) s.vs) (hvl : s.vs.length = nv) (hp : HV w (.slice P np cp) s.ps) (hpl : s.ps.length = np) (hnp : np ≤ 1024) :
    Calls Tryz.prog 11 #[.agg (u8A fp), .slice A n c, .agg #[.int .i64 s.h, .int .i64 s.l, .slice V nv cv, .slice P np cp]] w fun e w' => e = .returned (.bool (decide (verP fp m s))) ∧ Below w.heap.size w w' := by
  obtain ⟨FA, hFA⟩ : ∃ x, u8A fp = x := ⟨_, rfl⟩
  have HFA := Lib.hid hFA
  have HFS := Lib.hid (show FA.size = 32 by rw [← hFA, u8A_size]; exact hfp)
  have HFP := Lib.hid hfp
  have HRD := Lib.hid (fun W (hW : Below w.heap.size w W) => hr.on hW)
  have HVV := Lib.hid (fun W (hW : Below w.heap.size w W) => hv.on hW)
  have HPP := Lib.hid (fun W (hW : Below w.heap.size w W) => hp.on hW)
  have HVL := Lib.hid hvl
  have HPL := Lib.hid hpl
  have HN := Lib.hid hn
  obtain ⟨sh, sl, vs, ps⟩ := s
  have HNO := Lib.hid (fun h : ¬ sigOK ⟨sh, sl, vs, ps⟩ => (fun h2 => h h2.1 : ¬ verP fp m ⟨sh, sl, vs, ps⟩))
  rw [hFA]
  clear hFA hr hv hp hn hfp hvl hpl
  go_enter Tryz.func11, Tryz.ntmps11
  go_upto_region 1 with fail
  generalize hw3 : World.alloc _ _ = w3
  obtain ⟨g3, hg3⟩ : ∃ g, w.heap.size = g := ⟨_, rfl⟩
  obtain ⟨g5, hg5⟩ : ∃ g, w.heap.size + 1 = g := ⟨_, rfl⟩
  have hf : Blk w3 g3 FA 44 ∧ Blk w3 g5 #[.int .i64 sh, .int .i64 sl, .slice V nv cv, .slice P np cp] 39 ∧ Below w.heap.size w w3 := by
    have hw : w3 = (w.alloc (.cells FA 44)).alloc (.cells #[.int .i64 sh, .int .i64 sl, .slice V nv cv, .slice P np cp] 39) := hw3.symm
    have e1 : (w.alloc (.cells FA 44)).heap.size = w.heap.size + 1 := by simp
    rw [hw, ← hg3, ← hg5]
    refine ⟨(Blk.new w _ _).alloc _, ?_, ((Below.refl _ _).alloc (Nat.le_refl _) _).alloc (by simp) _⟩
    rw [← e1]; exact Blk.new _ _ _
  have HTF := Lib.hid hf.1
  have HTS := Lib.hid hf.2.1
  have HBW := Lib.hid hf.2.2
  clear hf hw3
  rw [hg5, hg3]
  clear hg5 hg3
  have hs0 := HTS.out.cell 0
  have hs1 := HTS.out.cell 1
  have hs2 := HTS.out.cell 2
  have hs3 := HTS.out.cell 3
  simp at hs0 hs1 hs2 hs3
  by_cases h0 : sh < 0
  · have hno := HNO.out (fun h => by have := h.1; simp at this; omega)
    go_wp2_with fail
    go_ret
    exact ⟨ret_bool (decide_eq_false hno).symm, HBW.out⟩
  · have h0' : ¬ sh < 0 := h0
    by_cases h4 : sh > 4
    · have hno := HNO.out (fun h => by have := h.2.1; simp at this; omega)
      go_wp2_with fail
      go_ret
      exact ⟨ret_bool (decide_eq_false hno).symm, HBW.out⟩
    · obtain ⟨k, hk⟩ : ∃ k : Nat, sh = (k : Int) := ⟨sh.toNat, by omega⟩
      subst hk
      have hk4 : k ≤ 4 := by omega
      by_cases h67 : nv = 67
      · subst h67
        have HRC := Lib.hid (fun W (hW : Below w.heap.size w W) => rrec8_yes A n c m V cv vs W HN.out h1 hc hcm (HRD.out W hW) (HVV.out W hW))
        rw [show pubH (atL (endF (digH (msgH m)) vs) 67) = recV m vs from rfl] at HRC
        have HCL := Lib.hid (fun W (hW : Below w.heap.size w W) => rclimb7_any ((2 ^ k : Nat) : Int) sl (recV m vs) P np cp ps W HPL.out hnp (recV_len _ _) (HPP.out W hW).1 (HPP.out W hW).rd8)
        obtain ⟨Q, hQ⟩ : ∃ x, u8A (recV m vs) = x := ⟨_, rfl⟩
        have HQS := Lib.hid (show Q.size = 32 by rw [← hQ, u8A_size]; exact recV_len _ _)
        have HQO := Lib.hid (show Q.all (·.oneCell') = true by rw [← hQ]; exact u8A_one _)
        obtain ⟨x, hx⟩ : ∃ x, climbV ((2 ^ k : Nat) : Int) sl (recV m vs) ps = x := ⟨_, rfl⟩
        have hxl : x.length = 32 := by rw [← hx]; exact climbV_len9 (recV_len _ _) _
        obtain ⟨R, hR⟩ : ∃ y, u8A x = y := ⟨_, rfl⟩
        have HRS := Lib.hid (show R.size = 32 by rw [← hR, u8A_size]; exact hxl)
        have HRO := Lib.hid (show R.all (·.oneCell') = true by rw [← hR]; exact u8A_one _)
        unfold ClimbEnd at HCL
        rw [hx, hQ, hR] at HCL
        rw [hQ] at HRC
        have HVE := Lib.hid (show verP fp m ⟨(k : Int), sl, vs, ps⟩ ↔ climbOK ((2 ^ k : Nat) : Int) sl ps.length ∧ printH (k : Int) x = fp by
          unfold verP sigOK sigRoot
          simp only [Int.toNat_natCast]
          rw [hx]
          constructor
          · rintro ⟨⟨_, _, _, a⟩, b⟩
            exact ⟨a, b⟩
          · rintro ⟨a, b⟩
            exact ⟨⟨by omega, by omega, HVL.out, a⟩, b⟩)
        have hN256 : 2 ^ k ≤ 16 := Nat.pow_le_pow_right (n := 2) (by omega) hk4
        have hp1 : (2 : Int) ^ k = ((2 ^ k : Nat) : Int) := by simp
        obtain ⟨N, hN⟩ : ∃ N, 2 ^ k = N := ⟨_, rfl⟩
        rw [hN] at HCL HVE hN256 hp1
        clear hQ hx hN
        go_wp2_with fail
        with_reducible refine (HRC.out w3 HBW.out).mono ?_
        rintro e w4 ⟨rfl, hb⟩
        replace HTF := Lib.hid (HTF.out.below hb HTF.out.lt)
        replace HTS := Lib.hid (HTS.out.below hb HTS.out.lt)
        replace HBW := Lib.hid (HBW.out.trans (hb.mono HBW.out.size))
        clear hb HRC hs0 hs1 hs2 hs3
        go_upto_region 4 with (with_reducible refine wpList_store_blk rfl 44 (.tmp 7) (.tmp 23) rfl w4.heap.size Q rfl rfl 44 _ (Blk.new _ _ _) (by rw [HQS.out]; kernel_rfl) (by rw [HQS.out]; kernel_rfl) HQO.out ?_)
        generalize hwn : World.setRow _ _ _ = w5
        have hal : Below w4.heap.size w4 w5 := by
          rw [← hwn]
          exact below_row ((Below.refl _ _).alloc (Nat.le_refl _) _) (by simp) (Nat.le_refl _) _
        have HT7 := Lib.hid (show Blk w5 w4.heap.size Q 44 by
          rw [← hwn]
          exact (Blk.new _ _ _).row _)
        obtain ⟨g7, hgn⟩ : ∃ g, w4.heap.size = g := ⟨_, rfl⟩
        replace HBW := Lib.hid (HBW.out.trans (hal.mono HBW.out.size))
        replace HTF := Lib.hid (HTF.out.below hal HTF.out.lt)
        replace HTS := Lib.hid (HTS.out.below hal HTS.out.lt)
        rw [hgn] at HT7 ⊢
        clear hal hwn hgn
        have hs0 := HTS.out.cell 0
        have hs1 := HTS.out.cell 1
        have hs2 := HTS.out.cell 2
        have hs3 := HTS.out.cell 3
        simp at hs0 hs1 hs2 hs3
        go_wp2_with (with_reducible refine wpList_load_blk rfl 44 (.tmp 7) rfl g7 rfl 44 Q _ HT7.out Tryz.underlying44 rfl (by rw [HQS.out]; kernel_rfl) ?_)
        with_reducible refine (HCL.out w5 HBW.out).mono ?_
        rintro e w6 ⟨rfl, hb⟩
        replace HTF := Lib.hid (HTF.out.below hb HTF.out.lt)
        replace HTS := Lib.hid (HTS.out.below hb HTS.out.lt)
        replace HBW := Lib.hid (HBW.out.trans (hb.mono HBW.out.size))
        clear hb HCL hs0 hs1 hs2 hs3 HT7
        go_upto_region 7 with (with_reducible refine wpList_store_blk rfl 44 (.tmp 9) (.tmp 38) rfl w6.heap.size R rfl rfl 44 _ (Blk.new _ _ _) (by rw [HRS.out]; kernel_rfl) (by rw [HRS.out]; kernel_rfl) HRO.out ?_)
        generalize hwn : World.setRow _ _ _ = w7
        have hal : Below w6.heap.size w6 w7 := by
          rw [← hwn]
          exact below_row ((Below.refl _ _).alloc (Nat.le_refl _) _) (by simp) (Nat.le_refl _) _
        have HT9 := Lib.hid (show Blk w7 w6.heap.size R 44 by
          rw [← hwn]
          exact (Blk.new _ _ _).row _)
        obtain ⟨g9, hgn⟩ : ∃ g, w6.heap.size = g := ⟨_, rfl⟩
        replace HBW := Lib.hid (HBW.out.trans (hal.mono HBW.out.size))
        replace HTF := Lib.hid (HTF.out.below hal HTF.out.lt)
        replace HTS := Lib.hid (HTS.out.below hal HTS.out.lt)
        rw [hgn] at HT9 ⊢
        clear hal hwn hgn
        by_cases hok : climbOK (N : Int) sl ps.length
        · have HRR := Lib.hid (show decide (printH (k : Int) x = fp) = decide (verP fp m ⟨(k : Int), sl, vs, ps⟩) by
            congr 1
            exact propext ⟨fun h => HVE.out.2 ⟨hok, h⟩, fun h => (HVE.out.1 h).2⟩)
          rw [decide_eq_true hok]
          have HC0 := Lib.hid (fun W (hW : Below w7.heap.size w7 W) => (show W.cell? ⟨g5, 0, none⟩ = some (.int .i64 (k : Int)) by rw [(HTS.out.below hW HTS.out.lt).cell 0]; rfl))
          have HB9 := Lib.hid (fun W (hW : Below w7.heap.size w7 W) => HT9.out.below hW HT9.out.lt)
          have HB3F := Lib.hid (fun W (hW : Below w7.heap.size w7 W) => HTF.out.below hW HTF.out.lt)
          obtain ⟨tl, htl⟩ : ∃ y, printT (k : Int) x = y := ⟨_, rfl⟩
          obtain ⟨q, hq⟩ : ∃ q, tl.length = q := ⟨_, rfl⟩
          have HPT := Lib.hid (fun W => (show Calls Tryz.prog 38 #[.int .i64 (k : Int), .agg R] W fun e w' => ∃ A c, e = .returned (.slice A q c) ∧ q ≤ c ∧ Rd w' w'.heap.size A tl ∧ Below W.heap.size W w' from by
            rw [← hR, ← hq, ← htl]
            exact rprinttext_any (k : Int) x W hxl (by omega)))
          obtain ⟨z, hz⟩ : ∃ z, printH (k : Int) x = z := ⟨_, rfl⟩
          have hzl : z.length = 32 := by rw [← hz]; exact printH_len _ _
          obtain ⟨Z, hZ⟩ : ∃ y, u8A z = y := ⟨_, rfl⟩
          have HSU := Lib.hid (fun A c W (hr : Rd W W.heap.size A tl) => (show Calls Tryz.prog 37 #[.slice A q c] W fun e w' => e = .returned (.agg Z) ∧ Below W.heap.size W w' from by
            rw [← hZ, ← hz]
            unfold printH
            rw [htl]
            exact rsum_any A q c tl W hq (by rw [← hq, ← htl]; exact printT_short _ _ hxl) hr))
          rw [hz] at HRR
          obtain ⟨rr, hrr⟩ : ∃ b, decide (z = fp) = b := ⟨_, rfl⟩
          rw [hrr] at HRR
          have HEQ := Lib.hid (fun W => (show (Op.equalIn 10000 44 (.agg Z) (.agg FA)).run Tryz.prog W = .ok rr W by rw [← hZ, ← HFA.out, run_hash_eq W _ _ hzl HFP.out, hrr]))
          clear hok htl hq hz hzl hZ hrr hR hxl HVE HTF HTS HT9 HNO
          go_wp2_with fail
          refine wp_region_loose 10 1 (fun i => false) (promises [.is (.bool true), .is (.bool true), .is (.pointer (some ⟨g5, 0, none⟩)), .is (.int .i64 (k : Int)), .is (.agg R), .bytes q tl, .is (.agg Z), .is (.agg FA), .is (.bool rr), .is (.bool rr)]) (by kernel_rfl) rfl (by kernel_rfl) (fun i v w w' h hb => Spec.keep h hb) ⟨?_, ?_, ?_, ?_, ?_, ?_, ?_, ?_, ?_, ?_, trivial⟩ ?_
          · refine StepOKl.of ?_
            intro ac w hb hu hk
            refine ⟨wanted_none rfl, ?_⟩
            have e8 : ac.eval (.tmp 8) = .bool true := hu.is (t := 8) (by kernel_rfl)
            exact step_value (BigFrame.run_move (.tmp 8) rfl w) (Below.refl _ _) e8
          · refine StepOKl.of ?_
            intro ac w hb hu hk
            refine ⟨wanted_none rfl, ?_⟩
            have e40 : ac.eval (.tmp 40) = (.bool true) := (hk ⟨0, .data⟩ (by simp) rfl).is rfl rfl
            exact step_value (BigFrame.run_move (.tmp 40) rfl w) (Below.refl _ _) e40
          · refine StepOKl.of ?_
            intro ac w hb hu hk
            refine ⟨wanted_some rfl (hk ⟨1, .guard⟩ (by simp) rfl) rfl rfl (fun _ h => h), ?_⟩
            have e5 : ac.eval (.tmp 5) = .pointer (some ⟨g5, 0, none⟩) := hu.is (t := 5) (by kernel_rfl)
            refine step_value (w' := w) (v := (.pointer (some ⟨g5, 0, none⟩))) ?_ (Below.refl _ _) rfl
            generalize ac.eval = ρ at e5 ⊢
            go_simp
          · refine StepOKl.of ?_
            intro ac w hb hu hk
            refine ⟨wanted_some rfl (hk ⟨1, .guard⟩ (by simp) rfl) rfl rfl (fun _ h => h), ?_⟩
            have e42 : ac.eval (.tmp 42) = (.pointer (some ⟨g5, 0, none⟩)) := (hk ⟨2, .data⟩ (by simp) rfl).is rfl rfl
            have hc := HC0.out w hb
            refine step_value (w' := w) (v := .int .i64 (k : Int)) ?_ (Below.refl _ _) rfl
            generalize ac.eval = ρ at e42 ⊢
            go_simp
          · refine StepOKl.of ?_
            intro ac w hb hu hk
            refine ⟨wanted_some rfl (hk ⟨1, .guard⟩ (by simp) rfl) rfl rfl (fun _ h => h), ?_⟩
            have e9 : ac.eval (.tmp 9) = .pointer (some ⟨g9, 0, none⟩) := hu.is (t := 9) (by kernel_rfl)
            exact wp_load_row 44 (.tmp 9) rfl g9 e9 44 R (0, 0) _ (HB9.out w hb) Tryz.underlying44 rfl (by rw [HRS.out]; kernel_rfl) ⟨_, rfl, rfl, Below.refl _ _⟩
          · refine StepOKl.of ?_
            intro ac w hb hu hk
            refine ⟨wanted_some rfl (hk ⟨1, .chain⟩ (by simp) rfl) rfl rfl (fun _ h => h), ?_⟩
            have e43 : ac.eval (.tmp 43) = (.int .i64 (k : Int)) := (hk ⟨3, .data⟩ (by simp) rfl).is rfl rfl
            have e44 : ac.eval (.tmp 44) = (.agg R) := (hk ⟨4, .data⟩ (by simp) rfl).is rfl rfl
            have ef : ac.eval (.func 38) = .func (.func 38) #[] #[] := rfl
            refine step_enter (f := 38) (args := #[.int .i64 (k : Int), .agg R]) ?_ ?_
            · generalize ac.eval = ρ at e43 e44 ef ⊢
              go_simp
            · exact (HPT.out w).mono fun e w' ⟨A, c, he, hc, hr, hq⟩ => ⟨_, he, ⟨A, c, rfl, hc, hr⟩, hq⟩
          · refine StepOKl.of ?_
            intro ac w hb hu hk
            refine ⟨wanted_some rfl (hk ⟨1, .guard⟩ (by simp) rfl) rfl rfl (fun _ h => h), ?_⟩
            have e45 : ∃ X c, ac.eval (.tmp 45) = .slice X q c ∧ q ≤ c ∧ Rd w w.heap.size X tl := (hk ⟨5, .data⟩ (by simp) rfl).is rfl rfl
            obtain ⟨X, xc, eX, hxc, hX⟩ := e45
            have ef : ac.eval (.func 37) = .func (.func 37) #[] #[] := rfl
            refine step_enter (f := 37) (args := #[.slice X q xc]) ?_ ?_
            · generalize ac.eval = ρ at eX ef ⊢
              go_simp
            · exact (HSU.out X xc w hX).mono fun e w' ⟨he, hq⟩ => ⟨_, he, rfl, hq⟩
          · refine StepOKl.of ?_
            intro ac w hb hu hk
            refine ⟨wanted_some rfl (hk ⟨1, .guard⟩ (by simp) rfl) rfl rfl (fun _ h => h), ?_⟩
            have e3 : ac.eval (.tmp 3) = .pointer (some ⟨g3, 0, none⟩) := hu.is (t := 3) (by kernel_rfl)
            exact wp_load_row 44 (.tmp 3) rfl g3 e3 44 FA (0, 0) _ (HB3F.out w hb) Tryz.underlying44 rfl (by rw [HFS.out]; kernel_rfl) ⟨_, rfl, rfl, Below.refl _ _⟩
          · refine StepOKl.of ?_
            intro ac w hb hu hk
            refine ⟨wanted_some rfl (hk ⟨1, .guard⟩ (by simp) rfl) rfl rfl (fun _ h => h), ?_⟩
            have e46 : ac.eval (.tmp 46) = (.agg Z) := (hk ⟨6, .data⟩ (by simp) rfl).is rfl rfl
            have e47 : ac.eval (.tmp 47) = (.agg FA) := (hk ⟨7, .data⟩ (by simp) rfl).is rfl rfl
            refine step_value (w' := w) (v := .bool rr) ?_ (Below.refl _ _) rfl
            have hq := HEQ.out w
            generalize ac.eval = ρ at e46 e47 ⊢
            go_simp
          · refine StepOKl.of ?_
            intro ac w hb hu hk
            refine ⟨wanted_none rfl, ?_⟩
            have e41 : ac.eval (.tmp 41) = (.bool true) := (hk ⟨1, .data⟩ (by simp) rfl).is rfl rfl
            have e48 : ac.eval (.tmp 48) = (.bool rr) := (hk ⟨8, .data⟩ (by simp) rfl).is rfl rfl
            exact step_value (run_pick_true e41 rfl w) (Below.refl _ _) e48
          · intro ac w' hb hu hk hap
            obtain ⟨_, h40, rfl⟩ := (hk 0 (by decide)).put rfl rfl
            obtain ⟨_, h41, rfl⟩ := (hk 1 (by decide)).put rfl rfl
            obtain ⟨_, h42, rfl⟩ := (hk 2 (by decide)).put rfl rfl
            obtain ⟨_, h43, rfl⟩ := (hk 3 (by decide)).put rfl rfl
            obtain ⟨_, h44, rfl⟩ := (hk 4 (by decide)).put rfl rfl
            obtain ⟨_, h45, ⟨X45, xc45, rfl, hxc45, hX45⟩⟩ := (hk 5 (by decide)).put rfl rfl
            obtain ⟨_, h46, rfl⟩ := (hk 6 (by decide)).put rfl rfl
            obtain ⟨_, h47, rfl⟩ := (hk 7 (by decide)).put rfl rfl
            obtain ⟨_, h48, rfl⟩ := (hk 8 (by decide)).put rfl rfl
            obtain ⟨_, h49, rfl⟩ := (hk 9 (by decide)).put rfl rfl
            clear hap
            have hF : AllPuts ac.tmps ((40, _) :: (41, _) :: (42, _) :: (43, _) :: (44, _) :: (45, _) :: (46, _) :: (47, _) :: (48, _) :: (49, _) :: []) := ⟨h40, h41, h42, h43, h44, h45, h46, h47, h48, h49, trivial⟩
            obtain rfl := frame_puts hu (by kernel_rfl) hF
            simp only [puts, Act.put, List.setIfInBounds_toArray, List.set_cons_zero, List.set_cons_succ, List.drop_succ_cons, List.drop_zero]
            clear hk hu hF h40 h41 h42 h43 h44 h45 h46 h47 h48 h49
            have HBE := Lib.hid (HBW.out.trans (hb.mono HBW.out.size))
            clear hb
            go_wp2_with fail
            go_ret
            exact ⟨ret_bool HRR.out, HBE.out⟩
        · have hno : ¬ verP fp m ⟨(k : Int), sl, vs, ps⟩ := fun h => hok (HVE.out.1 h).1
          rw [decide_eq_false hok]
          go_wp2_with fail
          go_quiet (fail)
          replace HBW := Lib.hid (below_drewN HBW.out nq)
          go_wp2_with fail
          go_ret
          exact ⟨ret_bool (decide_eq_false hno).symm, HBW.out⟩
      · have hno := HNO.out (fun h => h67 (by have := h.2.2.1; simp at this; rw [← HVL.out]; exact this))
        have HRC := Lib.hid (rrec8_no A n c V nv cv w3 h67)
        obtain ⟨Q, hQ⟩ : ∃ x, u8A zeroH = x := ⟨_, rfl⟩
        have HQS := Lib.hid (show Q.size = 32 by rw [← hQ, u8A_size]; rfl)
        have HQO := Lib.hid (show Q.all (·.oneCell') = true by rw [← hQ]; exact u8A_one _)
        rw [hQ] at HRC
        clear hQ
        go_wp2_with fail
        with_reducible refine (HRC.out).mono ?_
        rintro e w4 ⟨rfl, hb⟩
        replace HBW := Lib.hid (HBW.out.trans (hb.mono HBW.out.size))
        clear hb HRC hs0 hs1 hs2 hs3 HTF HTS
        go_upto_region 4 with (with_reducible refine wpList_store_blk rfl 44 (.tmp 7) (.tmp 23) rfl w4.heap.size Q rfl rfl 44 _ (Blk.new _ _ _) (by rw [HQS.out]; kernel_rfl) (by rw [HQS.out]; kernel_rfl) HQO.out ?_)
        generalize hwn : World.setRow _ _ _ = w5
        have hal : Below w4.heap.size w4 w5 := by
          rw [← hwn]
          exact below_row ((Below.refl _ _).alloc (Nat.le_refl _) _) (by simp) (Nat.le_refl _) _
        have HT7 := Lib.hid (show Blk w5 w4.heap.size Q 44 by
          rw [← hwn]
          exact (Blk.new _ _ _).row _)
        obtain ⟨g7, hgn⟩ : ∃ g, w4.heap.size = g := ⟨_, rfl⟩
        replace HBW := Lib.hid (HBW.out.trans (hal.mono HBW.out.size))

        rw [hgn] at HT7 ⊢
        clear hal hwn hgn
        go_wp2_with fail
        go_ret
        exact ⟨ret_bool (decide_eq_false hno).symm, HBW.out⟩
end Go.Proofs.YtndknifdajjalaaGreatDoor
