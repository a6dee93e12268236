/- MssLeaves: a keystore's leaves and its print. For all seeds and heights. -/
import Derived.Test.YtfgieebccjoboaaDoorLaw
import Derived.Test.YtfgieebccjoboaaDoorSub
import Derived.Test.YtfgieebccjoboaaDoorMpB
import Derived.Test.YtfgieebccjoboaaDoorMssP
import Derived.Test.YtfgieebccjoboaaDoorRTSame
import Derived.Test.YtfgieebccjoboaaDoorHashD
namespace Go.Proofs.YtfgieebccjoboaaDoor.mssLeaves
open Go.ChangeShapes Go.WideShapes Go.ChangeAt Go.RowKit

set_option maxRecDepth 100000 in
set_option maxHeartbeats 16000000 in
theorem walk (sd : List UInt8) (height : Int) (w : World) (hs : sd.length = 16) (h0 : -9223372036854775808 ≤ height) (h1 : height ≤ 9223372036854775807) (htab : Pow10 w.heap.size w) :
    Calls Tryd.prog 5 #[.agg (u8A sd), .int .i64 height] w fun e w' => e = .returned (.bool true) ∧ Below w.heap.size w w' := by
  obtain ⟨p, hp, hpn⟩ : ∃ p : Nat, withinI height 7 = (p : Int) ∧ (p : Int) < 7 := by
    have := withinI_range height 7 (by omega)
    exact ⟨(withinI height 7).toNat, by omega, by omega⟩
  have HWI := Lib.hid (fun W => (show Calls Tryd.prog 11 #[.int .i64 height, .int .i64 7] W fun e w' => e = .returned (.int .i64 (p : Int)) ∧ W = w' from by rw [← hp]; exact within_any height 7 W (by omega) (by omega) (by omega)))
  have HTAB := Lib.hid htab
  obtain ⟨X, hX⟩ : ∃ x, u8A sd = x := ⟨_, rfl⟩
  have HEX := Lib.hid hX
  have HZX := Lib.hid (show X.size = 16 by rw [← hX, u8A_size]; exact hs)
  have HOX := Lib.hid (show X.all (·.oneCell') = true by rw [← hX]; exact u8A_one _)
  obtain ⟨h, hh2⟩ : ∃ h, (p : Int) - 2 = h := ⟨_, rfl⟩
  by_cases hh : h < 0
  · obtain ⟨Z, hZ⟩ : ∃ x, u8A zeroH = x := ⟨_, rfl⟩
    have HEZ := Lib.hid hZ
    have HZZ := Lib.hid (show Z.size = 32 by rw [← hZ, u8A_size]; exact rfl)
    have HOZ := Lib.hid (show Z.all (·.oneCell') = true by rw [← hZ]; exact u8A_one _)
    have hqz := (fun W => (show (Op.equalIn 10000 29 (.agg Z) (.agg Z)).run Tryd.prog W = .ok true W by rw [← hZ, run_hash_eq W _ _ (rfl) (rfl), decide_eq_true rfl]))
    have HLV := Lib.hid (fun W (hW : Below w.heap.size w W) => (show Calls Tryd.prog 21 #[.agg X, .int .i64 h] W fun e w' => ∃ A c, e = .returned (.slice A 0 c) ∧ Below W.heap.size W w' from by
      have := pleaves9_any sd h W hs (tab_on htab hW hW.size)
      rw [cntN_out (.inl hh), hX] at this
      refine this.mono ?_
      rintro e w' ⟨v, rfl, ho, hb⟩
      obtain ⟨A, c, rfl, _, _⟩ := ho.form (n := 0) (pubsL_len _ _)
      exact ⟨A, c, rfl, hb⟩))
    have HPR := Lib.hid (fun W (hW : Below w.heap.size w W) => (show Calls Tryd.prog 13 #[.agg X, .int .i64 h] W fun e w' => e = .returned (.tuple #[.agg Z, .int .i64 1]) ∧ Below W.heap.size W w' from by
      rw [← hX, ← hZ]
      exact pprint9_no sd h W hs (.inl hh) (tab_on htab hW hW.size)))
    rw [hX]
    have hsw : (p : Int) - 2 = h := hh2
    clear hX hZ htab hp hh2
    go_enter Tryd.func5, Tryd.ntmps5
    go_upto_region 1 with fail
    generalize hw1 : World.alloc _ _ = w3
    obtain ⟨g2, hg2⟩ : ∃ g, w.heap.size = g := ⟨_, rfl⟩
    have hf : Blk w3 g2 X 23 ∧ Below w.heap.size w w3 := by
      have hw : w3 = (w.alloc (.cells X 23)) := hw1.symm
      rw [hw, ← hg2]
      exact ⟨by exact Blk.new _ _ _, ((Below.refl _ _).alloc (Nat.le_refl _) _)⟩
    have HB2 := Lib.hid hf.1
    have HBW := Lib.hid hf.2
    have HG2 := Lib.hid (show w.heap.size ≤ g2 by omega)
    clear hf hw1
    rw [hg2]
    clear hg2
    go_wp2_with fail
    with_reducible refine (HWI.out _).mono ?_
    rintro e wx ⟨rfl, rfl⟩
    clear HWI
    go_wp2_with (with_reducible refine wpList_load_blk rfl 23 (.tmp 2) rfl g2 rfl 23 X _ HB2.out Tryd.underlying23 rfl (by rw [HZX.out]; kernel_rfl) ?_)
    with_reducible refine (HLV.out w3 HBW.out).mono ?_
    rintro e w4 ⟨A4, c4, rfl, hb⟩
    replace HB2 := Lib.hid (HB2.out.below hb HB2.out.lt)
    replace HBW := Lib.hid (HBW.out.trans (hb.mono HBW.out.size))
    clear hb HLV
    go_wp2_with (with_reducible refine wpList_load_blk rfl 23 (.tmp 2) rfl g2 rfl 23 X _ HB2.out Tryd.underlying23 rfl (by rw [HZX.out]; kernel_rfl) ?_)
    with_reducible refine (HPR.out w4 HBW.out).mono ?_
    rintro e w5 ⟨rfl, hb⟩
    replace HB2 := Lib.hid (HB2.out.below hb HB2.out.lt)
    replace HBW := Lib.hid (HBW.out.trans (hb.mono HBW.out.size))
    clear hb HPR HB2
    go_upto_region 4 with (with_reducible refine wpList_store_blk rfl 29 (.tmp 6) (.tmp 18) rfl w5.heap.size Z rfl rfl 29 _ (Blk.new _ _ _) (by rw [HZZ.out]; kernel_rfl) (by rw [HZZ.out]; kernel_rfl) HOZ.out ?_)
    generalize hwn : World.setRow _ _ _ = w6
    have hal : Below w5.heap.size w5 w6 := by
      rw [← hwn]
      exact below_row ((Below.refl _ _).alloc (Nat.le_refl _) _) (by simp) (Nat.le_refl _) _
    have HB6 := Lib.hid (show Blk w6 w5.heap.size Z 29 by
      rw [← hwn]
      exact (Blk.new _ _ _).row _)
    obtain ⟨g6, hgn⟩ : ∃ g, w5.heap.size = g := ⟨_, rfl⟩
    replace HBW := Lib.hid (HBW.out.trans (hal.mono HBW.out.size))
    rw [hgn] at HB6 ⊢
    clear hal hwn hgn
    have HWK := Lib.hid (fun W (hW : Below w6.heap.size w6 W) => wakes9_any W (tab_on HTAB.out (HBW.out.trans (hW.mono HBW.out.size)) (HBW.out.trans (hW.mono HBW.out.size)).size))
    go_wp2_with (first
      | (refine wpList_load_w9 (.tmp 6) rfl g6 rfl Z HB6.out HZZ.out ?_ ?_; · rfl)
      | (refine wpList_build_zero_w9 rfl Z HEZ.out ?_ ?_; · rfl))
    with_reducible refine (HWK.out w6 (Below.refl _ _)).mono ?_
    rintro e w7 ⟨rfl, hb⟩
    replace HBW := Lib.hid (HBW.out.trans (hb.mono HBW.out.size))
    clear hb HWK
    go_wp2_with fail
    go_ret
    exact ⟨by first | rfl | kernel_rfl, HBW.out⟩
  · obtain ⟨k, hk⟩ : ∃ k : Nat, h = (k : Int) := ⟨h.toNat, by omega⟩
    subst hk
    have hk4 : k ≤ 4 := by omega
    obtain ⟨Z, hZ⟩ : ∃ x, u8A (printH (k : Int) (keyRoot sd k)) = x := ⟨_, rfl⟩
    have HEZ := Lib.hid hZ
    have HZZ := Lib.hid (show Z.size = 32 by rw [← hZ, u8A_size]; exact printH_len _ _)
    have HOZ := Lib.hid (show Z.all (·.oneCell') = true by rw [← hZ]; exact u8A_one _)
    obtain ⟨N, hN⟩ : ∃ N, 2 ^ k = N := ⟨_, rfl⟩
    have hN16 : N ≤ 16 := by rw [← hN]; exact Nat.pow_le_pow_right (n := 2) (by omega) (by omega)
    have hN1 : 1 ≤ N := by rw [← hN]; exact Nat.pos_of_ne_zero (by simp)
    have hp1 : (2 : Int) ^ k = (N : Int) := by rw [← hN]; simp
    have HLV := Lib.hid (fun W (hW : Below w.heap.size w W) => (show Calls Tryd.prog 21 #[.agg X, .int .i64 (k : Int)] W fun e w' => ∃ A c, e = .returned (.slice A N c) ∧ HV w' (.slice A N c) (pubsL sd N) ∧ Below W.heap.size W w' from by
      have := pleaves9_any sd (k : Int) W hs (tab_on htab hW hW.size)
      rw [cntN_nat hk4, hN, hX] at this
      refine this.mono ?_
      rintro e w' ⟨v, rfl, ho, hb⟩
      obtain ⟨A, c, rfl, _, _⟩ := ho.form (n := N) (pubsL_len _ _)
      exact ⟨A, c, rfl, ho.hv, hb⟩))
    have HPR := Lib.hid (fun W (hW : Below w.heap.size w W) => (show Calls Tryd.prog 13 #[.agg X, .int .i64 (k : Int)] W fun e w' => e = .returned (.tuple #[.agg Z, .int .i64 0]) ∧ Below W.heap.size W w' from by
      rw [← hX, ← hZ]
      exact pprint9_yes sd k W hs hk4 (tab_on htab hW hW.size)))
    have HL2 := Lib.hid (fun W => (show Calls Tryd.prog 23 #[.agg X, .int .i64 (k : Int)] W fun e w' => ∃ A c, e = .returned (.slice A N c) ∧ N ≤ c ∧ HV w' (.slice A N c) (pubsL sd N) ∧ Below W.heap.size W w' from by
      have := rleaves9_any sd k W hs (by omega)
      rw [hN, hX] at this
      refine this.mono ?_
      rintro e w' ⟨v, rfl, ho, hb⟩
      obtain ⟨A, c, rfl, hc, _⟩ := ho.form (n := N) (pubsL_len _ _)
      exact ⟨A, c, rfl, hc, ho.hv, hb⟩))
    have HP2 := Lib.hid (fun W => (show Calls Tryd.prog 24 #[.agg X, .int .i64 (k : Int)] W fun e w' => e = .returned (.agg Z) ∧ Below W.heap.size W w' from by
      rw [← hX, ← hZ]
      exact rprint9_any sd k W hs (by omega)))
    have HQZ := Lib.hid (fun W => (show (Op.equalIn 10000 29 (.agg Z) (.agg Z)).run Tryd.prog W = .ok true W by rw [← hZ, run_hash_eq W _ _ (printH_len _ _) (printH_len _ _), decide_eq_true rfl]))
    have HPL := Lib.hid (show (pubsL sd N).length ≤ 100000 by rw [pubsL_len]; omega)
    generalize pubsL sd N = lv at *
    rw [hX]
    have hsw : (p : Int) - 2 = (k : Int) := hh2
    have hk0 : ¬ (k : Int) < 0 := by omega
    have hk44 : ¬ (k : Int) > 4 := by omega
    clear hX hZ htab hp hh2 hN
    go_enter Tryd.func5, Tryd.ntmps5
    go_upto_region 1 with fail
    generalize hw1 : World.alloc _ _ = w3
    obtain ⟨g2, hg2⟩ : ∃ g, w.heap.size = g := ⟨_, rfl⟩
    have hf : Blk w3 g2 X 23 ∧ Below w.heap.size w w3 := by
      have hw : w3 = (w.alloc (.cells X 23)) := hw1.symm
      rw [hw, ← hg2]
      exact ⟨by exact Blk.new _ _ _, ((Below.refl _ _).alloc (Nat.le_refl _) _)⟩
    have HB2 := Lib.hid hf.1
    have HBW := Lib.hid hf.2
    have HG2 := Lib.hid (show w.heap.size ≤ g2 by omega)
    clear hf hw1
    rw [hg2]
    clear hg2
    go_wp2_with fail
    with_reducible refine (HWI.out _).mono ?_
    rintro e wx ⟨rfl, rfl⟩
    clear HWI
    go_wp2_with (with_reducible refine wpList_load_blk rfl 23 (.tmp 2) rfl g2 rfl 23 X _ HB2.out Tryd.underlying23 rfl (by rw [HZX.out]; kernel_rfl) ?_)
    with_reducible refine (HLV.out w3 HBW.out).mono ?_
    rintro e w4 ⟨A4, c4, rfl, hv, hb⟩
    have HVA := Lib.hid hv
    replace HB2 := Lib.hid (HB2.out.below hb HB2.out.lt)
    replace HBW := Lib.hid (HBW.out.trans (hb.mono HBW.out.size))
    clear hb hv HLV
    go_wp2_with (with_reducible refine wpList_load_blk rfl 23 (.tmp 2) rfl g2 rfl 23 X _ HB2.out Tryd.underlying23 rfl (by rw [HZX.out]; kernel_rfl) ?_)
    with_reducible refine (HPR.out w4 HBW.out).mono ?_
    rintro e w5 ⟨rfl, hb⟩
    replace HVA := Lib.hid (HVA.out.on hb)
    replace HB2 := Lib.hid (HB2.out.below hb HB2.out.lt)
    replace HBW := Lib.hid (HBW.out.trans (hb.mono HBW.out.size))
    clear hb HPR
    go_upto_region 4 with (with_reducible refine wpList_store_blk rfl 29 (.tmp 6) (.tmp 18) rfl w5.heap.size Z rfl rfl 29 _ (Blk.new _ _ _) (by rw [HZZ.out]; kernel_rfl) (by rw [HZZ.out]; kernel_rfl) HOZ.out ?_)
    generalize hwn : World.setRow _ _ _ = w6
    have hal : Below w5.heap.size w5 w6 := by
      rw [← hwn]
      exact below_row ((Below.refl _ _).alloc (Nat.le_refl _) _) (by simp) (Nat.le_refl _) _
    have HB6 := Lib.hid (show Blk w6 w5.heap.size Z 29 by
      rw [← hwn]
      exact (Blk.new _ _ _).row _)
    obtain ⟨g6, hgn⟩ : ∃ g, w5.heap.size = g := ⟨_, rfl⟩
    replace HVA := Lib.hid (HVA.out.on hal)
    replace HB2 := Lib.hid (HB2.out.below hal HB2.out.lt)
    replace HBW := Lib.hid (HBW.out.trans (hal.mono HBW.out.size))
    rw [hgn] at HB6 ⊢
    clear hal hwn hgn
    have HWK := Lib.hid (fun W (hW : Below w6.heap.size w6 W) => wakes9_any W (tab_on HTAB.out (HBW.out.trans (hW.mono HBW.out.size)) (HBW.out.trans (hW.mono HBW.out.size)).size))
    by_cases hk2 : k > 2
    · have hki : (k : Int) > 2 := by omega
      go_wp2_with fail
      with_reducible refine (HWK.out w6 (Below.refl _ _)).mono ?_
      rintro e w7 ⟨rfl, hb⟩
      replace HBW := Lib.hid (HBW.out.trans (hb.mono HBW.out.size))
      clear hb HWK
      go_wp2_with fail
      go_ret
      exact ⟨by first | rfl | kernel_rfl, HBW.out⟩
    · have hki : ¬ (k : Int) > 2 := by omega
      have HBX := Lib.hid (fun W (hW : Below w6.heap.size w6 W) => HB2.out.below hW HB2.out.lt)
      have HBZ := Lib.hid (fun W (hW : Below w6.heap.size w6 W) => HB6.out.below hW HB6.out.lt)
      have HSM := Lib.hid (fun X x W (hW : Below w6.heap.size w6 W) (hv : HV W (.slice X N x) lv) => (show Calls Tryd.prog 22 #[.slice A4 N c4, .slice X N x] W fun e w' => e = .returned (.bool true) ∧ Below W.heap.size W w' from by
        have := ksame7_any (HVA.out.on hW) hv HPL.out
        rwa [decide_eq_true rfl] at this))
      go_wp2_with fail
      refine wp_region_loose 19 1 (fun i => false) (promises [.is (.slice A4 N c4), .is (.agg X), .is (.int .i64 (k : Int)), .hv N lv, .is (.bool true), .is (.bool true), .is (.int .i64 0), .is (.bool true), .is (.bool true), .is (.bool true), .is (.agg Z), .is (.agg X), .is (.int .i64 (k : Int)), .is (.agg Z), .is (.bool true), .is (.bool true), .is (.bool true), .is (.bool true), .is (.bool true)]) (by kernel_rfl) rfl (by kernel_rfl) (fun i v w w' h hb => Spec.keep h hb) ⟨?_, ?_, ?_, ?_, ?_, ?_, ?_, ?_, ?_, ?_, ?_, ?_, ?_, ?_, ?_, ?_, ?_, ?_, ?_, trivial⟩ ?_
      · refine StepOKl.of ?_
        intro ac w hb hu hk
        refine ⟨wanted_none rfl, ?_⟩
        have e5 : ac.eval (.tmp 5) = .slice A4 N c4 := hu.is (t := 5) (by kernel_rfl)
        exact step_value (BigFrame.run_move (.tmp 5) rfl w) (Below.refl _ _) e5
      · refine StepOKl.of ?_
        intro ac w hb hu hk
        refine ⟨wanted_none rfl, ?_⟩
        have e2 : ac.eval (.tmp 2) = .pointer (some ⟨g2, 0, none⟩) := hu.is (t := 2) (by kernel_rfl)
        exact wp_load_row 23 (.tmp 2) rfl g2 e2 23 X (0, 0) _ (HBX.out w hb) Tryd.underlying23 rfl (by rw [HZX.out]; kernel_rfl) ⟨_, rfl, rfl, Below.refl _ _⟩
      · refine StepOKl.of ?_
        intro ac w hb hu hk
        refine ⟨wanted_none rfl, ?_⟩
        have e1 : ac.eval (.tmp 1) = .int .i64 (k : Int) := hu.is (t := 1) (by kernel_rfl)
        exact step_value (BigFrame.run_move (.tmp 1) rfl w) (Below.refl _ _) e1
      · refine StepOKl.of ?_
        intro ac w hb hu hk
        refine ⟨wanted_none rfl, ?_⟩
        have e57 : ac.eval (.tmp 57) = (.agg X) := (hk ⟨1, .data⟩ (by simp) rfl).is rfl rfl
        have e58 : ac.eval (.tmp 58) = (.int .i64 (k : Int)) := (hk ⟨2, .data⟩ (by simp) rfl).is rfl rfl
        have ef : ac.eval (.func 23) = .func (.func 23) #[] #[] := rfl
        refine step_enter (f := 23) (args := #[.agg X, .int .i64 (k : Int)]) ?_ ?_
        · generalize ac.eval = ρ at e57 e58 ef ⊢
          go_simp
        · exact (HL2.out w).mono fun e w' ⟨A, c, he, hc, hv, hq⟩ => ⟨_, he, ⟨A, c, rfl, hc, hv⟩, hq⟩
      · refine StepOKl.of ?_
        intro ac w hb hu hk
        refine ⟨wanted_none rfl, ?_⟩
        have e56 : ac.eval (.tmp 56) = (.slice A4 N c4) := (hk ⟨0, .data⟩ (by simp) rfl).is rfl rfl
        have e59 : ∃ X c, ac.eval (.tmp 59) = .slice X N c ∧ N ≤ c ∧ HV w (.slice X N c) lv := (hk ⟨3, .data⟩ (by simp) rfl).is rfl rfl
        obtain ⟨X59, x59, eX59, hx59, hR59⟩ := e59
        have ef : ac.eval (.func 22) = .func (.func 22) #[] #[] := rfl
        refine step_enter (f := 22) (args := #[.slice A4 N c4, .slice X59 N x59]) ?_ ?_
        · generalize ac.eval = ρ at e56 eX59 ef ⊢
          go_simp
        · exact (HSM.out X59 x59 w hb hR59).mono fun e w' ⟨he, hq⟩ => ⟨_, he, rfl, hq⟩
      · refine StepOKl.of ?_
        intro ac w hb hu hk
        refine ⟨wanted_none rfl, ?_⟩
        have e60 : ac.eval (.tmp 60) = (.bool true) := (hk ⟨4, .data⟩ (by simp) rfl).is rfl rfl
        exact step_value (BigFrame.run_move (.tmp 60) rfl w) (Below.refl _ _) e60
      · refine StepOKl.of ?_
        intro ac w hb hu hk
        refine ⟨wanted_some rfl (hk ⟨5, .guard⟩ (by simp) rfl) rfl rfl (fun _ h => h), ?_⟩
        have e7 : ac.eval (.tmp 7) = .int .i64 0 := hu.is (t := 7) (by kernel_rfl)
        exact step_value (BigFrame.run_move (.tmp 7) rfl w) (Below.refl _ _) e7
      · refine StepOKl.of ?_
        intro ac w hb hu hk
        refine ⟨wanted_some rfl (hk ⟨5, .guard⟩ (by simp) rfl) rfl rfl (fun _ h => h), ?_⟩
        have e62 : ac.eval (.tmp 62) = (.int .i64 0) := (hk ⟨6, .data⟩ (by simp) rfl).is rfl rfl
        refine step_value (w' := w) (v := (.bool true)) ?_ (Below.refl _ _) rfl
        have ec0 : ac.eval (.const (Value.int IntKind.i64 0)) = Value.int IntKind.i64 0 := rfl
        generalize ac.eval = ρ at e62 ec0 ⊢
        go_simp
      · refine StepOKl.of ?_
        intro ac w hb hu hk
        refine ⟨wanted_none rfl, ?_⟩
        have e61 : ac.eval (.tmp 61) = (.bool true) := (hk ⟨5, .data⟩ (by simp) rfl).is rfl rfl
        have e63 : ac.eval (.tmp 63) = (.bool true) := (hk ⟨7, .data⟩ (by simp) rfl).is rfl rfl
        exact step_value (run_pick_true e61 rfl w) (Below.refl _ _) e63
      · refine StepOKl.of ?_
        intro ac w hb hu hk
        refine ⟨wanted_none rfl, ?_⟩
        have e64 : ac.eval (.tmp 64) = (.bool true) := (hk ⟨8, .data⟩ (by simp) rfl).is rfl rfl
        exact step_value (BigFrame.run_move (.tmp 64) rfl w) (Below.refl _ _) e64
      · refine StepOKl.of ?_
        intro ac w hb hu hk
        refine ⟨wanted_some rfl (hk ⟨9, .guard⟩ (by simp) rfl) rfl rfl (fun _ h => h), ?_⟩
        have e6 : ac.eval (.tmp 6) = .pointer (some ⟨g6, 0, none⟩) := hu.is (t := 6) (by kernel_rfl)
        exact wp_load_row 29 (.tmp 6) rfl g6 e6 29 Z (0, 0) _ (HBZ.out w hb) Tryd.underlying29 rfl (by rw [HZZ.out]; kernel_rfl) ⟨_, rfl, rfl, Below.refl _ _⟩
      · refine StepOKl.of ?_
        intro ac w hb hu hk
        refine ⟨wanted_some rfl (hk ⟨9, .guard⟩ (by simp) rfl) rfl rfl (fun _ h => h), ?_⟩
        have e2 : ac.eval (.tmp 2) = .pointer (some ⟨g2, 0, none⟩) := hu.is (t := 2) (by kernel_rfl)
        exact wp_load_row 23 (.tmp 2) rfl g2 e2 23 X (0, 0) _ (HBX.out w hb) Tryd.underlying23 rfl (by rw [HZX.out]; kernel_rfl) ⟨_, rfl, rfl, Below.refl _ _⟩
      · refine StepOKl.of ?_
        intro ac w hb hu hk
        refine ⟨wanted_some rfl (hk ⟨9, .guard⟩ (by simp) rfl) rfl rfl (fun _ h => h), ?_⟩
        have e1 : ac.eval (.tmp 1) = .int .i64 (k : Int) := hu.is (t := 1) (by kernel_rfl)
        exact step_value (BigFrame.run_move (.tmp 1) rfl w) (Below.refl _ _) e1
      · refine StepOKl.of ?_
        intro ac w hb hu hk
        refine ⟨wanted_some rfl (hk ⟨9, .chain⟩ (by simp) rfl) rfl rfl (fun _ h => h), ?_⟩
        have e67 : ac.eval (.tmp 67) = (.agg X) := (hk ⟨11, .data⟩ (by simp) rfl).is rfl rfl
        have e68 : ac.eval (.tmp 68) = (.int .i64 (k : Int)) := (hk ⟨12, .data⟩ (by simp) rfl).is rfl rfl
        have ef : ac.eval (.func 24) = .func (.func 24) #[] #[] := rfl
        refine step_enter (f := 24) (args := #[.agg X, .int .i64 (k : Int)]) ?_ ?_
        · generalize ac.eval = ρ at e67 e68 ef ⊢
          go_simp
        · exact (HP2.out w).mono fun e w' ⟨he, hq⟩ => ⟨_, he, rfl, hq⟩
      · refine StepOKl.of ?_
        intro ac w hb hu hk
        refine ⟨wanted_some rfl (hk ⟨9, .guard⟩ (by simp) rfl) rfl rfl (fun _ h => h), ?_⟩
        have e66 : ac.eval (.tmp 66) = (.agg Z) := (hk ⟨10, .data⟩ (by simp) rfl).is rfl rfl
        have e69 : ac.eval (.tmp 69) = (.agg Z) := (hk ⟨13, .data⟩ (by simp) rfl).is rfl rfl
        refine step_value (w' := w) (v := .bool true) ?_ (Below.refl _ _) rfl
        have hq := HQZ.out w
        generalize ac.eval = ρ at e66 e69 ⊢
        go_simp
      · refine StepOKl.of ?_
        intro ac w hb hu hk
        refine ⟨wanted_none rfl, ?_⟩
        have e65 : ac.eval (.tmp 65) = (.bool true) := (hk ⟨9, .data⟩ (by simp) rfl).is rfl rfl
        have e70 : ac.eval (.tmp 70) = (.bool true) := (hk ⟨14, .data⟩ (by simp) rfl).is rfl rfl
        exact step_value (run_pick_true e65 rfl w) (Below.refl _ _) e70
      · refine StepOKl.of ?_
        intro ac w hb hu hk
        refine ⟨wanted_none rfl, ?_⟩
        have e71 : ac.eval (.tmp 71) = (.bool true) := (hk ⟨15, .data⟩ (by simp) rfl).is rfl rfl
        exact step_value (BigFrame.run_move (.tmp 71) rfl w) (Below.refl _ _) e71
      · refine StepOKl.of ?_
        intro ac w hb hu hk
        refine ⟨wanted_some rfl (hk ⟨16, .chain⟩ (by simp) rfl) rfl rfl (fun _ h => h), ?_⟩
        have ef : ac.eval (.func 17) = .func (.func 17) #[] #[] := rfl
        refine step_enter (f := 17) (args := #[]) ?_ ?_
        · generalize ac.eval = ρ at  ef ⊢
          go_simp
        · exact (HWK.out w hb).mono fun e w' ⟨he, hq⟩ => ⟨_, he, rfl, hq⟩
      · refine StepOKl.of ?_
        intro ac w hb hu hk
        refine ⟨wanted_none rfl, ?_⟩
        have e72 : ac.eval (.tmp 72) = (.bool true) := (hk ⟨16, .data⟩ (by simp) rfl).is rfl rfl
        have e73 : ac.eval (.tmp 73) = (.bool true) := (hk ⟨17, .data⟩ (by simp) rfl).is rfl rfl
        exact step_value (run_pick_true e72 rfl w) (Below.refl _ _) e73
      · intro ac w' hb hu hk hap
        obtain ⟨_, h56, rfl⟩ := (hk 0 (by decide)).put rfl rfl
        obtain ⟨_, h57, rfl⟩ := (hk 1 (by decide)).put rfl rfl
        obtain ⟨_, h58, rfl⟩ := (hk 2 (by decide)).put rfl rfl
        obtain ⟨_, h59, ⟨X59, xc59, rfl, hxc59, hX59⟩⟩ := (hk 3 (by decide)).put rfl rfl
        obtain ⟨_, h60, rfl⟩ := (hk 4 (by decide)).put rfl rfl
        obtain ⟨_, h61, rfl⟩ := (hk 5 (by decide)).put rfl rfl
        obtain ⟨_, h62, rfl⟩ := (hk 6 (by decide)).put rfl rfl
        obtain ⟨_, h63, rfl⟩ := (hk 7 (by decide)).put rfl rfl
        obtain ⟨_, h64, rfl⟩ := (hk 8 (by decide)).put rfl rfl
        obtain ⟨_, h65, rfl⟩ := (hk 9 (by decide)).put rfl rfl
        obtain ⟨_, h66, rfl⟩ := (hk 10 (by decide)).put rfl rfl
        obtain ⟨_, h67, rfl⟩ := (hk 11 (by decide)).put rfl rfl
        obtain ⟨_, h68, rfl⟩ := (hk 12 (by decide)).put rfl rfl
        obtain ⟨_, h69, rfl⟩ := (hk 13 (by decide)).put rfl rfl
        obtain ⟨_, h70, rfl⟩ := (hk 14 (by decide)).put rfl rfl
        obtain ⟨_, h71, rfl⟩ := (hk 15 (by decide)).put rfl rfl
        obtain ⟨_, h72, rfl⟩ := (hk 16 (by decide)).put rfl rfl
        obtain ⟨_, h73, rfl⟩ := (hk 17 (by decide)).put rfl rfl
        obtain ⟨_, h74, rfl⟩ := (hk 18 (by decide)).put rfl rfl
        clear hap
        have hF : AllPuts ac.tmps ((56, _) :: (57, _) :: (58, _) :: (59, _) :: (60, _) :: (61, _) :: (62, _) :: (63, _) :: (64, _) :: (65, _) :: (66, _) :: (67, _) :: (68, _) :: (69, _) :: (70, _) :: (71, _) :: (72, _) :: (73, _) :: (74, _) :: []) := ⟨h56, h57, h58, h59, h60, h61, h62, h63, h64, h65, h66, h67, h68, h69, h70, h71, h72, h73, h74, trivial⟩
        obtain rfl := frame_puts hu (by kernel_rfl) hF
        simp only [puts, Act.put, List.setIfInBounds_toArray, List.set_cons_zero, List.set_cons_succ, List.drop_succ_cons, List.drop_zero]
        clear hk hu hF h56 h57 h58 h59 h60 h61 h62 h63 h64 h65 h66 h67 h68 h69 h70 h71 h72 h73 h74
        have HBE := Lib.hid (HBW.out.trans (hb.mono HBW.out.size))
        clear hb
        go_wp2_with fail
        go_ret
        exact ⟨by first | rfl | kernel_rfl, HBE.out⟩

set_option maxRecDepth 100000 in
theorem contract (H : Type) (enc : TypeId × Value → H) (W : World) (base : Nat) (args : Array Value) (ds gs : List (DataW H)) (before : List MemPlace)
    (hval : ∀ (j : Nat) t v, Tryd.f5.params[j]? = some t → args[j]? = some v → Value.okWide Tryd.prog W .any base t v)
    (hW : DataW.Whole enc Tryd.prog Tryd.f5.params.toList Rows.mssLeavesSpec.vars false W args.toList ds gs before) (hL : laidMetH Tryd.prog Rows.mssLeavesRow.laid W) :
    Calls Tryd.prog 5 args W fun e W' => ∃ v, e = .returned v ∧ Rows.mssLeavesSpec.post enc Tryd.prog Tryd.f5 false true false false W args v W' := by
  have hW' := hW
  obtain ⟨p, q, hA0, hV, rfl, hfz, hnd⟩ := hW
  have hA : DataW.TrodAll enc Tryd.prog W 0 (fun _ => true) true Tryd.f5.params.toList args.toList ds p := hA0
  rw [Tryd.params5] at hA hval
  obtain ⟨v0, v1, d0, d1, p0, p1, rfl, rfl, rfl, h0, h1⟩ := trodAll_two hA
  obtain ⟨rfl, rfl⟩ := trodVars_none hV
  obtain ⟨k0, rfl, hk0⟩ := open_array Tryd.underlying23 (by kernel_rfl) (hval 0 23 v0 rfl rfl) h0
  obtain ⟨n1, rfl, rfl, rfl, wf1⟩ := open_int Tryd.underlying3 (hval 1 3 v1 rfl rfl) h1
  have b1 := bounds_i64 wf1
  clear hA0
  refine (walk k0 n1 W hk0 b1.1 b1.2 (pow10 hL)).mono fun e W' ⟨he, hb⟩ => ?_
  exact ⟨_, he, law_post hW' rfl (by kernel_rfl) rfl (by kernel_rfl) hb⟩

theorem laid_met (os : Os) : laidMet Tryd.prog Rows.mssLeavesRow.laid ((laidWorld os).forCall (fun _ _ => 0) ⟨#[], #[.agg #[.int .u8 0, .int .u8 0, .int .u8 0, .int .u8 0, .int .u8 0, .int .u8 0, .int .u8 0, .int .u8 0, .int .u8 0, .int .u8 0, .int .u8 0, .int .u8 0, .int .u8 0, .int .u8 0, .int .u8 0, .int .u8 0], .int .i64 0], []⟩).memory :=
  laidMet_of_run' 8 (by kernel_rfl) (by kernel_rfl)
theorem reads (os : Os) {H : Type} (enc : TypeId × Value → H) : ∃ places, DataW.whole enc Tryd.prog ((laidWorld os).forCall (fun _ _ => 0) ⟨#[], #[.agg #[.int .u8 0, .int .u8 0, .int .u8 0, .int .u8 0, .int .u8 0, .int .u8 0, .int .u8 0, .int .u8 0, .int .u8 0, .int .u8 0, .int .u8 0, .int .u8 0, .int .u8 0, .int .u8 0, .int .u8 0, .int .u8 0], .int .i64 0], []⟩).memory Tryd.f5.params.toList Rows.mssLeavesSpec.vars false #[Value.agg #[.int .u8 0, .int .u8 0, .int .u8 0, .int .u8 0, .int .u8 0, .int .u8 0, .int .u8 0, .int .u8 0, .int .u8 0, .int .u8 0, .int .u8 0, .int .u8 0, .int .u8 0, .int .u8 0, .int .u8 0, .int .u8 0], Value.int .i64 0].toList 8 = some ([.agg [.lit (.int .u8 0), .lit (.int .u8 0), .lit (.int .u8 0), .lit (.int .u8 0), .lit (.int .u8 0), .lit (.int .u8 0), .lit (.int .u8 0), .lit (.int .u8 0), .lit (.int .u8 0), .lit (.int .u8 0), .lit (.int .u8 0), .lit (.int .u8 0), .lit (.int .u8 0), .lit (.int .u8 0), .lit (.int .u8 0), .lit (.int .u8 0)], .lit (.int .i64 0)], [], places) :=
  ⟨[], by kernel_rfl⟩

set_option maxRecDepth 100000 in
theorem lifted (os : Os) (started : os.Started) (H : Type) (enc : TypeId × Value → H) (F : Stop.Interp) :
    ReturnsInHanded {} Tryd.checked os 5 .any ((OpenSpec.ofChange Rows.mssLeavesSpec).preRow enc Tryd.prog Tryd.f5 Rows.mssLeavesRow.domain false Rows.mssLeavesRow.laid) (((OpenSpec.ofChange Rows.mssLeavesSpec).at F).post enc Tryd.prog Tryd.f5 false true false false) := by
  obtain ⟨places, hx⟩ := reads os enc
  refine returnsInHanded_of_row (C := Tryd.checked) (s := OpenSpec.ofChange Rows.mssLeavesSpec) own started (by kernel_rfl) Tryd.func5
    (witness_row_at (enc := enc) (C := Tryd.checked) false (laidWorld os) #[.agg #[.int .u8 0, .int .u8 0, .int .u8 0, .int .u8 0, .int .u8 0, .int .u8 0, .int .u8 0, .int .u8 0, .int .u8 0, .int .u8 0, .int .u8 0, .int .u8 0, .int .u8 0, .int .u8 0, .int .u8 0, .int .u8 0], .int .i64 0] rfl (by kernel_rfl) (by kernel_rfl) (by kernel_rfl)
      (OpenSpec.preRow_of_cond 8 hx (by kernel_rfl) (fun k hk => by cases hk) (by kernel_rfl) (laid_met os))) ?_
  intro W base args ds gs before hval hW _ _ _ hL _ _
  exact contract H enc W base args ds gs before hval hW hL

theorem said : Rows.MssLeavesSaid :=
  OpenClaim.holds_of_cond 5 Tryd.f5 rfl rfl rfl rfl rfl rfl rfl ⟨rfl, rfl, rfl, rfl, rfl⟩ rfl rfl rfl rfl rfl (by kernel_rfl) Tryd.func5 (by kernel_rfl)
    (of_decide_eq_true (by kernel_rfl)) (by unfold Func.isWrapper; first | (rw [if_pos (by decide +kernel)]; kernel_rfl) | (rw [if_neg (by decide +kernel)]; exact ⟨rfl, rfl⟩))
    (fun os started H enc _ F => by rw [OpenClaim.pre_eq_preRow]; exact lifted os started H enc F)

theorem plain (f : FuncId) (fn : Func) (hf : Tryd.pinned.checked.prog.funcNamed "aumbry/aumbrylaw09.MssLeaves" = some f) (hfn : Tryd.pinned.checked.prog.funcs[f]? = some fn) :
    false = Tryd.pinned.checked.prog.looks [] ∧ ∀ (j : Nat) t, fn.params[j]? = some t → Tryd.pinned.checked.prog.wantsStandIn t = false := by
  obtain rfl : f = 5 := Option.some.inj ((show Tryd.prog.funcNamed "aumbry/aumbrylaw09.MssLeaves" = some 5 by kernel_rfl).symm.trans hf) |>.symm
  obtain rfl : fn = Tryd.f5 := (Option.some.inj (Tryd.func5.symm.trans hfn)).symm
  refine ⟨by kernel_rfl, fun j t ht => ?_⟩
  exact wants_none (by kernel_rfl) (Array.mem_of_getElem? ht)

/-- The card: the statement holds, its listed tables tied to the program's text. -/
theorem card : Rows.MssLeavesCardSaid :=
  Claim7.holds_tied_plain_at .later [] _ _ _ _ said (fun _ h => by cases h) (by kernel_rfl) (fun _ h => by cases h) mssLeaves_row_tie rfl ⟨rfl, rfl⟩ (by kernel_rfl) rfl plain (by kernel_rfl)
end Go.Proofs.YtfgieebccjoboaaDoor.mssLeaves
