/- The program's keystore: Print. -/
import Derived.Test.YtndknifdajjalaaGreatDoorPKeyQ
import Derived.Test.YtndknifdajjalaaGreatDoorPFreeQ
namespace Go.Proofs.YtndknifdajjalaaGreatDoor
open Go.RowKit
set_option maxRecDepth 100000

set_option maxHeartbeats 4000000 in
theorem pkprint_any {w : World} {k q : Nat} {nb : ByteArray} {sd : List UInt8} {h nx : Nat} (H : KS w k q nb sd h nx) (htab : Pow10 w.heap.size w) :
    Calls Tryz.prog 12 #[.pointer (some ⟨k, 0, none⟩)] w fun e w' => e = .returned (.agg (u8A (printH (h : Int) (keyRoot sd h)))) ∧ Below w.heap.size w w' := by
  obtain ⟨Z, hZ⟩ : ∃ x, u8A (printH (h : Int) (keyRoot sd h)) = x := ⟨_, rfl⟩
  have HZZ := Lib.hid (show Z.size = 32 by rw [← hZ, u8A_size]; exact printH_len _ _)
  have HZO := Lib.hid (show Z.all (·.oneCell') = true by rw [← hZ]; exact u8A_one _)
  obtain ⟨ZZ, hZZ⟩ : ∃ x, u8A zeroH = x := ⟨_, rfl⟩
  have HZZZ := Lib.hid (show ZZ.size = 32 by rw [← hZZ]; rfl)
  have HZV := Lib.hid (fun W => (zero32 W).trans (by rw [hZZ]))
  obtain ⟨XS, hXS⟩ : ∃ x, u8A sd = x := ⟨_, rfl⟩
  have HXS := Lib.hid hXS
  have HSD := Lib.hid H.seed
  have HP0 := Lib.hid (fun W (hb : Below w.heap.size w W) => pprint9_yes sd h W H.seed H.high (tab_on htab hb hb.size))
  rw [hZ, hXS] at HP0
  have HK := Lib.hid H
  rw [hZ]
  clear hZ hZZ hXS H htab
  go_enter Tryz.func12, Tryz.ntmps12
  go_upto_region 1 with fail
  generalize hw1 : World.alloc _ _ = w3
  obtain ⟨g2, hg2⟩ : ∃ g, w.heap.size = g := ⟨_, rfl⟩
  have hf : (∃ rs, Blk w3 g2 rs 44 ∧ rs.size = 32) ∧ Below w.heap.size w w3 := by
    obtain ⟨Y8, hw, hY8⟩ : ∃ Y8, w3 = (w.alloc (.cells Y8 44)) ∧ Y8.size = 32 := ⟨_, hw1.symm, rfl⟩
    rw [hw, ← hg2]
    exact ⟨⟨Y8, Blk.new _ _ _, hY8⟩, (Below.refl _ _).alloc (Nat.le_refl _) _⟩
  obtain ⟨rs2, hrs2, hrz2⟩ := hf.1
  have HB2 := Lib.hid hrs2
  have HRZ2 := Lib.hid hrz2
  have HBW := Lib.hid hf.2
  have HG2 := Lib.hid (show w.heap.size ≤ g2 by omega)
  have HPR := Lib.hid (fun W (hW : Below w3.heap.size w3 W) => HP0.out W (HBW.out.trans (hW.mono HBW.out.size)))
  have HRG := Lib.hid (fun W (hW : Below w3.heap.size w3 W) => (HK.out.below (HBW.out.trans (hW.mono HBW.out.size))).range)
  have HHI := Lib.hid (fun W (hW : Below w3.heap.size w3 W) => (HK.out.below (HBW.out.trans (hW.mono HBW.out.size))).cells.2.2.1)
  rw [show (Value.pointer (some ⟨w.heap.size, 0, none⟩)) = .pointer (some ⟨g2, 0, none⟩) by rw [hg2]]
  clear hf hw1 hrs2 hrz2 hg2 HP0
  refine wp_region_late 13 2 11 (fun i => Nat.beq i 12) (promises [.is (.pointer (some ⟨k, 0, none⟩)), .is (.pointer (some ⟨k, 0, none⟩)), .is (.pointer (some ⟨k, 2, none⟩)), .is (.agg XS), .is (.pointer (some ⟨k, 0, none⟩)), .is (.pointer (some ⟨k, 0, none⟩)), .is (.pointer (some ⟨k, 18, none⟩)), .is (.int .i64 (h : Int)), .is (.tuple #[.agg Z, .int .i64 0]), .is (.tuple #[.agg Z, .int .i64 0]), .is (.agg Z), .is (.int .i64 0), .blk w3.heap.size ZZ 44]) (by kernel_rfl) rfl (by kernel_rfl) (fun _ _ _ _ _ h => h) rfl (fun i v w w' h hb => Spec.keep h hb) ?_ ⟨?_, ?_, ?_, ?_, ?_, ?_, ?_, ?_, ?_, ?_, ?_, ?_, ?_, trivial⟩ ?_
  · intro o ho ac w hb hu hk
    obtain rfl : _ = o := Option.some.inj ho
    have e5 : ac.eval (.tmp 5) = (.tuple #[.agg Z, .int .i64 0]) := (hk ⟨9, .data⟩ (by simp) rfl).is rfl rfl
    refine ⟨.int .i64 0, .inl ⟨wanted_none rfl, fun W => ?_⟩, rfl⟩
    generalize ac.eval = ρ at e5 ⊢
    go_simp
  · refine StepOKl.of ?_
    intro ac w hb hu hk
    refine ⟨wanted_none rfl, ?_⟩
    have e0 : ac.eval (.tmp 0) = .pointer (some ⟨k, 0, none⟩) := hu.is (t := 0) (by kernel_rfl)
    exact step_value (BigFrame.run_move (.tmp 0) rfl w) (Below.refl _ _) e0
  · refine StepOKl.of ?_
    intro ac w hb hu hk
    refine ⟨wanted_none rfl, ?_⟩
    have e6 : ac.eval (.tmp 6) = (.pointer (some ⟨k, 0, none⟩)) := (hk ⟨0, .data⟩ (by simp) rfl).is rfl rfl
    refine step_value (w' := w) (v := .pointer (some ⟨k, 0, none⟩)) ?_ (Below.refl _ _) rfl
    generalize ac.eval = ρ at e6 ⊢
    go_simp
  · refine StepOKl.of ?_
    intro ac w hb hu hk
    refine ⟨wanted_none rfl, ?_⟩
    have e7 : ac.eval (.tmp 7) = (.pointer (some ⟨k, 0, none⟩)) := (hk ⟨1, .data⟩ (by simp) rfl).is rfl rfl
    refine step_value (w' := w) (v := .pointer (some ⟨k, 2, none⟩)) ?_ (Below.refl _ _) rfl
    generalize ac.eval = ρ at e7 ⊢
    go_simp
  · refine StepOKl.of ?_
    intro ac w hb hu hk
    refine ⟨wanted_none rfl, ?_⟩
    have e8 : ac.eval (.tmp 8) = (.pointer (some ⟨k, 2, none⟩)) := (hk ⟨2, .data⟩ (by simp) rfl).is rfl rfl
    exact step_value (run_load_row 23 (.tmp 8) rfl k 2 e8 (Lib.byteCells sd) _ (HRG.out w hb) Tryz.underlying23 rfl (by rw [Lib.byteCells_length, HSD.out]; kernel_rfl) HXS.out.symm) (Below.refl _ _) rfl
  · refine StepOKl.of ?_
    intro ac w hb hu hk
    refine ⟨wanted_none rfl, ?_⟩
    have e0 : ac.eval (.tmp 0) = .pointer (some ⟨k, 0, none⟩) := hu.is (t := 0) (by kernel_rfl)
    exact step_value (BigFrame.run_move (.tmp 0) rfl w) (Below.refl _ _) e0
  · refine StepOKl.of ?_
    intro ac w hb hu hk
    refine ⟨wanted_none rfl, ?_⟩
    have e10 : ac.eval (.tmp 10) = (.pointer (some ⟨k, 0, none⟩)) := (hk ⟨4, .data⟩ (by simp) rfl).is rfl rfl
    refine step_value (w' := w) (v := .pointer (some ⟨k, 0, none⟩)) ?_ (Below.refl _ _) rfl
    generalize ac.eval = ρ at e10 ⊢
    go_simp
  · refine StepOKl.of ?_
    intro ac w hb hu hk
    refine ⟨wanted_none rfl, ?_⟩
    have e11 : ac.eval (.tmp 11) = (.pointer (some ⟨k, 0, none⟩)) := (hk ⟨5, .data⟩ (by simp) rfl).is rfl rfl
    refine step_value (w' := w) (v := .pointer (some ⟨k, 18, none⟩)) ?_ (Below.refl _ _) rfl
    generalize ac.eval = ρ at e11 ⊢
    go_simp
  · refine StepOKl.of ?_
    intro ac w hb hu hk
    refine ⟨wanted_none rfl, ?_⟩
    have e12 : ac.eval (.tmp 12) = (.pointer (some ⟨k, 18, none⟩)) := (hk ⟨6, .data⟩ (by simp) rfl).is rfl rfl
    have hc := HHI.out w hb
    refine step_value (w' := w) (v := .int .i64 (h : Int)) ?_ (Below.refl _ _) rfl
    generalize ac.eval = ρ at e12 ⊢
    go_simp
  · refine StepOKl.of ?_
    intro ac w hb hu hk
    refine ⟨wanted_none rfl, ?_⟩
    have e9 : ac.eval (.tmp 9) = (.agg XS) := (hk ⟨3, .data⟩ (by simp) rfl).is rfl rfl
    have e13 : ac.eval (.tmp 13) = (.int .i64 (h : Int)) := (hk ⟨7, .data⟩ (by simp) rfl).is rfl rfl
    have ef : ac.eval (.func 39) = .func (.func 39) #[] #[] := rfl
    refine step_enter (f := 39) (args := #[.agg XS, .int .i64 (h : Int)]) ?_ ?_
    · generalize ac.eval = ρ at e9 e13 ef ⊢
      go_simp
    · exact (HPR.out w hb).mono fun e w' ⟨he, hq⟩ => ⟨_, he, rfl, hq⟩
  · refine StepOKl.of ?_
    intro ac w hb hu hk
    refine ⟨wanted_none rfl, ?_⟩
    have e14 : ac.eval (.tmp 14) = (.tuple #[.agg Z, .int .i64 0]) := (hk ⟨8, .data⟩ (by simp) rfl).is rfl rfl
    exact step_value (BigFrame.run_move (.tmp 14) rfl w) (Below.refl _ _) e14
  · refine StepOKl.of ?_
    intro ac w hb hu hk
    refine ⟨wanted_none rfl, ?_⟩
    have e5 : ac.eval (.tmp 5) = (.tuple #[.agg Z, .int .i64 0]) := (hk ⟨9, .data⟩ (by simp) rfl).is rfl rfl
    refine step_value (w' := w) (v := .agg Z) ?_ (Below.refl _ _) rfl
    generalize ac.eval = ρ at e5 ⊢
    go_simp
  · refine StepOKl.of ?_
    intro ac w hb hu hk
    refine ⟨wanted_none rfl, ?_⟩
    have e5 : ac.eval (.tmp 5) = (.tuple #[.agg Z, .int .i64 0]) := (hk ⟨9, .data⟩ (by simp) rfl).is rfl rfl
    refine step_value (w' := w) (v := .int .i64 0) ?_ (Below.refl _ _) rfl
    generalize ac.eval = ρ at e5 ⊢
    go_simp
  · intro ac w hb hu hk
    refine ⟨wanted_none rfl, ?_⟩
    exact step_alloc_new rfl (HZV.out w) ⟨w.heap.size, rfl, hb.size, Blk.new w ZZ _⟩
  · intro ac w' hb hu hk hap
    obtain ⟨_, h3, ⟨g3, rfl, hg3, hG3⟩⟩ := (hk 12 (by decide)).put rfl rfl
    obtain ⟨_, h5, rfl⟩ := (hk 9 (by decide)).put rfl rfl
    obtain ⟨_, h6, rfl⟩ := (hk 0 (by decide)).put rfl rfl
    obtain ⟨_, h7, rfl⟩ := (hk 1 (by decide)).put rfl rfl
    obtain ⟨_, h8, rfl⟩ := (hk 2 (by decide)).put rfl rfl
    obtain ⟨_, h9, rfl⟩ := (hk 3 (by decide)).put rfl rfl
    obtain ⟨_, h10, rfl⟩ := (hk 4 (by decide)).put rfl rfl
    obtain ⟨_, h11, rfl⟩ := (hk 5 (by decide)).put rfl rfl
    obtain ⟨_, h12, rfl⟩ := (hk 6 (by decide)).put rfl rfl
    obtain ⟨_, h13, rfl⟩ := (hk 7 (by decide)).put rfl rfl
    obtain ⟨_, h14, rfl⟩ := (hk 8 (by decide)).put rfl rfl
    obtain ⟨_, h15, rfl⟩ := (hk 10 (by decide)).put rfl rfl
    obtain ⟨_, h16, rfl⟩ := (hk 11 (by decide)).put rfl rfl
    clear hap
    have hF : AllPuts ac.tmps ((3, _) :: (5, _) :: (6, _) :: (7, _) :: (8, _) :: (9, _) :: (10, _) :: (11, _) :: (12, _) :: (13, _) :: (14, _) :: (15, _) :: (16, _) :: []) := ⟨h3, h5, h6, h7, h8, h9, h10, h11, h12, h13, h14, h15, h16, trivial⟩
    obtain rfl := frame_puts hu (by kernel_rfl) hF
    simp only [puts, Act.put, List.setIfInBounds_toArray, List.set_cons_zero, List.set_cons_succ, List.drop_succ_cons, List.drop_zero]
    clear hk hu hF h3 h5 h6 h7 h8 h9 h10 h11 h12 h13 h14 h15 h16
    have hG3 : Blk w' g3 ZZ 44 := hG3
    have hs5 := hb.size
    go_upto_region 2 with (with_reducible refine wpList_store_blk rfl 44 (.tmp 3) (.tmp 15) rfl g3 Z rfl rfl 44 ZZ hG3 (by rw [HZZ.out]; kernel_rfl) (by rw [HZZ.out, HZZZ.out]) HZO.out ?_)
    generalize hwn : World.setRow _ _ _ = w8
    have hal : Below w3.heap.size w3 w8 := by
      rw [← hwn]
      exact below_row hb hs5 hg3 _
    have HB3 := Lib.hid (show Blk w8 g3 Z 44 by
      rw [← hwn]
      exact hG3.row _)
    replace HB2 := Lib.hid (HB2.out.below hal HB2.out.lt)
    have HB8 := Lib.hid (HBW.out.trans (hal.mono HBW.out.size))
    clear hal hwn hb hg3 hG3 hs5 HRG HHI HPR
    go_wp2_with (first
      | (with_reducible refine wpList_load_blk rfl 44 (.tmp 3) rfl g3 rfl 44 Z _ HB3.out Tryz.underlying44 rfl (by rw [HZZ.out]; kernel_rfl) ?_)
      | (with_reducible refine wpList_store_blk rfl 44 (.tmp 2) (.tmp 17) rfl g2 Z rfl rfl 44 rs2 HB2.out (by rw [HZZ.out]; kernel_rfl) (by rw [HZZ.out, HRZ2.out]) HZO.out ?_))
    refine bodyPost_ret (v := .agg Z) (results_cell_row (p := 2) (ty := 44) (by kernel_rfl) _ _ g2 44 _ (0, 0) _ rfl (HB2.out.row Z) Tryz.underlying44 rfl (by rw [HZZ.out]; kernel_rfl)) rfl ⟨rfl, below_row HB8.out HB8.out.size HG2.out _⟩
end Go.Proofs.YtndknifdajjalaaGreatDoor
