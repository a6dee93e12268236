/- Slot of the program and of the document; the document's Enabler. -/
import Derived.Test.YtkkokngdhhakdaaDoorCapO
namespace Go.Proofs.YtkkokngdhhakdaaDoor
open Go.RowKit
set_option maxRecDepth 100000

set_option maxHeartbeats 8000000 in
theorem pslot_any {w : World} {sd fp : List UInt8} (hs : sd.length = 16) (hf : fp.length = 32) (htab : Pow10 w.heap.size w) :
    Calls Tryd.prog 9 #[.agg (u8A sd), .agg (u8A fp)] w fun e w' => e = .returned (.agg (capA (slot13 sd fp) (.slice none 0 0))) ∧ Below w.heap.size w w' := by
  obtain ⟨SD, hSD⟩ : ∃ x, u8A sd = x := ⟨_, rfl⟩
  obtain ⟨FP, hFP⟩ : ∃ x, u8A fp = x := ⟨_, rfl⟩
  obtain ⟨K, hK⟩ : ∃ x, u8A (short13 wriTag [sd]) = x := ⟨_, rfl⟩
  obtain ⟨CS, hCS⟩ : ∃ x, capA (slot13 sd fp) (.slice none 0 0) = x := ⟨_, rfl⟩
  have HBU := Lib.hid (show Tryd.prog.built 28 [(0, .int .i64 4), (1, .agg K), (2, .agg FP)] = some CS by
    rw [← hK, ← hFP, ← hCS]
    exact built_slot _ _ (short13_len _ _) hf)
  have HZC := Lib.hid (show CS.size = 53 ∧ CS.all (·.oneCell') = true by rw [← hCS]; exact ⟨capA_size ⟨short13_len _ _, hf⟩ _, capA_one⟩)
  have HZF := Lib.hid (show FP.size = 32 by rw [← hFP, u8A_size]; exact hf)
  have HLE := Lib.hid hs
  have HTG := Lib.hid (fun (g : Nat) (W : World) (hW : Below w.heap.size w W) (hr : RdR W W.heap.size (some ⟨g, 0, none⟩) [sd]) => (show Calls Tryd.prog 15 #[.string ⟨#[119, 114, 105, 116, 101]⟩, .slice (some ⟨g, 0, none⟩) 1 1] W fun e w' => e = .returned (.agg K) ∧ Below W.heap.size W w' from by
    have h := short_any wriTag (some ⟨g, 0, none⟩) 1 1 [sd] W (by decide) rfl (by decide) (fun r h => by
      simp at h
      rw [h]
      omega) hr (tab_on htab hW hW.size)
    rw [← hK]
    exact h))
  have HSD := Lib.hid hSD
  rw [hSD, hFP, hCS]
  clear hSD hFP hK hCS hs hf htab
  go_enter Tryd.func9, Tryd.ntmps9
  go_upto_region 1 with fail
  generalize hwa : World.alloc _ _ = w1
  obtain ⟨g2, h2⟩ : ∃ g, w.heap.size = g := ⟨_, rfl⟩
  obtain ⟨g3, h3⟩ : ∃ g, w.heap.size + 1 = g := ⟨_, rfl⟩
  obtain ⟨r, hr⟩ : ∃ g, w.heap.size + 2 = g := ⟨_, rfl⟩
  have hst : Blk w1 g2 SD 23 ∧ Blk w1 g3 FP 25 ∧ (∃ rs, Blk w1 r rs 28 ∧ rs.size = 53) ∧ Below w.heap.size w w1 := by
    obtain ⟨Y, hY, hz⟩ : ∃ Y : Array Value, w1 = ((w.alloc (.cells SD 23)).alloc (.cells FP 25)).alloc (.cells Y 28) ∧ Y.size = 53 := ⟨_, hwa.symm, rfl⟩
    have hs1 : (w.alloc (.cells SD 23)).heap.size = w.heap.size + 1 := by simp
    have hs2 : ((w.alloc (.cells SD 23)).alloc (.cells FP 25)).heap.size = w.heap.size + 2 := by simp
    rw [hY, ← h2, ← h3, ← hr]
    exact ⟨((Blk.new _ _ _).alloc _).alloc _, by rw [← hs1]; exact (Blk.new _ _ _).alloc _, ⟨Y, by rw [← hs2]; exact Blk.new _ _ _, hz⟩, (((Below.refl _ _).alloc (Nat.le_refl _) _).alloc (by simp) _).alloc (by simp; omega) _⟩
  have HNE := Lib.hid (show w.heap.size ≤ r by omega)
  rw [hr, h3, h2]
  obtain ⟨rs, hrs, hrz⟩ := hst.2.2.1
  have HRS := Lib.hid hrs
  have HRZ := Lib.hid hrz
  have HBW := Lib.hid hst.2.2.2
  have HR2 := Lib.hid (fun W (h : Below w1.heap.size w1 W) => rdK (HSD.out ▸ hst.1.below h hst.1.lt : Blk W g2 (u8A sd) 23))
  have HBF := Lib.hid (fun W (h : Below w1.heap.size w1 W) => hst.2.1.below h hst.2.1.lt)
  have HB := Lib.hid h2
  clear hwa h2 h3 hr hst hrs hrz HSD
  refine wp_region_loose 5 1 (fun i => false) (promises [.is (.slice (some ⟨g2, 0, none⟩) 16 16), .rows 1 [sd], .is (.agg K), .is (.agg FP), .is (.agg CS)]) (by kernel_rfl) rfl (by kernel_rfl) (fun i v w w' h hb => Spec.keep h hb) ⟨?_, ?_, ?_, ?_, ?_, trivial⟩ ?_
  · refine StepOKl.of ?_
    intro ac w hb hu hk
    refine ⟨wanted_none rfl, ?_⟩
    have e2 : ac.eval (.tmp 2) = .pointer (some ⟨g2, 0, none⟩) := hu.is (t := 2) (by kernel_rfl)
    refine step_value (w' := w) (v := .slice (some ⟨g2, 0, none⟩) 16 16) ?_ (Below.refl _ _) rfl
    generalize ac.eval = ρ at e2 ⊢
    go_simp
  · refine StepOKl.of ?_
    intro ac w hb hu hk
    refine ⟨wanted_none rfl, ?_⟩
    have e5 : ac.eval (.tmp 5) = (.slice (some ⟨g2, 0, none⟩) 16 16) := (hk ⟨0, .data⟩ (by simp) rfl).is rfl rfl
    refine step_value (w' := w.alloc (.cells #[.slice (some ⟨g2, 0, none⟩) 16 16] 26)) (v := .slice (some ⟨w.heap.size, 0, none⟩) 1 1) ?_ ((Below.refl _ _).alloc (Nat.le_refl _) _) ⟨w.heap.size, rfl, rdr_leafC w _ HLE.out (Nat.le_refl _) (by decide) (HR2.out w hb)⟩
    generalize ac.eval = ρ at e5 ⊢
    go_simp
  · refine StepOKl.of ?_
    intro ac w hb hu hk
    refine ⟨wanted_none rfl, ?_⟩
    have e6 : ∃ g, ac.eval (.tmp 6) = .slice (some ⟨g, 0, none⟩) 1 1 ∧ RdR w w.heap.size (some ⟨g, 0, none⟩) [sd] := (hk ⟨1, .data⟩ (by simp) rfl).is rfl rfl
    obtain ⟨g, eg, hr⟩ := e6
    have ef : ac.eval (.func 15) = .func (.func 15) #[] #[] := rfl
    have es : ac.eval (.const (.string ⟨#[119, 114, 105, 116, 101]⟩)) = .string ⟨#[119, 114, 105, 116, 101]⟩ := rfl
    refine step_enter (f := 15) (args := #[.string ⟨#[119, 114, 105, 116, 101]⟩, .slice (some ⟨g, 0, none⟩) 1 1]) ?_ ?_
    · generalize ac.eval = ρ at eg es ef ⊢
      go_simp
    · exact (HTG.out g w (HBW.out.trans (hb.mono HBW.out.size)) hr).mono fun e w' ⟨he, hq⟩ => ⟨_, he, rfl, hq⟩
  · refine StepOKl.of ?_
    intro ac w hb hu hk
    refine ⟨wanted_none rfl, ?_⟩
    have e3 : ac.eval (.tmp 3) = .pointer (some ⟨g3, 0, none⟩) := hu.is (t := 3) (by kernel_rfl)
    exact wp_load_row 25 (.tmp 3) rfl g3 e3 25 FP (0, 0) _ (HBF.out w hb) Tryd.underlying25 rfl (by rw [HZF.out]; kernel_rfl) ⟨_, rfl, rfl, Below.refl _ _⟩
  · refine StepOKl.of ?_
    intro ac w hb hu hk
    refine ⟨wanted_none rfl, ?_⟩
    have e7 : ac.eval (.tmp 7) = (.agg K) := (hk ⟨2, .data⟩ (by simp) rfl).is rfl rfl
    have e8 : ac.eval (.tmp 8) = (.agg FP) := (hk ⟨3, .data⟩ (by simp) rfl).is rfl rfl
    have ec : ac.eval (.const (.int .i64 4)) = .int .i64 4 := rfl
    refine step_value (w' := w) (v := .agg CS) ?_ (Below.refl _ _) rfl
    exact run_build_C 28 _ rfl [(0, .int .i64 4), (1, .agg K), (2, .agg FP)] (by simp [e7, e8, ec]) _ CS HBU.out rfl
  · intro ac w' hb hu hk hap
    obtain ⟨_, h5, rfl⟩ := (hk 0 (by decide)).put rfl rfl
    obtain ⟨_, h6, ⟨g6, rfl, hG6⟩⟩ := (hk 1 (by decide)).put rfl rfl
    obtain ⟨_, h7, rfl⟩ := (hk 2 (by decide)).put rfl rfl
    obtain ⟨_, h8, rfl⟩ := (hk 3 (by decide)).put rfl rfl
    obtain ⟨_, h9, rfl⟩ := (hk 4 (by decide)).put rfl rfl
    clear hap
    have hF : AllPuts ac.tmps ((5, _) :: (6, _) :: (7, _) :: (8, _) :: (9, _) :: []) := ⟨h5, h6, h7, h8, h9, trivial⟩
    obtain rfl := frame_puts hu (by kernel_rfl) hF
    simp only [puts, Act.put, List.setIfInBounds_toArray, List.set_cons_zero, List.set_cons_succ, List.drop_succ_cons, List.drop_zero]
    clear hk hu hF h5 h6 h7 h8 h9
    have HRS2 := Lib.hid (HRS.out.below hb HRS.out.lt)
    have HBE := Lib.hid (HBW.out.trans (hb.mono HBW.out.size))
    clear hb HTG HR2 HBF HRS HBU
    go_wp2_with (with_reducible refine wpList_store_blkTo rfl 28 (.tmp 4) (.tmp 9) rfl rfl r CS rfl rfl 28 rs HRS2.out (by rw [HZC.out.1]; kernel_rfl) (by rw [HZC.out.1, HRZ.out]) HZC.out.2 ?_)
    have hs := below_row HBE.out HBE.out.size HNE.out CS
    refine bodyPost_ret (v := .agg CS) (results_cell_row (p := 4) (ty := 28) (by kernel_rfl) _ _ r 28 _ (0, 0) _ rfl (HRS2.out.row CS) Tryd.underlying28 rfl (by rw [HZC.out.1]; kernel_rfl)) rfl ⟨rfl, by first | exact hs | (rw [← HB.out]; exact hs)⟩

set_option maxHeartbeats 8000000 in
theorem rslotc_any {w : World} {sd fp : List UInt8} (hs : sd.length = 16) (hf : fp.length = 32) :
    Calls Tryd.prog 25 #[.agg (u8A sd), .agg (u8A fp)] w fun e w' => e = .returned (.agg (capA (slot13 sd fp) (.slice none 0 0))) ∧ Below w.heap.size w w' := by
  obtain ⟨SD, hSD⟩ : ∃ x, u8A sd = x := ⟨_, rfl⟩
  obtain ⟨FP, hFP⟩ : ∃ x, u8A fp = x := ⟨_, rfl⟩
  obtain ⟨K, hK⟩ : ∃ x, u8A (short13 wriTag [sd]) = x := ⟨_, rfl⟩
  obtain ⟨CS, hCS⟩ : ∃ x, capA (slot13 sd fp) (.slice none 0 0) = x := ⟨_, rfl⟩
  have HBU := Lib.hid (show Tryd.prog.built 28 [(0, .int .i64 4), (1, .agg K), (2, .agg FP)] = some CS by
    rw [← hK, ← hFP, ← hCS]
    exact built_slot _ _ (short13_len _ _) hf)
  have HZC := Lib.hid (show CS.size = 53 ∧ CS.all (·.oneCell') = true by rw [← hCS]; exact ⟨capA_size ⟨short13_len _ _, hf⟩ _, capA_one⟩)
  have HZF := Lib.hid (show FP.size = 32 by rw [← hFP, u8A_size]; exact hf)
  have HLE := Lib.hid hs
  have HTG := Lib.hid (fun (g : Nat) (W : World) (hr : RdR W W.heap.size (some ⟨g, 0, none⟩) [sd]) => (show Calls Tryd.prog 46 #[.string ⟨#[119, 114, 105, 116, 101]⟩, .slice (some ⟨g, 0, none⟩) 1 1] W fun e w' => e = .returned (.agg K) ∧ Below W.heap.size W w' from by
    have h := rshort_any wriTag (some ⟨g, 0, none⟩) 1 1 [sd] W (by decide) rfl (by decide) (fun r h => by
      simp at h
      rw [h]
      omega) hr
    rw [← hK]
    exact h))
  have HSD := Lib.hid hSD
  rw [hSD, hFP, hCS]
  clear hSD hFP hK hCS hs hf
  go_enter Tryd.func25, Tryd.ntmps25
  go_upto_region 1 with fail
  generalize hwa : World.alloc _ _ = w1
  obtain ⟨g2, h2⟩ : ∃ g, w.heap.size = g := ⟨_, rfl⟩
  obtain ⟨g3, h3⟩ : ∃ g, w.heap.size + 1 = g := ⟨_, rfl⟩
  obtain ⟨r, hr⟩ : ∃ g, w.heap.size + 2 = g := ⟨_, rfl⟩
  have hst : Blk w1 g2 SD 23 ∧ Blk w1 g3 FP 25 ∧ (∃ rs, Blk w1 r rs 28 ∧ rs.size = 53) ∧ Below w.heap.size w w1 := by
    obtain ⟨Y, hY, hz⟩ : ∃ Y : Array Value, w1 = ((w.alloc (.cells SD 23)).alloc (.cells FP 25)).alloc (.cells Y 28) ∧ Y.size = 53 := ⟨_, hwa.symm, rfl⟩
    have hs1 : (w.alloc (.cells SD 23)).heap.size = w.heap.size + 1 := by simp
    have hs2 : ((w.alloc (.cells SD 23)).alloc (.cells FP 25)).heap.size = w.heap.size + 2 := by simp
    rw [hY, ← h2, ← h3, ← hr]
    exact ⟨((Blk.new _ _ _).alloc _).alloc _, by rw [← hs1]; exact (Blk.new _ _ _).alloc _, ⟨Y, by rw [← hs2]; exact Blk.new _ _ _, hz⟩, (((Below.refl _ _).alloc (Nat.le_refl _) _).alloc (by simp) _).alloc (by simp; omega) _⟩
  have HNE := Lib.hid (show w.heap.size ≤ r by omega)
  rw [hr, h3, h2]
  obtain ⟨rs, hrs, hrz⟩ := hst.2.2.1
  have HRS := Lib.hid hrs
  have HRZ := Lib.hid hrz
  have HBW := Lib.hid hst.2.2.2
  have HR2 := Lib.hid (fun W (h : Below w1.heap.size w1 W) => rdK (HSD.out ▸ hst.1.below h hst.1.lt : Blk W g2 (u8A sd) 23))
  have HBF := Lib.hid (fun W (h : Below w1.heap.size w1 W) => hst.2.1.below h hst.2.1.lt)
  have HB := Lib.hid h2
  clear hwa h2 h3 hr hst hrs hrz HSD
  refine wp_region_loose 5 1 (fun i => false) (promises [.is (.slice (some ⟨g2, 0, none⟩) 16 16), .rows 1 [sd], .is (.agg K), .is (.agg FP), .is (.agg CS)]) (by kernel_rfl) rfl (by kernel_rfl) (fun i v w w' h hb => Spec.keep h hb) ⟨?_, ?_, ?_, ?_, ?_, trivial⟩ ?_
  · refine StepOKl.of ?_
    intro ac w hb hu hk
    refine ⟨wanted_none rfl, ?_⟩
    have e2 : ac.eval (.tmp 2) = .pointer (some ⟨g2, 0, none⟩) := hu.is (t := 2) (by kernel_rfl)
    refine step_value (w' := w) (v := .slice (some ⟨g2, 0, none⟩) 16 16) ?_ (Below.refl _ _) rfl
    generalize ac.eval = ρ at e2 ⊢
    go_simp
  · refine StepOKl.of ?_
    intro ac w hb hu hk
    refine ⟨wanted_none rfl, ?_⟩
    have e5 : ac.eval (.tmp 5) = (.slice (some ⟨g2, 0, none⟩) 16 16) := (hk ⟨0, .data⟩ (by simp) rfl).is rfl rfl
    refine step_value (w' := w.alloc (.cells #[.slice (some ⟨g2, 0, none⟩) 16 16] 26)) (v := .slice (some ⟨w.heap.size, 0, none⟩) 1 1) ?_ ((Below.refl _ _).alloc (Nat.le_refl _) _) ⟨w.heap.size, rfl, rdr_leafC w _ HLE.out (Nat.le_refl _) (by decide) (HR2.out w hb)⟩
    generalize ac.eval = ρ at e5 ⊢
    go_simp
  · refine StepOKl.of ?_
    intro ac w hb hu hk
    refine ⟨wanted_none rfl, ?_⟩
    have e6 : ∃ g, ac.eval (.tmp 6) = .slice (some ⟨g, 0, none⟩) 1 1 ∧ RdR w w.heap.size (some ⟨g, 0, none⟩) [sd] := (hk ⟨1, .data⟩ (by simp) rfl).is rfl rfl
    obtain ⟨g, eg, hr⟩ := e6
    have ef : ac.eval (.func 46) = .func (.func 46) #[] #[] := rfl
    have es : ac.eval (.const (.string ⟨#[119, 114, 105, 116, 101]⟩)) = .string ⟨#[119, 114, 105, 116, 101]⟩ := rfl
    refine step_enter (f := 46) (args := #[.string ⟨#[119, 114, 105, 116, 101]⟩, .slice (some ⟨g, 0, none⟩) 1 1]) ?_ ?_
    · generalize ac.eval = ρ at eg es ef ⊢
      go_simp
    · exact (HTG.out g w hr).mono fun e w' ⟨he, hq⟩ => ⟨_, he, rfl, hq⟩
  · refine StepOKl.of ?_
    intro ac w hb hu hk
    refine ⟨wanted_none rfl, ?_⟩
    have e3 : ac.eval (.tmp 3) = .pointer (some ⟨g3, 0, none⟩) := hu.is (t := 3) (by kernel_rfl)
    exact wp_load_row 25 (.tmp 3) rfl g3 e3 25 FP (0, 0) _ (HBF.out w hb) Tryd.underlying25 rfl (by rw [HZF.out]; kernel_rfl) ⟨_, rfl, rfl, Below.refl _ _⟩
  · refine StepOKl.of ?_
    intro ac w hb hu hk
    refine ⟨wanted_none rfl, ?_⟩
    have e7 : ac.eval (.tmp 7) = (.agg K) := (hk ⟨2, .data⟩ (by simp) rfl).is rfl rfl
    have e8 : ac.eval (.tmp 8) = (.agg FP) := (hk ⟨3, .data⟩ (by simp) rfl).is rfl rfl
    have ec : ac.eval (.const (.int .i64 4)) = .int .i64 4 := rfl
    refine step_value (w' := w) (v := .agg CS) ?_ (Below.refl _ _) rfl
    exact run_build_C 28 _ rfl [(0, .int .i64 4), (1, .agg K), (2, .agg FP)] (by simp [e7, e8, ec]) _ CS HBU.out rfl
  · intro ac w' hb hu hk hap
    obtain ⟨_, h5, rfl⟩ := (hk 0 (by decide)).put rfl rfl
    obtain ⟨_, h6, ⟨g6, rfl, hG6⟩⟩ := (hk 1 (by decide)).put rfl rfl
    obtain ⟨_, h7, rfl⟩ := (hk 2 (by decide)).put rfl rfl
    obtain ⟨_, h8, rfl⟩ := (hk 3 (by decide)).put rfl rfl
    obtain ⟨_, h9, rfl⟩ := (hk 4 (by decide)).put rfl rfl
    clear hap
    have hF : AllPuts ac.tmps ((5, _) :: (6, _) :: (7, _) :: (8, _) :: (9, _) :: []) := ⟨h5, h6, h7, h8, h9, trivial⟩
    obtain rfl := frame_puts hu (by kernel_rfl) hF
    simp only [puts, Act.put, List.setIfInBounds_toArray, List.set_cons_zero, List.set_cons_succ, List.drop_succ_cons, List.drop_zero]
    clear hk hu hF h5 h6 h7 h8 h9
    have HRS2 := Lib.hid (HRS.out.below hb HRS.out.lt)
    have HBE := Lib.hid (HBW.out.trans (hb.mono HBW.out.size))
    clear hb HTG HR2 HBF HRS HBU
    go_wp2_with (with_reducible refine wpList_store_blkTo rfl 28 (.tmp 4) (.tmp 9) rfl rfl r CS rfl rfl 28 rs HRS2.out (by rw [HZC.out.1]; kernel_rfl) (by rw [HZC.out.1, HRZ.out]) HZC.out.2 ?_)
    have hs := below_row HBE.out HBE.out.size HNE.out CS
    refine bodyPost_ret (v := .agg CS) (results_cell_row (p := 4) (ty := 28) (by kernel_rfl) _ _ r 28 _ (0, 0) _ rfl (HRS2.out.row CS) Tryd.underlying28 rfl (by rw [HZC.out.1]; kernel_rfl)) rfl ⟨rfl, by first | exact hs | (rw [← HB.out]; exact hs)⟩

set_option maxHeartbeats 8000000 in
theorem renabler_any {w : World} {c : Cap13} {A : Option Addr} {n cc : Nat} {server : Int} (hw : c.wf) (hn : c.lit.length = n) (hsv : server ≤ 9223372036854775807) :
    Calls Tryd.prog 24 #[.agg (capA c (.slice A n cc)), .int .i64 server] w fun e w' => e = .returned (.tuple #[.agg (u8A (if c.writes then enb13 c.key server else key0)), .int .i64 (if c.writes then 0 else 11)]) ∧ Below w.heap.size w w' := by
  obtain ⟨CX, hCX⟩ : ∃ x, capA c (.slice A n cc) = x := ⟨_, rfl⟩
  have HST := Lib.hid (CapAt.new w (.slice A n cc) hw hCX)
  obtain ⟨OK, hOK⟩ : ∃ x, decide c.writes = x := ⟨_, rfl⟩
  have HV := Lib.hid (fun (W : World) (hW : Below w.heap.size w W) => (show Calls Tryd.prog 45 #[.agg CX] W fun e w' => e = .returned (.bool OK) ∧ Below W.heap.size W w' from by
    rw [← hCX, ← hOK]
    exact rcanwrite_any hw hn))
  obtain ⟨pa, hpa⟩ : ∃ x, put2 server = x := ⟨_, rfl⟩
  have HPL := Lib.hid (show pa.length = 2 by rw [← hpa]; exact put2_len _)
  have HPA := Lib.hid (fun W => (show Calls Tryd.prog 49 #[.int .i64 server, .int .i64 2] W fun e w' => ∃ A c, e = .returned (.slice A 2 c) ∧ 2 ≤ c ∧ c ≤ maxLen ∧ Rd w' w'.heap.size A pa ∧ Below W.heap.size W w' from by rw [← hpa]; exact rput2 server W hsv))
  have HSH := Lib.hid (fun (A2 : Option Addr) (W : World) (hW : Below w.heap.size w W) (hr : RdR W W.heap.size A2 [c.key, pa]) => rshort_any enbTag A2 2 2 [c.key, pa] W (by decide) rfl (by decide) (fun r h => by
    have h1 := hw.1
    have h2 := HPL.out
    simp at h
    rcases h with rfl | rfl <;> omega) hr)
  have HOK := Lib.hid hOK
  have HCX := Lib.hid hCX
  have HW := Lib.hid hw
  rw [hCX]
  clear hCX hOK hw hn
  obtain ⟨K, hK⟩ : ∃ x, u8A (if c.writes then enb13 c.key server else key0) = x := ⟨_, rfl⟩
  obtain ⟨E, hE⟩ : ∃ x, (if c.writes then (0 : Int) else 11) = x := ⟨_, rfl⟩
  have HK := Lib.hid hK
  have HE := Lib.hid hE
  have HPB := Lib.hid hpa
  have HZK := Lib.hid (show K.size = 16 by
    rw [← hK, u8A_size]
    split
    · exact short13_len _ _
    · rfl)
  have HOKK := Lib.hid (show K.all (·.oneCell') = true by rw [← hK]; exact u8A_one _)
  rw [hK, hE]
  clear hK hE hpa
  go_enter Tryd.func24, Tryd.ntmps24
  go_upto_region 1 with fail
  generalize hwa : World.alloc _ _ = w1
  obtain ⟨b, hb⟩ : ∃ g, w.heap.size = g := ⟨_, rfl⟩
  obtain ⟨r, hr⟩ : ∃ g, w.heap.size + 1 = g := ⟨_, rfl⟩
  have hst : CapAt w1 b c (.slice A n cc) ∧ (∃ rs, Blk w1 r rs 23 ∧ rs.size = 16) ∧ Below w.heap.size w w1 := by
    obtain ⟨Y, hY, hz⟩ : ∃ Y : Array Value, w1 = (w.alloc (.cells CX 28)).alloc (.cells Y 23) ∧ Y.size = 16 := ⟨_, hwa.symm, rfl⟩
    have hs1 : (w.alloc (.cells CX 28)).heap.size = w.heap.size + 1 := by simp
    rw [hY, ← hb, ← hr]
    exact ⟨⟨HST.out.blk.alloc _, HW.out⟩, ⟨Y, by rw [← hs1]; exact Blk.new _ _ _, hz⟩, ((Below.refl _ _).alloc (Nat.le_refl _) _).alloc (by simp) _⟩
  have HNE := Lib.hid (show b ≠ r ∧ w.heap.size ≤ r by omega)
  rw [hr]
  rw [hb]
  have HB := Lib.hid hb
  have H1 := Lib.hid hst
  clear HST hwa hb hr hst
  by_cases hyes : c.writes
  · obtain rfl : OK = true := by rw [← HOK.out]; exact decide_eq_true hyes
    have hE : E = 0 := by rw [← HE.out, if_pos hyes]
    subst hE
    have HKK := Lib.hid (show u8A (enb13 c.key server) = K by rw [← HK.out, if_pos hyes])
    clear HK HE hyes
    go_upto_region 3 with (first
      | (refine wpList_load_capC ?_ (.tmp 2) rfl b rfl H1.out.1 HCX.out ?_; · rfl)
      | ((with_reducible refine (HV.out _ H1.out.2.2).mono ?_); rintro e w2 ⟨rfl, hb2⟩))
    have H2 := Lib.hid (show CapAt w2 b c (.slice A n cc) ∧ (∃ rs, Blk w2 r rs 23 ∧ rs.size = 16) ∧ Below w.heap.size w w2 from ⟨H1.out.1.below hb2, by obtain ⟨rs, h1, h2⟩ := H1.out.2.1; exact ⟨rs, h1.below hb2 h1.lt, h2⟩, H1.out.2.2.trans (hb2.mono H1.out.2.2.size)⟩)
    clear hb2 H1 HV
    obtain ⟨w3, hw3⟩ : ∃ x, w2 = x := ⟨_, rfl⟩
    rw [hw3] at H2 ⊢
    clear hw3
    obtain ⟨rs, hrs, hrz⟩ := H2.out.2.1
    have HRS := Lib.hid hrs
    have HRZ := Lib.hid hrz
    clear hrs hrz
    have HSR := Lib.hid (fun W (h : Below w3.heap.size w3 W) => (show Rd W W.heap.size (some ⟨b, 1, none⟩) c.key from Rd.of_range (H2.out.1.below h).lt (H2.out.1.below h).rangeKey))
    have HTG := Lib.hid (fun g W (hW : Below w3.heap.size w3 W) (hr : RdR W W.heap.size (some ⟨g, 0, none⟩) [c.key, pa]) => (show Calls Tryd.prog 46 #[.string ⟨#[101, 110, 97, 98, 108, 101]⟩, .slice (some ⟨g, 0, none⟩) 2 2] W fun e w' => e = .returned (.agg K) ∧ Below W.heap.size W w' from by
      rw [← HKK.out]
      unfold enb13
      rw [HPB.out]
      exact HSH.out _ _ (H2.out.2.2.trans (hW.mono H2.out.2.2.size)) hr))
    clear HSH
    refine wp_region_loose 6 2 (fun i => false) (promises [.is (.pointer (some ⟨b, 1, none⟩)), .is (.slice (some ⟨b, 1, none⟩) 16 16), .is (.int .i64 server), .bycC 2 pa, .rows 2 [c.key, pa], .is (.agg K)]) (by kernel_rfl) rfl (by kernel_rfl) (fun i v w w' h hb => Spec.keep h hb) ⟨?_, ?_, ?_, ?_, ?_, ?_, trivial⟩ ?_
    · refine StepOKl.of ?_
      intro ac w hb hu hk
      refine ⟨wanted_none rfl, ?_⟩
      have e2 : ac.eval (.tmp 2) = .pointer (some ⟨b, 0, none⟩) := hu.is (t := 2) (by kernel_rfl)
      refine step_value (w' := w) (v := .pointer (some ⟨b, 1, none⟩)) ?_ (Below.refl _ _) rfl
      generalize ac.eval = ρ at e2 ⊢
      go_simp
    · refine StepOKl.of ?_
      intro ac w hb hu hk
      refine ⟨wanted_none rfl, ?_⟩
      have e10 : ac.eval (.tmp 10) = (.pointer (some ⟨b, 1, none⟩)) := (hk ⟨0, .data⟩ (by simp) rfl).is rfl rfl
      refine step_value (w' := w) (v := .slice (some ⟨b, 1, none⟩) 16 16) ?_ (Below.refl _ _) rfl
      generalize ac.eval = ρ at e10 ⊢
      go_simp
    · refine StepOKl.of ?_
      intro ac w hb hu hk
      refine ⟨wanted_none rfl, ?_⟩
      have e1 : ac.eval (.tmp 1) = .int .i64 server := hu.is (t := 1) (by kernel_rfl)
      exact step_value (BigFrame.run_move (.tmp 1) rfl w) (Below.refl _ _) e1
    · refine StepOKl.of ?_
      intro ac w hb hu hk
      refine ⟨wanted_none rfl, ?_⟩
      have e12 : ac.eval (.tmp 12) = (.int .i64 server) := (hk ⟨2, .data⟩ (by simp) rfl).is rfl rfl
      have ef : ac.eval (.func 49) = .func (.func 49) #[] #[] := rfl
      have ec : ac.eval (.const (.int .i64 2)) = .int .i64 2 := rfl
      refine step_enter (f := 49) (args := #[.int .i64 server, .int .i64 2]) ?_ ?_
      · generalize ac.eval = ρ at e12 ec ef ⊢
        go_simp
      · exact (HPA.out w).mono fun e w' ⟨A, c, he, hc, hm, hr, hq⟩ => ⟨_, he, ⟨A, c, rfl, hc, hm, hr⟩, hq⟩
    · refine StepOKl.of ?_
      intro ac w hb hu hk
      refine ⟨wanted_none rfl, ?_⟩
      have e11 : ac.eval (.tmp 11) = (.slice (some ⟨b, 1, none⟩) 16 16) := (hk ⟨1, .data⟩ (by simp) rfl).is rfl rfl
      have e13 : ∃ X c, ac.eval (.tmp 13) = .slice X 2 c ∧ 2 ≤ c ∧ c ≤ maxLen ∧ Rd w w.heap.size X pa := (hk ⟨3, .data⟩ (by simp) rfl).is rfl rfl
      obtain ⟨B, d, eB, hcB, hmB, hrB⟩ := e13
      refine step_value (w' := w.alloc (.cells #[.slice (some ⟨b, 1, none⟩) 16 16, .slice B 2 d] 26)) (v := .slice (some ⟨w.heap.size, 0, none⟩) 2 2) ?_ ((Below.refl _ _).alloc (Nat.le_refl _) _) ⟨w.heap.size, rfl, rdr_twoC w _ _ HW.out.1 HPL.out (by decide) (by decide) hcB hmB (HSR.out w hb) hrB⟩
      generalize ac.eval = ρ at e11 eB ⊢
      go_simp
    · refine StepOKl.of ?_
      intro ac w hb hu hk
      refine ⟨wanted_none rfl, ?_⟩
      have e14 : ∃ g, ac.eval (.tmp 14) = .slice (some ⟨g, 0, none⟩) 2 2 ∧ RdR w w.heap.size (some ⟨g, 0, none⟩) [c.key, pa] := (hk ⟨4, .data⟩ (by simp) rfl).is rfl rfl
      obtain ⟨g, eg, hr⟩ := e14
      have ef : ac.eval (.func 46) = .func (.func 46) #[] #[] := rfl
      have es : ac.eval (.const (.string ⟨#[101, 110, 97, 98, 108, 101]⟩)) = .string ⟨#[101, 110, 97, 98, 108, 101]⟩ := rfl
      refine step_enter (f := 46) (args := #[.string ⟨#[101, 110, 97, 98, 108, 101]⟩, .slice (some ⟨g, 0, none⟩) 2 2]) ?_ ?_
      · generalize ac.eval = ρ at eg es ef ⊢
        go_simp
      · exact (HTG.out g w hb hr).mono fun e w' ⟨he, hq⟩ => ⟨_, he, rfl, hq⟩
    · intro ac w' hb hu hk hap
      obtain ⟨_, h10, rfl⟩ := (hk 0 (by decide)).put rfl rfl
      obtain ⟨_, h11, rfl⟩ := (hk 1 (by decide)).put rfl rfl
      obtain ⟨_, h12, rfl⟩ := (hk 2 (by decide)).put rfl rfl
      obtain ⟨_, h13, ⟨X13, xc13, rfl, hxc13, hX13⟩⟩ := (hk 3 (by decide)).put rfl rfl
      obtain ⟨_, h14, ⟨g14, rfl, hG14⟩⟩ := (hk 4 (by decide)).put rfl rfl
      obtain ⟨_, h15, rfl⟩ := (hk 5 (by decide)).put rfl rfl
      clear hap
      have hF : AllPuts ac.tmps ((10, _) :: (11, _) :: (12, _) :: (13, _) :: (14, _) :: (15, _) :: []) := ⟨h10, h11, h12, h13, h14, h15, trivial⟩
      obtain rfl := frame_puts hu (by kernel_rfl) hF
      simp only [puts, Act.put, List.setIfInBounds_toArray, List.set_cons_zero, List.set_cons_succ, List.drop_succ_cons, List.drop_zero]
      clear hk hu hF h10 h11 h12 h13 h14 h15
      have HRS2 := Lib.hid (HRS.out.below hb HRS.out.lt)
      have HBE := Lib.hid (H2.out.2.2.trans (hb.mono H2.out.2.2.size))
      clear hb HPA HTG HSR H2 HRS
      go_wp2_with (with_reducible refine wpList_store_blkTo rfl 23 (.tmp 4) (.tmp 15) rfl rfl r K rfl rfl 23 rs HRS2.out (by rw [HZK.out]; kernel_rfl) (by rw [HZK.out, HRZ.out]) HOKK.out ?_)
      have hs := below_row HBE.out HBE.out.size HNE.out.2 K
      refine bodyPost_ret (v := .tuple #[.agg K, .int .i64 0]) (results_cell_tmpC (p := 4) (q := 5) (ty := 23) (by kernel_rfl) _ _ r 23 _ (0, 0) _ _ rfl rfl (HRS2.out.row K) Tryd.underlying23 rfl (by rw [HZK.out]; kernel_rfl)) rfl ⟨rfl, by first | exact hs | (rw [← HB.out]; exact hs)⟩
  · obtain rfl : OK = false := by rw [← HOK.out]; exact decide_eq_false hyes
    have hE : E = 11 := by rw [← HE.out, if_neg hyes]
    subst hE
    have HKV := Lib.hid (show u8A key0 = K by rw [← HK.out, if_neg hyes])
    clear HK HE hyes HSH
    go_wp2_with (first
      | (refine wpList_load_capC ?_ (.tmp 2) rfl b rfl H1.out.1 HCX.out ?_; · rfl)
      | ((with_reducible refine (HV.out _ H1.out.2.2).mono ?_); rintro e w2 ⟨rfl, hb2⟩; have H2 := H1.out.2.1; obtain ⟨rs, hrs, hrz⟩ := H2; have HRS := Lib.hid (hrs.below hb2 hrs.lt); have HRZ := Lib.hid hrz; have HB2 := Lib.hid (H1.out.2.2.trans (hb2.mono H1.out.2.2.size)); clear hrs hrz hb2)
      | (refine wpList_build_C ?_ 23 #[] rfl [] (by simp) K _ built_key0 HKV.out ?_; · rfl)
      | (with_reducible refine wpList_store_blkTo rfl 23 (.tmp 4) (.tmp 9) rfl rfl r K rfl rfl 23 rs HRS.out (by rw [HZK.out]; kernel_rfl) (by rw [HZK.out, HRZ.out]) HOKK.out ?_))
    have hs := below_row HB2.out HB2.out.size HNE.out.2 K
    refine bodyPost_ret (v := .tuple #[.agg K, .int .i64 11]) (results_cell_tmpC (p := 4) (q := 5) (ty := 23) (by kernel_rfl) _ _ r 23 _ (0, 0) _ _ rfl rfl (HRS.out.row K) Tryd.underlying23 rfl (by rw [HZK.out]; kernel_rfl)) rfl ⟨rfl, by first | exact hs | (rw [← HB.out]; exact hs)⟩

theorem dir_up {c : Cap13} : dirOK c ↔ c.ok ∧ 4 ≤ c.kind ∧ c.kind ≤ 6 := by
  unfold dirOK
  constructor
  · rintro ⟨h, hd⟩
    refine ⟨h, ?_⟩
    rcases ok_nine h with e | e | e | e | e | e | e | e | e <;> (rw [e] at hd ⊢; revert hd; decide)
  · rintro ⟨h, h4, h6⟩
    refine ⟨h, ?_⟩
    rcases ok_nine h with e | e | e | e | e | e | e | e | e <;> first | omega | (rw [e]; decide)
theorem dirK_up {k : Int} (h4 : 4 ≤ k) (h6 : k ≤ 6) : dirK k = k + 3 := by
  have : k = 4 ∨ k = 5 ∨ k = 6 := by omega
  rcases this with rfl | rfl | rfl <;> rfl
set_option maxHeartbeats 8000000 in
theorem rdir_any {w : World} {c : Cap13} {A : Option Addr} {n cc : Nat} (hw : c.wf) (hn : c.lit.length = n) (hc : n ≤ cc) :
    Calls Tryd.prog 23 #[.agg (capA c (.slice A n cc))] w fun e w' => CapSaid w w' e (if dirOK c then dir13 c else cap0) (if dirOK c then 0 else 11) := by
  obtain ⟨CX, hCX⟩ : ∃ x, capA c (.slice A n cc) = x := ⟨_, rfl⟩
  have HST := Lib.hid (fun (W : World) (Y : Array Value) => CapR.start (w := w) (W := W) (Y := Y) hw hCX)
  obtain ⟨OK, hOK⟩ : ∃ x, decide c.ok = x := ⟨_, rfl⟩
  have HVA := Lib.hid (fun (W : World) => (show Calls Tryd.prog 47 #[.agg CX] W fun e w' => e = .returned (.bool OK) ∧ Below W.heap.size W w' from by
    rw [← hCX, ← hOK]
    exact rvalid_any hw hn))
  have HOK := Lib.hid hOK
  have HCX := Lib.hid hCX
  have HN := Lib.hid (And.intro hn hc)
  rw [hCX]
  clear hCX hOK hw hn hc
  obtain ⟨M, hM⟩ : ∃ x, (if dirOK c then dir13 c else cap0) = x := ⟨_, rfl⟩
  obtain ⟨E, hE⟩ : ∃ x, (if dirOK c then (0 : Int) else 11) = x := ⟨_, rfl⟩
  have HM := Lib.hid hM
  have HE := Lib.hid hE
  rw [hM, hE]
  clear hM hE
  go_enter Tryd.func23, Tryd.ntmps23
  go_upto_region 1 with fail
  generalize hwa : World.alloc _ _ = w1
  have H1 := HST.out w1 _ rfl hwa.symm
  clear HST hwa
  obtain ⟨b, hb⟩ : ∃ g, w.heap.size = g := ⟨_, rfl⟩
  obtain ⟨r, hr⟩ : ∃ g, w.heap.size + 1 = g := ⟨_, rfl⟩
  rw [hr] at H1 ⊢
  rw [hb] at H1 ⊢
  have HB := Lib.hid hb
  clear hb hr
  have HR := Lib.hid H1
  clear H1
  by_cases hix : dirOK c
  · have hM : M = dir13 c := by rw [← HM.out, if_pos hix]
    have hE : E = 0 := by rw [← HE.out, if_pos hix]
    obtain ⟨hok, h4, h6⟩ := dir_up.1 hix
    obtain rfl : OK = true := by rw [← HOK.out]; exact decide_eq_true hok
    subst hE
    have hlit : c.lit = [] := idxOK_lit ⟨hok, by omega⟩
    have HMC := Lib.hid (show M = { c with kind := c.kind + 3 } by rw [hM]; unfold dir13; rw [dirK_up h4 h6])
    have HLT := Lib.hid hlit
    have hwr : IntKind.i64.wrap (c.kind + 3) = c.kind + 3 := by rw [IntKind.wrap_i64]; omega
    have HWRP := Lib.hid hwr
    clear hM HM HE hix hlit hok hwr
    go_upto_region 3 with (first
      | (refine wpList_load_capC ?_ (.tmp 1) rfl b rfl HR.out.cap HCX.out ?_; · rfl)
      | ((with_reducible refine (HVA.out _).mono ?_); rintro e w2 ⟨rfl, hb2⟩; have HR2 := Lib.hid (HR.out.below hb2); have c0 := HR2.out.cap.cells.1; have z1 : decide (c.kind < 4) = false := decide_eq_false (by omega); have z2 : decide (c.kind > 6) = false := decide_eq_false (by omega); clear hb2))
    have z0 := HR2.out.cap.frozen 0
    have hwr := HWRP.out
    clear z1 z2 HVA HR h4 h6
    go_upto_region 4 with fail
    have h6 := HR2.out.setKind (c.kind + 3)
    generalize w2.setCell ⟨b, 0, none⟩ (.int .i64 (c.kind + 3)) = wb at *
    have HR6 := Lib.hid (show CapR w wb b r M (.slice A n cc) by rw [HMC.out]; exact h6)
    clear h6 c0 z0 hwr HR2
    obtain ⟨C6, hC6⟩ : ∃ x, capA M (.slice A n cc) = x := ⟨_, rfl⟩
    have HC6 := Lib.hid hC6
    have HZ6 := Lib.hid (show C6.size = 53 by rw [← hC6]; exact capA_size HR6.out.cap.wf _)
    have HO6 := Lib.hid (show C6.all (·.oneCell') = true by rw [← hC6]; exact capA_one)
    have HML := Lib.hid (show M.lit = c.lit by rw [HMC.out])
    obtain ⟨rs, hrs, hrz⟩ := HR6.out.res
    have HRS := Lib.hid hrs
    have HRZ := Lib.hid hrz
    clear hrs hrz hC6
    go_wp2_with (first | (refine wpList_load_capC ?_ (.tmp 1) rfl b rfl HR6.out.cap HC6.out ?_; · rfl) | (with_reducible refine wpList_store_blkTo rfl 28 (.tmp 2) (.tmp 22) rfl rfl r C6 rfl rfl 28 rs HRS.out (by rw [HZ6.out]; kernel_rfl) (by rw [HZ6.out, HRZ.out]) HO6.out ?_))
    have hs := HR6.out.said (by rw [HML.out]; exact HN.out.1) HN.out.2 (cs := C6) ⟨.inl (by rw [HML.out]; exact HLT.out), .inl (by rw [HML.out]; exact HLT.out)⟩ HC6.out
    refine bodyPost_ret (v := .tuple #[.agg C6, .int .i64 0]) (results_cell_tmpC (p := 2) (q := 3) (ty := 28) (by kernel_rfl) _ _ r 28 _ (0, 0) _ _ rfl rfl (HRS.out.row C6) Tryd.underlying28 rfl (by rw [HZ6.out]; kernel_rfl)) rfl ⟨⟨_, rfl, hs.1⟩, by first | exact hs.2 | (rw [← HB.out]; exact hs.2)⟩
  · have hM : M = cap0 := by rw [← HM.out, if_neg hix]
    have hE : E = 11 := by rw [← HE.out, if_neg hix]
    subst hM hE
    clear HM HE
    obtain ⟨C5, hC5⟩ : ∃ x, capA cap0 (.slice none 0 0) = x := ⟨_, rfl⟩
    have HC5 := Lib.hid hC5
    have HZ5 := Lib.hid (show C5.size = 53 by rw [← hC5]; exact capA_size ⟨rfl, rfl⟩ _)
    have HO5 := Lib.hid (show C5.all (·.oneCell') = true by rw [← hC5]; exact capA_one)
    have hno : OK = true → ¬ (4 ≤ c.kind ∧ c.kind ≤ 6) := fun ho h => hix (dir_up.2 ⟨of_decide_eq_true (HOK.out.trans ho), h.1, h.2⟩)
    have HNO := Lib.hid hno
    clear hC5 hix hno
    cases OK
    · go_upto_if 16 with (first
        | (refine wpList_load_capC ?_ (.tmp 1) rfl b rfl HR.out.cap HCX.out ?_; · rfl)
        | ((with_reducible refine (HVA.out _).mono ?_); rintro e w2 ⟨rfl, hb2⟩; have hR2 := HR.out.below hb2; obtain ⟨rs, hrs, hrz⟩ := hR2.res; have c0 := hR2.cap.cells.1; have HR2 := Lib.hid hR2; have HRS := Lib.hid hrs; have HRZ := Lib.hid hrz; clear hR2 hrs hrz hb2))
      clear c0
      go_wp2_with (first
        | (refine wpList_build_C ?_ 28 #[] rfl [] (by simp) C5 _ built_cap0 HC5.out ?_; · rfl)
        | (with_reducible refine wpList_store_blkTo rfl 28 (.tmp 2) (.tmp 17) rfl rfl r C5 rfl rfl 28 rs HRS.out (by rw [HZ5.out]; kernel_rfl) (by rw [HZ5.out, HRZ.out]) HO5.out ?_))
      have hs := HR2.out.tell (d := cap0) (C := C5) ⟨⟨rfl, rfl⟩, none, 0, 0, by rw [HC5.out], rfl, Nat.le_refl _, .inl rfl, .inl rfl⟩ (fun _ _ _ _ => .inl rfl)
      refine bodyPost_ret (v := .tuple #[.agg C5, .int .i64 11]) (results_cell_tmpC (p := 2) (q := 3) (ty := 28) (by kernel_rfl) _ _ r 28 _ (0, 0) _ _ rfl rfl (HRS.out.row C5) Tryd.underlying28 rfl (by rw [HZ5.out]; kernel_rfl)) rfl ⟨⟨_, rfl, hs.1⟩, by first | exact hs.2 | (rw [← HB.out]; exact hs.2)⟩
    · have h46 := HNO.out rfl
      by_cases h4 : c.kind < 4
      · go_upto_if 16 with (first
          | (refine wpList_load_capC ?_ (.tmp 1) rfl b rfl HR.out.cap HCX.out ?_; · rfl)
          | ((with_reducible refine (HVA.out _).mono ?_); rintro e w2 ⟨rfl, hb2⟩; have hR2 := HR.out.below hb2; obtain ⟨rs, hrs, hrz⟩ := hR2.res; have c0 := hR2.cap.cells.1; have HR2 := Lib.hid hR2; have HRS := Lib.hid hrs; have HRZ := Lib.hid hrz; clear hR2 hrs hrz hb2))
        clear c0
        go_wp2_with (first
          | (refine wpList_build_C ?_ 28 #[] rfl [] (by simp) C5 _ built_cap0 HC5.out ?_; · rfl)
          | (with_reducible refine wpList_store_blkTo rfl 28 (.tmp 2) (.tmp 17) rfl rfl r C5 rfl rfl 28 rs HRS.out (by rw [HZ5.out]; kernel_rfl) (by rw [HZ5.out, HRZ.out]) HO5.out ?_))
        have hs := HR2.out.tell (d := cap0) (C := C5) ⟨⟨rfl, rfl⟩, none, 0, 0, by rw [HC5.out], rfl, Nat.le_refl _, .inl rfl, .inl rfl⟩ (fun _ _ _ _ => .inl rfl)
        refine bodyPost_ret (v := .tuple #[.agg C5, .int .i64 11]) (results_cell_tmpC (p := 2) (q := 3) (ty := 28) (by kernel_rfl) _ _ r 28 _ (0, 0) _ _ rfl rfl (HRS.out.row C5) Tryd.underlying28 rfl (by rw [HZ5.out]; kernel_rfl)) rfl ⟨⟨_, rfl, hs.1⟩, by first | exact hs.2 | (rw [← HB.out]; exact hs.2)⟩
      · have h6 : c.kind > 6 := by omega
        have z2 : decide (c.kind > 6) = true := decide_eq_true h6
        go_upto_if 16 with (first
          | (refine wpList_load_capC ?_ (.tmp 1) rfl b rfl HR.out.cap HCX.out ?_; · rfl)
          | ((with_reducible refine (HVA.out _).mono ?_); rintro e w2 ⟨rfl, hb2⟩; have hR2 := HR.out.below hb2; obtain ⟨rs, hrs, hrz⟩ := hR2.res; have c0 := hR2.cap.cells.1; have HR2 := Lib.hid hR2; have HRS := Lib.hid hrs; have HRZ := Lib.hid hrz; clear hR2 hrs hrz hb2))
        clear c0
        go_wp2_with (first
          | (refine wpList_build_C ?_ 28 #[] rfl [] (by simp) C5 _ built_cap0 HC5.out ?_; · rfl)
          | (with_reducible refine wpList_store_blkTo rfl 28 (.tmp 2) (.tmp 17) rfl rfl r C5 rfl rfl 28 rs HRS.out (by rw [HZ5.out]; kernel_rfl) (by rw [HZ5.out, HRZ.out]) HO5.out ?_))
        have hs := HR2.out.tell (d := cap0) (C := C5) ⟨⟨rfl, rfl⟩, none, 0, 0, by rw [HC5.out], rfl, Nat.le_refl _, .inl rfl, .inl rfl⟩ (fun _ _ _ _ => .inl rfl)
        refine bodyPost_ret (v := .tuple #[.agg C5, .int .i64 11]) (results_cell_tmpC (p := 2) (q := 3) (ty := 28) (by kernel_rfl) _ _ r 28 _ (0, 0) _ _ rfl rfl (HRS.out.row C5) Tryd.underlying28 rfl (by rw [HZ5.out]; kernel_rfl)) rfl ⟨⟨_, rfl, hs.1⟩, by first | exact hs.2 | (rw [← HB.out]; exact hs.2)⟩
end Go.Proofs.YtkkokngdhhakdaaDoor
