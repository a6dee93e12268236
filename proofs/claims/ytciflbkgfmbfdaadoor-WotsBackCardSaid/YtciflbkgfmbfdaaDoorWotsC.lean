/- The program's one-time signatures: a step. The program's one-time signatures: where a chain starts. The program's one-time signatures: the hash of ends; all ends of a leaf. -/
import Derived.Test.YtciflbkgfmbfdaaDoorWotsB
import Derived.Test.YtciflbkgfmbfdaaDoorPTOwn
import Derived.Test.YtciflbkgfmbfdaaDoorMakeA
import Derived.Laws.OwnMore
namespace Go.Proofs.YtciflbkgfmbfdaaDoor
open Go.RowKit

set_option maxRecDepth 100000 in
set_option maxHeartbeats 4000000 in
theorem pstep_any (h : List UInt8) (w : World) (hh : h.length = 32) (htab : Pow10 w.heap.size w) :
    Calls Tryd.prog 21 #[.agg (u8A h)] w fun e w' => e = .returned (.agg (u8A (stepH h))) ∧ Below w.heap.size w w' := by
  obtain ⟨X, hX⟩ : ∃ x, u8A h = x := ⟨_, rfl⟩
  obtain ⟨Z, hZ⟩ : ∃ x, u8A (stepH h) = x := ⟨_, rfl⟩
  have HX := Lib.hid hX
  have HZ := Lib.hid hZ
  have HZS := Lib.hid (show Z.size = 32 by rw [← hZ, u8A_size]; exact stepH_len h)
  have HZO := Lib.hid (show Z.all (·.oneCell') = true by rw [← hZ]; exact u8A_one _)
  have HTB := Lib.hid htab
  rw [hX]
  clear hX hZ htab
  go_enter Tryd.func21, Tryd.ntmps21
  go_upto_region 1 with fail
  generalize hw3 : World.alloc _ _ = w3
  obtain ⟨g1, hg1⟩ : ∃ g, w.heap.size = g := ⟨_, rfl⟩
  obtain ⟨g2, hg2⟩ : ∃ g, w.heap.size + 1 = g := ⟨_, rfl⟩
  have hf : Blk w3 g1 X 34 ∧ (∃ rs, Blk w3 g2 rs 34 ∧ rs.size = 32) ∧ Below w.heap.size w w3 := by
    obtain ⟨Y, hw, hY⟩ : ∃ Y, w3 = (w.alloc (.cells X 34)).alloc (.cells Y 34) ∧ Y.size = 32 := ⟨_, hw3.symm, rfl⟩
    have e1 : (w.alloc (.cells X 34)).heap.size = w.heap.size + 1 := by simp
    rw [hw, ← hg1, ← hg2]
    refine ⟨(Blk.new w _ _).alloc _, ⟨Y, ?_, hY⟩, ((Below.refl _ _).alloc (Nat.le_refl _) _).alloc (by simp) _⟩
    rw [← e1]; exact Blk.new _ _ _
  have hal : Below w3.heap.size w3 (w3.alloc (.cells #[.slice (some ⟨g1, 0, none⟩) 32 32] 24)) := (Below.refl _ _).alloc (Nat.le_refl _) _
  have hbx : Blk w3 g1 (u8A h) 34 := by rw [HX.out]; exact hf.1
  have hb1 := hf.2.2.trans (hal.mono hf.2.2.size)
  have HT := Lib.hid (show Calls Tryd.prog 34 #[.string ⟨#[115, 116, 101, 112]⟩, .slice (some ⟨w3.heap.size, 0, none⟩) 1 1] (w3.alloc (.cells #[.slice (some ⟨g1, 0, none⟩) 32 32] 24)) fun e w' => e = .returned (.agg Z) ∧ Below (w3.alloc (.cells #[.slice (some ⟨g1, 0, none⟩) 32 32] 24)).heap.size (w3.alloc (.cells #[.slice (some ⟨g1, 0, none⟩) 32 32] 24)) w' by
    rw [← HZ.out]
    exact tagged_any [115, 116, 101, 112] (some ⟨w3.heap.size, 0, none⟩) 1 1 [h] (w3.alloc (.cells #[.slice (some ⟨g1, 0, none⟩) 32 32] 24)) (by decide) rfl (by decide) (fun r hr => by
      simp at hr
      subst hr
      omega) (rdr_leaf w3 _ hh (Nat.le_refl _) (by decide) (rd_of_blk hbx)) (tab_on HTB.out hb1 hb1.size))
  obtain ⟨rs, hrs, hrz⟩ := hf.2.1
  have HRZ := Lib.hid hrz
  have HR := Lib.hid ((hrs.alloc (.cells #[.slice (some ⟨g1, 0, none⟩) 32 32] 24)))
  have HB := Lib.hid hb1
  have HG := Lib.hid (show w.heap.size ≤ g2 by omega)
  clear hf hw3 hal hbx hb1 hrs hrz
  rw [hg2, hg1]
  clear hg1 hg2
  go_wp2_with fail
  with_reducible refine (HT.out).mono ?_
  rintro e w4 ⟨rfl, hb4⟩
  replace HR := Lib.hid (HR.out.below hb4 HR.out.lt)
  replace HB := Lib.hid (HB.out.trans (hb4.mono HB.out.size))
  clear hb4 HT
  go_wp2_with (with_reducible refine wpList_store_blk rfl 34 (.tmp 2) (.tmp 5) rfl g2 Z rfl rfl 34 rs HR.out (by rw [HZS.out]; kernel_rfl) (by rw [HZS.out, HRZ.out]) HZO.out ?_)
  refine bodyPost_ret (v := .agg Z) (results_cell_row (p := 2) (ty := 34) (by kernel_rfl) _ _ g2 34 _ (0, 0) _ rfl (HR.out.row Z) Tryd.underlying34 rfl (by rw [HZS.out]; kernel_rfl)) rfl ⟨by rw [HZ.out], below_row HB.out HB.out.size HG.out _⟩
set_option maxRecDepth 100000 in
set_option maxHeartbeats 4000000 in
theorem palong_any (h : List UInt8) (n : Int) (w : World) (hh : h.length = 32) (htab : Pow10 w.heap.size w) :
    Calls Tryd.prog 15 #[.agg (u8A h), .int .i64 n] w fun e w' => e = .returned (.agg (u8A (alongH (wots.clampS n) h))) ∧ Below w.heap.size w w' := by
  obtain ⟨X, hX⟩ : ∃ x, u8A h = x := ⟨_, rfl⟩
  have HX := Lib.hid hX
  obtain ⟨M, hM⟩ : ∃ m, wots.clampS n = m := ⟨_, rfl⟩
  obtain ⟨K, hK⟩ : ∃ k, min n 15 = k := ⟨_, rfl⟩
  have hM15 : M ≤ 15 := by rw [← hM]; unfold wots.clampS; split <;> (try split) <;> omega
  have HLT := Lib.hid (fun (i : Nat) => (show (i : Int) < K ↔ i < M by
    rw [← hM, ← hK]
    unfold wots.clampS
    split <;> (try split) <;> omega))
  have HTAB := Lib.hid htab
  rw [hX, hM]
  clear hX hM htab
  go_enter Tryd.func15, Tryd.ntmps15
  go_upto_region 1 with fail
  generalize hw3 : World.alloc _ _ = w3
  obtain ⟨g1, hg1⟩ : ∃ g, w.heap.size = g := ⟨_, rfl⟩
  obtain ⟨g2, hg2⟩ : ∃ g, w.heap.size + 1 = g := ⟨_, rfl⟩
  have hf : Blk w3 g1 X 34 ∧ (∃ rs, Blk w3 g2 rs 34 ∧ rs.size = 32) ∧ Below w.heap.size w w3 := by
    obtain ⟨Y, hw, hY⟩ : ∃ Y, w3 = (w.alloc (.cells X 34)).alloc (.cells Y 34) ∧ Y.size = 32 := ⟨_, hw3.symm, rfl⟩
    have e1 : (w.alloc (.cells X 34)).heap.size = w.heap.size + 1 := by simp
    rw [hw, ← hg1, ← hg2]
    refine ⟨(Blk.new w _ _).alloc _, ⟨Y, ?_, hY⟩, ((Below.refl _ _).alloc (Nat.le_refl _) _).alloc (by simp) _⟩
    rw [← e1]; exact Blk.new _ _ _
  have HB1 := Lib.hid (show Blk w3 g1 (u8A (alongH 0 h)) 34 by
    show Blk w3 g1 (u8A h) _
    rw [HX.out]
    exact hf.1)
  have HB2 := Lib.hid hf.2.1
  have HB3 := Lib.hid hf.2.2
  have HG := Lib.hid (show w.heap.size ≤ g1 ∧ g1 + 1 = g2 by omega)
  clear hf hw3
  rw [hg2, hg1]
  clear hg1 hg2
  go_wp2_with fail
  go_loopw [7] (fun t wq => ∃ i : Nat, i ≤ M ∧ t = .int .i64 (i : Int) ∧ Hid (Blk wq g1 (u8A (alongH i h)) 34) ∧ Hid (∃ rs, Blk wq g2 rs 34 ∧ rs.size = 32) ∧ Hid (Below w.heap.size w wq)) (fun t _ => M - (intOf t).toNat)
  case atStart => exact ⟨0, Nat.zero_le _, rfl, HB1, HB2, HB3⟩
  case round =>
    clear HB1 HB2 HB3
    obtain ⟨i, hi, rfl, HB1, HB2, HB3⟩ := hrel
    have hlen := alongH_len hh i
    by_cases hlt : i < M
    · have h1 := (HLT.out i).2 hlt
      have HSN := Lib.hid (show alongH (i + 1) h = stepH (alongH i h) from wots.along_succ stepH i h)
      have HRX := Lib.hid (range_of_blk HB1.out)
      generalize alongH i h = cur at *
      obtain ⟨C, hC⟩ : ∃ x, u8A cur = x := ⟨_, rfl⟩
      obtain ⟨Z, hZ⟩ : ∃ x, u8A (stepH cur) = x := ⟨_, rfl⟩
      have HC := Lib.hid hC
      have HZ := Lib.hid hZ
      have HZS := Lib.hid (show Z.size = 32 by rw [← hZ, u8A_size]; exact stepH_len _)
      have HZO := Lib.hid (show Z.all (·.oneCell') = true by rw [← hZ]; exact u8A_one _)
      have HCS := Lib.hid (show (u8A cur).size = 32 by rw [u8A_size]; exact hlen)
      have HST := Lib.hid (show Calls Tryd.prog 21 #[.agg C] wr fun e w' => e = .returned (.agg Z) ∧ Below wr.heap.size wr w' by
        rw [← hC, ← hZ]
        exact pstep_any cur wr hlen (tab_on HTAB.out HB3.out HB3.out.size))
      clear hC hZ
      go_wp2_with (with_reducible refine wpList_load_hash rfl (.tmp 2) rfl g1 0 rfl cur hlen HRX.out C HC.out ?_)
      with_reducible refine (HST.out).mono ?_
      rintro e w5 ⟨rfl, hb5⟩
      have HB15 := Lib.hid (HB1.out.below hb5 HB1.out.lt)
      have HN1 := Lib.hid (show Blk (w5.setRow g1 Z) g1 (u8A (alongH (i + 1) h)) 34 by
        rw [HSN.out, HZ.out]
        exact HB15.out.row Z)
      have HN2 := Lib.hid (show ∃ rs, Blk (w5.setRow g1 Z) g2 rs 34 ∧ rs.size = 32 by
        obtain ⟨rs, h3, h4⟩ := HB2.out
        exact ⟨rs, (h3.below hb5 h3.lt).rowOther (by have := HG.out.2; omega) _, h4⟩)
      have hb15 := HB3.out.trans (hb5.mono HB3.out.size)
      have HN3 := Lib.hid (below_row hb15 hb15.size HG.out.1 Z)
      clear hb5 hb15 HST HRX HB1 HB2 HB3
      go_wp2_with (with_reducible refine wpList_store_blk rfl 34 (.tmp 2) (.tmp 10) rfl g1 Z rfl rfl 34 (u8A cur) HB15.out (by rw [HZS.out]; kernel_rfl) (by rw [HZS.out]; exact HCS.out) HZO.out ?_)
      go_roundw
      case rel => exact ⟨i + 1, hlt, by go_num, HN1, HN2, HN3⟩
      case measure => simp [intOf]; omega
    · obtain rfl : M = i := by omega
      have hno : ¬ ((M : Int) < K) := fun h => hlt ((HLT.out M).1 h)
      have HRX := Lib.hid (range_of_blk HB1.out)
      have HCU := Lib.hid (show ∃ c, alongH M h = c from ⟨_, rfl⟩)
      obtain ⟨cur, hcur⟩ := HCU.out
      replace HCU := Lib.hid hcur
      rw [hcur] at hlen HRX
      clear hcur
      obtain ⟨C, hC⟩ : ∃ x, u8A cur = x := ⟨_, rfl⟩
      have HC := Lib.hid hC
      have HZS := Lib.hid (show C.size = 32 by rw [← hC, u8A_size]; exact hlen)
      have HZO := Lib.hid (show C.all (·.oneCell') = true by rw [← hC]; exact u8A_one _)
      obtain ⟨rs, hrs, hrz⟩ := HB2.out
      have HRS := Lib.hid hrs
      have HRZ := Lib.hid hrz
      clear hC hrs hrz HB1 HB2
      go_wp2_with (first
        | (with_reducible refine wpList_load_hash rfl (.tmp 2) rfl g1 0 rfl cur hlen HRX.out C HC.out ?_)
        | (with_reducible refine wpList_store_blk rfl 34 (.tmp 4) (.tmp 12) rfl g2 C rfl rfl 34 rs HRS.out (by rw [HZS.out]; kernel_rfl) (by rw [HZS.out, HRZ.out]) HZO.out ?_))
      refine bodyPost_ret (v := .agg C) (results_cell_row (p := 4) (ty := 34) (by kernel_rfl) _ _ g2 34 _ (0, 0) _ rfl (HRS.out.row C) Tryd.underlying34 rfl (by rw [HZS.out]; kernel_rfl)) rfl ⟨by rw [HCU.out, HC.out], below_row HB3.out HB3.out.size (by have := HG.out; omega) _⟩
end Go.Proofs.YtciflbkgfmbfdaaDoor
namespace Go.Proofs.YtciflbkgfmbfdaaDoor
open Go.RowKit

theorem pput4 (n : Int) (w : World) (hn : n ≤ 9223372036854775807) : Calls Tryd.prog 35 #[.int .i64 n, .int .i64 4] w fun e w' => ∃ A c, e = .returned (.slice A 4 c) ∧ 4 ≤ c ∧ c ≤ maxLen ∧ Rd w' w'.heap.size A (put4 n) ∧ Below w.heap.size w w' :=
  (put_any n 4 w hn).mono fun _ _ ⟨A, c, he, ho, hb⟩ => by
    have e4 : putW 4 = 4 := rfl
    rw [e4] at he ho
    obtain ⟨A', c', e, h1, h2⟩ := own_caps ho
    injection e with e1 e2 e3
    subst e1 e3
    exact ⟨A, c, he, h1, h2, Rd.of_own ho, hb⟩
set_option maxRecDepth 100000 in
set_option maxHeartbeats 4000000 in
theorem pstart_any (sd : List UInt8) (leaf chain : Int) (w : World) (hs : sd.length = 16) (hl : leaf ≤ 9223372036854775807) (hc : chain ≤ 9223372036854775807) (htab : Pow10 w.heap.size w) :
    Calls Tryd.prog 16 #[.agg (u8A sd), .int .i64 leaf, .int .i64 chain] w fun e w' => e = .returned (.agg (u8A (startH sd leaf chain))) ∧ Below w.heap.size w w' := by
  obtain ⟨X, hX⟩ : ∃ x, u8A sd = x := ⟨_, rfl⟩
  obtain ⟨Z, hZ⟩ : ∃ x, u8A (startH sd leaf chain) = x := ⟨_, rfl⟩
  obtain ⟨pa, hpa⟩ : ∃ x, put4 leaf = x := ⟨_, rfl⟩
  obtain ⟨pb, hpb⟩ : ∃ x, put4 chain = x := ⟨_, rfl⟩
  have HX := Lib.hid hX
  have HZ := Lib.hid hZ
  have HSL := Lib.hid hs
  have HZS := Lib.hid (show Z.size = 32 by rw [← hZ, u8A_size]; exact startH_len _ _ _)
  have HZO := Lib.hid (show Z.all (·.oneCell') = true by rw [← hZ]; exact u8A_one _)
  have HPL := Lib.hid (show pa.length = 4 ∧ pb.length = 4 by rw [← hpa, ← hpb]; exact ⟨put4_len _, put4_len _⟩)
  have HPA := Lib.hid (fun W => (show Calls Tryd.prog 35 #[.int .i64 leaf, .int .i64 4] W fun e w' => ∃ A c, e = .returned (.slice A 4 c) ∧ 4 ≤ c ∧ c ≤ maxLen ∧ Rd w' w'.heap.size A pa ∧ Below W.heap.size W w' from by rw [← hpa]; exact pput4 leaf W hl))
  have HPB := Lib.hid (fun W => (show Calls Tryd.prog 35 #[.int .i64 chain, .int .i64 4] W fun e w' => ∃ A c, e = .returned (.slice A 4 c) ∧ 4 ≤ c ∧ c ≤ maxLen ∧ Rd w' w'.heap.size A pb ∧ Below W.heap.size W w' from by rw [← hpb]; exact pput4 chain W hc))
  have HTG := Lib.hid (fun g W (hr : RdR W W.heap.size (some ⟨g, 0, none⟩) [sd, pa, pb]) (hW : Pow10 W.heap.size W) => (show Calls Tryd.prog 34 #[.string ⟨#[115, 116, 97, 114, 116]⟩, .slice (some ⟨g, 0, none⟩) 3 3] W fun e w' => e = .returned (.agg Z) ∧ Below W.heap.size W w' from by
    have h := tagged_any [115, 116, 97, 114, 116] (some ⟨g, 0, none⟩) 3 3 [sd, pa, pb] W (by decide) rfl (by decide) (fun r hr2 => by
      have h1 := HPL.out.1
      have h2 := HPL.out.2
      simp at hr2
      rcases hr2 with rfl | rfl | rfl <;> omega) hr hW
    rw [← hZ]
    unfold startH
    rw [hpa, hpb]
    exact h))
  have HTB := Lib.hid htab
  rw [hX]
  clear hX hpa hpb htab
  go_enter Tryd.func16, Tryd.ntmps16
  go_upto_region 1 with fail
  generalize hw3 : World.alloc _ _ = w3
  obtain ⟨g1, hg1⟩ : ∃ g, w.heap.size = g := ⟨_, rfl⟩
  obtain ⟨g2, hg2⟩ : ∃ g, w.heap.size + 1 = g := ⟨_, rfl⟩
  have hf : Blk w3 g1 X 23 ∧ (∃ rs, Blk w3 g2 rs 34 ∧ rs.size = 32) ∧ Below w.heap.size w w3 := by
    obtain ⟨Y, hw, hY⟩ : ∃ Y, w3 = (w.alloc (.cells X 23)).alloc (.cells Y 34) ∧ Y.size = 32 := ⟨_, hw3.symm, rfl⟩
    have e1 : (w.alloc (.cells X 23)).heap.size = w.heap.size + 1 := by simp
    rw [hw, ← hg1, ← hg2]
    refine ⟨(Blk.new w _ _).alloc _, ⟨Y, ?_, hY⟩, ((Below.refl _ _).alloc (Nat.le_refl _) _).alloc (by simp) _⟩
    rw [← e1]; exact Blk.new _ _ _
  have hbx : Blk w3 g1 (u8A sd) 23 := by rw [HX.out]; exact hf.1
  have HSR := Lib.hid (fun W (h : Below w3.heap.size w3 W) => (show Rd W W.heap.size (some ⟨g1, 0, none⟩) sd from rd_of_blk (hbx.below h hbx.lt)))
  have HTAB := Lib.hid (fun W (h : Below w3.heap.size w3 W) => tab_on HTB.out (hf.2.2.trans (h.mono hf.2.2.size)) (hf.2.2.trans (h.mono hf.2.2.size)).size)
  obtain ⟨rs, hrs, hrz⟩ := hf.2.1
  have HB2 := Lib.hid hrs
  have HRZ := Lib.hid hrz
  have HB3 := Lib.hid hf.2.2
  have HG := Lib.hid (show w.heap.size ≤ g2 by omega)
  clear hf hw3 hbx hrs hrz hZ
  rw [hg2, hg1]
  clear hg1 hg2
  refine wp_region_loose 7 1 (fun i => false) (promises [.is (.slice (some ⟨g1, 0, none⟩) 16 16), .is (.int .i64 leaf), .byc 4 pa, .is (.int .i64 chain), .byc 4 pb, .rows 3 [sd, pa, pb], .is (.agg Z)]) (by kernel_rfl) rfl (by kernel_rfl) (fun i v w w' h hb => Spec.keep h hb) ⟨?_, ?_, ?_, ?_, ?_, ?_, ?_, trivial⟩ ?_
  · refine StepOKl.of ?_
    intro ac w hb hu hk
    refine ⟨wanted_none rfl, ?_⟩
    have e3 : ac.eval (.tmp 3) = .pointer (some ⟨g1, 0, none⟩) := hu.is (t := 3) (by kernel_rfl)
    refine step_value (w' := w) (v := .slice (some ⟨g1, 0, none⟩) 16 16) ?_ (Below.refl _ _) rfl
    generalize ac.eval = ρ at e3 ⊢
    go_simp
  · refine StepOKl.of ?_
    intro ac w hb hu hk
    refine ⟨wanted_none rfl, ?_⟩
    have e1 : ac.eval (.tmp 1) = .int .i64 leaf := hu.is (t := 1) (by kernel_rfl)
    exact step_value (BigFrame.run_move (.tmp 1) rfl w) (Below.refl _ _) e1
  · refine StepOKl.of ?_
    intro ac w hb hu hk
    refine ⟨wanted_none rfl, ?_⟩
    have e8 : ac.eval (.tmp 8) = (.int .i64 leaf) := (hk ⟨1, .data⟩ (by simp) rfl).is rfl rfl
    have ef : ac.eval (.func 35) = .func (.func 35) #[] #[] := rfl
    have ec : ac.eval (.const (.int .i64 4)) = .int .i64 4 := rfl
    refine step_enter (f := 35) (args := #[.int .i64 leaf, .int .i64 4]) ?_ ?_
    · generalize ac.eval = ρ at e8 ec ef ⊢
      go_simp
    · exact (HPA.out w).mono fun e w' ⟨A, c, he, hc, hm, hr, hq⟩ => ⟨_, he, ⟨A, c, rfl, hc, hm, hr⟩, hq⟩
  · refine StepOKl.of ?_
    intro ac w hb hu hk
    refine ⟨wanted_none rfl, ?_⟩
    have e2 : ac.eval (.tmp 2) = .int .i64 chain := hu.is (t := 2) (by kernel_rfl)
    exact step_value (BigFrame.run_move (.tmp 2) rfl w) (Below.refl _ _) e2
  · refine StepOKl.of ?_
    intro ac w hb hu hk
    refine ⟨wanted_none rfl, ?_⟩
    have e10 : ac.eval (.tmp 10) = (.int .i64 chain) := (hk ⟨3, .data⟩ (by simp) rfl).is rfl rfl
    have ef : ac.eval (.func 35) = .func (.func 35) #[] #[] := rfl
    have ec : ac.eval (.const (.int .i64 4)) = .int .i64 4 := rfl
    refine step_enter (f := 35) (args := #[.int .i64 chain, .int .i64 4]) ?_ ?_
    · generalize ac.eval = ρ at e10 ec ef ⊢
      go_simp
    · exact (HPB.out w).mono fun e w' ⟨A, c, he, hc, hm, hr, hq⟩ => ⟨_, he, ⟨A, c, rfl, hc, hm, hr⟩, hq⟩
  · refine StepOKl.of ?_
    intro ac w hb hu hk
    refine ⟨wanted_none rfl, ?_⟩
    have e7 : ac.eval (.tmp 7) = (.slice (some ⟨g1, 0, none⟩) 16 16) := (hk ⟨0, .data⟩ (by simp) rfl).is rfl rfl
    have e9 : ∃ X c, ac.eval (.tmp 9) = .slice X 4 c ∧ 4 ≤ c ∧ c ≤ maxLen ∧ Rd w w.heap.size X pa := (hk ⟨2, .data⟩ (by simp) rfl).is rfl rfl
    have e11 : ∃ X c, ac.eval (.tmp 11) = .slice X 4 c ∧ 4 ≤ c ∧ c ≤ maxLen ∧ Rd w w.heap.size X pb := (hk ⟨4, .data⟩ (by simp) rfl).is rfl rfl
    obtain ⟨A, c, eA, hcA, hmA, hrA⟩ := e9
    obtain ⟨B, d, eB, hcB, hmB, hrB⟩ := e11
    refine step_value (w' := w.alloc (.cells #[.slice (some ⟨g1, 0, none⟩) 16 16, .slice A 4 c, .slice B 4 d] 24)) (v := .slice (some ⟨w.heap.size, 0, none⟩) 3 3) ?_ ((Below.refl _ _).alloc (Nat.le_refl _) _) ⟨w.heap.size, rfl, rdr_start w _ _ _ HSL.out HPL.out.1 HPL.out.2 (by decide) (by decide) hcA hmA hcB hmB (HSR.out w hb) hrA hrB⟩
    generalize ac.eval = ρ at e7 eA eB ⊢
    go_simp
  · refine StepOKl.of ?_
    intro ac w hb hu hk
    refine ⟨wanted_none rfl, ?_⟩
    have e12 : ∃ g, ac.eval (.tmp 12) = .slice (some ⟨g, 0, none⟩) 3 3 ∧ RdR w w.heap.size (some ⟨g, 0, none⟩) [sd, pa, pb] := (hk ⟨5, .data⟩ (by simp) rfl).is rfl rfl
    obtain ⟨g, eg, hr⟩ := e12
    have ef : ac.eval (.func 34) = .func (.func 34) #[] #[] := rfl
    have es : ac.eval (.const (.string ⟨#[115, 116, 97, 114, 116]⟩)) = .string ⟨#[115, 116, 97, 114, 116]⟩ := rfl
    refine step_enter (f := 34) (args := #[.string ⟨#[115, 116, 97, 114, 116]⟩, .slice (some ⟨g, 0, none⟩) 3 3]) ?_ ?_
    · generalize ac.eval = ρ at eg es ef ⊢
      go_simp
    · exact (HTG.out g w hr (HTAB.out w hb)).mono fun e w' ⟨he, hq⟩ => ⟨_, he, rfl, hq⟩
  · intro ac w' hb hu hk hap
    obtain ⟨_, h7, rfl⟩ := (hk 0 (by decide)).put rfl rfl
    obtain ⟨_, h8, rfl⟩ := (hk 1 (by decide)).put rfl rfl
    obtain ⟨_, h9, ⟨X9, xc9, rfl, hxc9, hX9⟩⟩ := (hk 2 (by decide)).put rfl rfl
    obtain ⟨_, h10, rfl⟩ := (hk 3 (by decide)).put rfl rfl
    obtain ⟨_, h11, ⟨X11, xc11, rfl, hxc11, hX11⟩⟩ := (hk 4 (by decide)).put rfl rfl
    obtain ⟨_, h12, ⟨g12, rfl, hG12⟩⟩ := (hk 5 (by decide)).put rfl rfl
    obtain ⟨_, h13, rfl⟩ := (hk 6 (by decide)).put rfl rfl
    clear hap
    have hF : AllPuts ac.tmps ((7, _) :: (8, _) :: (9, _) :: (10, _) :: (11, _) :: (12, _) :: (13, _) :: []) := ⟨h7, h8, h9, h10, h11, h12, h13, trivial⟩
    obtain rfl := frame_puts hu (by kernel_rfl) hF
    simp only [puts, Act.put, List.setIfInBounds_toArray, List.set_cons_zero, List.set_cons_succ, List.drop_succ_cons, List.drop_zero]
    clear hk hu hF h7 h8 h9 h10 h11 h12 h13
    have HRS := Lib.hid (HB2.out.below hb HB2.out.lt)
    have HBE := Lib.hid (HB3.out.trans (hb.mono HB3.out.size))
    clear hb HPA HPB HTG HSR HB2 HB3 HTAB HTB
    go_wp2_with (with_reducible refine wpList_store_blk rfl 34 (.tmp 6) (.tmp 13) rfl g2 Z rfl rfl 34 rs HRS.out (by rw [HZS.out]; kernel_rfl) (by rw [HZS.out, HRZ.out]) HZO.out ?_)
    refine bodyPost_ret (v := .agg Z) (results_cell_row (p := 6) (ty := 34) (by kernel_rfl) _ _ g2 34 _ (0, 0) _ rfl (HRS.out.row Z) Tryd.underlying34 rfl (by rw [HZS.out]; kernel_rfl)) rfl ⟨by rw [HZ.out], below_row HBE.out HBE.out.size HG.out _⟩
end Go.Proofs.YtciflbkgfmbfdaaDoor
namespace Go.Proofs.YtciflbkgfmbfdaaDoor
open Go.RowKit

/-- make([][]byte, n). -/
theorem wpList_make_rows8 {w : World} {ops : Array Oper} {rest : List Oper} {o : Oper} {a : Act} {Q : Exit → Act → World → Prop} (hgd : o.guard = none) (l c : Operand) (ho : o.op = .makeSlice 62 l c)
    (n : Nat) (hn : n ≤ 1000) (hl : a.eval l = .int .i64 (n : Int)) (hc : a.eval c = .int .i64 (n : Int))
    (hk : ∀ w' cs, Blk w' w.heap.size cs 24 → cs.size = n → Below w.heap.size w w' → wpList Tryd.prog ops Q rest (a.put o.dst (.slice (some ⟨w.heap.size, 0, none⟩) n n)) w') : wpList Tryd.prog ops Q (o :: rest) a w := by
  obtain ⟨i, hi, hz, hsz, hby⟩ := info_parts infoSlice
  obtain ⟨w', hrun, r1, r2⟩ := run_make_full (P := Tryd.prog) w w.heap.size 62 24 i (.slice none 0 0) 1 Tryd.underlying62 hi hz hsz .i64 .i64 n (by rw [hby]; omega) (by unfold maxLen; omega) (Nat.le_refl _)
  rcases r1.2 with ⟨e, _⟩ | ⟨g, cap, cur, e, _, hg, _, _, hcs, _⟩
  · cases e
  · injection e with e1 e2 e3
    injection e1 with e1
    injection e1 with e1
    subst e1 e3
    refine wpList_plain hgd fun K hK => ?_
    unfold Oper.wp
    simp [execOp, ho, hl, hc, hrun, Result.andThen]
    exact hK _ _ (hk w' cur hg (by rw [hcs, Nat.mul_one]) ((Below.refl _ _).grown r2 (Nat.le_refl _) (fun k hk => by cases hk)))
theorem rd_range {w : World} {b o : Nat} {l : List UInt8} (hb : b < w.heap.size) (h : w.rangeAt b o (Lib.byteCells l)) : Rd w w.heap.size (some ⟨b, o, none⟩) l := .inr ⟨b, o, rfl, hb, fun j hj => h j _ (by simp [Lib.byteCells, hj])⟩
set_option maxRecDepth 100000 in
set_option maxHeartbeats 8000000 in
theorem ppubof_any {v : Value} {hs : List (List UInt8)} {w : World} (hv : HV w v hs) (hn : hs.length = 67) (htab : Pow10 w.heap.size w) :
    Calls Tryd.prog 40 #[v] w fun e w' => e = .returned (.agg (u8A (pubH hs))) ∧ Below w.heap.size w w' := by
  obtain ⟨h32, X, c, rfl, _, hr⟩ := hv
  obtain ⟨Z, hZ⟩ : ∃ x, u8A (pubH hs) = x := ⟨_, rfl⟩
  have HZ := Lib.hid hZ
  have HZS := Lib.hid (show Z.size = 32 by rw [← hZ, u8A_size]; exact pubH_len _)
  have HZO := Lib.hid (show Z.all (·.oneCell') = true by rw [← hZ]; exact u8A_one _)
  have HTAB := Lib.hid htab
  have HN := Lib.hid hn
  have H32 := Lib.hid h32
  rcases hr with h0 | ⟨b, off, rfl, hb, hcs⟩
  · rw [h0] at hn; cases hn
  have HCS := Lib.hid hcs
  have HBL := Lib.hid hb
  have HBL0 := Lib.hid hb
  rw [hn]
  clear hZ htab hn h32 hcs
  go_enter Tryd.func40, Tryd.ntmps40
  go_upto_region 1 with fail
  generalize hw1 : World.alloc _ _ = w1
  obtain ⟨g2, hg2⟩ : ∃ g, w.heap.size = g := ⟨_, rfl⟩
  have hf : (∃ rs, Blk w1 g2 rs 34 ∧ rs.size = 32) ∧ Below w.heap.size w w1 := by
    obtain ⟨Y, hw, hY⟩ : ∃ Y, w1 = w.alloc (.cells Y 34) ∧ Y.size = 32 := ⟨_, hw1.symm, rfl⟩
    rw [hw, ← hg2]
    exact ⟨⟨Y, Blk.new w _ _, hY⟩, (Below.refl _ _).alloc (Nat.le_refl _) _⟩
  have HR := Lib.hid hf.1
  have HB1 := Lib.hid hf.2
  have HG := Lib.hid (show w.heap.size ≤ g2 ∧ g2 < w1.heap.size from ⟨by omega, by obtain ⟨rs, h, _⟩ := hf.1; exact h.lt⟩)
  rw [hg2] at HBL ⊢
  clear hf hw1 hb
  go_wp2_with (with_reducible refine wpList_make_rows8 rfl _ _ rfl 67 (by omega) rfl rfl ?_)
  intro w2 cs0 hbk hsz hb2
  obtain ⟨g3, hg3⟩ : ∃ g, w1.heap.size = g := ⟨_, rfl⟩
  have HG3 := Lib.hid (show w.heap.size ≤ g3 ∧ b < g3 ∧ g2 < g3 by
    have h1 := HB1.out.size
    have h2 := HBL.out
    have h3 := HG.out
    omega)
  rw [hg3] at hbk hb2 ⊢
  have HK := Lib.hid (show Blk w2 g3 cs0 24 ∧ cs0.size = 67 ∧ ∀ j, j < 0 → cs0[j]? = some (.slice (some ⟨b, off + j * 32, none⟩) 32 32) from ⟨hbk, hsz, fun j hj => absurd hj (Nat.not_lt_zero _)⟩)
  have HB2 := Lib.hid hb2
  clear hbk hsz hb2 hg2
  go_wp2_with fail
  go_loopw [10] (fun t wq => ∃ (k : Nat) (cs : Array Value), k ≤ 67 ∧ t = .int .i64 (k : Int) ∧ Hid (Blk wq g3 cs 24 ∧ cs.size = 67 ∧ ∀ j, j < k → cs[j]? = some (.slice (some ⟨b, off + j * 32, none⟩) 32 32)) ∧ Hid (Below g3 w1 wq)) (fun t _ => 67 - (intOf t).toNat)
  case atStart => exact ⟨0, cs0, Nat.zero_le _, rfl, HK, HB2⟩
  case round =>
    clear HK HB2
    obtain ⟨k, cs, hk, rfl, HK, HB⟩ := hrel
    by_cases hlt : k < 67
    · have hki : (k : Int) < 67 := by omega
      obtain ⟨hbk, hsz, hall⟩ := HK.out
      have hf1 := hbk.frozen k
      obtain ⟨o1, ho1⟩ : ∃ old, wr.cell? ⟨g3, k, none⟩ = some old := ⟨_, by rw [hbk.cell k]; exact Array.getElem?_eq_getElem (by omega)⟩
      have hgl := hbk.lt
      clear hall
      go_wp2_with fail
      go_roundw
      case rel =>
        obtain ⟨hbk, hsz, hall⟩ := HK.out
        refine ⟨k + 1, cs.setIfInBounds k (.slice (some ⟨b, off + k * 32, none⟩) 32 32), hlt, by go_num, Lib.hid ⟨hbk.set k _, by simp [hsz], fun j hj => ?_⟩, Lib.hid (HB.out.setCell (by simp) _)⟩
        by_cases hjk : j = k
        · rw [hjk, Array.getElem?_setIfInBounds_self]
          rw [if_pos (by omega)]
        · rw [Array.getElem?_setIfInBounds_ne (by omega)]
          exact hall j (by omega)
      case measure => simp [intOf]; omega
    · obtain rfl : k = 67 := by omega
      obtain ⟨hbk, hsz, hall⟩ := HK.out
      have hbw : Below w.heap.size w wr := HB1.out.trans (HB.out.mono HG3.out.1)
      have HRR := Lib.hid (show RdR wr wr.heap.size (some ⟨g3, 0, none⟩) hs from .inr ⟨g3, 0, rfl, hbk.lt, fun i hi => by
        have hl := H32.out _ (List.getElem_mem hi)
        have hi67 : i < 67 := by rw [← HN.out]; exact hi
        refine ⟨some ⟨b, off + i * 32, none⟩, 32, ?_, by omega, by decide, ?_⟩
        · rw [Nat.zero_add, hbk.cell i, hall i hi67, hl]
        · refine rd_range (by have := HG3.out.2.1; have := hbk.lt; omega) ?_
          exact rangeAt_keep (HCS.out i hi) fun j => HB.out.cell (p := ⟨b, _, none⟩) HG3.out.2.1 |>.trans (HB1.out.cell (p := ⟨b, _, none⟩) HBL0.out)⟩)
      have HTG := Lib.hid (show Calls Tryd.prog 34 #[.string ⟨#[112, 117, 98, 108, 105, 99]⟩, .slice (some ⟨g3, 0, none⟩) 67 67] wr fun e w' => e = .returned (.agg Z) ∧ Below wr.heap.size wr w' by
        rw [← HZ.out]
        exact tagged_any [112, 117, 98, 108, 105, 99] (some ⟨g3, 0, none⟩) 67 67 hs wr (by decide) HN.out (by decide) (fun r hr => by rw [H32.out r hr]; omega) HRR.out (tab_on HTAB.out hbw hbw.size))
      have HBW := Lib.hid hbw
      obtain ⟨rs, hrs, hrz⟩ := HR.out
      have HRZ := Lib.hid hrz
      have HRS := Lib.hid (hrs.below HB.out HG3.out.2.2)
      clear hbk hsz hall hbw hrs hrz HK HR HB HRR
      go_wp2_with fail
      with_reducible refine (HTG.out).mono ?_
      rintro e w4 ⟨rfl, hb4⟩
      replace HRS := Lib.hid (HRS.out.below hb4 HRS.out.lt)
      replace HBW := Lib.hid (HBW.out.trans (hb4.mono HBW.out.size))
      clear hb4 HTG
      go_wp2_with (with_reducible refine wpList_store_blk rfl 34 (.tmp 2) (.tmp 22) rfl g2 Z rfl rfl 34 rs HRS.out (by rw [HZS.out]; kernel_rfl) (by rw [HZS.out, HRZ.out]) HZO.out ?_)
      refine bodyPost_ret (v := .agg Z) (results_cell_row (p := 2) (ty := 34) (by kernel_rfl) _ _ g2 34 _ (0, 0) _ rfl (HRS.out.row Z) Tryd.underlying34 rfl (by rw [HZS.out]; kernel_rfl)) rfl ⟨by rw [HZ.out], below_row HBW.out HBW.out.size HG.out.1 _⟩
end Go.Proofs.YtciflbkgfmbfdaaDoor
