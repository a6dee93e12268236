/- The program's one-time signatures: a step. The program's one-time signatures: where a chain starts. The program's one-time signatures: the hash of ends; all ends of a leaf. The program's one-time signatures: public hashes, signatures, ends, what is recovered. The document's own one-time signatures: a leaf's signature, the ends that values make. What values make of a message: the public hash, the program's and the document's. -/
import Derived.Test.YtfgieebccjoboaaDoorWotsB
import Derived.Test.YtfgieebccjoboaaDoorPTOwn
import Derived.Test.YtfgieebccjoboaaDoorMakeA
import Derived.Laws.OwnMore
import Derived.Maps.AppendAt
import Derived.Test.YtfgieebccjoboaaDoorHashS
import Derived.Test.YtfgieebccjoboaaDoorRTClimb
namespace Go.Proofs.YtfgieebccjoboaaDoor
open Go.RowKit

set_option maxRecDepth 100000 in
set_option maxHeartbeats 4000000 in
theorem pstep_any (h : List UInt8) (w : World) (hh : h.length = 32) (htab : Pow10 w.heap.size w) :
    Calls Tryd.prog 117 #[.agg (u8A h)] w fun e w' => e = .returned (.agg (u8A (stepH h))) ∧ Below w.heap.size w w' := by
  obtain ⟨X, hX⟩ : ∃ x, u8A h = x := ⟨_, rfl⟩
  obtain ⟨Z, hZ⟩ : ∃ x, u8A (stepH h) = x := ⟨_, rfl⟩
  have HX := Lib.hid hX
  have HZ := Lib.hid hZ
  have HZS := Lib.hid (show Z.size = 32 by rw [← hZ, u8A_size]; exact stepH_len h)
  have HZO := Lib.hid (show Z.all (·.oneCell') = true by rw [← hZ]; exact u8A_one _)
  have HTB := Lib.hid htab
  rw [hX]
  clear hX hZ htab
  go_enter Tryd.func117, Tryd.ntmps117
  go_upto_region 1 with fail
  generalize hw3 : World.alloc _ _ = w3
  obtain ⟨g1, hg1⟩ : ∃ g, w.heap.size = g := ⟨_, rfl⟩
  obtain ⟨g2, hg2⟩ : ∃ g, w.heap.size + 1 = g := ⟨_, rfl⟩
  have hf : Blk w3 g1 X 29 ∧ (∃ rs, Blk w3 g2 rs 29 ∧ rs.size = 32) ∧ Below w.heap.size w w3 := by
    obtain ⟨Y, hw, hY⟩ : ∃ Y, w3 = (w.alloc (.cells X 29)).alloc (.cells Y 29) ∧ Y.size = 32 := ⟨_, hw3.symm, rfl⟩
    have e1 : (w.alloc (.cells X 29)).heap.size = w.heap.size + 1 := by simp
    rw [hw, ← hg1, ← hg2]
    refine ⟨(Blk.new w _ _).alloc _, ⟨Y, ?_, hY⟩, ((Below.refl _ _).alloc (Nat.le_refl _) _).alloc (by simp) _⟩
    rw [← e1]; exact Blk.new _ _ _
  have hal : Below w3.heap.size w3 (w3.alloc (.cells #[.slice (some ⟨g1, 0, none⟩) 32 32] 24)) := (Below.refl _ _).alloc (Nat.le_refl _) _
  have hbx : Blk w3 g1 (u8A h) 29 := by rw [HX.out]; exact hf.1
  have hb1 := hf.2.2.trans (hal.mono hf.2.2.size)
  have HT := Lib.hid (show Calls Tryd.prog 116 #[.string ⟨#[115, 116, 101, 112]⟩, .slice (some ⟨w3.heap.size, 0, none⟩) 1 1] (w3.alloc (.cells #[.slice (some ⟨g1, 0, none⟩) 32 32] 24)) fun e w' => e = .returned (.agg Z) ∧ Below (w3.alloc (.cells #[.slice (some ⟨g1, 0, none⟩) 32 32] 24)).heap.size (w3.alloc (.cells #[.slice (some ⟨g1, 0, none⟩) 32 32] 24)) w' by
    rw [← HZ.out]
    exact tagged_any [115, 116, 101, 112] (some ⟨w3.heap.size, 0, none⟩) 1 1 [h] (w3.alloc (.cells #[.slice (some ⟨g1, 0, none⟩) 32 32] 24)) (by decide) rfl (by decide) (fun r hr => by
      simp at hr
      subst hr
      omega) (rdr_leaf w3 _ hh (Nat.le_refl _) (by decide) (rd_of_blk hbx)) (tab_on HTB.out hb1 hb1.size))
  obtain ⟨rs, hrs, hrz⟩ := hf.2.1
  have HRZ := Lib.hid hrz
  have HR := Lib.hid ((hrs.alloc (.cells #[.slice (some ⟨g1, 0, none⟩) 32 32] 24)))
  have HB := Lib.hid hb1
  have HG := Lib.hid (show w.heap.size ≤ g2 by omega)
  clear hf hw3 hal hbx hb1 hrs hrz
  rw [hg2, hg1]
  clear hg1 hg2
  go_wp2_with fail
  with_reducible refine (HT.out).mono ?_
  rintro e w4 ⟨rfl, hb4⟩
  replace HR := Lib.hid (HR.out.below hb4 HR.out.lt)
  replace HB := Lib.hid (HB.out.trans (hb4.mono HB.out.size))
  clear hb4 HT
  go_wp2_with (with_reducible refine wpList_store_blk rfl 29 (.tmp 2) (.tmp 5) rfl g2 Z rfl rfl 29 rs HR.out (by rw [HZS.out]; kernel_rfl) (by rw [HZS.out, HRZ.out]) HZO.out ?_)
  refine bodyPost_ret (v := .agg Z) (results_cell_row (p := 2) (ty := 29) (by kernel_rfl) _ _ g2 29 _ (0, 0) _ rfl (HR.out.row Z) Tryd.underlying29 rfl (by rw [HZS.out]; kernel_rfl)) rfl ⟨by rw [HZ.out], below_row HB.out HB.out.size HG.out _⟩
set_option maxRecDepth 100000 in
set_option maxHeartbeats 4000000 in
theorem palong_any (h : List UInt8) (n : Int) (w : World) (hh : h.length = 32) (htab : Pow10 w.heap.size w) :
    Calls Tryd.prog 90 #[.agg (u8A h), .int .i64 n] w fun e w' => e = .returned (.agg (u8A (alongH (wots.clampS n) h))) ∧ Below w.heap.size w w' := by
  obtain ⟨X, hX⟩ : ∃ x, u8A h = x := ⟨_, rfl⟩
  have HX := Lib.hid hX
  obtain ⟨M, hM⟩ : ∃ m, wots.clampS n = m := ⟨_, rfl⟩
  obtain ⟨K, hK⟩ : ∃ k, min n 15 = k := ⟨_, rfl⟩
  have hM15 : M ≤ 15 := by rw [← hM]; unfold wots.clampS; split <;> (try split) <;> omega
  have HLT := Lib.hid (fun (i : Nat) => (show (i : Int) < K ↔ i < M by
    rw [← hM, ← hK]
    unfold wots.clampS
    split <;> (try split) <;> omega))
  have HTAB := Lib.hid htab
  rw [hX, hM]
  clear hX hM htab
  go_enter Tryd.func90, Tryd.ntmps90
  go_upto_region 1 with fail
  generalize hw3 : World.alloc _ _ = w3
  obtain ⟨g1, hg1⟩ : ∃ g, w.heap.size = g := ⟨_, rfl⟩
  obtain ⟨g2, hg2⟩ : ∃ g, w.heap.size + 1 = g := ⟨_, rfl⟩
  have hf : Blk w3 g1 X 29 ∧ (∃ rs, Blk w3 g2 rs 29 ∧ rs.size = 32) ∧ Below w.heap.size w w3 := by
    obtain ⟨Y, hw, hY⟩ : ∃ Y, w3 = (w.alloc (.cells X 29)).alloc (.cells Y 29) ∧ Y.size = 32 := ⟨_, hw3.symm, rfl⟩
    have e1 : (w.alloc (.cells X 29)).heap.size = w.heap.size + 1 := by simp
    rw [hw, ← hg1, ← hg2]
    refine ⟨(Blk.new w _ _).alloc _, ⟨Y, ?_, hY⟩, ((Below.refl _ _).alloc (Nat.le_refl _) _).alloc (by simp) _⟩
    rw [← e1]; exact Blk.new _ _ _
  have HB1 := Lib.hid (show Blk w3 g1 (u8A (alongH 0 h)) 29 by
    show Blk w3 g1 (u8A h) _
    rw [HX.out]
    exact hf.1)
  have HB2 := Lib.hid hf.2.1
  have HB3 := Lib.hid hf.2.2
  have HG := Lib.hid (show w.heap.size ≤ g1 ∧ g1 + 1 = g2 by omega)
  clear hf hw3
  rw [hg2, hg1]
  clear hg1 hg2
  go_wp2_with fail
  go_loopw [7] (fun t wq => ∃ i : Nat, i ≤ M ∧ t = .int .i64 (i : Int) ∧ Hid (Blk wq g1 (u8A (alongH i h)) 29) ∧ Hid (∃ rs, Blk wq g2 rs 29 ∧ rs.size = 32) ∧ Hid (Below w.heap.size w wq)) (fun t _ => M - (intOf t).toNat)
  case atStart => exact ⟨0, Nat.zero_le _, rfl, HB1, HB2, HB3⟩
  case round =>
    clear HB1 HB2 HB3
    obtain ⟨i, hi, rfl, HB1, HB2, HB3⟩ := hrel
    have hlen := alongH_len hh i
    by_cases hlt : i < M
    · have h1 := (HLT.out i).2 hlt
      have HSN := Lib.hid (show alongH (i + 1) h = stepH (alongH i h) from wots.along_succ stepH i h)
      have HRX := Lib.hid (range_of_blk HB1.out)
      generalize alongH i h = cur at *
      obtain ⟨C, hC⟩ : ∃ x, u8A cur = x := ⟨_, rfl⟩
      obtain ⟨Z, hZ⟩ : ∃ x, u8A (stepH cur) = x := ⟨_, rfl⟩
      have HC := Lib.hid hC
      have HZ := Lib.hid hZ
      have HZS := Lib.hid (show Z.size = 32 by rw [← hZ, u8A_size]; exact stepH_len _)
      have HZO := Lib.hid (show Z.all (·.oneCell') = true by rw [← hZ]; exact u8A_one _)
      have HCS := Lib.hid (show (u8A cur).size = 32 by rw [u8A_size]; exact hlen)
      have HST := Lib.hid (show Calls Tryd.prog 117 #[.agg C] wr fun e w' => e = .returned (.agg Z) ∧ Below wr.heap.size wr w' by
        rw [← hC, ← hZ]
        exact pstep_any cur wr hlen (tab_on HTAB.out HB3.out HB3.out.size))
      clear hC hZ
      go_wp2_with (with_reducible refine wpList_load_hash rfl (.tmp 2) rfl g1 0 rfl cur hlen HRX.out C HC.out ?_)
      with_reducible refine (HST.out).mono ?_
      rintro e w5 ⟨rfl, hb5⟩
      have HB15 := Lib.hid (HB1.out.below hb5 HB1.out.lt)
      have HN1 := Lib.hid (show Blk (w5.setRow g1 Z) g1 (u8A (alongH (i + 1) h)) 29 by
        rw [HSN.out, HZ.out]
        exact HB15.out.row Z)
      have HN2 := Lib.hid (show ∃ rs, Blk (w5.setRow g1 Z) g2 rs 29 ∧ rs.size = 32 by
        obtain ⟨rs, h3, h4⟩ := HB2.out
        exact ⟨rs, (h3.below hb5 h3.lt).rowOther (by have := HG.out.2; omega) _, h4⟩)
      have hb15 := HB3.out.trans (hb5.mono HB3.out.size)
      have HN3 := Lib.hid (below_row hb15 hb15.size HG.out.1 Z)
      clear hb5 hb15 HST HRX HB1 HB2 HB3
      go_wp2_with (with_reducible refine wpList_store_blk rfl 29 (.tmp 2) (.tmp 10) rfl g1 Z rfl rfl 29 (u8A cur) HB15.out (by rw [HZS.out]; kernel_rfl) (by rw [HZS.out]; exact HCS.out) HZO.out ?_)
      go_roundw
      case rel => exact ⟨i + 1, hlt, by go_num, HN1, HN2, HN3⟩
      case measure => simp [intOf]; omega
    · obtain rfl : M = i := by omega
      have hno : ¬ ((M : Int) < K) := fun h => hlt ((HLT.out M).1 h)
      have HRX := Lib.hid (range_of_blk HB1.out)
      have HCU := Lib.hid (show ∃ c, alongH M h = c from ⟨_, rfl⟩)
      obtain ⟨cur, hcur⟩ := HCU.out
      replace HCU := Lib.hid hcur
      rw [hcur] at hlen HRX
      clear hcur
      obtain ⟨C, hC⟩ : ∃ x, u8A cur = x := ⟨_, rfl⟩
      have HC := Lib.hid hC
      have HZS := Lib.hid (show C.size = 32 by rw [← hC, u8A_size]; exact hlen)
      have HZO := Lib.hid (show C.all (·.oneCell') = true by rw [← hC]; exact u8A_one _)
      obtain ⟨rs, hrs, hrz⟩ := HB2.out
      have HRS := Lib.hid hrs
      have HRZ := Lib.hid hrz
      clear hC hrs hrz HB1 HB2
      go_wp2_with (first
        | (with_reducible refine wpList_load_hash rfl (.tmp 2) rfl g1 0 rfl cur hlen HRX.out C HC.out ?_)
        | (with_reducible refine wpList_store_blk rfl 29 (.tmp 4) (.tmp 12) rfl g2 C rfl rfl 29 rs HRS.out (by rw [HZS.out]; kernel_rfl) (by rw [HZS.out, HRZ.out]) HZO.out ?_))
      refine bodyPost_ret (v := .agg C) (results_cell_row (p := 4) (ty := 29) (by kernel_rfl) _ _ g2 29 _ (0, 0) _ rfl (HRS.out.row C) Tryd.underlying29 rfl (by rw [HZS.out]; kernel_rfl)) rfl ⟨by rw [HCU.out, HC.out], below_row HB3.out HB3.out.size (by have := HG.out; omega) _⟩
end Go.Proofs.YtfgieebccjoboaaDoor
namespace Go.Proofs.YtfgieebccjoboaaDoor
open Go.RowKit

theorem pput4 (n : Int) (w : World) (hn : n ≤ 9223372036854775807) : Calls Tryd.prog 68 #[.int .i64 n, .int .i64 4] w fun e w' => ∃ A c, e = .returned (.slice A 4 c) ∧ 4 ≤ c ∧ c ≤ maxLen ∧ Rd w' w'.heap.size A (put4 n) ∧ Below w.heap.size w w' :=
  (put_any n 4 w hn).mono fun _ _ ⟨A, c, he, ho, hb⟩ => by
    have e4 : putW 4 = 4 := rfl
    rw [e4] at he ho
    obtain ⟨A', c', e, h1, h2⟩ := own_caps ho
    injection e with e1 e2 e3
    subst e1 e3
    exact ⟨A, c, he, h1, h2, Rd.of_own ho, hb⟩
set_option maxRecDepth 100000 in
set_option maxHeartbeats 4000000 in
theorem pstart_any (sd : List UInt8) (leaf chain : Int) (w : World) (hs : sd.length = 16) (hl : leaf ≤ 9223372036854775807) (hc : chain ≤ 9223372036854775807) (htab : Pow10 w.heap.size w) :
    Calls Tryd.prog 91 #[.agg (u8A sd), .int .i64 leaf, .int .i64 chain] w fun e w' => e = .returned (.agg (u8A (startH sd leaf chain))) ∧ Below w.heap.size w w' := by
  obtain ⟨X, hX⟩ : ∃ x, u8A sd = x := ⟨_, rfl⟩
  obtain ⟨Z, hZ⟩ : ∃ x, u8A (startH sd leaf chain) = x := ⟨_, rfl⟩
  obtain ⟨pa, hpa⟩ : ∃ x, put4 leaf = x := ⟨_, rfl⟩
  obtain ⟨pb, hpb⟩ : ∃ x, put4 chain = x := ⟨_, rfl⟩
  have HX := Lib.hid hX
  have HZ := Lib.hid hZ
  have HSL := Lib.hid hs
  have HZS := Lib.hid (show Z.size = 32 by rw [← hZ, u8A_size]; exact startH_len _ _ _)
  have HZO := Lib.hid (show Z.all (·.oneCell') = true by rw [← hZ]; exact u8A_one _)
  have HPL := Lib.hid (show pa.length = 4 ∧ pb.length = 4 by rw [← hpa, ← hpb]; exact ⟨put4_len _, put4_len _⟩)
  have HPA := Lib.hid (fun W => (show Calls Tryd.prog 68 #[.int .i64 leaf, .int .i64 4] W fun e w' => ∃ A c, e = .returned (.slice A 4 c) ∧ 4 ≤ c ∧ c ≤ maxLen ∧ Rd w' w'.heap.size A pa ∧ Below W.heap.size W w' from by rw [← hpa]; exact pput4 leaf W hl))
  have HPB := Lib.hid (fun W => (show Calls Tryd.prog 68 #[.int .i64 chain, .int .i64 4] W fun e w' => ∃ A c, e = .returned (.slice A 4 c) ∧ 4 ≤ c ∧ c ≤ maxLen ∧ Rd w' w'.heap.size A pb ∧ Below W.heap.size W w' from by rw [← hpb]; exact pput4 chain W hc))
  have HTG := Lib.hid (fun g W (hr : RdR W W.heap.size (some ⟨g, 0, none⟩) [sd, pa, pb]) (hW : Pow10 W.heap.size W) => (show Calls Tryd.prog 116 #[.string ⟨#[115, 116, 97, 114, 116]⟩, .slice (some ⟨g, 0, none⟩) 3 3] W fun e w' => e = .returned (.agg Z) ∧ Below W.heap.size W w' from by
    have h := tagged_any [115, 116, 97, 114, 116] (some ⟨g, 0, none⟩) 3 3 [sd, pa, pb] W (by decide) rfl (by decide) (fun r hr2 => by
      have h1 := HPL.out.1
      have h2 := HPL.out.2
      simp at hr2
      rcases hr2 with rfl | rfl | rfl <;> omega) hr hW
    rw [← hZ]
    unfold startH
    rw [hpa, hpb]
    exact h))
  have HTB := Lib.hid htab
  rw [hX]
  clear hX hpa hpb htab
  go_enter Tryd.func91, Tryd.ntmps91
  go_upto_region 1 with fail
  generalize hw3 : World.alloc _ _ = w3
  obtain ⟨g1, hg1⟩ : ∃ g, w.heap.size = g := ⟨_, rfl⟩
  obtain ⟨g2, hg2⟩ : ∃ g, w.heap.size + 1 = g := ⟨_, rfl⟩
  have hf : Blk w3 g1 X 23 ∧ (∃ rs, Blk w3 g2 rs 29 ∧ rs.size = 32) ∧ Below w.heap.size w w3 := by
    obtain ⟨Y, hw, hY⟩ : ∃ Y, w3 = (w.alloc (.cells X 23)).alloc (.cells Y 29) ∧ Y.size = 32 := ⟨_, hw3.symm, rfl⟩
    have e1 : (w.alloc (.cells X 23)).heap.size = w.heap.size + 1 := by simp
    rw [hw, ← hg1, ← hg2]
    refine ⟨(Blk.new w _ _).alloc _, ⟨Y, ?_, hY⟩, ((Below.refl _ _).alloc (Nat.le_refl _) _).alloc (by simp) _⟩
    rw [← e1]; exact Blk.new _ _ _
  have hbx : Blk w3 g1 (u8A sd) 23 := by rw [HX.out]; exact hf.1
  have HSR := Lib.hid (fun W (h : Below w3.heap.size w3 W) => (show Rd W W.heap.size (some ⟨g1, 0, none⟩) sd from rd_of_blk (hbx.below h hbx.lt)))
  have HTAB := Lib.hid (fun W (h : Below w3.heap.size w3 W) => tab_on HTB.out (hf.2.2.trans (h.mono hf.2.2.size)) (hf.2.2.trans (h.mono hf.2.2.size)).size)
  obtain ⟨rs, hrs, hrz⟩ := hf.2.1
  have HB2 := Lib.hid hrs
  have HRZ := Lib.hid hrz
  have HB3 := Lib.hid hf.2.2
  have HG := Lib.hid (show w.heap.size ≤ g2 by omega)
  clear hf hw3 hbx hrs hrz hZ
  rw [hg2, hg1]
  clear hg1 hg2
  refine wp_region_loose 7 1 (fun i => false) (promises [.is (.slice (some ⟨g1, 0, none⟩) 16 16), .is (.int .i64 leaf), .byc 4 pa, .is (.int .i64 chain), .byc 4 pb, .rows 3 [sd, pa, pb], .is (.agg Z)]) (by kernel_rfl) rfl (by kernel_rfl) (fun i v w w' h hb => Spec.keep h hb) ⟨?_, ?_, ?_, ?_, ?_, ?_, ?_, trivial⟩ ?_
  · refine StepOKl.of ?_
    intro ac w hb hu hk
    refine ⟨wanted_none rfl, ?_⟩
    have e3 : ac.eval (.tmp 3) = .pointer (some ⟨g1, 0, none⟩) := hu.is (t := 3) (by kernel_rfl)
    refine step_value (w' := w) (v := .slice (some ⟨g1, 0, none⟩) 16 16) ?_ (Below.refl _ _) rfl
    generalize ac.eval = ρ at e3 ⊢
    go_simp
  · refine StepOKl.of ?_
    intro ac w hb hu hk
    refine ⟨wanted_none rfl, ?_⟩
    have e1 : ac.eval (.tmp 1) = .int .i64 leaf := hu.is (t := 1) (by kernel_rfl)
    exact step_value (BigFrame.run_move (.tmp 1) rfl w) (Below.refl _ _) e1
  · refine StepOKl.of ?_
    intro ac w hb hu hk
    refine ⟨wanted_none rfl, ?_⟩
    have e8 : ac.eval (.tmp 8) = (.int .i64 leaf) := (hk ⟨1, .data⟩ (by simp) rfl).is rfl rfl
    have ef : ac.eval (.func 68) = .func (.func 68) #[] #[] := rfl
    have ec : ac.eval (.const (.int .i64 4)) = .int .i64 4 := rfl
    refine step_enter (f := 68) (args := #[.int .i64 leaf, .int .i64 4]) ?_ ?_
    · generalize ac.eval = ρ at e8 ec ef ⊢
      go_simp
    · exact (HPA.out w).mono fun e w' ⟨A, c, he, hc, hm, hr, hq⟩ => ⟨_, he, ⟨A, c, rfl, hc, hm, hr⟩, hq⟩
  · refine StepOKl.of ?_
    intro ac w hb hu hk
    refine ⟨wanted_none rfl, ?_⟩
    have e2 : ac.eval (.tmp 2) = .int .i64 chain := hu.is (t := 2) (by kernel_rfl)
    exact step_value (BigFrame.run_move (.tmp 2) rfl w) (Below.refl _ _) e2
  · refine StepOKl.of ?_
    intro ac w hb hu hk
    refine ⟨wanted_none rfl, ?_⟩
    have e10 : ac.eval (.tmp 10) = (.int .i64 chain) := (hk ⟨3, .data⟩ (by simp) rfl).is rfl rfl
    have ef : ac.eval (.func 68) = .func (.func 68) #[] #[] := rfl
    have ec : ac.eval (.const (.int .i64 4)) = .int .i64 4 := rfl
    refine step_enter (f := 68) (args := #[.int .i64 chain, .int .i64 4]) ?_ ?_
    · generalize ac.eval = ρ at e10 ec ef ⊢
      go_simp
    · exact (HPB.out w).mono fun e w' ⟨A, c, he, hc, hm, hr, hq⟩ => ⟨_, he, ⟨A, c, rfl, hc, hm, hr⟩, hq⟩
  · refine StepOKl.of ?_
    intro ac w hb hu hk
    refine ⟨wanted_none rfl, ?_⟩
    have e7 : ac.eval (.tmp 7) = (.slice (some ⟨g1, 0, none⟩) 16 16) := (hk ⟨0, .data⟩ (by simp) rfl).is rfl rfl
    have e9 : ∃ X c, ac.eval (.tmp 9) = .slice X 4 c ∧ 4 ≤ c ∧ c ≤ maxLen ∧ Rd w w.heap.size X pa := (hk ⟨2, .data⟩ (by simp) rfl).is rfl rfl
    have e11 : ∃ X c, ac.eval (.tmp 11) = .slice X 4 c ∧ 4 ≤ c ∧ c ≤ maxLen ∧ Rd w w.heap.size X pb := (hk ⟨4, .data⟩ (by simp) rfl).is rfl rfl
    obtain ⟨A, c, eA, hcA, hmA, hrA⟩ := e9
    obtain ⟨B, d, eB, hcB, hmB, hrB⟩ := e11
    refine step_value (w' := w.alloc (.cells #[.slice (some ⟨g1, 0, none⟩) 16 16, .slice A 4 c, .slice B 4 d] 24)) (v := .slice (some ⟨w.heap.size, 0, none⟩) 3 3) ?_ ((Below.refl _ _).alloc (Nat.le_refl _) _) ⟨w.heap.size, rfl, rdr_start w _ _ _ HSL.out HPL.out.1 HPL.out.2 (by decide) (by decide) hcA hmA hcB hmB (HSR.out w hb) hrA hrB⟩
    generalize ac.eval = ρ at e7 eA eB ⊢
    go_simp
  · refine StepOKl.of ?_
    intro ac w hb hu hk
    refine ⟨wanted_none rfl, ?_⟩
    have e12 : ∃ g, ac.eval (.tmp 12) = .slice (some ⟨g, 0, none⟩) 3 3 ∧ RdR w w.heap.size (some ⟨g, 0, none⟩) [sd, pa, pb] := (hk ⟨5, .data⟩ (by simp) rfl).is rfl rfl
    obtain ⟨g, eg, hr⟩ := e12
    have ef : ac.eval (.func 116) = .func (.func 116) #[] #[] := rfl
    have es : ac.eval (.const (.string ⟨#[115, 116, 97, 114, 116]⟩)) = .string ⟨#[115, 116, 97, 114, 116]⟩ := rfl
    refine step_enter (f := 116) (args := #[.string ⟨#[115, 116, 97, 114, 116]⟩, .slice (some ⟨g, 0, none⟩) 3 3]) ?_ ?_
    · generalize ac.eval = ρ at eg es ef ⊢
      go_simp
    · exact (HTG.out g w hr (HTAB.out w hb)).mono fun e w' ⟨he, hq⟩ => ⟨_, he, rfl, hq⟩
  · intro ac w' hb hu hk hap
    obtain ⟨_, h7, rfl⟩ := (hk 0 (by decide)).put rfl rfl
    obtain ⟨_, h8, rfl⟩ := (hk 1 (by decide)).put rfl rfl
    obtain ⟨_, h9, ⟨X9, xc9, rfl, hxc9, hX9⟩⟩ := (hk 2 (by decide)).put rfl rfl
    obtain ⟨_, h10, rfl⟩ := (hk 3 (by decide)).put rfl rfl
    obtain ⟨_, h11, ⟨X11, xc11, rfl, hxc11, hX11⟩⟩ := (hk 4 (by decide)).put rfl rfl
    obtain ⟨_, h12, ⟨g12, rfl, hG12⟩⟩ := (hk 5 (by decide)).put rfl rfl
    obtain ⟨_, h13, rfl⟩ := (hk 6 (by decide)).put rfl rfl
    clear hap
    have hF : AllPuts ac.tmps ((7, _) :: (8, _) :: (9, _) :: (10, _) :: (11, _) :: (12, _) :: (13, _) :: []) := ⟨h7, h8, h9, h10, h11, h12, h13, trivial⟩
    obtain rfl := frame_puts hu (by kernel_rfl) hF
    simp only [puts, Act.put, List.setIfInBounds_toArray, List.set_cons_zero, List.set_cons_succ, List.drop_succ_cons, List.drop_zero]
    clear hk hu hF h7 h8 h9 h10 h11 h12 h13
    have HRS := Lib.hid (HB2.out.below hb HB2.out.lt)
    have HBE := Lib.hid (HB3.out.trans (hb.mono HB3.out.size))
    clear hb HPA HPB HTG HSR HB2 HB3 HTAB HTB
    go_wp2_with (with_reducible refine wpList_store_blk rfl 29 (.tmp 6) (.tmp 13) rfl g2 Z rfl rfl 29 rs HRS.out (by rw [HZS.out]; kernel_rfl) (by rw [HZS.out, HRZ.out]) HZO.out ?_)
    refine bodyPost_ret (v := .agg Z) (results_cell_row (p := 6) (ty := 29) (by kernel_rfl) _ _ g2 29 _ (0, 0) _ rfl (HRS.out.row Z) Tryd.underlying29 rfl (by rw [HZS.out]; kernel_rfl)) rfl ⟨by rw [HZ.out], below_row HBE.out HBE.out.size HG.out _⟩
end Go.Proofs.YtfgieebccjoboaaDoor
namespace Go.Proofs.YtfgieebccjoboaaDoor
open Go.RowKit

/-- make([][]byte, n). -/
theorem wpList_make_rows8 {w : World} {ops : Array Oper} {rest : List Oper} {o : Oper} {a : Act} {Q : Exit → Act → World → Prop} (hgd : o.guard = none) (l c : Operand) (ho : o.op = .makeSlice 39 l c)
    (n : Nat) (hn : n ≤ 1000) (hl : a.eval l = .int .i64 (n : Int)) (hc : a.eval c = .int .i64 (n : Int))
    (hk : ∀ w' cs, Blk w' w.heap.size cs 24 → cs.size = n → Below w.heap.size w w' → wpList Tryd.prog ops Q rest (a.put o.dst (.slice (some ⟨w.heap.size, 0, none⟩) n n)) w') : wpList Tryd.prog ops Q (o :: rest) a w := by
  obtain ⟨i, hi, hz, hsz, hby⟩ := info_parts infoSlice
  obtain ⟨w', hrun, r1, r2⟩ := run_make_full (P := Tryd.prog) w w.heap.size 39 24 i (.slice none 0 0) 1 Tryd.underlying39 hi hz hsz .i64 .i64 n (by rw [hby]; omega) (by unfold maxLen; omega) (Nat.le_refl _)
  rcases r1.2 with ⟨e, _⟩ | ⟨g, cap, cur, e, _, hg, _, _, hcs, _⟩
  · cases e
  · injection e with e1 e2 e3
    injection e1 with e1
    injection e1 with e1
    subst e1 e3
    refine wpList_plain hgd fun K hK => ?_
    unfold Oper.wp
    simp [execOp, ho, hl, hc, hrun, Result.andThen]
    exact hK _ _ (hk w' cur hg (by rw [hcs, Nat.mul_one]) ((Below.refl _ _).grown r2 (Nat.le_refl _) (fun k hk => by cases hk)))
theorem rd_range {w : World} {b o : Nat} {l : List UInt8} (hb : b < w.heap.size) (h : w.rangeAt b o (Lib.byteCells l)) : Rd w w.heap.size (some ⟨b, o, none⟩) l := .inr ⟨b, o, rfl, hb, fun j hj => h j _ (by simp [Lib.byteCells, hj])⟩
set_option maxRecDepth 100000 in
set_option maxHeartbeats 8000000 in
theorem ppubof_any {v : Value} {hs : List (List UInt8)} {w : World} (hv : HV w v hs) (hn : hs.length = 67) (htab : Pow10 w.heap.size w) :
    Calls Tryd.prog 92 #[v] w fun e w' => e = .returned (.agg (u8A (pubH hs))) ∧ Below w.heap.size w w' := by
  obtain ⟨h32, X, c, rfl, _, hr⟩ := hv
  obtain ⟨Z, hZ⟩ : ∃ x, u8A (pubH hs) = x := ⟨_, rfl⟩
  have HZ := Lib.hid hZ
  have HZS := Lib.hid (show Z.size = 32 by rw [← hZ, u8A_size]; exact pubH_len _)
  have HZO := Lib.hid (show Z.all (·.oneCell') = true by rw [← hZ]; exact u8A_one _)
  have HTAB := Lib.hid htab
  have HN := Lib.hid hn
  have H32 := Lib.hid h32
  rcases hr with h0 | ⟨b, off, rfl, hb, hcs⟩
  · rw [h0] at hn; cases hn
  have HCS := Lib.hid hcs
  have HBL := Lib.hid hb
  have HBL0 := Lib.hid hb
  rw [hn]
  clear hZ htab hn h32 hcs
  go_enter Tryd.func92, Tryd.ntmps92
  go_upto_region 1 with fail
  generalize hw1 : World.alloc _ _ = w1
  obtain ⟨g2, hg2⟩ : ∃ g, w.heap.size = g := ⟨_, rfl⟩
  have hf : (∃ rs, Blk w1 g2 rs 29 ∧ rs.size = 32) ∧ Below w.heap.size w w1 := by
    obtain ⟨Y, hw, hY⟩ : ∃ Y, w1 = w.alloc (.cells Y 29) ∧ Y.size = 32 := ⟨_, hw1.symm, rfl⟩
    rw [hw, ← hg2]
    exact ⟨⟨Y, Blk.new w _ _, hY⟩, (Below.refl _ _).alloc (Nat.le_refl _) _⟩
  have HR := Lib.hid hf.1
  have HB1 := Lib.hid hf.2
  have HG := Lib.hid (show w.heap.size ≤ g2 ∧ g2 < w1.heap.size from ⟨by omega, by obtain ⟨rs, h, _⟩ := hf.1; exact h.lt⟩)
  rw [hg2] at HBL ⊢
  clear hf hw1 hb
  go_wp2_with (with_reducible refine wpList_make_rows8 rfl _ _ rfl 67 (by omega) rfl rfl ?_)
  intro w2 cs0 hbk hsz hb2
  obtain ⟨g3, hg3⟩ : ∃ g, w1.heap.size = g := ⟨_, rfl⟩
  have HG3 := Lib.hid (show w.heap.size ≤ g3 ∧ b < g3 ∧ g2 < g3 by
    have h1 := HB1.out.size
    have h2 := HBL.out
    have h3 := HG.out
    omega)
  rw [hg3] at hbk hb2 ⊢
  have HK := Lib.hid (show Blk w2 g3 cs0 24 ∧ cs0.size = 67 ∧ ∀ j, j < 0 → cs0[j]? = some (.slice (some ⟨b, off + j * 32, none⟩) 32 32) from ⟨hbk, hsz, fun j hj => absurd hj (Nat.not_lt_zero _)⟩)
  have HB2 := Lib.hid hb2
  clear hbk hsz hb2 hg2
  go_wp2_with fail
  go_loopw [10] (fun t wq => ∃ (k : Nat) (cs : Array Value), k ≤ 67 ∧ t = .int .i64 (k : Int) ∧ Hid (Blk wq g3 cs 24 ∧ cs.size = 67 ∧ ∀ j, j < k → cs[j]? = some (.slice (some ⟨b, off + j * 32, none⟩) 32 32)) ∧ Hid (Below g3 w1 wq)) (fun t _ => 67 - (intOf t).toNat)
  case atStart => exact ⟨0, cs0, Nat.zero_le _, rfl, HK, HB2⟩
  case round =>
    clear HK HB2
    obtain ⟨k, cs, hk, rfl, HK, HB⟩ := hrel
    by_cases hlt : k < 67
    · have hki : (k : Int) < 67 := by omega
      obtain ⟨hbk, hsz, hall⟩ := HK.out
      have hf1 := hbk.frozen k
      obtain ⟨o1, ho1⟩ : ∃ old, wr.cell? ⟨g3, k, none⟩ = some old := ⟨_, by rw [hbk.cell k]; exact Array.getElem?_eq_getElem (by omega)⟩
      have hgl := hbk.lt
      clear hall
      go_wp2_with fail
      go_roundw
      case rel =>
        obtain ⟨hbk, hsz, hall⟩ := HK.out
        refine ⟨k + 1, cs.setIfInBounds k (.slice (some ⟨b, off + k * 32, none⟩) 32 32), hlt, by go_num, Lib.hid ⟨hbk.set k _, by simp [hsz], fun j hj => ?_⟩, Lib.hid (HB.out.setCell (by simp) _)⟩
        by_cases hjk : j = k
        · rw [hjk, Array.getElem?_setIfInBounds_self]
          rw [if_pos (by omega)]
        · rw [Array.getElem?_setIfInBounds_ne (by omega)]
          exact hall j (by omega)
      case measure => simp [intOf]; omega
    · obtain rfl : k = 67 := by omega
      obtain ⟨hbk, hsz, hall⟩ := HK.out
      have hbw : Below w.heap.size w wr := HB1.out.trans (HB.out.mono HG3.out.1)
      have HRR := Lib.hid (show RdR wr wr.heap.size (some ⟨g3, 0, none⟩) hs from .inr ⟨g3, 0, rfl, hbk.lt, fun i hi => by
        have hl := H32.out _ (List.getElem_mem hi)
        have hi67 : i < 67 := by rw [← HN.out]; exact hi
        refine ⟨some ⟨b, off + i * 32, none⟩, 32, ?_, by omega, by decide, ?_⟩
        · rw [Nat.zero_add, hbk.cell i, hall i hi67, hl]
        · refine rd_range (by have := HG3.out.2.1; have := hbk.lt; omega) ?_
          exact rangeAt_keep (HCS.out i hi) fun j => HB.out.cell (p := ⟨b, _, none⟩) HG3.out.2.1 |>.trans (HB1.out.cell (p := ⟨b, _, none⟩) HBL0.out)⟩)
      have HTG := Lib.hid (show Calls Tryd.prog 116 #[.string ⟨#[112, 117, 98, 108, 105, 99]⟩, .slice (some ⟨g3, 0, none⟩) 67 67] wr fun e w' => e = .returned (.agg Z) ∧ Below wr.heap.size wr w' by
        rw [← HZ.out]
        exact tagged_any [112, 117, 98, 108, 105, 99] (some ⟨g3, 0, none⟩) 67 67 hs wr (by decide) HN.out (by decide) (fun r hr => by rw [H32.out r hr]; omega) HRR.out (tab_on HTAB.out hbw hbw.size))
      have HBW := Lib.hid hbw
      obtain ⟨rs, hrs, hrz⟩ := HR.out
      have HRZ := Lib.hid hrz
      have HRS := Lib.hid (hrs.below HB.out HG3.out.2.2)
      clear hbk hsz hall hbw hrs hrz HK HR HB HRR
      go_wp2_with fail
      with_reducible refine (HTG.out).mono ?_
      rintro e w4 ⟨rfl, hb4⟩
      replace HRS := Lib.hid (HRS.out.below hb4 HRS.out.lt)
      replace HBW := Lib.hid (HBW.out.trans (hb4.mono HBW.out.size))
      clear hb4 HTG
      go_wp2_with (with_reducible refine wpList_store_blk rfl 29 (.tmp 2) (.tmp 22) rfl g2 Z rfl rfl 29 rs HRS.out (by rw [HZS.out]; kernel_rfl) (by rw [HZS.out, HRZ.out]) HZO.out ?_)
      refine bodyPost_ret (v := .agg Z) (results_cell_row (p := 2) (ty := 29) (by kernel_rfl) _ _ g2 29 _ (0, 0) _ rfl (HRS.out.row Z) Tryd.underlying29 rfl (by rw [HZS.out]; kernel_rfl)) rfl ⟨by rw [HZ.out], below_row HBW.out HBW.out.size HG.out.1 _⟩
end Go.Proofs.YtfgieebccjoboaaDoor
namespace Go.Proofs.YtfgieebccjoboaaDoor
open Go.RowKit

/-- The first k hashes of a rule. -/
def atL (f : Nat → List UInt8) (k : Nat) : List (List UInt8) := (List.range k).map f
theorem atL_len (f : Nat → List UInt8) (k : Nat) : (atL f k).length = k := by simp [atL]
theorem atL_snoc (f : Nat → List UInt8) (k : Nat) : atL f (k + 1) = atL f k ++ [f k] := by simp [atL, List.range_succ]
theorem atL_fill (f : Nat → List UInt8) (z : List UInt8) {k n : Nat} (hk : k < n) : (atL f k ++ List.replicate (n - k) z).set k (f k) = atL f (k + 1) ++ List.replicate (n - (k + 1)) z := by
  rw [List.set_append_right _ _ (by rw [atL_len]; exact Nat.le_refl _), atL_len, Nat.sub_self, show n - k = (n - (k + 1)) + 1 by omega, List.replicate_succ, List.set_cons_zero, atL_snoc, List.append_assoc]
  rfl
theorem atL_full (f : Nat → List UInt8) (z : List UInt8) (n : Nat) : atL f n ++ List.replicate (n - n) z = atL f n := by simp
theorem atL_get (f : Nat → List UInt8) {k i : Nat} (h : i < k) : (atL f k).getD i [] = f i := by simp [atL, List.getD_eq_getElem?_getD, h]
theorem atL_congr {f g : Nat → List UInt8} {k : Nat} (h : ∀ i, i < k → f i = g i) : atL f k = atL g k := List.map_congr_left fun i hi => h i (List.mem_range.1 hi)
theorem fill_len (f : Nat → List UInt8) (z : List UInt8) {k n : Nat} (hk : k ≤ n) : (atL f k ++ List.replicate (n - k) z).length = n := by rw [List.length_append, atL_len, List.length_replicate]; omega
theorem grows_of {w w' : World} (h : Below w.heap.size w w') (row : Option Nat) : w.grownBy w' row := ⟨h.os, h.tape, h.output, h.size, fun k hk _ => h.block k hk⟩
theorem Blk.grows {w w' : World} {g g' : Nat} {cs : Array Value} {T : TypeId} (h : Blk w g cs T) (hg : w.grownBy w' (some g')) (hne : g ≠ g') : Blk w' g cs T := h.grown hg (fun e => hne (Option.some.inj e))
theorem cell_grows {w w' : World} {b o g' : Nat} {v : Value} (h : w.cell? ⟨b, o, none⟩ = some v) (hg : w.grownBy w' (some g')) (hne : b ≠ g') : w'.cell? ⟨b, o, none⟩ = some v := hg.cell h (fun e => hne (Option.some.inj e))
theorem below_grows {B g : Nat} {a w w' : World} (h : Below B a w) (hg : w.grownBy w' (some g)) (hB : B ≤ w.heap.size) (hr : B ≤ g) : Below B a w' := h.grown hg hB (fun k hk => by injection hk with hk; omega)
theorem clampS_nat {d : Nat} (h : d ≤ 15) : wots.clampS (d : Int) = d := by
  unfold wots.clampS
  rw [if_neg (by omega), if_neg (by omega)]
  omega
theorem DV.cells {w : World} {b off n c : Nat} {ds : List Nat} (h : DV w (.slice (some ⟨b, off, none⟩) n c) ds) : ∀ i, i < n → w.cell? ⟨b, off + i, none⟩ = some (.int .i64 ((ds.getD i 0 : Nat) : Int)) := fun i hi => by
  obtain ⟨b', off', e, _, hc⟩ := h.at_ hi
  injection e with e
  injection e with e1 e2
  subst e1 e2
  exact hc
/-- The value on a chain at a message's digit; the end that a value leads to. -/
def signF (sd : List UInt8) (leaf : Int) (D : List Nat) (c : Nat) : List UInt8 := alongH (D.getD c 0) (startH sd leaf (c : Int))
def endF (D : List Nat) (vs : List (List UInt8)) (c : Nat) : List UInt8 := alongH (15 - D.getD c 0) (vs.getD c [])
theorem own_from {w : World} {B C : Nat} {v : Value} {hs : List (List UInt8)} (h : OwnH w B v hs) (hb : C ≤ B) : OwnH w C v hs := by
  refine ⟨h.1, h.2.1, ?_⟩
  rcases h.2.2 with h0 | ⟨g, cap, cur, h1, h2, h3⟩
  · exact .inl h0
  · exact .inr ⟨g, cap, cur, h1, Nat.le_trans hb h2, h3⟩
set_option maxRecDepth 100000 in
set_option maxHeartbeats 8000000 in
theorem ppublic_any (sd : List UInt8) (leaf : Int) (w : World) (hs : sd.length = 16) (hl : leaf ≤ 9223372036854775807) (htab : Pow10 w.heap.size w) :
    Calls Tryd.prog 55 #[.agg (u8A sd), .int .i64 leaf] w fun e w' => e = .returned (.agg (u8A (pubH (endsL sd leaf 67)))) ∧ Below w.heap.size w w' := by
  obtain ⟨X, hX⟩ : ∃ x, u8A sd = x := ⟨_, rfl⟩
  obtain ⟨Z, hZ⟩ : ∃ x, u8A (pubH (endsL sd leaf 67)) = x := ⟨_, rfl⟩
  have HX := Lib.hid hX
  have HZ := Lib.hid hZ
  have HXS := Lib.hid (show X.size = 16 by rw [← hX, u8A_size]; exact hs)
  have HZS := Lib.hid (show Z.size = 32 by rw [← hZ, u8A_size]; exact pubH_len _)
  have HZO := Lib.hid (show Z.all (·.oneCell') = true by rw [← hZ]; exact u8A_one _)
  have HTAB := Lib.hid htab
  rw [hX]
  clear hX hZ htab
  go_enter Tryd.func55, Tryd.ntmps55
  go_upto_region 1 with fail
  generalize hw3 : World.alloc _ _ = w3
  obtain ⟨g1, hg1⟩ : ∃ g, w.heap.size = g := ⟨_, rfl⟩
  obtain ⟨g2, hg2⟩ : ∃ g, w.heap.size + 1 = g := ⟨_, rfl⟩
  have hf : Blk w3 g1 X 23 ∧ (∃ rs, Blk w3 g2 rs 29 ∧ rs.size = 32) ∧ Below w.heap.size w w3 := by
    obtain ⟨Y, hw, hY⟩ : ∃ Y, w3 = (w.alloc (.cells X 23)).alloc (.cells Y 29) ∧ Y.size = 32 := ⟨_, hw3.symm, rfl⟩
    have e1 : (w.alloc (.cells X 23)).heap.size = w.heap.size + 1 := by simp
    rw [hw, ← hg1, ← hg2]
    refine ⟨(Blk.new w _ _).alloc _, ⟨Y, ?_, hY⟩, ((Below.refl _ _).alloc (Nat.le_refl _) _).alloc (by simp) _⟩
    rw [← e1]; exact Blk.new _ _ _
  have HB1 := Lib.hid hf.1
  obtain ⟨rs, hrs, hrz⟩ := hf.2.1
  have HB2 := Lib.hid hrs
  have HRZ := Lib.hid hrz
  have HB3 := Lib.hid hf.2.2
  have HG := Lib.hid (show w.heap.size ≤ g1 ∧ w.heap.size ≤ g2 by omega)
  clear hf hw3 hrs hrz
  rw [hg2, hg1]
  clear hg1 hg2
  go_wp2_with (with_reducible refine wpList_make_hashes rfl _ _ rfl 67 (by omega) rfl rfl ?_)
  intro w4 ho4 hb4
  obtain ⟨g3, hg3⟩ : ∃ g, w3.heap.size = g := ⟨_, rfl⟩
  have HG3 := Lib.hid (show g1 ≠ g3 ∧ g2 ≠ g3 ∧ w.heap.size ≤ g3 by
    have h1 := HB1.out.lt
    have h2 := HB2.out.lt
    have h3 := HB3.out.size
    omega)
  rw [hg3] at ho4 ⊢
  have HO4 := Lib.hid (show OwnH w4 g3 (.slice (some ⟨g3, 0, none⟩) 67 67) (atL (fun c => alongH 15 (startH sd leaf (c : Int))) 0 ++ List.replicate (67 - 0) zeroH) from ho4)
  replace HB1 := Lib.hid (HB1.out.below hb4 HB1.out.lt)
  replace HB2 := Lib.hid (HB2.out.below hb4 HB2.out.lt)
  replace HB3 := Lib.hid (HB3.out.trans (hb4.mono HB3.out.size))
  clear ho4 hb4 hg3
  go_wp2_with fail
  go_loopw [10] (fun t wq => ∃ k : Nat, k ≤ 67 ∧ t = .int .i64 (k : Int) ∧ Hid (OwnH wq g3 (.slice (some ⟨g3, 0, none⟩) 67 67) (atL (fun c => alongH 15 (startH sd leaf (c : Int))) k ++ List.replicate (67 - k) zeroH)) ∧ Hid (w4.grownBy wq (some g3))) (fun t _ => 67 - (intOf t).toNat)
  case atStart => exact ⟨0, Nat.zero_le _, rfl, HO4, Lib.hid (World.grownBy.refl _ _)⟩
  case round =>
    clear HO4
    obtain ⟨k, hk, rfl, HO, HGR⟩ := hrel
    have hbw := below_grows HB3.out HGR.out HB3.out.size HG3.out.2.2
    by_cases hlt : k < 67
    · have hki : (k : Int) < 67 := by omega
      have HFL := Lib.hid (fill_len (fun c => alongH 15 (startH sd leaf (c : Int))) zeroH hk)
      have HFI := Lib.hid (atL_fill (fun c => alongH 15 (startH sd leaf (c : Int))) zeroH hlt)
      obtain ⟨S, hS⟩ : ∃ x, u8A (startH sd leaf (k : Int)) = x := ⟨_, rfl⟩
      obtain ⟨y, hy⟩ : ∃ x, alongH 15 (startH sd leaf (k : Int)) = x := ⟨_, rfl⟩
      have hyl : y.length = 32 := by rw [← hy]; exact alongH_len (startH_len _ _ _) 15
      obtain ⟨Y, hY⟩ : ∃ x, u8A y = x := ⟨_, rfl⟩
      have HYE := Lib.hid hY
      have HYL := Lib.hid hyl
      have HST := Lib.hid (show Calls Tryd.prog 91 #[.agg X, .int .i64 leaf, .int .i64 (k : Int)] wr fun e w' => e = .returned (.agg S) ∧ Below wr.heap.size wr w' by
        rw [← HX.out, ← hS]
        exact pstart_any sd leaf (k : Int) wr hs hl (by omega) (tab_on HTAB.out hbw hbw.size))
      have HAG := Lib.hid (fun W (hW : Below wr.heap.size wr W) => (show Calls Tryd.prog 90 #[.agg S, .int .i64 15] W fun e w' => e = .returned (.agg Y) ∧ Below W.heap.size W w' from by
        rw [← hS, ← hY, ← hy]
        have hb2 := hbw.trans (hW.mono hbw.size)
        exact palong_any (startH sd leaf (k : Int)) 15 W (startH_len _ _ _) (tab_on HTAB.out hb2 hb2.size)))
      rw [hy] at HFI
      generalize (fun c : Nat => alongH 15 (startH sd leaf (c : Int))) = F at *
      have HBX := Lib.hid (HB1.out.grows HGR.out HG3.out.1)
      clear hS hY hy hyl hbw
      go_wp2_with (with_reducible refine wpList_load_blk rfl 23 (.tmp 2) rfl g1 rfl 23 X _ HBX.out Tryd.underlying23 rfl (by rw [HXS.out]; kernel_rfl) ?_)
      with_reducible refine (HST.out).mono ?_
      rintro e w5 ⟨rfl, hb5⟩
      have HB5 := Lib.hid hb5
      clear hb5 HST
      go_wp2_with fail
      with_reducible refine (HAG.out w5 HB5.out).mono ?_
      rintro e w6 ⟨rfl, hb6⟩
      have hb56 := HB5.out.trans (hb6.mono HB5.out.size)
      have HO6 := Lib.hid (HO.out.on hb56)
      have HG6 := Lib.hid (World.grownBy.trans HGR.out (grows_of hb56 _))
      clear hb6 hb56 HAG HB5 HO HGR HBX
      go_wp2_with (with_reducible refine wpList_store_own rfl (.tmp 20) (.tmp 19) rfl HO6.out HFL.out hlt y HYL.out Y HYE.out rfl rfl ?_)
      intro w7 hown7 hg7
      rw [HFI.out] at hown7
      have HO7 := Lib.hid hown7
      have HG7 := Lib.hid (World.grownBy.trans HG6.out hg7)
      clear hown7 hg7 HO6 HG6
      go_wp2_with fail
      go_roundw
      case rel => exact ⟨k + 1, hlt, by go_num, HO7, HG7⟩
      case measure => simp [intOf]; omega
    · obtain rfl : k = 67 := by omega
      rw [atL_full] at HO
      have HPO := Lib.hid (show Calls Tryd.prog 92 #[.slice (some ⟨g3, 0, none⟩) 67 67] wr fun e w' => e = .returned (.agg Z) ∧ Below wr.heap.size wr w' by
        rw [← HZ.out]
        exact ppubof_any HO.out.hv (atL_len _ _) (tab_on HTAB.out hbw hbw.size))
      have HBW := Lib.hid hbw
      have HRS := Lib.hid (HB2.out.grows HGR.out HG3.out.2.1)
      clear hbw HO HGR HB1 HB2
      go_wp2_with fail
      with_reducible refine (HPO.out).mono ?_
      rintro e w5 ⟨rfl, hb5⟩
      replace HRS := Lib.hid (HRS.out.below hb5 HRS.out.lt)
      replace HBW := Lib.hid (HBW.out.trans (hb5.mono HBW.out.size))
      clear hb5 HPO
      go_wp2_with (with_reducible refine wpList_store_blk rfl 29 (.tmp 4) (.tmp 23) rfl g2 Z rfl rfl 29 rs HRS.out (by rw [HZS.out]; kernel_rfl) (by rw [HZS.out, HRZ.out]) HZO.out ?_)
      refine bodyPost_ret (v := .agg Z) (results_cell_row (p := 4) (ty := 29) (by kernel_rfl) _ _ g2 29 _ (0, 0) _ rfl (HRS.out.row Z) Tryd.underlying29 rfl (by rw [HZS.out]; kernel_rfl)) rfl ⟨by rw [HZ.out], below_row HBW.out HBW.out.size HG.out.2 _⟩
set_option maxRecDepth 100000 in
set_option maxHeartbeats 8000000 in
theorem psign_any (sd : List UInt8) (leaf : Int) (A : Option Addr) (n c : Nat) (m : List UInt8) (w : World) (hs : sd.length = 16) (hl : leaf ≤ 9223372036854775807) (hn : m.length = n) (h1 : n ≤ 1000) (hc : n ≤ c) (hcm : c ≤ maxLen) (hr : Rd w w.heap.size A m) (htab : Pow10 w.heap.size w) :
    Calls Tryd.prog 78 #[.agg (u8A sd), .int .i64 leaf, .slice A n c] w fun e w' => ∃ v, e = .returned v ∧ OwnH w' w.heap.size v (atL (signF sd leaf (digH (msgH m))) 67) ∧ Below w.heap.size w w' := by
  obtain ⟨X, hX⟩ : ∃ x, u8A sd = x := ⟨_, rfl⟩
  have HX := Lib.hid hX
  have HXS := Lib.hid (show X.size = 16 by rw [← hX, u8A_size]; exact hs)
  have HTAB := Lib.hid htab
  have HDG := Lib.hid (fun W (hW : Below w.heap.size w W) => pdigits_any A n c m W hn h1 hc hcm (hr.on hW) (tab_on htab hW hW.size))
  have HDL := Lib.hid (digH_len (msgH_len m))
  have HDS := Lib.hid (digH_at (msgH_len m))
  generalize digH (msgH m) = D at *
  rw [hX]
  clear hX htab hn hr
  have HBA := Lib.hid (show Below w.heap.size w (w.alloc (.cells X 23)) from (Below.refl _ _).alloc (Nat.le_refl _) _)
  have HBK := Lib.hid (show Blk (w.alloc (.cells X 23)) w.heap.size X 23 from Blk.new _ _ _)
  obtain ⟨g1, hg1⟩ : ∃ g, w.heap.size = g := ⟨_, rfl⟩
  have HG1 := Lib.hid hg1
  go_enter Tryd.func78, Tryd.ntmps78
  go_upto_region 1 with fail
  generalize w.alloc (.cells X 23) = w1 at *
  rw [hg1] at HBK
  clear hg1
  go_wp2_with (with_reducible refine wpList_make_hashes rfl _ _ rfl 67 (by omega) rfl rfl ?_)
  intro w2 ho2 hb2
  obtain ⟨g3, hg3⟩ : ∃ g, w1.heap.size = g := ⟨_, rfl⟩
  have HG3 := Lib.hid (show g1 ≠ g3 ∧ g1 ≤ g3 ∧ g3 < w2.heap.size by
    have h1 := HBK.out.lt
    obtain ⟨cur, h2, _⟩ := ho2.over (ks := []) (i := 0) (by simp) (fun r hr => by cases hr) (by simp)
    have h3 := (Array.getElem?_eq_some_iff.1 h2).1
    omega)
  rw [hg3] at ho2 ⊢
  replace HBK := Lib.hid (HBK.out.below hb2 HBK.out.lt)
  replace HBA := Lib.hid (HBA.out.trans (hb2.mono HBA.out.size))
  have HO2 := Lib.hid ho2
  have HDC := Lib.hid (HDG.out w2 HBA.out)
  clear ho2 hb2 hg3 HDG
  go_wp2_with fail
  with_reducible refine (HDC.out).mono ?_
  rintro e w3 ⟨v3, rfl, hown3, hb3⟩
  obtain ⟨A3, c3, rfl, _, _⟩ := hown3.form HDL.out
  have hdv := hown3.dv
  obtain ⟨b, off, rfl, hbw, _⟩ := hdv.at_ (i := 0) (by omega)
  have hbge := hown3.lt b rfl
  have HCL := Lib.hid hdv.cells
  have HBN := Lib.hid (show b ≠ g3 by have := HG3.out; omega)
  have HO3 := Lib.hid (show OwnH w3 g3 (.slice (some ⟨g3, 0, none⟩) 67 67) (atL (signF sd leaf D) 0 ++ List.replicate (67 - 0) zeroH) from HO2.out.on hb3)
  replace HBK := Lib.hid (HBK.out.below hb3 HBK.out.lt)
  replace HBA := Lib.hid (HBA.out.trans (hb3.mono HBA.out.size))
  clear hdv hown3 hb3 hbw hbge HDC HO2
  go_wp2_with fail
  go_loopw [14] (fun t wq => ∃ k : Nat, k ≤ 67 ∧ t = .int .i64 (k : Int) ∧ Hid (OwnH wq g3 (.slice (some ⟨g3, 0, none⟩) 67 67) (atL (signF sd leaf D) k ++ List.replicate (67 - k) zeroH)) ∧ Hid (w3.grownBy wq (some g3))) (fun t _ => 67 - (intOf t).toNat)
  case atStart => exact ⟨0, Nat.zero_le _, rfl, HO3, Lib.hid (World.grownBy.refl _ _)⟩
  case round =>
    clear HO3
    obtain ⟨k, hk, rfl, HO, HGR⟩ := hrel
    have hbw := below_grows HBA.out HGR.out HBA.out.size (by have := HG1.out; have := HG3.out; omega)
    by_cases hlt : k < 67
    · have hki : (k : Int) < 67 := by omega
      have HFL := Lib.hid (fill_len (signF sd leaf D) zeroH hk)
      have HFI := Lib.hid (atL_fill (signF sd leaf D) zeroH hlt)
      have hcd := cell_grows (HCL.out k hlt) HGR.out HBN.out
      have hd15 := HDS.out k
      obtain ⟨S, hS⟩ : ∃ x, u8A (startH sd leaf (k : Int)) = x := ⟨_, rfl⟩
      obtain ⟨y, hy⟩ : ∃ x, signF sd leaf D k = x := ⟨_, rfl⟩
      have hy2 : alongH (D.getD k 0) (startH sd leaf (k : Int)) = y := hy
      obtain ⟨d, hd⟩ : ∃ d, D.getD k 0 = d := ⟨_, rfl⟩
      rw [hd] at hcd hd15 hy2
      have hyl : y.length = 32 := by rw [← hy2]; exact alongH_len (startH_len _ _ _) d
      obtain ⟨Y, hY⟩ : ∃ x, u8A y = x := ⟨_, rfl⟩
      have HYE := Lib.hid hY
      have HYL := Lib.hid hyl
      have HST := Lib.hid (show Calls Tryd.prog 91 #[.agg X, .int .i64 leaf, .int .i64 (k : Int)] wr fun e w' => e = .returned (.agg S) ∧ Below wr.heap.size wr w' by
        rw [← HX.out, ← hS]
        exact pstart_any sd leaf (k : Int) wr hs hl (by omega) (tab_on HTAB.out hbw hbw.size))
      have HAG := Lib.hid (fun W (hW : Below wr.heap.size wr W) => (show Calls Tryd.prog 90 #[.agg S, .int .i64 (d : Int)] W fun e w' => e = .returned (.agg Y) ∧ Below W.heap.size W w' from by
        rw [← hS, ← hY, ← hy2]
        have hb2 := hbw.trans (hW.mono hbw.size)
        have := palong_any (startH sd leaf (k : Int)) (d : Int) W (startH_len _ _ _) (tab_on HTAB.out hb2 hb2.size)
        rwa [clampS_nat hd15] at this))
      rw [hy] at HFI
      generalize signF sd leaf D = F at *
      have HBX := Lib.hid (HBK.out.grows HGR.out HG3.out.1)
      clear hS hY hy hy2 hyl hbw hd
      go_wp2_with (with_reducible refine wpList_load_blk rfl 23 (.tmp 3) rfl g1 rfl 23 X _ HBX.out Tryd.underlying23 rfl (by rw [HXS.out]; kernel_rfl) ?_)
      with_reducible refine (HST.out).mono ?_
      rintro e w5 ⟨rfl, hb5⟩
      have HB5 := Lib.hid hb5
      clear hb5 HST
      go_wp2_with fail
      with_reducible refine (HAG.out w5 HB5.out).mono ?_
      rintro e w6 ⟨rfl, hb6⟩
      have hb56 := HB5.out.trans (hb6.mono HB5.out.size)
      have HO6 := Lib.hid (HO.out.on hb56)
      have HG6 := Lib.hid (World.grownBy.trans HGR.out (grows_of hb56 _))
      clear hb6 hb56 HAG HB5 HO HGR HBX hcd
      go_wp2_with (with_reducible refine wpList_store_own rfl (.tmp 27) (.tmp 26) rfl HO6.out HFL.out hlt y HYL.out Y HYE.out rfl rfl ?_)
      intro w7 hown7 hg7
      rw [HFI.out] at hown7
      have HO7 := Lib.hid hown7
      have HG7 := Lib.hid (World.grownBy.trans HG6.out hg7)
      clear hown7 hg7 HO6 HG6
      go_wp2_with fail
      go_roundw
      case rel => exact ⟨k + 1, hlt, by go_num, HO7, HG7⟩
      case measure => simp [intOf]; omega
    · obtain rfl : k = 67 := by omega
      rw [atL_full] at HO
      have HOF := Lib.hid (own_from HO.out (show w.heap.size ≤ g3 by have := HG1.out; have := HG3.out; omega))
      have HBW := Lib.hid hbw
      clear hbw HO HGR
      go_wp2_with fail
      go_ret
      exact ⟨_, rfl, HOF.out, HBW.out⟩
set_option maxRecDepth 100000 in
set_option maxHeartbeats 8000000 in
theorem pends_yes (A : Option Addr) (n c : Nat) (m : List UInt8) (V : Option Addr) (cv : Nat) (vs : List (List UInt8)) (w : World) (hn : m.length = n) (h1 : n ≤ 1000) (hc : n ≤ c) (hcm : c ≤ maxLen) (hr : Rd w w.heap.size A m) (hv : HV w (.slice V 67 cv) vs) (htab : Pow10 w.heap.size w) :
    Calls Tryd.prog 111 #[.slice A n c, .slice V 67 cv] w fun e w' => ∃ v, e = .returned (.tuple #[v, .bool true]) ∧ OwnH w' w.heap.size v (atL (endF (digH (msgH m)) vs) 67) ∧ Below w.heap.size w w' := by
  have HTAB := Lib.hid htab
  have HDG := Lib.hid (fun W (hW : Below w.heap.size w W) => pdigits_any A n c m W hn h1 hc hcm (hr.on hW) (tab_on htab hW hW.size))
  have HDL := Lib.hid (digH_len (msgH_len m))
  have HDS := Lib.hid (digH_at (msgH_len m))
  generalize digH (msgH m) = D at *
  obtain ⟨bv, ov, rfl, hbv, _⟩ := hv.at_ (i := 0) (by omega)
  have HVR := Lib.hid (fun i (hi : i < 67) => (show w.rangeAt bv (ov + i * 32) (Lib.byteCells (vs.getD i [])) ∧ (vs.getD i []).length = 32 by
    obtain ⟨b', o', e, _, h2, h3⟩ := hv.at_ (i := i) hi
    injection e with e
    injection e with e1 e2
    subst e1 e2
    exact ⟨h2, h3⟩))
  have HBV := Lib.hid hbv
  have HW0 := Lib.hid (show w.heap.size = w.heap.size from rfl)
  clear htab hn hr hv hbv
  go_enter Tryd.func111, Tryd.ntmps111
  go_wp2_with (with_reducible refine wpList_make_hashes rfl _ _ rfl 67 (by omega) rfl rfl ?_)
  intro w2 ho2 hb2
  have HDC := Lib.hid (HDG.out w2 hb2)
  obtain ⟨g3, hg3⟩ : ∃ g, w.heap.size = g := ⟨_, rfl⟩
  have HGW := Lib.hid hg3
  have HG3 := Lib.hid (show g3 < w2.heap.size by
    obtain ⟨cur, h2, _⟩ := ho2.over (ks := []) (i := 0) (by simp) (fun r hr => by cases hr) (by simp)
    have h3 := (Array.getElem?_eq_some_iff.1 h2).1
    omega)
  rw [hg3] at ho2 ⊢
  have HBA := Lib.hid hb2
  have HO2 := Lib.hid ho2
  clear ho2 hb2 hg3 HDG
  go_wp2_with fail
  with_reducible refine (HDC.out).mono ?_
  rintro e w3 ⟨v3, rfl, hown3, hb3⟩
  obtain ⟨A3, c3, rfl, _, _⟩ := hown3.form HDL.out
  have hdv := hown3.dv
  obtain ⟨b, off, rfl, hbw, _⟩ := hdv.at_ (i := 0) (by omega)
  have hbge := hown3.lt b rfl
  have HCL := Lib.hid hdv.cells
  have HBN := Lib.hid (show b ≠ g3 by have := HG3.out; omega)
  have HBN2 := Lib.hid (show bv ≠ g3 by have := HBV.out; have := HGW.out; omega)
  have HO3 := Lib.hid (show OwnH w3 g3 (.slice (some ⟨g3, 0, none⟩) 67 67) (atL (endF D vs) 0 ++ List.replicate (67 - 0) zeroH) from HO2.out.on hb3)
  replace HBA := Lib.hid (HBA.out.trans (hb3.mono HBA.out.size))
  clear hdv hown3 hb3 hbw hbge HDC HO2
  go_wp2_with fail
  go_loopw [16] (fun t wq => ∃ k : Nat, k ≤ 67 ∧ t = .int .i64 (k : Int) ∧ Hid (OwnH wq g3 (.slice (some ⟨g3, 0, none⟩) 67 67) (atL (endF D vs) k ++ List.replicate (67 - k) zeroH)) ∧ Hid (w3.grownBy wq (some g3))) (fun t _ => 67 - (intOf t).toNat)
  case atStart => exact ⟨0, Nat.zero_le _, rfl, HO3, Lib.hid (World.grownBy.refl _ _)⟩
  case round =>
    clear HO3
    obtain ⟨k, hk, rfl, HO, HGR⟩ := hrel
    have hbw := below_grows HBA.out HGR.out HBA.out.size (by have := HGW.out; omega)
    by_cases hlt : k < 67
    · have hki : (k : Int) < 67 := by omega
      have HFL := Lib.hid (fill_len (endF D vs) zeroH hk)
      have HFI := Lib.hid (atL_fill (endF D vs) zeroH hlt)
      have hcd := cell_grows (HCL.out k hlt) HGR.out HBN.out
      have hd15 := HDS.out k
      obtain ⟨hvr, hvl⟩ := HVR.out k hlt
      obtain ⟨y, hy⟩ : ∃ x, endF D vs k = x := ⟨_, rfl⟩
      have hy2 : alongH (15 - D.getD k 0) (vs.getD k []) = y := hy
      obtain ⟨d, hd⟩ : ∃ d, D.getD k 0 = d := ⟨_, rfl⟩
      obtain ⟨x, hx⟩ : ∃ x, vs.getD k [] = x := ⟨_, rfl⟩
      obtain ⟨d2, hd2⟩ : ∃ d2, 15 - d = d2 := ⟨_, rfl⟩
      rw [hd] at hcd hd15 hy2
      rw [hx] at hy2 hvr hvl
      rw [hd2] at hy2
      have hsub : (15 : Int) - (d : Int) = (d2 : Int) := by omega
      have hd2b : d2 ≤ 15 := by omega
      have hyl : y.length = 32 := by rw [← hy2]; exact alongH_len hvl d2
      obtain ⟨Y, hY⟩ : ∃ x, u8A y = x := ⟨_, rfl⟩
      obtain ⟨C, hC⟩ : ∃ z, u8A x = z := ⟨_, rfl⟩
      have HYE := Lib.hid hY
      have HYL := Lib.hid hyl
      have HCE := Lib.hid hC
      have HRX := Lib.hid (show wr.rangeAt bv (ov + k * 32) (Lib.byteCells x) from rangeAt_keep hvr fun j => hbw.cell (p := ⟨bv, _, none⟩) HBV.out)
      have HAG := Lib.hid (show Calls Tryd.prog 90 #[.agg C, .int .i64 (d2 : Int)] wr fun e w' => e = .returned (.agg Y) ∧ Below wr.heap.size wr w' from by
        rw [← hC, ← hY, ← hy2]
        have := palong_any x (d2 : Int) wr hvl (tab_on HTAB.out hbw hbw.size)
        rwa [clampS_nat hd2b] at this)
      rw [hy] at HFI
      generalize endF D vs = F at *
      clear hC hY hy hy2 hyl hbw hd hd2 hx hvr
      go_wp2_with (with_reducible refine wpList_load_hash rfl (.tmp 25) rfl bv (ov + k * 32) rfl x hvl HRX.out C HCE.out ?_)
      with_reducible refine (HAG.out).mono ?_
      rintro e w6 ⟨rfl, hb6⟩
      have HO6 := Lib.hid (HO.out.on hb6)
      have HG6 := Lib.hid (World.grownBy.trans HGR.out (grows_of hb6 _))
      clear hb6 HAG HO HGR hcd
      go_wp2_with (with_reducible refine wpList_store_own rfl (.tmp 30) (.tmp 29) rfl HO6.out HFL.out hlt y HYL.out Y HYE.out rfl rfl ?_)
      intro w7 hown7 hg7
      rw [HFI.out] at hown7
      have HO7 := Lib.hid hown7
      have HG7 := Lib.hid (World.grownBy.trans HG6.out hg7)
      clear hown7 hg7 HO6 HG6
      go_wp2_with fail
      go_roundw
      case rel => exact ⟨k + 1, hlt, by go_num, HO7, HG7⟩
      case measure => simp [intOf]; omega
    · obtain rfl : k = 67 := by omega
      rw [atL_full] at HO
      have HOF := Lib.hid (show OwnH wr w.heap.size (.slice (some ⟨g3, 0, none⟩) 67 67) (atL (endF D vs) 67) by rw [HGW.out]; exact HO.out)
      have HBW := Lib.hid hbw
      clear hbw HO HGR
      go_wp2_with fail
      go_ret2
      exact ⟨_, rfl, HOF.out, HBW.out⟩
set_option maxRecDepth 100000 in
set_option maxHeartbeats 8000000 in
theorem pends_no (A : Option Addr) (n c : Nat) (V : Option Addr) (k cv : Nat) (w : World) (hk : k ≠ 67) :
    Calls Tryd.prog 111 #[.slice A n c, .slice V k cv] w fun e w' => e = .returned (.tuple #[.slice none 0 0, .bool false]) ∧ Below w.heap.size w w' := by
  have hne : ((k : Int) != 67) = true := by simp; omega
  go_enter Tryd.func111, Tryd.ntmps111
  go_wp2_with fail
  go_ret2
  exact ⟨rfl, Below.refl _ _⟩
end Go.Proofs.YtfgieebccjoboaaDoor
namespace Go.Proofs.YtfgieebccjoboaaDoor
open Go.RowKit

theorem HV.rd8 {w : World} {A : Option Addr} {n c : Nat} {hs : List (List UInt8)} (h : HV w (.slice A n c) hs) : RdH w w.heap.size A hs := by
  obtain ⟨_, X, d, e, _, h2⟩ := h
  injection e with e1 _ _
  subst e1
  exact h2
set_option maxRecDepth 100000 in
set_option maxHeartbeats 8000000 in
theorem rsign_any (sd : List UInt8) (leaf : Int) (A : Option Addr) (n c : Nat) (m : List UInt8) (w : World) (hs : sd.length = 16) (hl : leaf ≤ 9223372036854775807) (hn : m.length = n) (h1 : n ≤ 1000) (hc : n ≤ c) (hcm : c ≤ maxLen) (hr : Rd w w.heap.size A m) :
    Calls Tryd.prog 60 #[.agg (u8A sd), .int .i64 leaf, .slice A n c] w fun e w' => ∃ v, e = .returned v ∧ OwnH w' w.heap.size v (atL (signF sd leaf (digH (msgH m))) 67) ∧ Below w.heap.size w w' := by
  obtain ⟨X, hX⟩ : ∃ x, u8A sd = x := ⟨_, rfl⟩
  have HX := Lib.hid hX
  have HXS := Lib.hid (show X.size = 16 by rw [← hX, u8A_size]; exact hs)
  have HDG := Lib.hid (fun W (hW : Below w.heap.size w W) => rdigits_any A n c m W hn h1 hc hcm (hr.on hW))
  have HDL := Lib.hid (digH_len (msgH_len m))
  have HDS := Lib.hid (digH_at (msgH_len m))
  generalize digH (msgH m) = D at *
  rw [hX]
  clear hX hn hr
  have HBA := Lib.hid (show Below w.heap.size w (w.alloc (.cells X 23)) from (Below.refl _ _).alloc (Nat.le_refl _) _)
  have HBK := Lib.hid (show Blk (w.alloc (.cells X 23)) w.heap.size X 23 from Blk.new _ _ _)
  obtain ⟨g1, hg1⟩ : ∃ g, w.heap.size = g := ⟨_, rfl⟩
  go_enter Tryd.func60, Tryd.ntmps60
  go_upto_region 1 with fail
  generalize w.alloc (.cells X 23) = w1 at *
  rw [hg1] at HBK
  clear hg1
  have HDC := Lib.hid (HDG.out w1 HBA.out)
  clear HDG
  go_wp2_with fail
  with_reducible refine (HDC.out).mono ?_
  rintro e w3 ⟨v3, rfl, hown3, hb3⟩
  obtain ⟨A3, c3, rfl, _, _⟩ := hown3.form HDL.out
  have hdv := hown3.dv
  obtain ⟨b, off, rfl, hbw, _⟩ := hdv.at_ (i := 0) (by omega)
  have HCL := Lib.hid (fun i (hi : i < 67) W (hW : Below w3.heap.size w3 W) => (show W.cell? ⟨b, off + i, none⟩ = some (.int .i64 ((D.getD i 0 : Nat) : Int)) from (hW.cell (p := ⟨b, off + i, none⟩) hbw).trans (hdv.cells i hi)))
  replace HBK := Lib.hid (HBK.out.below hb3 HBK.out.lt)
  replace HBA := Lib.hid (HBA.out.trans (hb3.mono HBA.out.size))
  clear hdv hown3 hb3 hbw HDC
  go_wp2_with fail
  go_loopw [8, 9] (fun v t wq => ∃ (k : Nat) (A5 : Option Addr) (c5 : Nat), k ≤ 67 ∧ t = .int .i64 (k : Int) ∧ v = .slice A5 k c5 ∧ Hid (OwnH wq w3.heap.size (.slice A5 k c5) (atL (signF sd leaf D) k)) ∧ Hid (Below w3.heap.size w3 wq)) (fun _ t _ => 67 - (intOf t).toNat)
  case atStart => exact ⟨0, none, 0, Nat.zero_le _, rfl, rfl, Lib.hid (OwnH.nil _ _), Lib.hid (Below.refl _ _)⟩
  case round =>
    obtain ⟨k, A5, c5, hk, rfl, rfl, HO, HBQ⟩ := hrel
    by_cases hlt : k < 67
    · have hki : (k : Int) < 67 := by omega
      have HFI := Lib.hid (atL_snoc (signF sd leaf D) k).symm
      have hd15 := HDS.out k
      obtain ⟨S, hS⟩ : ∃ x, u8A (startH sd leaf (k : Int)) = x := ⟨_, rfl⟩
      obtain ⟨y, hy⟩ : ∃ x, signF sd leaf D k = x := ⟨_, rfl⟩
      have hy2 : alongH (D.getD k 0) (startH sd leaf (k : Int)) = y := hy
      have hcl := HCL.out k hlt
      obtain ⟨d, hd⟩ : ∃ d, D.getD k 0 = d := ⟨_, rfl⟩
      rw [hd] at hd15 hy2 hcl
      have HCD := Lib.hid (fun W (hW : Below wr.heap.size wr W) => hcl W (HBQ.out.trans (hW.mono HBQ.out.size)))
      have hyl : y.length = 32 := by rw [← hy2]; exact alongH_len (startH_len _ _ _) d
      obtain ⟨Y, hY⟩ : ∃ x, u8A y = x := ⟨_, rfl⟩
      have HYE := Lib.hid hY
      have HYL := Lib.hid hyl
      have HST := Lib.hid (fun W (hW : Below wr.heap.size wr W) => (show Calls Tryd.prog 37 #[.agg X, .int .i64 leaf, .int .i64 (k : Int)] W fun e w' => e = .returned (.agg S) ∧ Below W.heap.size W w' by
        rw [← HX.out, ← hS]
        exact rstart_any sd leaf (k : Int) W hs hl (by omega)))
      have HAG := Lib.hid (fun W (hW : Below wr.heap.size wr W) => (show Calls Tryd.prog 36 #[.agg S, .int .i64 (d : Int)] W fun e w' => e = .returned (.agg Y) ∧ Below W.heap.size W w' from by
        rw [← hS, ← hY, ← hy2]
        have := ralong_any (startH sd leaf (k : Int)) (d : Int) W (startH_len _ _ _)
        rwa [clampS_nat hd15] at this))
      rw [hy] at HFI
      generalize signF sd leaf D = F at *
      have HBX := Lib.hid (fun W (hW : Below wr.heap.size wr W) => HBK.out.below (HBQ.out.trans (hW.mono HBQ.out.size)) HBK.out.lt)
      clear hS hY hy hy2 hyl hd hcl
      go_wp2_with fail
      refine wp_region_loose 11 2 (fun i => false) (promises [.is (.slice A5 k c5), .is (.agg X), .is (.int .i64 leaf), .is (.int .i64 (k : Int)), .is (.agg S), .is (.slice (some ⟨b, off, none⟩) 67 c3), .is (.int .i64 (k : Int)), .is (.pointer (some ⟨b, off + k, none⟩)), .is (.int .i64 (d : Int)), .is (.agg Y), .hv 1 [y]]) (by kernel_rfl) rfl (by kernel_rfl) (fun i v w w' h hb => Spec.keep h hb) ⟨?_, ?_, ?_, ?_, ?_, ?_, ?_, ?_, ?_, ?_, ?_, trivial⟩ ?_
      · refine StepOKl.of ?_
        intro ac w hb hu hk
        refine ⟨wanted_none rfl, ?_⟩
        have e8 : ac.eval (.tmp 8) = .slice A5 k c5 := hu.is (t := 8) (by kernel_rfl)
        exact step_value (BigFrame.run_move (.tmp 8) rfl w) (Below.refl _ _) e8
      · refine StepOKl.of ?_
        intro ac w hb hu hk
        refine ⟨wanted_none rfl, ?_⟩
        have e3 : ac.eval (.tmp 3) = .pointer (some ⟨g1, 0, none⟩) := hu.is (t := 3) (by kernel_rfl)
        exact wp_load_row 23 (.tmp 3) rfl g1 e3 23 X (0, 0) _ (HBX.out w hb) Tryd.underlying23 rfl (by rw [HXS.out]; kernel_rfl) ⟨_, rfl, rfl, Below.refl _ _⟩
      · refine StepOKl.of ?_
        intro ac w hb hu hk
        refine ⟨wanted_none rfl, ?_⟩
        have e1 : ac.eval (.tmp 1) = .int .i64 leaf := hu.is (t := 1) (by kernel_rfl)
        exact step_value (BigFrame.run_move (.tmp 1) rfl w) (Below.refl _ _) e1
      · refine StepOKl.of ?_
        intro ac w hb hu hk
        refine ⟨wanted_none rfl, ?_⟩
        have e9 : ac.eval (.tmp 9) = .int .i64 (k : Int) := hu.is (t := 9) (by kernel_rfl)
        exact step_value (BigFrame.run_move (.tmp 9) rfl w) (Below.refl _ _) e9
      · refine StepOKl.of ?_
        intro ac w hb hu hk
        refine ⟨wanted_none rfl, ?_⟩
        have e17 : ac.eval (.tmp 17) = (.agg X) := (hk ⟨1, .data⟩ (by simp) rfl).is rfl rfl
        have e18 : ac.eval (.tmp 18) = (.int .i64 leaf) := (hk ⟨2, .data⟩ (by simp) rfl).is rfl rfl
        have e19 : ac.eval (.tmp 19) = (.int .i64 (k : Int)) := (hk ⟨3, .data⟩ (by simp) rfl).is rfl rfl
        have ef : ac.eval (.func 37) = .func (.func 37) #[] #[] := rfl
        refine step_enter (f := 37) (args := #[.agg X, .int .i64 leaf, .int .i64 (k : Int)]) ?_ ?_
        · generalize ac.eval = ρ at e17 e18 e19 ef ⊢
          go_simp
        · exact (HST.out w hb).mono fun e w' ⟨he, hq⟩ => ⟨_, he, rfl, hq⟩
      · refine StepOKl.of ?_
        intro ac w hb hu hk
        refine ⟨wanted_none rfl, ?_⟩
        have e7 : ac.eval (.tmp 7) = .slice (some ⟨b, off, none⟩) 67 c3 := hu.is (t := 7) (by kernel_rfl)
        exact step_value (BigFrame.run_move (.tmp 7) rfl w) (Below.refl _ _) e7
      · refine StepOKl.of ?_
        intro ac w hb hu hk
        refine ⟨wanted_none rfl, ?_⟩
        have e9 : ac.eval (.tmp 9) = .int .i64 (k : Int) := hu.is (t := 9) (by kernel_rfl)
        exact step_value (BigFrame.run_move (.tmp 9) rfl w) (Below.refl _ _) e9
      · refine StepOKl.of ?_
        intro ac w hb hu hk
        refine ⟨wanted_none rfl, ?_⟩
        have e21 : ac.eval (.tmp 21) = (.slice (some ⟨b, off, none⟩) 67 c3) := (hk ⟨5, .data⟩ (by simp) rfl).is rfl rfl
        have e22 : ac.eval (.tmp 22) = (.int .i64 (k : Int)) := (hk ⟨6, .data⟩ (by simp) rfl).is rfl rfl
        refine step_value (w' := w) (v := (.pointer (some ⟨b, off + k, none⟩))) ?_ (Below.refl _ _) rfl
        generalize ac.eval = ρ at e21 e22 ⊢
        go_simp
      · refine StepOKl.of ?_
        intro ac w hb hu hk
        refine ⟨wanted_none rfl, ?_⟩
        have e23 : ac.eval (.tmp 23) = (.pointer (some ⟨b, off + k, none⟩)) := (hk ⟨7, .data⟩ (by simp) rfl).is rfl rfl
        have hc := HCD.out w hb
        refine step_value (w' := w) (v := .int .i64 (d : Int)) ?_ (Below.refl _ _) rfl
        generalize ac.eval = ρ at e23 ⊢
        go_simp
      · refine StepOKl.of ?_
        intro ac w hb hu hk
        refine ⟨wanted_none rfl, ?_⟩
        have e20 : ac.eval (.tmp 20) = (.agg S) := (hk ⟨4, .data⟩ (by simp) rfl).is rfl rfl
        have e24 : ac.eval (.tmp 24) = (.int .i64 (d : Int)) := (hk ⟨8, .data⟩ (by simp) rfl).is rfl rfl
        have ef : ac.eval (.func 36) = .func (.func 36) #[] #[] := rfl
        refine step_enter (f := 36) (args := #[.agg S, .int .i64 (d : Int)]) ?_ ?_
        · generalize ac.eval = ρ at e20 e24 ef ⊢
          go_simp
        · exact (HAG.out w hb).mono fun e w' ⟨he, hq⟩ => ⟨_, he, rfl, hq⟩
      · refine StepOKl.of ?_
        intro ac w hb hu hk
        refine ⟨wanted_none rfl, ?_⟩
        have e25 : ac.eval (.tmp 25) = (.agg Y) := (hk ⟨9, .data⟩ (by simp) rfl).is rfl rfl
        exact step_build_hash rfl y HYL.out (by rw [HYE.out]; exact e25)
      · intro ac w' hb hu hk hap
        obtain ⟨_, h16, rfl⟩ := (hk 0 (by decide)).put rfl rfl
        obtain ⟨_, h17, rfl⟩ := (hk 1 (by decide)).put rfl rfl
        obtain ⟨_, h18, rfl⟩ := (hk 2 (by decide)).put rfl rfl
        obtain ⟨_, h19, rfl⟩ := (hk 3 (by decide)).put rfl rfl
        obtain ⟨_, h20, rfl⟩ := (hk 4 (by decide)).put rfl rfl
        obtain ⟨_, h21, rfl⟩ := (hk 5 (by decide)).put rfl rfl
        obtain ⟨_, h22, rfl⟩ := (hk 6 (by decide)).put rfl rfl
        obtain ⟨_, h23, rfl⟩ := (hk 7 (by decide)).put rfl rfl
        obtain ⟨_, h24, rfl⟩ := (hk 8 (by decide)).put rfl rfl
        obtain ⟨_, h25, rfl⟩ := (hk 9 (by decide)).put rfl rfl
        obtain ⟨_, h26, ⟨X26, xc26, rfl, hxc26, hX26⟩⟩ := (hk 10 (by decide)).put rfl rfl
        clear hap
        have hF : AllPuts ac.tmps ((16, _) :: (17, _) :: (18, _) :: (19, _) :: (20, _) :: (21, _) :: (22, _) :: (23, _) :: (24, _) :: (25, _) :: (26, _) :: []) := ⟨h16, h17, h18, h19, h20, h21, h22, h23, h24, h25, h26, trivial⟩
        obtain rfl := frame_puts hu (by kernel_rfl) hF
        simp only [puts, Act.put, List.setIfInBounds_toArray, List.set_cons_zero, List.set_cons_succ, List.drop_succ_cons, List.drop_zero]
        clear hk hu hF h16 h17 h18 h19 h20 h21 h22 h23 h24 h25 h26
        have hbk := hb
        have hsk := hb.size
        obtain ⟨A9, hA9⟩ : ∃ z, X26 = z := ⟨_, rfl⟩
        obtain ⟨c9, hc9⟩ : ∃ z, xc26 = z := ⟨_, rfl⟩
        rw [hA9] at hX26 ⊢
        rw [hc9] at hX26 ⊢
        have HO9 := Lib.hid (HO.out.on hbk)
        have HS9 := Lib.hid hX26
        have hb9 := HBQ.out.trans (hbk.mono HBQ.out.size)
        have hs9 := hb9.size
        have HB9 := Lib.hid hb9
        clear hb hbk hsk hA9 hc9 hxc26 hX26 HO hb9
        go_wp2_with (at_builtin; refine wpList_append_hashes rfl _ _ rfl w3.heap.size _ (atL F k) rfl HO9.out w'.heap.size A9 1 c9 [y] rfl rfl (fun r hr => by rw [List.mem_singleton.1 hr]; exact HYL.out) HS9.out.rd8 (by rw [atL_len]; omega) hs9 ?_)
        intro v7 w7 hown7 hb7
        rw [HFI.out] at hown7
        obtain ⟨A7, c7, rfl, _, _⟩ := hown7.form (atL_len _ _)
        have HO7 := Lib.hid hown7
        have HB7 := Lib.hid (HB9.out.trans hb7)
        clear hown7 hb7 HO9 HS9 HB9 hs9
        go_wp2_with fail
        go_roundw
        case rel => exact ⟨k + 1, A7, c7, hlt, by go_num, rfl, HO7, HB7⟩
        case measure => simp [intOf]; omega
    · obtain rfl : k = 67 := by omega
      have HOF := Lib.hid (own_from HO.out HBA.out.size)
      have HBW := Lib.hid (HBA.out.trans (HBQ.out.mono HBA.out.size))
      clear HO HBQ
      go_wp2_with fail
      go_ret
      exact ⟨_, rfl, HOF.out, HBW.out⟩
set_option maxRecDepth 100000 in
set_option maxHeartbeats 8000000 in
theorem rends8_yes (A : Option Addr) (n c : Nat) (m : List UInt8) (V : Option Addr) (cv : Nat) (vs : List (List UInt8)) (w : World) (hn : m.length = n) (h1 : n ≤ 1000) (hc : n ≤ c) (hcm : c ≤ maxLen) (hr : Rd w w.heap.size A m) (hv : HV w (.slice V 67 cv) vs) :
    Calls Tryd.prog 99 #[.slice A n c, .slice V 67 cv] w fun e w' => ∃ v, e = .returned (.tuple #[v, .bool true]) ∧ OwnH w' w.heap.size v (atL (endF (digH (msgH m)) vs) 67) ∧ Below w.heap.size w w' := by
  have HDC := Lib.hid (rdigits_any A n c m w hn h1 hc hcm hr)
  have HDL := Lib.hid (digH_len (msgH_len m))
  have HDS := Lib.hid (digH_at (msgH_len m))
  generalize digH (msgH m) = D at *
  obtain ⟨bv, ov, rfl, hbv, _⟩ := hv.at_ (i := 0) (by omega)
  have HVR := Lib.hid (fun i (hi : i < 67) => (show w.rangeAt bv (ov + i * 32) (Lib.byteCells (vs.getD i [])) ∧ (vs.getD i []).length = 32 by
    obtain ⟨b', o', e, _, h2, h3⟩ := hv.at_ (i := i) hi
    injection e with e
    injection e with e1 e2
    subst e1 e2
    exact ⟨h2, h3⟩))
  have HBV := Lib.hid hbv
  clear hn hr hv hbv
  go_enter Tryd.func99, Tryd.ntmps99
  go_wp2_with fail
  with_reducible refine (HDC.out).mono ?_
  rintro e w3 ⟨v3, rfl, hown3, hb3⟩
  obtain ⟨A3, c3, rfl, _, _⟩ := hown3.form HDL.out
  have hdv := hown3.dv
  obtain ⟨b, off, rfl, hbw, _⟩ := hdv.at_ (i := 0) (by omega)
  have HCL := Lib.hid (fun i (hi : i < 67) W (hW : Below w3.heap.size w3 W) => (show W.cell? ⟨b, off + i, none⟩ = some (.int .i64 ((D.getD i 0 : Nat) : Int)) from (hW.cell (p := ⟨b, off + i, none⟩) hbw).trans (hdv.cells i hi)))
  have HBA := Lib.hid hb3
  clear hdv hown3 hb3 hbw HDC
  go_wp2_with fail
  go_loopw [7, 16] (fun v t wq => ∃ (k : Nat) (A5 : Option Addr) (c5 : Nat), k ≤ 67 ∧ t = .int .i64 (k : Int) ∧ v = .slice A5 k c5 ∧ Hid (OwnH wq w3.heap.size (.slice A5 k c5) (atL (endF D vs) k)) ∧ Hid (Below w3.heap.size w3 wq)) (fun _ t _ => 67 - (intOf t).toNat)
  case atStart => exact ⟨0, none, 0, Nat.zero_le _, rfl, rfl, Lib.hid (OwnH.nil _ _), Lib.hid (Below.refl _ _)⟩
  case round =>
    obtain ⟨k, A5, c5, hk, rfl, rfl, HO, HBQ⟩ := hrel
    by_cases hlt : k < 67
    · have hki : (k : Int) < 67 := by omega
      have HFI := Lib.hid (atL_snoc (endF D vs) k).symm
      have hd15 := HDS.out k
      obtain ⟨hvr, hvl⟩ := HVR.out k hlt
      obtain ⟨y, hy⟩ : ∃ x, endF D vs k = x := ⟨_, rfl⟩
      have hy2 : alongH (15 - D.getD k 0) (vs.getD k []) = y := hy
      have hcl := HCL.out k hlt
      obtain ⟨d, hd⟩ : ∃ d, D.getD k 0 = d := ⟨_, rfl⟩
      obtain ⟨x, hx⟩ : ∃ x, vs.getD k [] = x := ⟨_, rfl⟩
      obtain ⟨d2, hd2⟩ : ∃ d2, 15 - d = d2 := ⟨_, rfl⟩
      rw [hd] at hd15 hy2 hcl
      rw [hx] at hy2 hvr hvl
      rw [hd2] at hy2
      have HSB := Lib.hid (show IntKind.i64.wrap ((15 : Int) - (d : Int)) = (d2 : Int) by rw [IntWalk.i64_in _ (by omega)]; omega)
      have hd2b : d2 ≤ 15 := by omega
      have hyl : y.length = 32 := by rw [← hy2]; exact alongH_len hvl d2
      obtain ⟨Y, hY⟩ : ∃ x, u8A y = x := ⟨_, rfl⟩
      obtain ⟨C, hC⟩ : ∃ z, u8A x = z := ⟨_, rfl⟩
      have HYE := Lib.hid hY
      have HYL := Lib.hid hyl
      have HCE := Lib.hid hC
      have HXL := Lib.hid hvl
      have HCD := Lib.hid (fun W (hW : Below wr.heap.size wr W) => hcl W (HBQ.out.trans (hW.mono HBQ.out.size)))
      have HRX := Lib.hid (fun W (hW : Below wr.heap.size wr W) => (show W.rangeAt bv (ov + k * 32) (Lib.byteCells x) from rangeAt_keep hvr fun j => (HBA.out.trans ((HBQ.out.trans (hW.mono HBQ.out.size)).mono HBA.out.size)).cell (p := ⟨bv, _, none⟩) HBV.out))
      have HAG := Lib.hid (fun W (hW : Below wr.heap.size wr W) => (show Calls Tryd.prog 36 #[.agg C, .int .i64 (d2 : Int)] W fun e w' => e = .returned (.agg Y) ∧ Below W.heap.size W w' from by
        rw [← hC, ← hY, ← hy2]
        have := ralong_any x (d2 : Int) W hvl
        rwa [clampS_nat hd2b] at this))
      rw [hy] at HFI
      generalize endF D vs = F at *
      clear hC hY hy hy2 hyl hd hd2 hx hvr hcl hvl
      go_wp2_with fail
      refine wp_region_loose 12 2 (fun i => false) (promises [.is (.slice A5 k c5), .is (.slice (some ⟨bv, ov, none⟩) 67 cv), .is (.int .i64 (k : Int)), .is (.pointer (some ⟨bv, ov + k * 32, none⟩)), .is (.agg C), .is (.slice (some ⟨b, off, none⟩) 67 c3), .is (.int .i64 (k : Int)), .is (.pointer (some ⟨b, off + k, none⟩)), .is (.int .i64 (d : Int)), .is (.int .i64 (d2 : Int)), .is (.agg Y), .hv 1 [y]]) (by kernel_rfl) rfl (by kernel_rfl) (fun i v w w' h hb => Spec.keep h hb) ⟨?_, ?_, ?_, ?_, ?_, ?_, ?_, ?_, ?_, ?_, ?_, ?_, trivial⟩ ?_
      · refine StepOKl.of ?_
        intro ac w hb hu hk
        refine ⟨wanted_none rfl, ?_⟩
        have e7 : ac.eval (.tmp 7) = .slice A5 k c5 := hu.is (t := 7) (by kernel_rfl)
        exact step_value (BigFrame.run_move (.tmp 7) rfl w) (Below.refl _ _) e7
      · refine StepOKl.of ?_
        intro ac w hb hu hk
        refine ⟨wanted_none rfl, ?_⟩
        have e1 : ac.eval (.tmp 1) = .slice (some ⟨bv, ov, none⟩) 67 cv := hu.is (t := 1) (by kernel_rfl)
        exact step_value (BigFrame.run_move (.tmp 1) rfl w) (Below.refl _ _) e1
      · refine StepOKl.of ?_
        intro ac w hb hu hk
        refine ⟨wanted_none rfl, ?_⟩
        have e8 : ac.eval (.tmp 8) = .int .i64 (k : Int) := hu.is (t := 8) (by kernel_rfl)
        exact step_value (BigFrame.run_move (.tmp 8) rfl w) (Below.refl _ _) e8
      · refine StepOKl.of ?_
        intro ac w hb hu hk
        refine ⟨wanted_none rfl, ?_⟩
        have e20 : ac.eval (.tmp 20) = (.slice (some ⟨bv, ov, none⟩) 67 cv) := (hk ⟨1, .data⟩ (by simp) rfl).is rfl rfl
        have e21 : ac.eval (.tmp 21) = (.int .i64 (k : Int)) := (hk ⟨2, .data⟩ (by simp) rfl).is rfl rfl
        refine step_value (w' := w) (v := (.pointer (some ⟨bv, ov + k * 32, none⟩))) ?_ (Below.refl _ _) rfl
        generalize ac.eval = ρ at e20 e21 ⊢
        go_simp
      · refine StepOKl.of ?_
        intro ac w hb hu hk
        refine ⟨wanted_none rfl, ?_⟩
        have e22 : ac.eval (.tmp 22) = (.pointer (some ⟨bv, ov + k * 32, none⟩)) := (hk ⟨3, .data⟩ (by simp) rfl).is rfl rfl
        exact step_value (run_load_hash (.tmp 22) rfl bv (ov + k * 32) e22 x HXL.out (HRX.out w hb) HCE.out) (Below.refl _ _) rfl
      · refine StepOKl.of ?_
        intro ac w hb hu hk
        refine ⟨wanted_none rfl, ?_⟩
        have e6 : ac.eval (.tmp 6) = .slice (some ⟨b, off, none⟩) 67 c3 := hu.is (t := 6) (by kernel_rfl)
        exact step_value (BigFrame.run_move (.tmp 6) rfl w) (Below.refl _ _) e6
      · refine StepOKl.of ?_
        intro ac w hb hu hk
        refine ⟨wanted_none rfl, ?_⟩
        have e8 : ac.eval (.tmp 8) = .int .i64 (k : Int) := hu.is (t := 8) (by kernel_rfl)
        exact step_value (BigFrame.run_move (.tmp 8) rfl w) (Below.refl _ _) e8
      · refine StepOKl.of ?_
        intro ac w hb hu hk
        refine ⟨wanted_none rfl, ?_⟩
        have e24 : ac.eval (.tmp 24) = (.slice (some ⟨b, off, none⟩) 67 c3) := (hk ⟨5, .data⟩ (by simp) rfl).is rfl rfl
        have e25 : ac.eval (.tmp 25) = (.int .i64 (k : Int)) := (hk ⟨6, .data⟩ (by simp) rfl).is rfl rfl
        refine step_value (w' := w) (v := (.pointer (some ⟨b, off + k, none⟩))) ?_ (Below.refl _ _) rfl
        generalize ac.eval = ρ at e24 e25 ⊢
        go_simp
      · refine StepOKl.of ?_
        intro ac w hb hu hk
        refine ⟨wanted_none rfl, ?_⟩
        have e26 : ac.eval (.tmp 26) = (.pointer (some ⟨b, off + k, none⟩)) := (hk ⟨7, .data⟩ (by simp) rfl).is rfl rfl
        have hc := HCD.out w hb
        refine step_value (w' := w) (v := .int .i64 (d : Int)) ?_ (Below.refl _ _) rfl
        generalize ac.eval = ρ at e26 ⊢
        go_simp
      · refine StepOKl.of ?_
        intro ac w hb hu hk
        refine ⟨wanted_none rfl, ?_⟩
        have e27 : ac.eval (.tmp 27) = (.int .i64 (d : Int)) := (hk ⟨8, .data⟩ (by simp) rfl).is rfl rfl
        have hsw := HSB.out
        refine step_value (w' := w) (v := .int .i64 (d2 : Int)) ?_ (Below.refl _ _) rfl
        have ec : ac.eval (.const (.int .i64 15)) = .int .i64 15 := rfl
        generalize ac.eval = ρ at e27 ec ⊢
        go_simp
      · refine StepOKl.of ?_
        intro ac w hb hu hk
        refine ⟨wanted_none rfl, ?_⟩
        have e23 : ac.eval (.tmp 23) = (.agg C) := (hk ⟨4, .data⟩ (by simp) rfl).is rfl rfl
        have e28 : ac.eval (.tmp 28) = (.int .i64 (d2 : Int)) := (hk ⟨9, .data⟩ (by simp) rfl).is rfl rfl
        have ef : ac.eval (.func 36) = .func (.func 36) #[] #[] := rfl
        refine step_enter (f := 36) (args := #[.agg C, .int .i64 (d2 : Int)]) ?_ ?_
        · generalize ac.eval = ρ at e23 e28 ef ⊢
          go_simp
        · exact (HAG.out w hb).mono fun e w' ⟨he, hq⟩ => ⟨_, he, rfl, hq⟩
      · refine StepOKl.of ?_
        intro ac w hb hu hk
        refine ⟨wanted_none rfl, ?_⟩
        have e29 : ac.eval (.tmp 29) = (.agg Y) := (hk ⟨10, .data⟩ (by simp) rfl).is rfl rfl
        exact step_build_hash rfl y HYL.out (by rw [HYE.out]; exact e29)
      · intro ac w' hb hu hk hap
        obtain ⟨_, h19, rfl⟩ := (hk 0 (by decide)).put rfl rfl
        obtain ⟨_, h20, rfl⟩ := (hk 1 (by decide)).put rfl rfl
        obtain ⟨_, h21, rfl⟩ := (hk 2 (by decide)).put rfl rfl
        obtain ⟨_, h22, rfl⟩ := (hk 3 (by decide)).put rfl rfl
        obtain ⟨_, h23, rfl⟩ := (hk 4 (by decide)).put rfl rfl
        obtain ⟨_, h24, rfl⟩ := (hk 5 (by decide)).put rfl rfl
        obtain ⟨_, h25, rfl⟩ := (hk 6 (by decide)).put rfl rfl
        obtain ⟨_, h26, rfl⟩ := (hk 7 (by decide)).put rfl rfl
        obtain ⟨_, h27, rfl⟩ := (hk 8 (by decide)).put rfl rfl
        obtain ⟨_, h28, rfl⟩ := (hk 9 (by decide)).put rfl rfl
        obtain ⟨_, h29, rfl⟩ := (hk 10 (by decide)).put rfl rfl
        obtain ⟨_, h30, ⟨X30, xc30, rfl, hxc30, hX30⟩⟩ := (hk 11 (by decide)).put rfl rfl
        clear hap
        have hF : AllPuts ac.tmps ((19, _) :: (20, _) :: (21, _) :: (22, _) :: (23, _) :: (24, _) :: (25, _) :: (26, _) :: (27, _) :: (28, _) :: (29, _) :: (30, _) :: []) := ⟨h19, h20, h21, h22, h23, h24, h25, h26, h27, h28, h29, h30, trivial⟩
        obtain rfl := frame_puts hu (by kernel_rfl) hF
        simp only [puts, Act.put, List.setIfInBounds_toArray, List.set_cons_zero, List.set_cons_succ, List.drop_succ_cons, List.drop_zero]
        clear hk hu hF h19 h20 h21 h22 h23 h24 h25 h26 h27 h28 h29 h30
        have hbk := hb
        have hsk := hb.size
        obtain ⟨A9, hA9⟩ : ∃ z, X30 = z := ⟨_, rfl⟩
        obtain ⟨c9, hc9⟩ : ∃ z, xc30 = z := ⟨_, rfl⟩
        rw [hA9] at hX30 ⊢
        rw [hc9] at hX30 ⊢
        have HO9 := Lib.hid (HO.out.on hbk)
        have HS9 := Lib.hid hX30
        have hb9 := HBQ.out.trans (hbk.mono HBQ.out.size)
        have hs9 := hb9.size
        have HB9 := Lib.hid hb9
        clear hb hbk hsk hA9 hc9 hxc30 hX30 HO hb9
        go_wp2_with (at_builtin; refine wpList_append_hashes rfl _ _ rfl w3.heap.size _ (atL F k) rfl HO9.out w'.heap.size A9 1 c9 [y] rfl rfl (fun r hr => by rw [List.mem_singleton.1 hr]; exact HYL.out) HS9.out.rd8 (by rw [atL_len]; omega) hs9 ?_)
        intro v7 w7 hown7 hb7
        rw [HFI.out] at hown7
        obtain ⟨A7, c7, rfl, _, _⟩ := hown7.form (atL_len _ _)
        have HO7 := Lib.hid hown7
        have HB7 := Lib.hid (HB9.out.trans hb7)
        clear hown7 hb7 HO9 HS9 HB9 hs9
        go_wp2_with fail
        go_roundw
        case rel => exact ⟨k + 1, A7, c7, hlt, by go_num, rfl, HO7, HB7⟩
        case measure => simp [intOf]; omega
    · obtain rfl : k = 67 := by omega
      have HOF := Lib.hid (own_from HO.out HBA.out.size)
      have HBW := Lib.hid (HBA.out.trans (HBQ.out.mono HBA.out.size))
      clear HO HBQ
      go_wp2_with fail
      go_ret2
      exact ⟨_, rfl, HOF.out, HBW.out⟩
set_option maxRecDepth 100000 in
set_option maxHeartbeats 8000000 in
theorem rends8_no (A : Option Addr) (n c : Nat) (V : Option Addr) (k cv : Nat) (w : World) (hk : k ≠ 67) :
    Calls Tryd.prog 99 #[.slice A n c, .slice V k cv] w fun e w' => e = .returned (.tuple #[.slice none 0 0, .bool false]) ∧ Below w.heap.size w w' := by
  have hne : ((k : Int) != 67) = true := by simp; omega
  go_enter Tryd.func99, Tryd.ntmps99
  go_wp2_with fail
  go_ret2
  exact ⟨rfl, Below.refl _ _⟩
end Go.Proofs.YtfgieebccjoboaaDoor
namespace Go.Proofs.YtfgieebccjoboaaDoor
open Go.RowKit

set_option maxRecDepth 100000 in
set_option maxHeartbeats 8000000 in
theorem prec_yes (A : Option Addr) (n c : Nat) (m : List UInt8) (V : Option Addr) (cv : Nat) (vs : List (List UInt8)) (w : World) (hn : m.length = n) (h1 : n ≤ 1000) (hc : n ≤ c) (hcm : c ≤ maxLen) (hr : Rd w w.heap.size A m) (hv : HV w (.slice V 67 cv) vs) (htab : Pow10 w.heap.size w) :
    Calls Tryd.prog 79 #[.slice A n c, .slice V 67 cv] w fun e w' => e = .returned (.tuple #[.agg (u8A (pubH (atL (endF (digH (msgH m)) vs) 67))), .bool true]) ∧ Below w.heap.size w w' := by
  have HTAB := Lib.hid htab
  have HED := Lib.hid (fun W (hW : Below w.heap.size w W) => pends_yes A n c m V cv vs W hn h1 hc hcm (hr.on hW) (hv.on hW) (tab_on htab hW hW.size))
  have HEL := Lib.hid (atL_len (endF (digH (msgH m)) vs) 67)
  generalize atL (endF (digH (msgH m)) vs) 67 = E at *
  obtain ⟨Z, hZ⟩ : ∃ x, u8A (pubH E) = x := ⟨_, rfl⟩
  have HZ := Lib.hid hZ
  have HZS := Lib.hid (show Z.size = 32 by rw [← hZ, u8A_size]; exact pubH_len _)
  have HZO := Lib.hid (show Z.all (·.oneCell') = true by rw [← hZ]; exact u8A_one _)
  clear htab hn hr hv hZ
  go_enter Tryd.func79, Tryd.ntmps79
  go_upto_region 1 with fail
  generalize hw1 : World.alloc _ _ = w1
  obtain ⟨g2, hg2⟩ : ∃ g, w.heap.size = g := ⟨_, rfl⟩
  have hf : (∃ rs, Blk w1 g2 rs 29 ∧ rs.size = 32) ∧ Below w.heap.size w w1 := by
    obtain ⟨Y, hw, hY⟩ : ∃ Y, w1 = w.alloc (.cells Y 29) ∧ Y.size = 32 := ⟨_, hw1.symm, rfl⟩
    rw [hw, ← hg2]
    exact ⟨⟨Y, Blk.new w _ _, hY⟩, (Below.refl _ _).alloc (Nat.le_refl _) _⟩
  obtain ⟨rs, hrs, hrz⟩ := hf.1
  have HR := Lib.hid hrs
  have HRZ := Lib.hid hrz
  have HB := Lib.hid hf.2
  have HG := Lib.hid (show w.heap.size ≤ g2 by omega)
  have HEC := Lib.hid (HED.out w1 hf.2)
  clear hf hw1 hrs hrz HED
  rw [hg2]
  clear hg2
  go_wp2_with fail
  with_reducible refine (HEC.out).mono ?_
  rintro e w2 ⟨v2, rfl, hown, hb2⟩
  obtain ⟨A2, c2, rfl, _, _⟩ := hown.form HEL.out
  replace HR := Lib.hid (HR.out.below hb2 HR.out.lt)
  replace HB := Lib.hid (HB.out.trans (hb2.mono HB.out.size))
  have HPO := Lib.hid (show Calls Tryd.prog 92 #[.slice A2 67 c2] w2 fun e w' => e = .returned (.agg Z) ∧ Below w2.heap.size w2 w' by
    rw [← HZ.out]
    exact ppubof_any hown.hv HEL.out (tab_on HTAB.out HB.out HB.out.size))
  clear hown hb2 HEC
  go_wp2_with fail
  with_reducible refine (HPO.out).mono ?_
  rintro e w3 ⟨rfl, hb3⟩
  replace HR := Lib.hid (HR.out.below hb3 HR.out.lt)
  replace HB := Lib.hid (HB.out.trans (hb3.mono HB.out.size))
  clear hb3 HPO
  go_wp2_with (with_reducible refine wpList_store_blk rfl 29 (.tmp 4) (.tmp 18) rfl g2 Z rfl rfl 29 rs HR.out (by rw [HZS.out]; kernel_rfl) (by rw [HZS.out, HRZ.out]) HZO.out ?_)
  refine bodyPost_ret (v := .tuple #[.agg Z, .bool true]) (results_cell_tmp (p := 4) (q := 5) (ty := 29) (by kernel_rfl) _ _ g2 29 _ (0, 0) _ (.bool true) rfl rfl (HR.out.row Z) Tryd.underlying29 rfl (by rw [HZS.out]; kernel_rfl)) rfl ⟨by rw [HZ.out], below_row HB.out HB.out.size HG.out _⟩
set_option maxRecDepth 100000 in
set_option maxHeartbeats 8000000 in
theorem prec_no (A : Option Addr) (n c : Nat) (V : Option Addr) (k cv : Nat) (w : World) (hk : k ≠ 67) :
    Calls Tryd.prog 79 #[.slice A n c, .slice V k cv] w fun e w' => e = .returned (.tuple #[.agg (u8A zeroH), .bool false]) ∧ Below w.heap.size w w' := by
  have HED := Lib.hid (fun W => pends_no A n c V k cv W hk)
  obtain ⟨Z, hZ⟩ : ∃ x, u8A zeroH = x := ⟨_, rfl⟩
  have HZ := Lib.hid hZ
  have HZS := Lib.hid (show Z.size = 32 by rw [← hZ, u8A_size]; rfl)
  have HZO := Lib.hid (show Z.all (·.oneCell') = true by rw [← hZ]; exact u8A_one _)
  clear hZ
  go_enter Tryd.func79, Tryd.ntmps79
  go_upto_region 1 with fail
  generalize hw1 : World.alloc _ _ = w1
  obtain ⟨g2, hg2⟩ : ∃ g, w.heap.size = g := ⟨_, rfl⟩
  have hf : (∃ rs, Blk w1 g2 rs 29 ∧ rs.size = 32) ∧ Below w.heap.size w w1 := by
    obtain ⟨Y, hw, hY⟩ : ∃ Y, w1 = w.alloc (.cells Y 29) ∧ Y.size = 32 := ⟨_, hw1.symm, rfl⟩
    rw [hw, ← hg2]
    exact ⟨⟨Y, Blk.new w _ _, hY⟩, (Below.refl _ _).alloc (Nat.le_refl _) _⟩
  obtain ⟨rs, hrs, hrz⟩ := hf.1
  have HR := Lib.hid hrs
  have HRZ := Lib.hid hrz
  have HB := Lib.hid hf.2
  have HG := Lib.hid (show w.heap.size ≤ g2 by omega)
  clear hf hw1 hrs hrz
  rw [hg2]
  clear hg2
  go_wp2_with fail
  with_reducible refine (HED.out w1).mono ?_
  rintro e w2 ⟨rfl, hb2⟩
  replace HR := Lib.hid (HR.out.below hb2 HR.out.lt)
  replace HB := Lib.hid (HB.out.trans (hb2.mono HB.out.size))
  clear hb2 HED
  go_wp2_with (first
    | (with_reducible refine wpList_build_zero rfl rfl Z HZ.out ?_)
    | (with_reducible refine wpList_store_blk rfl 29 (.tmp 4) (.tmp 16) rfl g2 Z rfl rfl 29 rs HR.out (by rw [HZS.out]; kernel_rfl) (by rw [HZS.out, HRZ.out]) HZO.out ?_))
  refine bodyPost_ret (v := .tuple #[.agg Z, .bool false]) (results_cell_tmp (p := 4) (q := 5) (ty := 29) (by kernel_rfl) _ _ g2 29 _ (0, 0) _ (.bool false) rfl rfl (HR.out.row Z) Tryd.underlying29 rfl (by rw [HZS.out]; kernel_rfl)) rfl ⟨by rw [HZ.out], below_row HB.out HB.out.size HG.out _⟩
set_option maxRecDepth 100000 in
set_option maxHeartbeats 8000000 in
theorem rrec8_yes (A : Option Addr) (n c : Nat) (m : List UInt8) (V : Option Addr) (cv : Nat) (vs : List (List UInt8)) (w : World) (hn : m.length = n) (h1 : n ≤ 1000) (hc : n ≤ c) (hcm : c ≤ maxLen) (hr : Rd w w.heap.size A m) (hv : HV w (.slice V 67 cv) vs) :
    Calls Tryd.prog 63 #[.slice A n c, .slice V 67 cv] w fun e w' => e = .returned (.tuple #[.agg (u8A (pubH (atL (endF (digH (msgH m)) vs) 67))), .bool true]) ∧ Below w.heap.size w w' := by
  have HED := Lib.hid (fun W (hW : Below w.heap.size w W) => rends8_yes A n c m V cv vs W hn h1 hc hcm (hr.on hW) (hv.on hW))
  have HEL := Lib.hid (atL_len (endF (digH (msgH m)) vs) 67)
  generalize atL (endF (digH (msgH m)) vs) 67 = E at *
  obtain ⟨Z, hZ⟩ : ∃ x, u8A (pubH E) = x := ⟨_, rfl⟩
  have HZ := Lib.hid hZ
  have HZS := Lib.hid (show Z.size = 32 by rw [← hZ, u8A_size]; exact pubH_len _)
  have HZO := Lib.hid (show Z.all (·.oneCell') = true by rw [← hZ]; exact u8A_one _)
  clear hn hr hv hZ
  go_enter Tryd.func63, Tryd.ntmps63
  go_upto_region 1 with fail
  generalize hw1 : World.alloc _ _ = w1
  obtain ⟨g2, hg2⟩ : ∃ g, w.heap.size = g := ⟨_, rfl⟩
  have hf : (∃ rs, Blk w1 g2 rs 29 ∧ rs.size = 32) ∧ Below w.heap.size w w1 := by
    obtain ⟨Y, hw, hY⟩ : ∃ Y, w1 = w.alloc (.cells Y 29) ∧ Y.size = 32 := ⟨_, hw1.symm, rfl⟩
    rw [hw, ← hg2]
    exact ⟨⟨Y, Blk.new w _ _, hY⟩, (Below.refl _ _).alloc (Nat.le_refl _) _⟩
  obtain ⟨rs, hrs, hrz⟩ := hf.1
  have HR := Lib.hid hrs
  have HRZ := Lib.hid hrz
  have HB := Lib.hid hf.2
  have HG := Lib.hid (show w.heap.size ≤ g2 by omega)
  have HEC := Lib.hid (HED.out w1 hf.2)
  clear hf hw1 hrs hrz HED
  rw [hg2]
  clear hg2
  go_wp2_with fail
  with_reducible refine (HEC.out).mono ?_
  rintro e w2 ⟨v2, rfl, hown, hb2⟩
  obtain ⟨A2, c2, rfl, _, _⟩ := hown.form HEL.out
  replace HR := Lib.hid (HR.out.below hb2 HR.out.lt)
  replace HB := Lib.hid (HB.out.trans (hb2.mono HB.out.size))
  have HPT := Lib.hid (rpubtext_any A2 67 c2 E w2 HEL.out (by omega) hown.1 hown.hv.rd8)
  have HPL := Lib.hid (pubT_len E hown.1)
  clear hown hb2 HEC
  go_wp2_with fail
  with_reducible refine (HPT.out).mono ?_
  rintro e w5 ⟨A5, c5, rfl, hc5, hr5, hb5⟩
  obtain ⟨q, hq⟩ : ∃ q, (pubT E).length = q := ⟨_, rfl⟩
  rw [hq] at hc5 ⊢
  have HQ := Lib.hid (show q ≤ 1000000 by rw [← hq, HPL.out, HEL.out]; omega)
  have HSU := Lib.hid (show Calls Tryd.prog 57 #[.slice A5 q c5] w5 fun e w' => e = .returned (.agg Z) ∧ Below w5.heap.size w5 w' by
    rw [← HZ.out]
    exact rsum_any A5 q c5 (pubT E) w5 hq HQ.out hr5)
  replace HR := Lib.hid (HR.out.below hb5 HR.out.lt)
  replace HB := Lib.hid (HB.out.trans (hb5.mono HB.out.size))
  clear hb5 hr5 hc5 HPT HPL hq
  go_wp2_with fail
  with_reducible refine (HSU.out).mono ?_
  rintro e w3 ⟨rfl, hb3⟩
  replace HR := Lib.hid (HR.out.below hb3 HR.out.lt)
  replace HB := Lib.hid (HB.out.trans (hb3.mono HB.out.size))
  clear hb3 HSU
  go_wp2_with (with_reducible refine wpList_store_blk rfl 29 (.tmp 4) (.tmp 19) rfl g2 Z rfl rfl 29 rs HR.out (by rw [HZS.out]; kernel_rfl) (by rw [HZS.out, HRZ.out]) HZO.out ?_)
  refine bodyPost_ret (v := .tuple #[.agg Z, .bool true]) (results_cell_tmp (p := 4) (q := 5) (ty := 29) (by kernel_rfl) _ _ g2 29 _ (0, 0) _ (.bool true) rfl rfl (HR.out.row Z) Tryd.underlying29 rfl (by rw [HZS.out]; kernel_rfl)) rfl ⟨by rw [HZ.out], below_row HB.out HB.out.size HG.out _⟩
set_option maxRecDepth 100000 in
set_option maxHeartbeats 8000000 in
theorem rrec8_no (A : Option Addr) (n c : Nat) (V : Option Addr) (k cv : Nat) (w : World) (hk : k ≠ 67) :
    Calls Tryd.prog 63 #[.slice A n c, .slice V k cv] w fun e w' => e = .returned (.tuple #[.agg (u8A zeroH), .bool false]) ∧ Below w.heap.size w w' := by
  have HED := Lib.hid (fun W => rends8_no A n c V k cv W hk)
  obtain ⟨Z, hZ⟩ : ∃ x, u8A zeroH = x := ⟨_, rfl⟩
  have HZ := Lib.hid hZ
  have HZS := Lib.hid (show Z.size = 32 by rw [← hZ, u8A_size]; rfl)
  have HZO := Lib.hid (show Z.all (·.oneCell') = true by rw [← hZ]; exact u8A_one _)
  clear hZ
  go_enter Tryd.func63, Tryd.ntmps63
  go_upto_region 1 with fail
  generalize hw1 : World.alloc _ _ = w1
  obtain ⟨g2, hg2⟩ : ∃ g, w.heap.size = g := ⟨_, rfl⟩
  have hf : (∃ rs, Blk w1 g2 rs 29 ∧ rs.size = 32) ∧ Below w.heap.size w w1 := by
    obtain ⟨Y, hw, hY⟩ : ∃ Y, w1 = w.alloc (.cells Y 29) ∧ Y.size = 32 := ⟨_, hw1.symm, rfl⟩
    rw [hw, ← hg2]
    exact ⟨⟨Y, Blk.new w _ _, hY⟩, (Below.refl _ _).alloc (Nat.le_refl _) _⟩
  obtain ⟨rs, hrs, hrz⟩ := hf.1
  have HR := Lib.hid hrs
  have HRZ := Lib.hid hrz
  have HB := Lib.hid hf.2
  have HG := Lib.hid (show w.heap.size ≤ g2 by omega)
  clear hf hw1 hrs hrz
  rw [hg2]
  clear hg2
  go_wp2_with fail
  with_reducible refine (HED.out w1).mono ?_
  rintro e w2 ⟨rfl, hb2⟩
  replace HR := Lib.hid (HR.out.below hb2 HR.out.lt)
  replace HB := Lib.hid (HB.out.trans (hb2.mono HB.out.size))
  clear hb2 HED
  go_wp2_with (first
    | (with_reducible refine wpList_build_zero rfl rfl Z HZ.out ?_)
    | (with_reducible refine wpList_store_blk rfl 29 (.tmp 4) (.tmp 16) rfl g2 Z rfl rfl 29 rs HR.out (by rw [HZS.out]; kernel_rfl) (by rw [HZS.out, HRZ.out]) HZO.out ?_))
  refine bodyPost_ret (v := .tuple #[.agg Z, .bool false]) (results_cell_tmp (p := 4) (q := 5) (ty := 29) (by kernel_rfl) _ _ g2 29 _ (0, 0) _ (.bool false) rfl rfl (HR.out.row Z) Tryd.underlying29 rfl (by rw [HZS.out]; kernel_rfl)) rfl ⟨by rw [HZ.out], below_row HB.out HB.out.size HG.out _⟩
end Go.Proofs.YtfgieebccjoboaaDoor
