/- CapsLess: what may only read, what may only verify, the storage index, are what the document says. For all capabilities. -/
import Derived.Test.YtkkokngdhhakdaaDoorLaw
import Derived.Test.YtkkokngdhhakdaaDoorCapY
import Derived.Test.YtkkokngdhhakdaaDoorCapN
import Derived.Test.YtkkokngdhhakdaaDoorCapE
import Derived.Deep.CutRange
namespace Go.Proofs.YtkkokngdhhakdaaDoor.capsLess
open Go.ChangeShapes Go.WideShapes Go.ChangeAt Go.RowKit

set_option maxRecDepth 100000 in
set_option maxHeartbeats 16000000 in
theorem walk (c0 : Cap13) (A0 : Option Addr) (m0 k0 : Nat) (t1 : Bool) (w : World) (hw0 : c0.wf) (hb0 : c0.bd) (hl0 : c0.lit.length = m0) (hc0 : m0 ≤ k0) (hr0 : Rd w w.heap.size A0 c0.lit) (htab : Pow10 w.heap.size w) :
    Calls Tryd.prog 4 #[.agg (capA c0 (.slice A0 m0 k0)), .bool t1] w fun e w' => e = .returned (.bool true) ∧ Below w.heap.size w w' := by
  have HT := Lib.hid htab
  obtain ⟨CX, hCX⟩ : ∃ x, capA c0 (.slice A0 m0 k0) = x := ⟨_, rfl⟩
  have HCX := Lib.hid hCX
  have hst := CapW.start hw0 hl0 hc0 hr0 hCX
  have HR0 := Lib.hid hr0
  obtain ⟨C1, hC1⟩ : ∃ x, capA (cut13 c0) (.slice A0 (min m0 80) k0) = x := ⟨_, rfl⟩
  have HC1 := Lib.hid hC1
  have HCUT := Lib.hid (fun (W : World) => (show Calls Tryd.prog 17 #[.agg CX] W fun e w' => e = .returned (.agg C1) ∧ Below W.heap.size W w' from by
    rw [← hCX, ← hC1]
    exact cut13_any hw0 hc0))
  have HS1 := Lib.hid (show C1.size = 53 ∧ CX.size = 53 ∧ C1.all (·.oneCell') = true by rw [← hC1, ← hCX]; exact ⟨capA_size (cut13_wf hw0) _, capA_size hw0 _, capA_one⟩)
  have HBD := Lib.hid (And.intro (cut13_wf hw0) (cut13_bd hb0))
  have HM0 := Lib.hid (show min m0 80 ≤ 1000000 by omega)
  rw [hCX]
  clear htab hCX hC1 hw0 hb0 hl0 hc0 hr0
  go_enter Tryd.func4, Tryd.ntmps4
  go_upto_region 1 with fail
  obtain ⟨g, hg⟩ : ∃ g, w.heap.size = g := ⟨_, rfl⟩
  have HG := Lib.hid hg
  rw [hg] at hst ⊢
  generalize w.alloc (.cells CX 28) = w1 at *
  have H1 := Lib.hid hst
  clear hst hg
  have hcut : ∀ w2, Below w1.heap.size w1 w2 → CapW w (w2.setRow g C1) g (cut13 c0) A0 (min m0 80) k0 ∧ Blk w2 g CX 28 := fun w2 hb => ⟨(H1.out.below hb).cut HR0.out HC1.out, HCX.out ▸ (H1.out.below hb).cap.blk⟩
  have HCT := Lib.hid hcut
  clear hcut
  go_upto_region 2 with (first
    | (refine wpList_load_capC ?_ (.tmp 2) rfl g rfl H1.out.cap HCX.out ?_; · rfl)
    | (with_reducible refine (HCUT.out _).mono ?_; rintro e w2 ⟨rfl, hb2⟩)
    | (with_reducible refine wpList_store_blkTo rfl 28 (.tmp 2) (.tmp 18) rfl rfl g C1 rfl rfl 28 CX (HCT.out _ (by assumption)).2 (by rw [HS1.out.1]; kernel_rfl) (by rw [HS1.out.1, HS1.out.2.1]) HS1.out.2.2 ?_))
  have H2 := Lib.hid (HCT.out _ hb2).1
  clear hb2 HCT HCUT H1
  generalize w2.setRow g C1 = w3 at *
  cases t1
  · have H3 := H2
    have HSM := HM0
    have HCD := HC1
    clear H2 HM0 HC1
    generalize cut13 c0 = d at *
    generalize min m0 80 = n' at *
    generalize A0 = A' at *
    generalize k0 = cc' at *
    generalize C1 = CD at *
    obtain ⟨M1, hM1⟩ : ∃ x, (if d.reads then ro13 d else cap0) = x := ⟨_, rfl⟩
    obtain ⟨E1, hE1⟩ : ∃ x, (if d.reads then (0 : Int) else 11) = x := ⟨_, rfl⟩
    obtain ⟨M2, hM2⟩ : ∃ x, (if idxOK d then vo13 d else cap0) = x := ⟨_, rfl⟩
    obtain ⟨E2, hE2⟩ : ∃ x, (if idxOK d then (0 : Int) else 11) = x := ⟨_, rfl⟩
    obtain ⟨KV, hKV⟩ : ∃ x, u8A (if idxOK d then idx13 d else key0) = x := ⟨_, rfl⟩
    have HT3 := Lib.hid (fun (W : World) (hW : Below w3.heap.size w3 W) => tab_on HT.out (H3.out.bel.trans (hW.mono H3.out.bel.size)) (Nat.le_trans H3.out.bel.size hW.size))
    have HL1 := Lib.hid (show M1.lit.length ≤ maxLen by
      rw [← hM1]
      split
      · rename_i h
        have := ok_small h.1 (n := d.lit.length) rfl
        show d.lit.length ≤ maxLen
        unfold maxLen
        omega
      · exact Nat.zero_le _)
    have HL2 := Lib.hid (show M2.lit.length ≤ maxLen by
      rw [← hM2]
      split
      · rename_i h
        have := ok_small h.1 (n := d.lit.length) rfl
        show d.lit.length ≤ maxLen
        unfold maxLen
        omega
      · exact Nat.zero_le _)
    have HKS := Lib.hid (show KV.size = 16 ∧ KV.all (·.oneCell') = true by
      rw [← hKV]
      refine ⟨?_, u8A_one _⟩
      rw [u8A_size]
      split
      · exact idx13_len H3.out.cap.wf
      · rfl)
    have HKE := Lib.hid (fun W => (show (Op.equalIn 10000 23 (.agg KV) (.agg KV)).run Tryd.prog W = .ok true W by
      have hl : (if idxOK d then idx13 d else key0).length = 16 := by
        split
        · exact idx13_len H3.out.cap.wf
        · rfl
      have h := run_key_eq W _ _ hl hl
      rwa [hKV, decide_eq_true rfl] at h))
    have HPRO := Lib.hid (fun (W : World) (hW : Below w3.heap.size w3 W) => (show Calls Tryd.prog 10 #[.agg CD] W fun e w' => CapSaid W w' e M1 E1 from by
      have h := preadonly_any (w := W) (cc := cc') H3.out.cap.wf H3.out.len (H3.out.lit.on hW) (HT3.out W hW)
      rwa [HCD.out, hM1, hE1] at h))
    have HRRO := Lib.hid (fun (W : World) (hW : Below w3.heap.size w3 W) => (show Calls Tryd.prog 19 #[.agg CD] W fun e w' => CapSaid W w' e M1 E1 from by
      have h := rreadonly_any (w := W) (cc := cc') H3.out.cap.wf H3.out.len (H3.out.lit.on hW)
      rwa [HCD.out, hM1, hE1] at h))
    have HPVO := Lib.hid (fun (W : World) (hW : Below w3.heap.size w3 W) => (show Calls Tryd.prog 11 #[.agg CD] W fun e w' => CapSaid W w' e M2 E2 from by
      have h := pverify_any (w := W) (cc := cc') H3.out.cap.wf H3.out.len (H3.out.lit.on hW) (HT3.out W hW)
      rwa [HCD.out, hM2, hE2] at h))
    have HRVO := Lib.hid (fun (W : World) (hW : Below w3.heap.size w3 W) => (show Calls Tryd.prog 20 #[.agg CD] W fun e w' => CapSaid W w' e M2 E2 from by
      have h := rverify_any (w := W) (cc := cc') H3.out.cap.wf H3.out.len (H3.out.lit.on hW)
      rwa [HCD.out, hM2, hE2] at h))
    have HPIX := Lib.hid (fun (W : World) (hW : Below w3.heap.size w3 W) => (show Calls Tryd.prog 13 #[.agg CD] W fun e w' => e = .returned (.tuple #[.agg KV, .int .i64 E2]) ∧ Below W.heap.size W w' from by
      have h := pindex_any (w := W) (cc := cc') H3.out.cap.wf H3.out.len (H3.out.lit.on hW) (HT3.out W hW)
      rwa [HCD.out, hKV, hE2] at h))
    have HRIX := Lib.hid (fun (W : World) (hW : Below w3.heap.size w3 W) => (show Calls Tryd.prog 21 #[.agg CD] W fun e w' => e = .returned (.tuple #[.agg KV, .int .i64 E2]) ∧ Below W.heap.size W w' from by
      have h := rindex_any (w := W) (cc := cc') H3.out.cap.wf H3.out.len (H3.out.lit.on hW)
      rwa [HCD.out, hKV, hE2] at h))
    have HWK := Lib.hid (fun (W : World) (hW : Below w3.heap.size w3 W) => wakes13_any W (HT3.out W hW))
    clear hM1 hE1 hM2 hE2 hKV
    go_upto_region 4 with fail
    have HSd := H3
    have HBK := Lib.hid (Below.refl w3.heap.size w3)
    go_upto_region 5 with (first
      | (refine wpList_load_capC ?_ (.tmp 2) rfl g rfl HSd.out.cap HCD.out ?_; · rfl)
      | ((with_reducible refine (HPRO.out _ HBK.out).mono ?_); rintro e w5 ⟨⟨v, rfl, hv⟩, hba⟩; obtain ⟨hwf, A4, n4, cc4, rfl, hln, hrm, hrd, hla⟩ := hv; obtain ⟨CA, hCA⟩ : ∃ x, capA M1 (.slice A4 n4 cc4) = x := ⟨_, rfl⟩; rw [hCA]; have HCA := Lib.hid hCA; have HZCA := Lib.hid (show CA.size = 53 ∧ CA.all (·.oneCell') = true by rw [← hCA]; exact ⟨capA_size hwf _, capA_one⟩))
      | (with_reducible refine wpList_store_blkTo rfl 28 (.tmp 5) (.tmp 25) rfl rfl w5.heap.size CA rfl rfl 28 _ (Blk.new w5 _ _) (by rw [HZCA.out.1]; kernel_rfl) (by rw [HZCA.out.1]; kernel_rfl) HZCA.out.2 ?_))
    have hfr := fun Y => CapW.fresh (HSd.out.bel.trans (hba.mono HSd.out.bel.size)) hwf hln hrm hrd Y hCA
    generalize hwn : World.setRow _ _ _ = w6
    have hk : CapW w w6 w5.heap.size M1 A4 n4 cc4 ∧ Below w5.heap.size w5 w6 := by
      rw [← hwn]
      exact hfr _
    have hbn := hba.trans (hk.2.mono hba.size)
    obtain ⟨g5, hg5⟩ : ∃ x, w5.heap.size = x := ⟨_, rfl⟩
    rw [hg5] at hk ⊢
    replace HSd := Lib.hid (HSd.out.below hbn)
    replace HBK := Lib.hid (HBK.out.trans (hbn.mono HBK.out.size))
    have HS5 := Lib.hid hk.1
    clear hfr hwn hk hbn hba hg5 hwf hln hrm hrd hla hCA HPRO
    go_upto_region 6 with (first
      | (refine wpList_load_capC ?_ (.tmp 2) rfl g rfl HSd.out.cap HCD.out ?_; · rfl)
      | ((with_reducible refine (HRRO.out _ HBK.out).mono ?_); rintro e w7 ⟨⟨v, rfl, hv⟩, hba⟩; obtain ⟨hwf, A5, n5, cc5, rfl, hln, hrm, hrd, hla⟩ := hv; obtain ⟨CB, hCB⟩ : ∃ x, capA M1 (.slice A5 n5 cc5) = x := ⟨_, rfl⟩; rw [hCB]; have HCB := Lib.hid hCB; have HZCB := Lib.hid (show CB.size = 53 ∧ CB.all (·.oneCell') = true by rw [← hCB]; exact ⟨capA_size hwf _, capA_one⟩))
      | (with_reducible refine wpList_store_blkTo rfl 28 (.tmp 7) (.tmp 30) rfl rfl w7.heap.size CB rfl rfl 28 _ (Blk.new w7 _ _) (by rw [HZCB.out.1]; kernel_rfl) (by rw [HZCB.out.1]; kernel_rfl) HZCB.out.2 ?_))
    have hfr := fun Y => CapW.fresh (HSd.out.bel.trans (hba.mono HSd.out.bel.size)) hwf hln hrm hrd Y hCB
    generalize hwn : World.setRow _ _ _ = w8
    have hk : CapW w w8 w7.heap.size M1 A5 n5 cc5 ∧ Below w7.heap.size w7 w8 := by
      rw [← hwn]
      exact hfr _
    have hbn := hba.trans (hk.2.mono hba.size)
    obtain ⟨g7, hg7⟩ : ∃ x, w7.heap.size = x := ⟨_, rfl⟩
    rw [hg7] at hk ⊢
    replace HSd := Lib.hid (HSd.out.below hbn)
    replace HS5 := Lib.hid (HS5.out.below hbn)
    replace HBK := Lib.hid (HBK.out.trans (hbn.mono HBK.out.size))
    have HS7 := Lib.hid hk.1
    clear hfr hwn hk hbn hba hg7 hwf hln hrm hrd hla hCB HRRO
    go_upto_region 7 with (first
      | (refine wpList_load_capC ?_ (.tmp 2) rfl g rfl HSd.out.cap HCD.out ?_; · rfl)
      | ((with_reducible refine (HPVO.out _ HBK.out).mono ?_); rintro e w9 ⟨⟨v, rfl, hv⟩, hba⟩; obtain ⟨hwf, A6, n6, cc6, rfl, hln, hrm, hrd, hla⟩ := hv; obtain ⟨CE, hCE⟩ : ∃ x, capA M2 (.slice A6 n6 cc6) = x := ⟨_, rfl⟩; rw [hCE]; have HCE := Lib.hid hCE; have HZCE := Lib.hid (show CE.size = 53 ∧ CE.all (·.oneCell') = true by rw [← hCE]; exact ⟨capA_size hwf _, capA_one⟩))
      | (with_reducible refine wpList_store_blkTo rfl 28 (.tmp 9) (.tmp 35) rfl rfl w9.heap.size CE rfl rfl 28 _ (Blk.new w9 _ _) (by rw [HZCE.out.1]; kernel_rfl) (by rw [HZCE.out.1]; kernel_rfl) HZCE.out.2 ?_))
    have hfr := fun Y => CapW.fresh (HSd.out.bel.trans (hba.mono HSd.out.bel.size)) hwf hln hrm hrd Y hCE
    generalize hwn : World.setRow _ _ _ = wa
    have hk : CapW w wa w9.heap.size M2 A6 n6 cc6 ∧ Below w9.heap.size w9 wa := by
      rw [← hwn]
      exact hfr _
    have hbn := hba.trans (hk.2.mono hba.size)
    obtain ⟨g9, hg9⟩ : ∃ x, w9.heap.size = x := ⟨_, rfl⟩
    rw [hg9] at hk ⊢
    replace HSd := Lib.hid (HSd.out.below hbn)
    replace HS5 := Lib.hid (HS5.out.below hbn)
    replace HS7 := Lib.hid (HS7.out.below hbn)
    replace HBK := Lib.hid (HBK.out.trans (hbn.mono HBK.out.size))
    have HS9 := Lib.hid hk.1
    clear hfr hwn hk hbn hba hg9 hwf hln hrm hrd hla hCE HPVO
    go_upto_region 8 with (first
      | (refine wpList_load_capC ?_ (.tmp 2) rfl g rfl HSd.out.cap HCD.out ?_; · rfl)
      | ((with_reducible refine (HRVO.out _ HBK.out).mono ?_); rintro e wb ⟨⟨v, rfl, hv⟩, hba⟩; obtain ⟨hwf, A7, n7, cc7, rfl, hln, hrm, hrd, hla⟩ := hv; obtain ⟨CF, hCF⟩ : ∃ x, capA M2 (.slice A7 n7 cc7) = x := ⟨_, rfl⟩; rw [hCF]; have HCF := Lib.hid hCF; have HZCF := Lib.hid (show CF.size = 53 ∧ CF.all (·.oneCell') = true by rw [← hCF]; exact ⟨capA_size hwf _, capA_one⟩))
      | (with_reducible refine wpList_store_blkTo rfl 28 (.tmp 11) (.tmp 40) rfl rfl wb.heap.size CF rfl rfl 28 _ (Blk.new wb _ _) (by rw [HZCF.out.1]; kernel_rfl) (by rw [HZCF.out.1]; kernel_rfl) HZCF.out.2 ?_))
    have hfr := fun Y => CapW.fresh (HSd.out.bel.trans (hba.mono HSd.out.bel.size)) hwf hln hrm hrd Y hCF
    generalize hwn : World.setRow _ _ _ = wc
    have hk : CapW w wc wb.heap.size M2 A7 n7 cc7 ∧ Below wb.heap.size wb wc := by
      rw [← hwn]
      exact hfr _
    have hbn := hba.trans (hk.2.mono hba.size)
    obtain ⟨g11, hg11⟩ : ∃ x, wb.heap.size = x := ⟨_, rfl⟩
    rw [hg11] at hk ⊢
    replace HSd := Lib.hid (HSd.out.below hbn)
    replace HS5 := Lib.hid (HS5.out.below hbn)
    replace HS7 := Lib.hid (HS7.out.below hbn)
    replace HS9 := Lib.hid (HS9.out.below hbn)
    replace HBK := Lib.hid (HBK.out.trans (hbn.mono HBK.out.size))
    have HS11 := Lib.hid hk.1
    clear hfr hwn hk hbn hba hg11 hwf hln hrm hrd hla hCF HRVO
    go_upto_region 9 with (first
      | (refine wpList_load_capC ?_ (.tmp 2) rfl g rfl HSd.out.cap HCD.out ?_; · rfl)
      | ((with_reducible refine (HPIX.out _ HBK.out).mono ?_); rintro e wd ⟨rfl, hba⟩)
      | (with_reducible refine wpList_store_blkTo rfl 23 (.tmp 13) (.tmp 45) rfl rfl wd.heap.size KV rfl rfl 23 _ (Blk.new wd _ _) (by rw [HKS.out.1]; kernel_rfl) (by rw [HKS.out.1]; kernel_rfl) HKS.out.2 ?_))
    have hkf := fun Y => key_fresh (w := wd) Y KV
    generalize hwn : World.setRow _ _ _ = we
    have hk : Blk we wd.heap.size KV 23 ∧ Below wd.heap.size wd we := by
      rw [← hwn]
      exact hkf _
    have hbn := hba.trans (hk.2.mono hba.size)
    obtain ⟨i13, hi13⟩ : ∃ x, wd.heap.size = x := ⟨_, rfl⟩
    rw [hi13] at hk ⊢
    replace HSd := Lib.hid (HSd.out.below hbn)
    replace HS5 := Lib.hid (HS5.out.below hbn)
    replace HS7 := Lib.hid (HS7.out.below hbn)
    replace HS9 := Lib.hid (HS9.out.below hbn)
    replace HS11 := Lib.hid (HS11.out.below hbn)
    replace HBK := Lib.hid (HBK.out.trans (hbn.mono HBK.out.size))
    have HI13 := Lib.hid hk.1
    clear hkf hwn hk hbn hba hi13 HPIX
    go_upto_region 10 with (first
      | (refine wpList_load_capC ?_ (.tmp 2) rfl g rfl HSd.out.cap HCD.out ?_; · rfl)
      | ((with_reducible refine (HRIX.out _ HBK.out).mono ?_); rintro e wf ⟨rfl, hba⟩)
      | (with_reducible refine wpList_store_blkTo rfl 23 (.tmp 15) (.tmp 50) rfl rfl wf.heap.size KV rfl rfl 23 _ (Blk.new wf _ _) (by rw [HKS.out.1]; kernel_rfl) (by rw [HKS.out.1]; kernel_rfl) HKS.out.2 ?_))
    have hkf := fun Y => key_fresh (w := wf) Y KV
    generalize hwn : World.setRow _ _ _ = wg
    have hk : Blk wg wf.heap.size KV 23 ∧ Below wf.heap.size wf wg := by
      rw [← hwn]
      exact hkf _
    have hbn := hba.trans (hk.2.mono hba.size)
    obtain ⟨i15, hi15⟩ : ∃ x, wf.heap.size = x := ⟨_, rfl⟩
    rw [hi15] at hk ⊢
    replace HSd := Lib.hid (HSd.out.below hbn)
    replace HS5 := Lib.hid (HS5.out.below hbn)
    replace HS7 := Lib.hid (HS7.out.below hbn)
    replace HS9 := Lib.hid (HS9.out.below hbn)
    replace HS11 := Lib.hid (HS11.out.below hbn)
    replace HI13 := Lib.hid (HI13.out.below hbn HI13.out.lt)
    replace HBK := Lib.hid (HBK.out.trans (hbn.mono HBK.out.size))
    have HI15 := Lib.hid hk.1
    clear hkf hwn hk hbn hba hi15 HRIX
    have HBT := Lib.hid (Below.refl wg.heap.size wg)
    have HP5 := HS5
    have HP7 := HS7
    have HP9 := HS9
    have HP11 := HS11
    have HSM1 := Lib.hid (fun (W : World) (hW : Below wg.heap.size wg W) => (show Calls Tryd.prog 22 #[.agg CA, .agg CB] W fun e w' => e = .returned (.bool true) ∧ Below W.heap.size W w' from by
      have h := ksame_any (w := W) HP5.out.cap.wf HP7.out.cap.wf (c := cc4) (d := cc5) HP5.out.len HP7.out.len (by rw [← HP5.out.len]; exact HL1.out) (HP5.out.lit.on hW) (HP7.out.lit.on hW)
      rwa [HCA.out, HCB.out, decide_eq_true rfl] at h))
    have HSM2 := Lib.hid (fun (W : World) (hW : Below wg.heap.size wg W) => (show Calls Tryd.prog 22 #[.agg CE, .agg CF] W fun e w' => e = .returned (.bool true) ∧ Below W.heap.size W w' from by
      have h := ksame_any (w := W) HP9.out.cap.wf HP11.out.cap.wf (c := cc6) (d := cc7) HP9.out.len HP11.out.len (by rw [← HP9.out.len]; exact HL2.out) (HP9.out.lit.on hW) (HP11.out.lit.on hW)
      rwa [HCE.out, HCF.out, decide_eq_true rfl] at h))
    have hke := HKE.out
    have e1 : (E1 == E1) = true := beq_self_eq_true _
    have e2 : (E2 == E2) = true := beq_self_eq_true _
    go_wp2_with (first
      | (refine wpList_load_whenC ?_ 23 (.tmp 13) rfl i13 rfl 23 _ _ HI13.out Tryd.underlying23 rfl (by rw [HKS.out.1]; kernel_rfl) ?_; · rfl)
      | (refine wpList_load_whenC ?_ 23 (.tmp 15) rfl i15 rfl 23 _ _ HI15.out Tryd.underlying23 rfl (by rw [HKS.out.1]; kernel_rfl) ?_; · rfl)
      | (refine wpList_load_capC ?_ (.tmp 5) rfl g5 rfl HS5.out.cap HCA.out ?_; · rfl)
      | (refine wpList_load_capC ?_ (.tmp 7) rfl g7 rfl HS7.out.cap HCB.out ?_; · rfl)
      | (refine wpList_load_capC ?_ (.tmp 9) rfl g9 rfl HS9.out.cap HCE.out ?_; · rfl)
      | (refine wpList_load_capC ?_ (.tmp 11) rfl g11 rfl HS11.out.cap HCF.out ?_; · rfl)
      | ((with_reducible refine (HSM1.out _ HBT.out).mono ?_); rintro e wU ⟨rfl, hbu⟩; replace HSd := Lib.hid (HSd.out.below hbu); replace HS5 := Lib.hid (HS5.out.below hbu); replace HS7 := Lib.hid (HS7.out.below hbu); replace HS9 := Lib.hid (HS9.out.below hbu); replace HS11 := Lib.hid (HS11.out.below hbu); replace HI13 := Lib.hid (HI13.out.below hbu HI13.out.lt); replace HI15 := Lib.hid (HI15.out.below hbu HI15.out.lt); replace HBK := Lib.hid (HBK.out.trans (hbu.mono HBK.out.size)); replace HBT := Lib.hid (HBT.out.trans (hbu.mono HBT.out.size)); clear hbu)
      | ((with_reducible refine (HSM2.out _ HBT.out).mono ?_); rintro e wV ⟨rfl, hbu⟩; replace HSd := Lib.hid (HSd.out.below hbu); replace HS5 := Lib.hid (HS5.out.below hbu); replace HS7 := Lib.hid (HS7.out.below hbu); replace HS9 := Lib.hid (HS9.out.below hbu); replace HS11 := Lib.hid (HS11.out.below hbu); replace HI13 := Lib.hid (HI13.out.below hbu HI13.out.lt); replace HI15 := Lib.hid (HI15.out.below hbu HI15.out.lt); replace HBK := Lib.hid (HBK.out.trans (hbu.mono HBK.out.size)); replace HBT := Lib.hid (HBT.out.trans (hbu.mono HBT.out.size)); clear hbu)
      | ((with_reducible refine (HWK.out _ HBK.out).mono ?_); rintro e wY ⟨rfl, hbY⟩))
    have hfin := H3.out.bel.trans ((HBK.out.trans (hbY.mono HBK.out.size)).mono H3.out.bel.size)
    clear hbY hke e1 e2
    go_wp2_with fail
    go_ret
    exact ⟨rfl, by first | exact hfin | (rw [← HG.out]; exact hfin)⟩
  · obtain ⟨c1, hc1⟩ : ∃ x, cut13 c0 = x := ⟨_, rfl⟩
    obtain ⟨n1, hn1⟩ : ∃ x, min m0 80 = x := ⟨_, rfl⟩
    rw [hc1, hn1] at H2 HC1
    rw [hc1] at HBD
    clear hc1 hn1 HM0
    have HMK := Lib.hid (show Calls Tryd.prog 18 #[.agg C1] w3 fun e w' => (∃ v, e = .returned v ∧ CapV w' w3.heap.size v (mk13 c1)) ∧ Below w3.heap.size w3 w' from by
      rw [← HC1.out]
      exact mk13_any HBD.out.1 HBD.out.2 H2.out.len H2.out.room H2.out.lit)
    have HOK := Lib.hid (mk13_ok c1)
    generalize mk13 c1 = d at *
    go_upto_region 4 with (first
      | (refine wpList_load_capC ?_ (.tmp 2) rfl g rfl H2.out.cap HC1.out ?_; · rfl)
      | ((with_reducible refine HMK.out.mono ?_); rintro e w4 ⟨⟨v, rfl, hv⟩, hb4⟩; obtain ⟨hwf, A', n', cc', rfl, hln, hrm, hrd, hla⟩ := hv; obtain ⟨CD, hCD⟩ : ∃ x, capA d (.slice A' n' cc') = x := ⟨_, rfl⟩; rw [hCD]; have HCD := Lib.hid hCD; have HX4 := Lib.hid (show Blk w4 g C1 28 from HC1.out ▸ (H2.out.below hb4).cap.blk); have H3 := Lib.hid (H2.out.made hb4 hwf hln hrm hrd hla hCD); have HS4 := Lib.hid (show CD.size = 53 ∧ CD.all (·.oneCell') = true by rw [← hCD]; exact ⟨capA_size hwf _, capA_one⟩); have HSM := Lib.hid (ok_small HOK.out hln); clear hCD hwf hln hrm hrd hla hb4)
      | (with_reducible refine wpList_store_blkTo rfl 28 (.tmp 2) (.tmp 21) rfl rfl g CD rfl rfl 28 C1 HX4.out (by rw [HS4.out.1]; kernel_rfl) (by rw [HS4.out.1, HS1.out.1]) HS4.out.2 ?_))
    generalize w4.setRow g CD = w3 at *
    obtain ⟨M1, hM1⟩ : ∃ x, (if d.reads then ro13 d else cap0) = x := ⟨_, rfl⟩
    obtain ⟨E1, hE1⟩ : ∃ x, (if d.reads then (0 : Int) else 11) = x := ⟨_, rfl⟩
    obtain ⟨M2, hM2⟩ : ∃ x, (if idxOK d then vo13 d else cap0) = x := ⟨_, rfl⟩
    obtain ⟨E2, hE2⟩ : ∃ x, (if idxOK d then (0 : Int) else 11) = x := ⟨_, rfl⟩
    obtain ⟨KV, hKV⟩ : ∃ x, u8A (if idxOK d then idx13 d else key0) = x := ⟨_, rfl⟩
    have HT3 := Lib.hid (fun (W : World) (hW : Below w3.heap.size w3 W) => tab_on HT.out (H3.out.bel.trans (hW.mono H3.out.bel.size)) (Nat.le_trans H3.out.bel.size hW.size))
    have HL1 := Lib.hid (show M1.lit.length ≤ maxLen by
      rw [← hM1]
      split
      · rename_i h
        have := ok_small h.1 (n := d.lit.length) rfl
        show d.lit.length ≤ maxLen
        unfold maxLen
        omega
      · exact Nat.zero_le _)
    have HL2 := Lib.hid (show M2.lit.length ≤ maxLen by
      rw [← hM2]
      split
      · rename_i h
        have := ok_small h.1 (n := d.lit.length) rfl
        show d.lit.length ≤ maxLen
        unfold maxLen
        omega
      · exact Nat.zero_le _)
    have HKS := Lib.hid (show KV.size = 16 ∧ KV.all (·.oneCell') = true by
      rw [← hKV]
      refine ⟨?_, u8A_one _⟩
      rw [u8A_size]
      split
      · exact idx13_len H3.out.cap.wf
      · rfl)
    have HKE := Lib.hid (fun W => (show (Op.equalIn 10000 23 (.agg KV) (.agg KV)).run Tryd.prog W = .ok true W by
      have hl : (if idxOK d then idx13 d else key0).length = 16 := by
        split
        · exact idx13_len H3.out.cap.wf
        · rfl
      have h := run_key_eq W _ _ hl hl
      rwa [hKV, decide_eq_true rfl] at h))
    have HPRO := Lib.hid (fun (W : World) (hW : Below w3.heap.size w3 W) => (show Calls Tryd.prog 10 #[.agg CD] W fun e w' => CapSaid W w' e M1 E1 from by
      have h := preadonly_any (w := W) (cc := cc') H3.out.cap.wf H3.out.len (H3.out.lit.on hW) (HT3.out W hW)
      rwa [HCD.out, hM1, hE1] at h))
    have HRRO := Lib.hid (fun (W : World) (hW : Below w3.heap.size w3 W) => (show Calls Tryd.prog 19 #[.agg CD] W fun e w' => CapSaid W w' e M1 E1 from by
      have h := rreadonly_any (w := W) (cc := cc') H3.out.cap.wf H3.out.len (H3.out.lit.on hW)
      rwa [HCD.out, hM1, hE1] at h))
    have HPVO := Lib.hid (fun (W : World) (hW : Below w3.heap.size w3 W) => (show Calls Tryd.prog 11 #[.agg CD] W fun e w' => CapSaid W w' e M2 E2 from by
      have h := pverify_any (w := W) (cc := cc') H3.out.cap.wf H3.out.len (H3.out.lit.on hW) (HT3.out W hW)
      rwa [HCD.out, hM2, hE2] at h))
    have HRVO := Lib.hid (fun (W : World) (hW : Below w3.heap.size w3 W) => (show Calls Tryd.prog 20 #[.agg CD] W fun e w' => CapSaid W w' e M2 E2 from by
      have h := rverify_any (w := W) (cc := cc') H3.out.cap.wf H3.out.len (H3.out.lit.on hW)
      rwa [HCD.out, hM2, hE2] at h))
    have HPIX := Lib.hid (fun (W : World) (hW : Below w3.heap.size w3 W) => (show Calls Tryd.prog 13 #[.agg CD] W fun e w' => e = .returned (.tuple #[.agg KV, .int .i64 E2]) ∧ Below W.heap.size W w' from by
      have h := pindex_any (w := W) (cc := cc') H3.out.cap.wf H3.out.len (H3.out.lit.on hW) (HT3.out W hW)
      rwa [HCD.out, hKV, hE2] at h))
    have HRIX := Lib.hid (fun (W : World) (hW : Below w3.heap.size w3 W) => (show Calls Tryd.prog 21 #[.agg CD] W fun e w' => e = .returned (.tuple #[.agg KV, .int .i64 E2]) ∧ Below W.heap.size W w' from by
      have h := rindex_any (w := W) (cc := cc') H3.out.cap.wf H3.out.len (H3.out.lit.on hW)
      rwa [HCD.out, hKV, hE2] at h))
    have HWK := Lib.hid (fun (W : World) (hW : Below w3.heap.size w3 W) => wakes13_any W (HT3.out W hW))
    clear hM1 hE1 hM2 hE2 hKV
    have HSd := H3
    have HBK := Lib.hid (Below.refl w3.heap.size w3)
    go_upto_region 5 with (first
      | (refine wpList_load_capC ?_ (.tmp 2) rfl g rfl HSd.out.cap HCD.out ?_; · rfl)
      | ((with_reducible refine (HPRO.out _ HBK.out).mono ?_); rintro e w5 ⟨⟨v, rfl, hv⟩, hba⟩; obtain ⟨hwf, A4, n4, cc4, rfl, hln, hrm, hrd, hla⟩ := hv; obtain ⟨CA, hCA⟩ : ∃ x, capA M1 (.slice A4 n4 cc4) = x := ⟨_, rfl⟩; rw [hCA]; have HCA := Lib.hid hCA; have HZCA := Lib.hid (show CA.size = 53 ∧ CA.all (·.oneCell') = true by rw [← hCA]; exact ⟨capA_size hwf _, capA_one⟩))
      | (with_reducible refine wpList_store_blkTo rfl 28 (.tmp 5) (.tmp 25) rfl rfl w5.heap.size CA rfl rfl 28 _ (Blk.new w5 _ _) (by rw [HZCA.out.1]; kernel_rfl) (by rw [HZCA.out.1]; kernel_rfl) HZCA.out.2 ?_))
    have hfr := fun Y => CapW.fresh (HSd.out.bel.trans (hba.mono HSd.out.bel.size)) hwf hln hrm hrd Y hCA
    generalize hwn : World.setRow _ _ _ = w6
    have hk : CapW w w6 w5.heap.size M1 A4 n4 cc4 ∧ Below w5.heap.size w5 w6 := by
      rw [← hwn]
      exact hfr _
    have hbn := hba.trans (hk.2.mono hba.size)
    obtain ⟨g5, hg5⟩ : ∃ x, w5.heap.size = x := ⟨_, rfl⟩
    rw [hg5] at hk ⊢
    replace HSd := Lib.hid (HSd.out.below hbn)
    replace HBK := Lib.hid (HBK.out.trans (hbn.mono HBK.out.size))
    have HS5 := Lib.hid hk.1
    clear hfr hwn hk hbn hba hg5 hwf hln hrm hrd hla hCA HPRO
    go_upto_region 6 with (first
      | (refine wpList_load_capC ?_ (.tmp 2) rfl g rfl HSd.out.cap HCD.out ?_; · rfl)
      | ((with_reducible refine (HRRO.out _ HBK.out).mono ?_); rintro e w7 ⟨⟨v, rfl, hv⟩, hba⟩; obtain ⟨hwf, A5, n5, cc5, rfl, hln, hrm, hrd, hla⟩ := hv; obtain ⟨CB, hCB⟩ : ∃ x, capA M1 (.slice A5 n5 cc5) = x := ⟨_, rfl⟩; rw [hCB]; have HCB := Lib.hid hCB; have HZCB := Lib.hid (show CB.size = 53 ∧ CB.all (·.oneCell') = true by rw [← hCB]; exact ⟨capA_size hwf _, capA_one⟩))
      | (with_reducible refine wpList_store_blkTo rfl 28 (.tmp 7) (.tmp 30) rfl rfl w7.heap.size CB rfl rfl 28 _ (Blk.new w7 _ _) (by rw [HZCB.out.1]; kernel_rfl) (by rw [HZCB.out.1]; kernel_rfl) HZCB.out.2 ?_))
    have hfr := fun Y => CapW.fresh (HSd.out.bel.trans (hba.mono HSd.out.bel.size)) hwf hln hrm hrd Y hCB
    generalize hwn : World.setRow _ _ _ = w8
    have hk : CapW w w8 w7.heap.size M1 A5 n5 cc5 ∧ Below w7.heap.size w7 w8 := by
      rw [← hwn]
      exact hfr _
    have hbn := hba.trans (hk.2.mono hba.size)
    obtain ⟨g7, hg7⟩ : ∃ x, w7.heap.size = x := ⟨_, rfl⟩
    rw [hg7] at hk ⊢
    replace HSd := Lib.hid (HSd.out.below hbn)
    replace HS5 := Lib.hid (HS5.out.below hbn)
    replace HBK := Lib.hid (HBK.out.trans (hbn.mono HBK.out.size))
    have HS7 := Lib.hid hk.1
    clear hfr hwn hk hbn hba hg7 hwf hln hrm hrd hla hCB HRRO
    go_upto_region 7 with (first
      | (refine wpList_load_capC ?_ (.tmp 2) rfl g rfl HSd.out.cap HCD.out ?_; · rfl)
      | ((with_reducible refine (HPVO.out _ HBK.out).mono ?_); rintro e w9 ⟨⟨v, rfl, hv⟩, hba⟩; obtain ⟨hwf, A6, n6, cc6, rfl, hln, hrm, hrd, hla⟩ := hv; obtain ⟨CE, hCE⟩ : ∃ x, capA M2 (.slice A6 n6 cc6) = x := ⟨_, rfl⟩; rw [hCE]; have HCE := Lib.hid hCE; have HZCE := Lib.hid (show CE.size = 53 ∧ CE.all (·.oneCell') = true by rw [← hCE]; exact ⟨capA_size hwf _, capA_one⟩))
      | (with_reducible refine wpList_store_blkTo rfl 28 (.tmp 9) (.tmp 35) rfl rfl w9.heap.size CE rfl rfl 28 _ (Blk.new w9 _ _) (by rw [HZCE.out.1]; kernel_rfl) (by rw [HZCE.out.1]; kernel_rfl) HZCE.out.2 ?_))
    have hfr := fun Y => CapW.fresh (HSd.out.bel.trans (hba.mono HSd.out.bel.size)) hwf hln hrm hrd Y hCE
    generalize hwn : World.setRow _ _ _ = wa
    have hk : CapW w wa w9.heap.size M2 A6 n6 cc6 ∧ Below w9.heap.size w9 wa := by
      rw [← hwn]
      exact hfr _
    have hbn := hba.trans (hk.2.mono hba.size)
    obtain ⟨g9, hg9⟩ : ∃ x, w9.heap.size = x := ⟨_, rfl⟩
    rw [hg9] at hk ⊢
    replace HSd := Lib.hid (HSd.out.below hbn)
    replace HS5 := Lib.hid (HS5.out.below hbn)
    replace HS7 := Lib.hid (HS7.out.below hbn)
    replace HBK := Lib.hid (HBK.out.trans (hbn.mono HBK.out.size))
    have HS9 := Lib.hid hk.1
    clear hfr hwn hk hbn hba hg9 hwf hln hrm hrd hla hCE HPVO
    go_upto_region 8 with (first
      | (refine wpList_load_capC ?_ (.tmp 2) rfl g rfl HSd.out.cap HCD.out ?_; · rfl)
      | ((with_reducible refine (HRVO.out _ HBK.out).mono ?_); rintro e wb ⟨⟨v, rfl, hv⟩, hba⟩; obtain ⟨hwf, A7, n7, cc7, rfl, hln, hrm, hrd, hla⟩ := hv; obtain ⟨CF, hCF⟩ : ∃ x, capA M2 (.slice A7 n7 cc7) = x := ⟨_, rfl⟩; rw [hCF]; have HCF := Lib.hid hCF; have HZCF := Lib.hid (show CF.size = 53 ∧ CF.all (·.oneCell') = true by rw [← hCF]; exact ⟨capA_size hwf _, capA_one⟩))
      | (with_reducible refine wpList_store_blkTo rfl 28 (.tmp 11) (.tmp 40) rfl rfl wb.heap.size CF rfl rfl 28 _ (Blk.new wb _ _) (by rw [HZCF.out.1]; kernel_rfl) (by rw [HZCF.out.1]; kernel_rfl) HZCF.out.2 ?_))
    have hfr := fun Y => CapW.fresh (HSd.out.bel.trans (hba.mono HSd.out.bel.size)) hwf hln hrm hrd Y hCF
    generalize hwn : World.setRow _ _ _ = wc
    have hk : CapW w wc wb.heap.size M2 A7 n7 cc7 ∧ Below wb.heap.size wb wc := by
      rw [← hwn]
      exact hfr _
    have hbn := hba.trans (hk.2.mono hba.size)
    obtain ⟨g11, hg11⟩ : ∃ x, wb.heap.size = x := ⟨_, rfl⟩
    rw [hg11] at hk ⊢
    replace HSd := Lib.hid (HSd.out.below hbn)
    replace HS5 := Lib.hid (HS5.out.below hbn)
    replace HS7 := Lib.hid (HS7.out.below hbn)
    replace HS9 := Lib.hid (HS9.out.below hbn)
    replace HBK := Lib.hid (HBK.out.trans (hbn.mono HBK.out.size))
    have HS11 := Lib.hid hk.1
    clear hfr hwn hk hbn hba hg11 hwf hln hrm hrd hla hCF HRVO
    go_upto_region 9 with (first
      | (refine wpList_load_capC ?_ (.tmp 2) rfl g rfl HSd.out.cap HCD.out ?_; · rfl)
      | ((with_reducible refine (HPIX.out _ HBK.out).mono ?_); rintro e wd ⟨rfl, hba⟩)
      | (with_reducible refine wpList_store_blkTo rfl 23 (.tmp 13) (.tmp 45) rfl rfl wd.heap.size KV rfl rfl 23 _ (Blk.new wd _ _) (by rw [HKS.out.1]; kernel_rfl) (by rw [HKS.out.1]; kernel_rfl) HKS.out.2 ?_))
    have hkf := fun Y => key_fresh (w := wd) Y KV
    generalize hwn : World.setRow _ _ _ = we
    have hk : Blk we wd.heap.size KV 23 ∧ Below wd.heap.size wd we := by
      rw [← hwn]
      exact hkf _
    have hbn := hba.trans (hk.2.mono hba.size)
    obtain ⟨i13, hi13⟩ : ∃ x, wd.heap.size = x := ⟨_, rfl⟩
    rw [hi13] at hk ⊢
    replace HSd := Lib.hid (HSd.out.below hbn)
    replace HS5 := Lib.hid (HS5.out.below hbn)
    replace HS7 := Lib.hid (HS7.out.below hbn)
    replace HS9 := Lib.hid (HS9.out.below hbn)
    replace HS11 := Lib.hid (HS11.out.below hbn)
    replace HBK := Lib.hid (HBK.out.trans (hbn.mono HBK.out.size))
    have HI13 := Lib.hid hk.1
    clear hkf hwn hk hbn hba hi13 HPIX
    go_upto_region 10 with (first
      | (refine wpList_load_capC ?_ (.tmp 2) rfl g rfl HSd.out.cap HCD.out ?_; · rfl)
      | ((with_reducible refine (HRIX.out _ HBK.out).mono ?_); rintro e wf ⟨rfl, hba⟩)
      | (with_reducible refine wpList_store_blkTo rfl 23 (.tmp 15) (.tmp 50) rfl rfl wf.heap.size KV rfl rfl 23 _ (Blk.new wf _ _) (by rw [HKS.out.1]; kernel_rfl) (by rw [HKS.out.1]; kernel_rfl) HKS.out.2 ?_))
    have hkf := fun Y => key_fresh (w := wf) Y KV
    generalize hwn : World.setRow _ _ _ = wg
    have hk : Blk wg wf.heap.size KV 23 ∧ Below wf.heap.size wf wg := by
      rw [← hwn]
      exact hkf _
    have hbn := hba.trans (hk.2.mono hba.size)
    obtain ⟨i15, hi15⟩ : ∃ x, wf.heap.size = x := ⟨_, rfl⟩
    rw [hi15] at hk ⊢
    replace HSd := Lib.hid (HSd.out.below hbn)
    replace HS5 := Lib.hid (HS5.out.below hbn)
    replace HS7 := Lib.hid (HS7.out.below hbn)
    replace HS9 := Lib.hid (HS9.out.below hbn)
    replace HS11 := Lib.hid (HS11.out.below hbn)
    replace HI13 := Lib.hid (HI13.out.below hbn HI13.out.lt)
    replace HBK := Lib.hid (HBK.out.trans (hbn.mono HBK.out.size))
    have HI15 := Lib.hid hk.1
    clear hkf hwn hk hbn hba hi15 HRIX
    have HBT := Lib.hid (Below.refl wg.heap.size wg)
    have HP5 := HS5
    have HP7 := HS7
    have HP9 := HS9
    have HP11 := HS11
    have HSM1 := Lib.hid (fun (W : World) (hW : Below wg.heap.size wg W) => (show Calls Tryd.prog 22 #[.agg CA, .agg CB] W fun e w' => e = .returned (.bool true) ∧ Below W.heap.size W w' from by
      have h := ksame_any (w := W) HP5.out.cap.wf HP7.out.cap.wf (c := cc4) (d := cc5) HP5.out.len HP7.out.len (by rw [← HP5.out.len]; exact HL1.out) (HP5.out.lit.on hW) (HP7.out.lit.on hW)
      rwa [HCA.out, HCB.out, decide_eq_true rfl] at h))
    have HSM2 := Lib.hid (fun (W : World) (hW : Below wg.heap.size wg W) => (show Calls Tryd.prog 22 #[.agg CE, .agg CF] W fun e w' => e = .returned (.bool true) ∧ Below W.heap.size W w' from by
      have h := ksame_any (w := W) HP9.out.cap.wf HP11.out.cap.wf (c := cc6) (d := cc7) HP9.out.len HP11.out.len (by rw [← HP9.out.len]; exact HL2.out) (HP9.out.lit.on hW) (HP11.out.lit.on hW)
      rwa [HCE.out, HCF.out, decide_eq_true rfl] at h))
    have hke := HKE.out
    have e1 : (E1 == E1) = true := beq_self_eq_true _
    have e2 : (E2 == E2) = true := beq_self_eq_true _
    go_wp2_with (first
      | (refine wpList_load_whenC ?_ 23 (.tmp 13) rfl i13 rfl 23 _ _ HI13.out Tryd.underlying23 rfl (by rw [HKS.out.1]; kernel_rfl) ?_; · rfl)
      | (refine wpList_load_whenC ?_ 23 (.tmp 15) rfl i15 rfl 23 _ _ HI15.out Tryd.underlying23 rfl (by rw [HKS.out.1]; kernel_rfl) ?_; · rfl)
      | (refine wpList_load_capC ?_ (.tmp 5) rfl g5 rfl HS5.out.cap HCA.out ?_; · rfl)
      | (refine wpList_load_capC ?_ (.tmp 7) rfl g7 rfl HS7.out.cap HCB.out ?_; · rfl)
      | (refine wpList_load_capC ?_ (.tmp 9) rfl g9 rfl HS9.out.cap HCE.out ?_; · rfl)
      | (refine wpList_load_capC ?_ (.tmp 11) rfl g11 rfl HS11.out.cap HCF.out ?_; · rfl)
      | ((with_reducible refine (HSM1.out _ HBT.out).mono ?_); rintro e wU ⟨rfl, hbu⟩; replace HSd := Lib.hid (HSd.out.below hbu); replace HS5 := Lib.hid (HS5.out.below hbu); replace HS7 := Lib.hid (HS7.out.below hbu); replace HS9 := Lib.hid (HS9.out.below hbu); replace HS11 := Lib.hid (HS11.out.below hbu); replace HI13 := Lib.hid (HI13.out.below hbu HI13.out.lt); replace HI15 := Lib.hid (HI15.out.below hbu HI15.out.lt); replace HBK := Lib.hid (HBK.out.trans (hbu.mono HBK.out.size)); replace HBT := Lib.hid (HBT.out.trans (hbu.mono HBT.out.size)); clear hbu)
      | ((with_reducible refine (HSM2.out _ HBT.out).mono ?_); rintro e wV ⟨rfl, hbu⟩; replace HSd := Lib.hid (HSd.out.below hbu); replace HS5 := Lib.hid (HS5.out.below hbu); replace HS7 := Lib.hid (HS7.out.below hbu); replace HS9 := Lib.hid (HS9.out.below hbu); replace HS11 := Lib.hid (HS11.out.below hbu); replace HI13 := Lib.hid (HI13.out.below hbu HI13.out.lt); replace HI15 := Lib.hid (HI15.out.below hbu HI15.out.lt); replace HBK := Lib.hid (HBK.out.trans (hbu.mono HBK.out.size)); replace HBT := Lib.hid (HBT.out.trans (hbu.mono HBT.out.size)); clear hbu)
      | ((with_reducible refine (HWK.out _ HBK.out).mono ?_); rintro e wY ⟨rfl, hbY⟩))
    have hfin := H3.out.bel.trans ((HBK.out.trans (hbY.mono HBK.out.size)).mono H3.out.bel.size)
    clear hbY hke e1 e2
    go_wp2_with fail
    go_ret
    exact ⟨rfl, by first | exact hfin | (rw [← HG.out]; exact hfin)⟩

set_option maxRecDepth 100000 in
theorem contract (H : Type) (enc : TypeId × Value → H) (W : World) (base : Nat) (args : Array Value) (ds gs : List (DataW H)) (before : List MemPlace)
    (hval : ∀ (j : Nat) t v, Tryd.f4.params[j]? = some t → args[j]? = some v → Value.okWide Tryd.prog W .any base t v)
    (hW : DataW.Whole enc Tryd.prog Tryd.f4.params.toList Rows.capsLessSpec.vars false W args.toList ds gs before) (hL : laidMetH Tryd.prog Rows.capsLessRow.laid W) :
    Calls Tryd.prog 4 args W fun e W' => ∃ v, e = .returned v ∧ Rows.capsLessSpec.post enc Tryd.prog Tryd.f4 false true false false W args v W' := by
  have hW' := hW
  obtain ⟨p, q, hA0, hV, rfl, hfz, hnd⟩ := hW
  have hA : DataW.TrodAll enc Tryd.prog W 0 (fun _ => true) true Tryd.f4.params.toList args.toList ds p := hA0
  rw [Tryd.params4] at hA hval
  obtain ⟨v0, v1, d0, d1, p0, p1, rfl, rfl, rfl, h0, h1⟩ := trodAll_two hA
  obtain ⟨rfl, rfl⟩ := trodVars_none hV
  obtain ⟨c0, A0, m0, k0, rfl, hw0, hb0, hl0, hc0, hm0, hr0⟩ := open_cap (hval 0 28 v0 rfl rfl) h0
  obtain ⟨t1, rfl, rfl, rfl⟩ := open_bool Tryd.underlying4 (hval 1 4 v1 rfl rfl) h1
  clear hA0
  refine (walk c0 A0 m0 k0 t1 W hw0 hb0 hl0 hc0 hr0 (pow10 hL)).mono fun e W' ⟨he, hb⟩ => ?_
  exact ⟨_, he, law_post hW' rfl (by kernel_rfl) rfl (by kernel_rfl) hb⟩

theorem laid_met (os : Os) : laidMet Tryd.prog Rows.capsLessRow.laid ((laidWorld os).forCall (fun _ _ => 0) ⟨#[], #[.agg (capA cap0 (.slice none 0 0)), .bool false], []⟩).memory :=
  laidMet_of_run' 8 (by kernel_rfl) (by kernel_rfl)
theorem reads (os : Os) {H : Type} (enc : TypeId × Value → H) : ∃ places, DataW.whole enc Tryd.prog ((laidWorld os).forCall (fun _ _ => 0) ⟨#[], #[.agg (capA cap0 (.slice none 0 0)), .bool false], []⟩).memory Tryd.f4.params.toList Rows.capsLessSpec.vars false #[Value.agg (capA cap0 (.slice none 0 0)), Value.bool false].toList 8 = some ([.agg [.lit (.int .i64 0), .agg [.lit (.int .u8 0), .lit (.int .u8 0), .lit (.int .u8 0), .lit (.int .u8 0), .lit (.int .u8 0), .lit (.int .u8 0), .lit (.int .u8 0), .lit (.int .u8 0), .lit (.int .u8 0), .lit (.int .u8 0), .lit (.int .u8 0), .lit (.int .u8 0), .lit (.int .u8 0), .lit (.int .u8 0), .lit (.int .u8 0), .lit (.int .u8 0)], .agg [.lit (.int .u8 0), .lit (.int .u8 0), .lit (.int .u8 0), .lit (.int .u8 0), .lit (.int .u8 0), .lit (.int .u8 0), .lit (.int .u8 0), .lit (.int .u8 0), .lit (.int .u8 0), .lit (.int .u8 0), .lit (.int .u8 0), .lit (.int .u8 0), .lit (.int .u8 0), .lit (.int .u8 0), .lit (.int .u8 0), .lit (.int .u8 0), .lit (.int .u8 0), .lit (.int .u8 0), .lit (.int .u8 0), .lit (.int .u8 0), .lit (.int .u8 0), .lit (.int .u8 0), .lit (.int .u8 0), .lit (.int .u8 0), .lit (.int .u8 0), .lit (.int .u8 0), .lit (.int .u8 0), .lit (.int .u8 0), .lit (.int .u8 0), .lit (.int .u8 0), .lit (.int .u8 0), .lit (.int .u8 0)], .lit (.int .i64 0), .lit (.int .i64 0), .lit (.int .i64 0), .nil], .lit (.bool false)], [], places) :=
  ⟨[], by kernel_rfl⟩

set_option maxRecDepth 100000 in
theorem lifted (os : Os) (started : os.Started) (H : Type) (enc : TypeId × Value → H) (F : Stop.Interp) :
    ReturnsInHanded {} Tryd.checked os 4 .any ((OpenSpec.ofChange Rows.capsLessSpec).preRow enc Tryd.prog Tryd.f4 Rows.capsLessRow.domain false Rows.capsLessRow.laid) (((OpenSpec.ofChange Rows.capsLessSpec).at F).post enc Tryd.prog Tryd.f4 false true false false) := by
  obtain ⟨places, hx⟩ := reads os enc
  refine returnsInHanded_of_row (C := Tryd.checked) (s := OpenSpec.ofChange Rows.capsLessSpec) own started (by kernel_rfl) Tryd.func4
    (witness_row_at (enc := enc) (C := Tryd.checked) false (laidWorld os) #[.agg (capA cap0 (.slice none 0 0)), .bool false] rfl (by kernel_rfl) (by kernel_rfl) (by kernel_rfl)
      (OpenSpec.preRow_of_cond 8 hx (by kernel_rfl) (fun k hk => by cases hk) (by kernel_rfl) (laid_met os))) ?_
  intro W base args ds gs before hval hW _ _ _ hL _ _
  exact contract H enc W base args ds gs before hval hW hL

theorem said : Rows.CapsLessSaid :=
  OpenClaim.holds_of_cond 4 Tryd.f4 rfl rfl rfl rfl rfl rfl rfl ⟨rfl, rfl, rfl, rfl, rfl⟩ rfl rfl rfl rfl rfl (by kernel_rfl) Tryd.func4 (by kernel_rfl)
    (of_decide_eq_true (by kernel_rfl)) (by unfold Func.isWrapper; first | (rw [if_pos (by decide +kernel)]; kernel_rfl) | (rw [if_neg (by decide +kernel)]; exact ⟨rfl, rfl⟩))
    (fun os started H enc _ F => by rw [OpenClaim.pre_eq_preRow]; exact lifted os started H enc F)

theorem plain (f : FuncId) (fn : Func) (hf : Tryd.pinned.checked.prog.funcNamed "aumbry/aumbrylaw13.CapsLess" = some f) (hfn : Tryd.pinned.checked.prog.funcs[f]? = some fn) :
    true = Tryd.pinned.checked.prog.looks [] ∧ ∀ (j : Nat) t, fn.params[j]? = some t → Tryd.pinned.checked.prog.wantsStandIn t = false := by
  obtain rfl : f = 4 := Option.some.inj ((show Tryd.prog.funcNamed "aumbry/aumbrylaw13.CapsLess" = some 4 by kernel_rfl).symm.trans hf) |>.symm
  obtain rfl : fn = Tryd.f4 := (Option.some.inj (Tryd.func4.symm.trans hfn)).symm
  refine ⟨by kernel_rfl, fun j t ht => ?_⟩
  exact wants_none (by kernel_rfl) (Array.mem_of_getElem? ht)

/-- The card: the statement holds, its listed tables tied to the program's text. -/
theorem card : Rows.CapsLessCardSaid :=
  Claim7.holds_tied_plain_at .later [] _ _ _ _ said (fun _ h => by cases h) (by kernel_rfl) (fun _ h => by cases h) capsLess_row_tie rfl ⟨rfl, rfl⟩ (by kernel_rfl) rfl plain (by kernel_rfl)
end Go.Proofs.YtkkokngdhhakdaaDoor.capsLess
