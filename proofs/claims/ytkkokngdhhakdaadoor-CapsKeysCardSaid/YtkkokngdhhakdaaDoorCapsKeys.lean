/- CapsKeys: a slot's keys hang on its seed alone. For all seeds, prints and servers. -/
import Derived.Test.YtkkokngdhhakdaaDoorLaw
import Derived.Test.YtkkokngdhhakdaaDoorCapY
import Derived.Test.YtkkokngdhhakdaaDoorCapU
import Derived.Deep.CutRange
namespace Go.Proofs.YtkkokngdhhakdaaDoor.capsKeys
open Go.ChangeShapes Go.WideShapes Go.ChangeAt Go.RowKit

set_option maxRecDepth 100000 in
set_option maxHeartbeats 16000000 in
theorem walk (k0 k1 : List UInt8) (n2 : Int) (w : World) (hk0 : k0.length = 16) (hk1 : k1.length = 32) (hn2 : n2 ≤ 9223372036854775807) (htab : Pow10 w.heap.size w) :
    Calls Tryd.prog 3 #[.agg (u8A k0), .agg (u8A k1), .int .i64 n2] w fun e w' => e = .returned (.bool true) ∧ Below w.heap.size w w' := by
  have HT := Lib.hid htab
  obtain ⟨SD, hSD⟩ : ∃ x, u8A k0 = x := ⟨_, rfl⟩
  obtain ⟨FP, hFP⟩ : ∃ x, u8A k1 = x := ⟨_, rfl⟩
  obtain ⟨CS, hCS⟩ : ∃ x, capA (slot13 k0 k1) (.slice none 0 0) = x := ⟨_, rfl⟩
  obtain ⟨KW, hKW⟩ : ∃ x, u8A (keyW k0) = x := ⟨_, rfl⟩
  obtain ⟨KR, hKR⟩ : ∃ x, u8A (keyR k0) = x := ⟨_, rfl⟩
  obtain ⟨KI, hKI⟩ : ∃ x, u8A (keyI k0) = x := ⟨_, rfl⟩
  obtain ⟨KE, hKE⟩ : ∃ x, u8A (enb13 (keyW k0) n2) = x := ⟨_, rfl⟩
  obtain ⟨R, hR⟩ : ∃ x : Cap13, ⟨5, keyR k0, k1, 0, 0, 0, []⟩ = x := ⟨_, rfl⟩
  obtain ⟨V, hV⟩ : ∃ x : Cap13, ⟨6, keyI k0, k1, 0, 0, 0, []⟩ = x := ⟨_, rfl⟩
  obtain ⟨Q, hQ⟩ : ∃ x : Cap13, ⟨7, keyW k0, k1, 0, 0, 0, []⟩ = x := ⟨_, rfl⟩
  have HRF := Lib.hid hR.symm
  have HVF := Lib.hid hV.symm
  have HQF := Lib.hid hQ.symm
  have HLE := Lib.hid (And.intro hk0 (And.intro hk1 hn2))
  have HLW := Lib.hid (show (keyW k0).length = 16 ∧ (keyR k0).length = 16 ∧ (keyI k0).length = 16 from ⟨short13_len _ _, short13_len _ _, short13_len _ _⟩)
  have HAG := Lib.hid (And.intro hKW (And.intro hKR (And.intro hSD (And.intro hKI (And.intro hKE hFP)))))
  have HCS := Lib.hid hCS
  have HSW := Lib.hid (show (slot13 k0 k1).wf from ⟨short13_len _ _, hk1⟩)
  have HZSD := Lib.hid (show SD.size = 16 by rw [← hSD, u8A_size]; exact hk0)
  have HZFP := Lib.hid (show FP.size = 32 by rw [← hFP, u8A_size]; exact hk1)
  have HSKI := Lib.hid (show KI.size = 16 ∧ KI.all (·.oneCell') = true by rw [← hKI]; exact ⟨by rw [u8A_size]; exact short13_len _ _, u8A_one _⟩)
  have HSKE := Lib.hid (show KE.size = 16 ∧ KE.all (·.oneCell') = true by rw [← hKE]; exact ⟨by rw [u8A_size]; exact short13_len _ _, u8A_one _⟩)
  have HZKI := Lib.hid HSKI.out.1
  have HZKE := Lib.hid HSKE.out.1
  have HSCS := Lib.hid (show CS.size = 53 ∧ CS.all (·.oneCell') = true by rw [← hCS]; exact ⟨capA_size ⟨short13_len _ _, hk1⟩ _, capA_one⟩)
  have HEKW := Lib.hid (show KW = (Lib.byteCells (keyW k0)).toArray from hKW.symm)
  have HEKR := Lib.hid (show KR = (Lib.byteCells (keyR k0)).toArray from hKR.symm)
  have HEKI := Lib.hid (show KI = (Lib.byteCells (keyI k0)).toArray from hKI.symm)
  have HEFP := Lib.hid (show FP = (Lib.byteCells k1).toArray from hFP.symm)
  have HQW := Lib.hid (fun W => (show (Op.equalIn 10000 23 (.agg KW) (.agg KW)).run Tryd.prog W = .ok true W by
    have h := run_key_eq W (keyW k0) (keyW k0) HLW.out.1 HLW.out.1
    rwa [hKW, decide_eq_true rfl] at h))
  have HQR := Lib.hid (fun W => (show (Op.equalIn 10000 23 (.agg KR) (.agg KR)).run Tryd.prog W = .ok true W by
    have h := run_key_eq W (keyR k0) (keyR k0) HLW.out.2.1 HLW.out.2.1
    rwa [hKR, decide_eq_true rfl] at h))
  have HQI := Lib.hid (fun W => (show (Op.equalIn 10000 23 (.agg KI) (.agg KI)).run Tryd.prog W = .ok true W by
    have h := run_key_eq W (keyI k0) (keyI k0) HLW.out.2.2 HLW.out.2.2
    rwa [hKI, decide_eq_true rfl] at h))
  have HQE := Lib.hid (fun W => (show (Op.equalIn 10000 23 (.agg KE) (.agg KE)).run Tryd.prog W = .ok true W by
    have h := run_key_eq W (enb13 (keyW k0) n2) (enb13 (keyW k0) n2) (short13_len _ _) (short13_len _ _)
    rwa [hKE, decide_eq_true rfl] at h))
  have HQFP := Lib.hid (fun W => (show (Op.equalIn 10000 25 (.agg FP) (.agg FP)).run Tryd.prog W = .ok true W by
    have h := run_hash_eq W k1 k1 hk1 hk1
    rwa [hFP, decide_eq_true rfl] at h))
  rw [hSD, hFP]
  clear htab hSD hFP hCS hKW hKR hKI hKE hR hV hQ hk0 hk1 hn2
  go_enter Tryd.func3, Tryd.ntmps3
  go_upto_region 1 with fail
  generalize hwa : World.alloc _ _ = w1
  obtain ⟨g3, h3⟩ : ∃ g, w.heap.size = g := ⟨_, rfl⟩
  obtain ⟨g4, h4⟩ : ∃ g, w.heap.size + 1 = g := ⟨_, rfl⟩
  have hO : Blk w1 g3 SD 23 ∧ Blk w1 g4 FP 25 ∧ Below w.heap.size w w1 := by
    have sA : (w.alloc (.cells SD 23)).heap.size = w.heap.size + 1 := by simp
    rw [← hwa, ← h3, ← h4]
    exact ⟨(Blk.new _ _ _).alloc _, by rw [← sA]; exact Blk.new _ _ _, ((Below.refl _ _).alloc (Nat.le_refl _) _).alloc (by simp) _⟩
  rw [h4, h3]
  have HO3 := Lib.hid hO.1
  have HO4 := Lib.hid hO.2.1
  have HBW := Lib.hid hO.2.2
  clear hwa h3 h4 hO
  have HSP := Lib.hid (show Calls Tryd.prog 9 #[.agg SD, .agg FP] w1 fun e w' => e = .returned (.agg CS) ∧ Below w1.heap.size w1 w' from by
    have h := pslot_any (w := w1) HLE.out.1 HLE.out.2.1 (tab_on HT.out HBW.out HBW.out.size)
    rwa [HAG.out.2.2.1, HAG.out.2.2.2.2.2, HCS.out] at h)
  go_upto_region 2 with (first
    | (refine wpList_load_whenC ?_ 23 (.tmp 3) rfl g3 rfl 23 _ _ HO3.out Tryd.underlying23 rfl (by rw [HZSD.out]; kernel_rfl) ?_; · rfl)
    | (refine wpList_load_whenC ?_ 25 (.tmp 4) rfl g4 rfl 25 _ _ HO4.out Tryd.underlying25 rfl (by rw [HZFP.out]; kernel_rfl) ?_; · rfl)
    | ((with_reducible refine HSP.out.mono ?_); rintro e w2 ⟨rfl, hb2⟩)
    | (with_reducible refine wpList_store_blkTo rfl 28 (.tmp 7) (.tmp 22) rfl rfl w2.heap.size CS rfl rfl 28 _ (Blk.new w2 _ _) (by rw [HSCS.out.1]; kernel_rfl) (by rw [HSCS.out.1]; kernel_rfl) HSCS.out.2 ?_))
  have hfr := fun Y => CapW.fresh (c := slot13 k0 k1) (A := none) (n := 0) (cc := 0) (HBW.out.trans (hb2.mono HBW.out.size)) HSW.out rfl (Nat.le_refl _) (.inl rfl) Y HCS.out
  generalize hwn : World.setRow _ _ _ = w3
  have hk : CapW w w3 w2.heap.size (slot13 k0 k1) none 0 0 ∧ Below w2.heap.size w2 w3 := by
    rw [← hwn]
    exact hfr _
  have hbn := hb2.trans (hk.2.mono hb2.size)
  obtain ⟨g7, hg7⟩ : ∃ x, w2.heap.size = x := ⟨_, rfl⟩
  rw [hg7] at hk ⊢
  replace HO3 := Lib.hid (HO3.out.below hbn HO3.out.lt)
  replace HO4 := Lib.hid (HO4.out.below hbn HO4.out.lt)
  have HSd := Lib.hid hk.1
  have H3 := HSd
  clear hfr hwn hk hbn hb2 hg7 HSP HBW
  have HBK := Lib.hid (Below.refl w3.heap.size w3)
  have HT3 := Lib.hid (fun (W : World) (hW : Below w3.heap.size w3 W) => tab_on HT.out (H3.out.bel.trans (hW.mono H3.out.bel.size)) (Nat.le_trans H3.out.bel.size hW.size))
  have HPRO := Lib.hid (fun (W : World) (hW : Below w3.heap.size w3 W) => (show Calls Tryd.prog 10 #[.agg CS] W fun e w' => CapSaid W w' e R 0 from by
    have h := preadonly_any (w := W) (cc := 0) HSW.out H3.out.len (H3.out.lit.on hW) (HT3.out W hW)
    rwa [HCS.out, if_pos (show (slot13 k0 k1).reads from slot4_reads (keyW k0) k1), if_pos (show (slot13 k0 k1).reads from slot4_reads (keyW k0) k1), slot_ro, ← HRF.out] at h))
  have HPVO := Lib.hid (fun (W : World) (hW : Below w3.heap.size w3 W) => (show Calls Tryd.prog 11 #[.agg CS] W fun e w' => CapSaid W w' e V 0 from by
    have h := pverify_any (w := W) (cc := 0) HSW.out H3.out.len (H3.out.lit.on hW) (HT3.out W hW)
    rwa [HCS.out, if_pos (slot_idxOK k0 k1), if_pos (slot_idxOK k0 k1), slot_vo, ← HVF.out] at h))
  have HPD := Lib.hid (fun (W : World) (hW : Below w3.heap.size w3 W) => (show Calls Tryd.prog 12 #[.agg CS] W fun e w' => CapSaid W w' e Q 0 from by
    have h := pdir_any (w := W) (cc := 0) HSW.out H3.out.len (H3.out.lit.on hW)
    rwa [HCS.out, if_pos (slot_dirOK k0 k1), if_pos (slot_dirOK k0 k1), slot_dir, ← HQF.out] at h))
  have HPE := Lib.hid (fun (W : World) (hW : Below w3.heap.size w3 W) => (show Calls Tryd.prog 14 #[.agg CS, .int .i64 n2] W fun e w' => e = .returned (.tuple #[.agg KE, .int .i64 0]) ∧ Below W.heap.size W w' from by
    have h := penabler_any (w := W) (cc := 0) (server := n2) HSW.out H3.out.len (H3.out.lit.on hW) HLE.out.2.2 (HT3.out W hW)
    rw [HCS.out, if_pos (show (slot13 k0 k1).writes from slot4_writes (keyW k0) k1), if_pos (show (slot13 k0 k1).writes from slot4_writes (keyW k0) k1)] at h
    rw [← HAG.out.2.2.2.2.1]
    exact h))
  go_upto_region 3 with (first
    | (refine wpList_load_capC ?_ (.tmp 7) rfl g7 rfl HSd.out.cap HCS.out ?_; · rfl)
    | ((with_reducible refine (HPRO.out _ HBK.out).mono ?_); rintro e w5 ⟨⟨v, rfl, hv⟩, hba⟩; obtain ⟨hwf, A4, n4, cc4, rfl, hln, hrm, hrd, hla⟩ := hv; obtain ⟨CR, hCR⟩ : ∃ x, capA R (.slice A4 n4 cc4) = x := ⟨_, rfl⟩; rw [hCR]; have HCR := Lib.hid hCR; have HZCR := Lib.hid (show CR.size = 53 ∧ CR.all (·.oneCell') = true by rw [← hCR]; exact ⟨capA_size hwf _, capA_one⟩))
    | (with_reducible refine wpList_store_blkTo rfl 28 (.tmp 8) (.tmp 26) rfl rfl w5.heap.size CR rfl rfl 28 _ (Blk.new w5 _ _) (by rw [HZCR.out.1]; kernel_rfl) (by rw [HZCR.out.1]; kernel_rfl) HZCR.out.2 ?_))
  have hfr := fun Y => CapW.fresh (HSd.out.bel.trans (hba.mono HSd.out.bel.size)) hwf hln hrm hrd Y hCR
  generalize hwn : World.setRow _ _ _ = w6
  have hk : CapW w w6 w5.heap.size R A4 n4 cc4 ∧ Below w5.heap.size w5 w6 := by
    rw [← hwn]
    exact hfr _
  have hbn := hba.trans (hk.2.mono hba.size)
  obtain ⟨g8, hg8⟩ : ∃ x, w5.heap.size = x := ⟨_, rfl⟩
  rw [hg8] at hk ⊢
  replace HSd := Lib.hid (HSd.out.below hbn)
  replace HO3 := Lib.hid (HO3.out.below hbn HO3.out.lt)
  replace HO4 := Lib.hid (HO4.out.below hbn HO4.out.lt)
  replace HBK := Lib.hid (HBK.out.trans (hbn.mono HBK.out.size))
  have HS8 := Lib.hid hk.1
  clear hfr hwn hk hbn hba hg8 hwf hln hrm hrd hla hCR HPRO
  go_upto_region 4 with (first
    | (refine wpList_load_capC ?_ (.tmp 7) rfl g7 rfl HSd.out.cap HCS.out ?_; · rfl)
    | ((with_reducible refine (HPVO.out _ HBK.out).mono ?_); rintro e w7 ⟨⟨v, rfl, hv⟩, hba⟩; obtain ⟨hwf, A5, n5, cc5, rfl, hln, hrm, hrd, hla⟩ := hv; obtain ⟨CV, hCV⟩ : ∃ x, capA V (.slice A5 n5 cc5) = x := ⟨_, rfl⟩; rw [hCV]; have HCV := Lib.hid hCV; have HZCV := Lib.hid (show CV.size = 53 ∧ CV.all (·.oneCell') = true by rw [← hCV]; exact ⟨capA_size hwf _, capA_one⟩))
    | (with_reducible refine wpList_store_blkTo rfl 28 (.tmp 10) (.tmp 31) rfl rfl w7.heap.size CV rfl rfl 28 _ (Blk.new w7 _ _) (by rw [HZCV.out.1]; kernel_rfl) (by rw [HZCV.out.1]; kernel_rfl) HZCV.out.2 ?_))
  have hfr := fun Y => CapW.fresh (HSd.out.bel.trans (hba.mono HSd.out.bel.size)) hwf hln hrm hrd Y hCV
  generalize hwn : World.setRow _ _ _ = w8
  have hk : CapW w w8 w7.heap.size V A5 n5 cc5 ∧ Below w7.heap.size w7 w8 := by
    rw [← hwn]
    exact hfr _
  have hbn := hba.trans (hk.2.mono hba.size)
  obtain ⟨g10, hg10⟩ : ∃ x, w7.heap.size = x := ⟨_, rfl⟩
  rw [hg10] at hk ⊢
  replace HSd := Lib.hid (HSd.out.below hbn)
  replace HS8 := Lib.hid (HS8.out.below hbn)
  replace HO3 := Lib.hid (HO3.out.below hbn HO3.out.lt)
  replace HO4 := Lib.hid (HO4.out.below hbn HO4.out.lt)
  replace HBK := Lib.hid (HBK.out.trans (hbn.mono HBK.out.size))
  have HS10 := Lib.hid hk.1
  clear hfr hwn hk hbn hba hg10 hwf hln hrm hrd hla hCV HPVO
  go_upto_region 5 with (first
    | (refine wpList_load_capC ?_ (.tmp 7) rfl g7 rfl HSd.out.cap HCS.out ?_; · rfl)
    | ((with_reducible refine (HPD.out _ HBK.out).mono ?_); rintro e w9 ⟨⟨v, rfl, hv⟩, hba⟩; obtain ⟨hwf, A6, n6, cc6, rfl, hln, hrm, hrd, hla⟩ := hv; obtain ⟨CE, hCE⟩ : ∃ x, capA Q (.slice A6 n6 cc6) = x := ⟨_, rfl⟩; rw [hCE]; have HCE := Lib.hid hCE; have HZCE := Lib.hid (show CE.size = 53 ∧ CE.all (·.oneCell') = true by rw [← hCE]; exact ⟨capA_size hwf _, capA_one⟩))
    | (with_reducible refine wpList_store_blkTo rfl 28 (.tmp 12) (.tmp 36) rfl rfl w9.heap.size CE rfl rfl 28 _ (Blk.new w9 _ _) (by rw [HZCE.out.1]; kernel_rfl) (by rw [HZCE.out.1]; kernel_rfl) HZCE.out.2 ?_))
  have hfr := fun Y => CapW.fresh (HSd.out.bel.trans (hba.mono HSd.out.bel.size)) hwf hln hrm hrd Y hCE
  generalize hwn : World.setRow _ _ _ = wa
  have hk : CapW w wa w9.heap.size Q A6 n6 cc6 ∧ Below w9.heap.size w9 wa := by
    rw [← hwn]
    exact hfr _
  have hbn := hba.trans (hk.2.mono hba.size)
  obtain ⟨g12, hg12⟩ : ∃ x, w9.heap.size = x := ⟨_, rfl⟩
  rw [hg12] at hk ⊢
  replace HSd := Lib.hid (HSd.out.below hbn)
  replace HS8 := Lib.hid (HS8.out.below hbn)
  replace HS10 := Lib.hid (HS10.out.below hbn)
  replace HO3 := Lib.hid (HO3.out.below hbn HO3.out.lt)
  replace HO4 := Lib.hid (HO4.out.below hbn HO4.out.lt)
  replace HBK := Lib.hid (HBK.out.trans (hbn.mono HBK.out.size))
  have HS12 := Lib.hid hk.1
  clear hfr hwn hk hbn hba hg12 hwf hln hrm hrd hla hCE HPD
  have HBD := Lib.hid (Below.refl wa.heap.size wa)
  have HKD := HBK
  have HQ12 := HS12
  have HPI := Lib.hid (fun (W : World) (hW : Below wa.heap.size wa W) => (show Calls Tryd.prog 13 #[.agg CE] W fun e w' => e = .returned (.tuple #[.agg KI, .int .i64 0]) ∧ Below W.heap.size W w' from by
    have h := pindex_any (w := W) (cc := cc6) HQ12.out.cap.wf HQ12.out.len (HQ12.out.lit.on hW) (HT3.out W (HKD.out.trans (hW.mono HKD.out.size)))
    rwa [HCE.out, HQF.out, if_pos (dir_idxOK k0 k1), if_pos (dir_idxOK k0 k1), dir_idx, HAG.out.2.2.2.1] at h))
  have HPF := Lib.hid (fun (W : World) (hW : Below wa.heap.size wa W) => (show Calls Tryd.prog 14 #[.agg CE, .int .i64 n2] W fun e w' => e = .returned (.tuple #[.agg KE, .int .i64 0]) ∧ Below W.heap.size W w' from by
    have h := penabler_any (w := W) (cc := cc6) (server := n2) HQ12.out.cap.wf HQ12.out.len (HQ12.out.lit.on hW) HLE.out.2.2 (HT3.out W (HKD.out.trans (hW.mono HKD.out.size)))
    rw [HCE.out, HQF.out, if_pos (slot7_writes (keyW k0) k1), if_pos (slot7_writes (keyW k0) k1)] at h
    rw [← HAG.out.2.2.2.2.1]
    exact h))
  go_upto_region 6 with (first
    | (refine wpList_load_capC ?_ (.tmp 12) rfl g12 rfl HS12.out.cap HCE.out ?_; · rfl)
    | ((with_reducible refine (HPI.out _ HBD.out).mono ?_); rintro e wb ⟨rfl, hba⟩)
    | (with_reducible refine wpList_store_blkTo rfl 23 (.tmp 14) (.tmp 41) rfl rfl wb.heap.size KI rfl rfl 23 _ (Blk.new wb _ _) (by rw [HSKI.out.1]; kernel_rfl) (by rw [HSKI.out.1]; kernel_rfl) HSKI.out.2 ?_))
  have hkf := fun Y => key_fresh (w := wb) Y KI
  generalize hwn : World.setRow _ _ _ = wc
  have hk : Blk wc wb.heap.size KI 23 ∧ Below wb.heap.size wb wc := by
    rw [← hwn]
    exact hkf _
  have hbn := hba.trans (hk.2.mono hba.size)
  obtain ⟨i14, hi14⟩ : ∃ x, wb.heap.size = x := ⟨_, rfl⟩
  rw [hi14] at hk ⊢
  replace HSd := Lib.hid (HSd.out.below hbn)
  replace HS8 := Lib.hid (HS8.out.below hbn)
  replace HS10 := Lib.hid (HS10.out.below hbn)
  replace HS12 := Lib.hid (HS12.out.below hbn)
  replace HO3 := Lib.hid (HO3.out.below hbn HO3.out.lt)
  replace HO4 := Lib.hid (HO4.out.below hbn HO4.out.lt)
  replace HBK := Lib.hid (HBK.out.trans (hbn.mono HBK.out.size))
  replace HBD := Lib.hid (HBD.out.trans (hbn.mono HBD.out.size))
  have HI14 := Lib.hid hk.1
  clear hkf hwn hk hbn hba hi14 HPI
  go_upto_region 7 with (first
    | (refine wpList_load_capC ?_ (.tmp 7) rfl g7 rfl HSd.out.cap HCS.out ?_; · rfl)
    | ((with_reducible refine (HPE.out _ HBK.out).mono ?_); rintro e wd ⟨rfl, hba⟩)
    | (with_reducible refine wpList_store_blkTo rfl 23 (.tmp 16) (.tmp 47) rfl rfl wd.heap.size KE rfl rfl 23 _ (Blk.new wd _ _) (by rw [HSKE.out.1]; kernel_rfl) (by rw [HSKE.out.1]; kernel_rfl) HSKE.out.2 ?_))
  have hkf := fun Y => key_fresh (w := wd) Y KE
  generalize hwn : World.setRow _ _ _ = we
  have hk : Blk we wd.heap.size KE 23 ∧ Below wd.heap.size wd we := by
    rw [← hwn]
    exact hkf _
  have hbn := hba.trans (hk.2.mono hba.size)
  obtain ⟨i16, hi16⟩ : ∃ x, wd.heap.size = x := ⟨_, rfl⟩
  rw [hi16] at hk ⊢
  replace HSd := Lib.hid (HSd.out.below hbn)
  replace HS8 := Lib.hid (HS8.out.below hbn)
  replace HS10 := Lib.hid (HS10.out.below hbn)
  replace HS12 := Lib.hid (HS12.out.below hbn)
  replace HO3 := Lib.hid (HO3.out.below hbn HO3.out.lt)
  replace HO4 := Lib.hid (HO4.out.below hbn HO4.out.lt)
  replace HI14 := Lib.hid (HI14.out.below hbn HI14.out.lt)
  replace HBK := Lib.hid (HBK.out.trans (hbn.mono HBK.out.size))
  replace HBD := Lib.hid (HBD.out.trans (hbn.mono HBD.out.size))
  have HI16 := Lib.hid hk.1
  clear hkf hwn hk hbn hba hi16 HPE
  go_upto_region 8 with (first
    | (refine wpList_load_capC ?_ (.tmp 12) rfl g12 rfl HS12.out.cap HCE.out ?_; · rfl)
    | ((with_reducible refine (HPF.out _ HBD.out).mono ?_); rintro e wf ⟨rfl, hba⟩)
    | (with_reducible refine wpList_store_blkTo rfl 23 (.tmp 18) (.tmp 53) rfl rfl wf.heap.size KE rfl rfl 23 _ (Blk.new wf _ _) (by rw [HSKE.out.1]; kernel_rfl) (by rw [HSKE.out.1]; kernel_rfl) HSKE.out.2 ?_))
  have hkf := fun Y => key_fresh (w := wf) Y KE
  generalize hwn : World.setRow _ _ _ = wz
  have hk : Blk wz wf.heap.size KE 23 ∧ Below wf.heap.size wf wz := by
    rw [← hwn]
    exact hkf _
  have hbn := hba.trans (hk.2.mono hba.size)
  obtain ⟨i18, hi18⟩ : ∃ x, wf.heap.size = x := ⟨_, rfl⟩
  rw [hi18] at hk ⊢
  replace HSd := Lib.hid (HSd.out.below hbn)
  replace HS8 := Lib.hid (HS8.out.below hbn)
  replace HS10 := Lib.hid (HS10.out.below hbn)
  replace HS12 := Lib.hid (HS12.out.below hbn)
  replace HO3 := Lib.hid (HO3.out.below hbn HO3.out.lt)
  replace HO4 := Lib.hid (HO4.out.below hbn HO4.out.lt)
  replace HI14 := Lib.hid (HI14.out.below hbn HI14.out.lt)
  replace HI16 := Lib.hid (HI16.out.below hbn HI16.out.lt)
  replace HBK := Lib.hid (HBK.out.trans (hbn.mono HBK.out.size))
  replace HBD := Lib.hid (HBD.out.trans (hbn.mono HBD.out.size))
  have HI18 := Lib.hid hk.1
  clear hkf hwn hk hbn hba hi18 HPF
  have HP7 := HSd
  have HP8 := HS8
  have HP10 := HS10
  have HP12 := HS12
  have HWK := Lib.hid (fun (W : World) (hW : Below wz.heap.size wz W) => wakes13_any W (HT3.out W (HBK.out.trans (hW.mono HBK.out.size))))
  have HSH1 := Lib.hid (fun (g : Nat) (W : World) (hW : Below wz.heap.size wz W) (hr : RdR W W.heap.size (some ⟨g, 0, none⟩) [k0]) => (show Calls Tryd.prog 15 #[.string ⟨#[119, 114, 105, 116, 101]⟩, .slice (some ⟨g, 0, none⟩) 1 1] W fun e w' => e = .returned (.agg KW) ∧ Below W.heap.size W w' from by
    have h := short_any wriTag (some ⟨g, 0, none⟩) 1 1 [k0] W (by decide) rfl (by decide) (fun r h => by rw [List.mem_singleton.1 h, HLE.out.1]; decide) hr (HT3.out W (HBK.out.trans (hW.mono HBK.out.size)))
    rw [← HAG.out.1]
    exact h))
  have HSH2 := Lib.hid (fun (g : Nat) (W : World) (hW : Below wz.heap.size wz W) (hr : RdR W W.heap.size (some ⟨g, 0, none⟩) [keyW k0]) => (show Calls Tryd.prog 15 #[.string ⟨#[114, 101, 97, 100]⟩, .slice (some ⟨g, 0, none⟩) 1 1] W fun e w' => e = .returned (.agg KR) ∧ Below W.heap.size W w' from by
    have h := short_any readTag (some ⟨g, 0, none⟩) 1 1 [keyW k0] W (by decide) rfl (by decide) (fun r h => by rw [List.mem_singleton.1 h, HLW.out.1]; decide) hr (HT3.out W (HBK.out.trans (hW.mono HBK.out.size)))
    rw [← HAG.out.2.1]
    exact h))
  have HSH3 := Lib.hid (fun (g : Nat) (W : World) (hW : Below wz.heap.size wz W) (hr : RdR W W.heap.size (some ⟨g, 0, none⟩) [keyR k0]) => (show Calls Tryd.prog 15 #[.string ⟨#[105, 110, 100, 101, 120]⟩, .slice (some ⟨g, 0, none⟩) 1 1] W fun e w' => e = .returned (.agg KI) ∧ Below W.heap.size W w' from by
    have h := short_any indexTag (some ⟨g, 0, none⟩) 1 1 [keyR k0] W (by decide) rfl (by decide) (fun r h => by rw [List.mem_singleton.1 h, HLW.out.2.1]; decide) hr (HT3.out W (HBK.out.trans (hW.mono HBK.out.size)))
    rw [← HAG.out.2.2.2.1]
    exact h))
  have HG7 := Lib.hid (fun (W : World) (hW : Below wz.heap.size wz W) => (show W.rangeAt g7 1 (Lib.byteCells (keyW k0)) from (HP7.out.cap.below hW).rangeKey))
  have HG8 := Lib.hid (fun (W : World) (hW : Below wz.heap.size wz W) => (show W.rangeAt g8 1 (Lib.byteCells (keyR k0)) from by
    have h := (HP8.out.cap.below hW).rangeKey
    rwa [HRF.out] at h))
  have HG10 := Lib.hid (fun (W : World) (hW : Below wz.heap.size wz W) => (show W.rangeAt g10 1 (Lib.byteCells (keyI k0)) from by
    have h := (HP10.out.cap.below hW).rangeKey
    rwa [HVF.out] at h))
  have HF10 := Lib.hid (fun (W : World) (hW : Below wz.heap.size wz W) => (show W.rangeAt g10 17 (Lib.byteCells k1) from by
    have h := (HP10.out.cap.below hW).rangeFp
    rwa [HVF.out] at h))
  have HRS3 := Lib.hid (fun (W : World) (hW : Below wz.heap.size wz W) => rdK (HAG.out.2.2.1 ▸ HO3.out.below hW HO3.out.lt : Blk W g3 (u8A k0) 23))
  have HRS7 := Lib.hid (fun (W : World) (hW : Below wz.heap.size wz W) => (show Rd W W.heap.size (some ⟨g7, 1, none⟩) (keyW k0) from Rd.of_range (HP7.out.cap.below hW).lt (HG7.out W hW)))
  have HRS8 := Lib.hid (fun (W : World) (hW : Below wz.heap.size wz W) => (show Rd W W.heap.size (some ⟨g8, 1, none⟩) (keyR k0) from Rd.of_range (HP8.out.cap.below hW).lt (HG8.out W hW)))
  have HB14 := Lib.hid (fun (W : World) (hW : Below wz.heap.size wz W) => HI14.out.below hW HI14.out.lt)
  have HB16 := Lib.hid (fun (W : World) (hW : Below wz.heap.size wz W) => HI16.out.below hW HI16.out.lt)
  have HB18 := Lib.hid (fun (W : World) (hW : Below wz.heap.size wz W) => HI18.out.below hW HI18.out.lt)
  have HB4 := Lib.hid (fun (W : World) (hW : Below wz.heap.size wz W) => HO4.out.below hW HO4.out.lt)
  have HC12 := Lib.hid (fun (W : World) (hW : Below wz.heap.size wz W) => (show W.cell? ⟨g12, 0, none⟩ = some (.int .i64 7) from by
    have h := (HP12.out.cap.below hW).cells.1
    rwa [HQF.out] at h))
  have HC8 := Lib.hid (fun (W : World) (hW : Below wz.heap.size wz W) => (show W.cell? ⟨g8, 0, none⟩ = some (.int .i64 5) from by
    have h := (HP8.out.cap.below hW).cells.1
    rwa [HRF.out] at h))
  have HC10 := Lib.hid (fun (W : World) (hW : Below wz.heap.size wz W) => (show W.cell? ⟨g10, 0, none⟩ = some (.int .i64 6) from by
    have h := (HP10.out.cap.below hW).cells.1
    rwa [HVF.out] at h))
  refine wp_region_loose 84 0 (fun i => false) (promises [.is (.int .i64 0), .is (.bool true), .is (.bool true), .is (.int .i64 0), .is (.bool true), .is (.bool true), .is (.bool true), .is (.int .i64 0), .is (.bool true), .is (.bool true), .is (.bool true), .is (.int .i64 0), .is (.bool true), .is (.bool true), .is (.bool true), .is (.int .i64 0), .is (.bool true), .is (.bool true), .is (.bool true), .is (.int .i64 0), .is (.bool true), .is (.bool true), .is (.bool true), .is (.pointer (some ⟨g7, 1, none⟩)), .is (.agg KW), .is (.slice (some ⟨g3, 0, none⟩) 16 16), .rows 1 [k0], .is (.agg KW), .is (.bool true), .is (.bool true), .is (.bool true), .is (.pointer (some ⟨g8, 1, none⟩)), .is (.agg KR), .is (.pointer (some ⟨g7, 1, none⟩)), .is (.slice (some ⟨g7, 1, none⟩) 16 16), .rows 1 [keyW k0], .is (.agg KR), .is (.bool true), .is (.bool true), .is (.bool true), .is (.pointer (some ⟨g10, 1, none⟩)), .is (.agg KI), .is (.pointer (some ⟨g8, 1, none⟩)), .is (.slice (some ⟨g8, 1, none⟩) 16 16), .rows 1 [keyR k0], .is (.agg KI), .is (.bool true), .is (.bool true), .is (.bool true), .is (.agg KI), .is (.pointer (some ⟨g10, 1, none⟩)), .is (.agg KI), .is (.bool true), .is (.bool true), .is (.bool true), .is (.agg KE), .is (.agg KE), .is (.bool true), .is (.bool true), .is (.bool true), .is (.pointer (some ⟨g12, 0, none⟩)), .is (.int .i64 7), .is (.bool true), .is (.bool true), .is (.bool true), .is (.pointer (some ⟨g8, 0, none⟩)), .is (.int .i64 5), .is (.bool true), .is (.bool true), .is (.bool true), .is (.pointer (some ⟨g10, 0, none⟩)), .is (.int .i64 6), .is (.bool true), .is (.bool true), .is (.bool true), .is (.pointer (some ⟨g10, 17, none⟩)), .is (.agg FP), .is (.agg FP), .is (.bool true), .is (.bool true), .is (.bool true), .is (.bool true), .is (.bool true), .is (.bool true)]) (by kernel_rfl) rfl (by kernel_rfl) (fun i v w w' h hb => Spec.keep h hb) ⟨?_, ?_, ?_, ?_, ?_, ?_, ?_, ?_, ?_, ?_, ?_, ?_, ?_, ?_, ?_, ?_, ?_, ?_, ?_, ?_, ?_, ?_, ?_, ?_, ?_, ?_, ?_, ?_, ?_, ?_, ?_, ?_, ?_, ?_, ?_, ?_, ?_, ?_, ?_, ?_, ?_, ?_, ?_, ?_, ?_, ?_, ?_, ?_, ?_, ?_, ?_, ?_, ?_, ?_, ?_, ?_, ?_, ?_, ?_, ?_, ?_, ?_, ?_, ?_, ?_, ?_, ?_, ?_, ?_, ?_, ?_, ?_, ?_, ?_, ?_, ?_, ?_, ?_, ?_, ?_, ?_, ?_, ?_, ?_, trivial⟩ ?_
  · refine StepOKl.of ?_
    intro ac w hb hu hk
    refine ⟨wanted_none rfl, ?_⟩
    have e9 : ac.eval (.tmp 9) = .int .i64 0 := hu.is (t := 9) (by kernel_rfl)
    exact step_value (BigFrame.run_move (.tmp 9) rfl w) (Below.refl _ _) e9
  · refine StepOKl.of ?_
    intro ac w hb hu hk
    refine ⟨wanted_none rfl, ?_⟩
    have e55 : ac.eval (.tmp 55) = (.int .i64 0) := (hk ⟨0, .data⟩ (by simp) rfl).is rfl rfl
    refine step_value (w' := w) (v := (.bool true)) ?_ (Below.refl _ _) rfl
    have ec0 : ac.eval (.const (Value.int IntKind.i64 0)) = Value.int IntKind.i64 0 := rfl
    generalize ac.eval = ρ at e55 ec0 ⊢
    go_simp
  · refine StepOKl.of ?_
    intro ac w hb hu hk
    refine ⟨wanted_none rfl, ?_⟩
    have e56 : ac.eval (.tmp 56) = (.bool true) := (hk ⟨1, .data⟩ (by simp) rfl).is rfl rfl
    exact step_value (BigFrame.run_move (.tmp 56) rfl w) (Below.refl _ _) e56
  · refine StepOKl.of ?_
    intro ac w hb hu hk
    refine ⟨wanted_some rfl (hk ⟨2, .guard⟩ (by simp) rfl) rfl rfl (fun _ h => h), ?_⟩
    have e11 : ac.eval (.tmp 11) = .int .i64 0 := hu.is (t := 11) (by kernel_rfl)
    exact step_value (BigFrame.run_move (.tmp 11) rfl w) (Below.refl _ _) e11
  · refine StepOKl.of ?_
    intro ac w hb hu hk
    refine ⟨wanted_some rfl (hk ⟨2, .guard⟩ (by simp) rfl) rfl rfl (fun _ h => h), ?_⟩
    have e58 : ac.eval (.tmp 58) = (.int .i64 0) := (hk ⟨3, .data⟩ (by simp) rfl).is rfl rfl
    refine step_value (w' := w) (v := (.bool true)) ?_ (Below.refl _ _) rfl
    have ec0 : ac.eval (.const (Value.int IntKind.i64 0)) = Value.int IntKind.i64 0 := rfl
    generalize ac.eval = ρ at e58 ec0 ⊢
    go_simp
  · refine StepOKl.of ?_
    intro ac w hb hu hk
    refine ⟨wanted_none rfl, ?_⟩
    have e57 : ac.eval (.tmp 57) = (.bool true) := (hk ⟨2, .data⟩ (by simp) rfl).is rfl rfl
    have e59 : ac.eval (.tmp 59) = (.bool true) := (hk ⟨4, .data⟩ (by simp) rfl).is rfl rfl
    exact step_value (run_pick_true e57 rfl w) (Below.refl _ _) e59
  · refine StepOKl.of ?_
    intro ac w hb hu hk
    refine ⟨wanted_none rfl, ?_⟩
    have e60 : ac.eval (.tmp 60) = (.bool true) := (hk ⟨5, .data⟩ (by simp) rfl).is rfl rfl
    exact step_value (BigFrame.run_move (.tmp 60) rfl w) (Below.refl _ _) e60
  · refine StepOKl.of ?_
    intro ac w hb hu hk
    refine ⟨wanted_some rfl (hk ⟨6, .guard⟩ (by simp) rfl) rfl rfl (fun _ h => h), ?_⟩
    have e13 : ac.eval (.tmp 13) = .int .i64 0 := hu.is (t := 13) (by kernel_rfl)
    exact step_value (BigFrame.run_move (.tmp 13) rfl w) (Below.refl _ _) e13
  · refine StepOKl.of ?_
    intro ac w hb hu hk
    refine ⟨wanted_some rfl (hk ⟨6, .guard⟩ (by simp) rfl) rfl rfl (fun _ h => h), ?_⟩
    have e62 : ac.eval (.tmp 62) = (.int .i64 0) := (hk ⟨7, .data⟩ (by simp) rfl).is rfl rfl
    refine step_value (w' := w) (v := (.bool true)) ?_ (Below.refl _ _) rfl
    have ec0 : ac.eval (.const (Value.int IntKind.i64 0)) = Value.int IntKind.i64 0 := rfl
    generalize ac.eval = ρ at e62 ec0 ⊢
    go_simp
  · refine StepOKl.of ?_
    intro ac w hb hu hk
    refine ⟨wanted_none rfl, ?_⟩
    have e61 : ac.eval (.tmp 61) = (.bool true) := (hk ⟨6, .data⟩ (by simp) rfl).is rfl rfl
    have e63 : ac.eval (.tmp 63) = (.bool true) := (hk ⟨8, .data⟩ (by simp) rfl).is rfl rfl
    exact step_value (run_pick_true e61 rfl w) (Below.refl _ _) e63
  · refine StepOKl.of ?_
    intro ac w hb hu hk
    refine ⟨wanted_none rfl, ?_⟩
    have e64 : ac.eval (.tmp 64) = (.bool true) := (hk ⟨9, .data⟩ (by simp) rfl).is rfl rfl
    exact step_value (BigFrame.run_move (.tmp 64) rfl w) (Below.refl _ _) e64
  · refine StepOKl.of ?_
    intro ac w hb hu hk
    refine ⟨wanted_some rfl (hk ⟨10, .guard⟩ (by simp) rfl) rfl rfl (fun _ h => h), ?_⟩
    have e15 : ac.eval (.tmp 15) = .int .i64 0 := hu.is (t := 15) (by kernel_rfl)
    exact step_value (BigFrame.run_move (.tmp 15) rfl w) (Below.refl _ _) e15
  · refine StepOKl.of ?_
    intro ac w hb hu hk
    refine ⟨wanted_some rfl (hk ⟨10, .guard⟩ (by simp) rfl) rfl rfl (fun _ h => h), ?_⟩
    have e66 : ac.eval (.tmp 66) = (.int .i64 0) := (hk ⟨11, .data⟩ (by simp) rfl).is rfl rfl
    refine step_value (w' := w) (v := (.bool true)) ?_ (Below.refl _ _) rfl
    have ec0 : ac.eval (.const (Value.int IntKind.i64 0)) = Value.int IntKind.i64 0 := rfl
    generalize ac.eval = ρ at e66 ec0 ⊢
    go_simp
  · refine StepOKl.of ?_
    intro ac w hb hu hk
    refine ⟨wanted_none rfl, ?_⟩
    have e65 : ac.eval (.tmp 65) = (.bool true) := (hk ⟨10, .data⟩ (by simp) rfl).is rfl rfl
    have e67 : ac.eval (.tmp 67) = (.bool true) := (hk ⟨12, .data⟩ (by simp) rfl).is rfl rfl
    exact step_value (run_pick_true e65 rfl w) (Below.refl _ _) e67
  · refine StepOKl.of ?_
    intro ac w hb hu hk
    refine ⟨wanted_none rfl, ?_⟩
    have e68 : ac.eval (.tmp 68) = (.bool true) := (hk ⟨13, .data⟩ (by simp) rfl).is rfl rfl
    exact step_value (BigFrame.run_move (.tmp 68) rfl w) (Below.refl _ _) e68
  · refine StepOKl.of ?_
    intro ac w hb hu hk
    refine ⟨wanted_some rfl (hk ⟨14, .guard⟩ (by simp) rfl) rfl rfl (fun _ h => h), ?_⟩
    have e17 : ac.eval (.tmp 17) = .int .i64 0 := hu.is (t := 17) (by kernel_rfl)
    exact step_value (BigFrame.run_move (.tmp 17) rfl w) (Below.refl _ _) e17
  · refine StepOKl.of ?_
    intro ac w hb hu hk
    refine ⟨wanted_some rfl (hk ⟨14, .guard⟩ (by simp) rfl) rfl rfl (fun _ h => h), ?_⟩
    have e70 : ac.eval (.tmp 70) = (.int .i64 0) := (hk ⟨15, .data⟩ (by simp) rfl).is rfl rfl
    refine step_value (w' := w) (v := (.bool true)) ?_ (Below.refl _ _) rfl
    have ec0 : ac.eval (.const (Value.int IntKind.i64 0)) = Value.int IntKind.i64 0 := rfl
    generalize ac.eval = ρ at e70 ec0 ⊢
    go_simp
  · refine StepOKl.of ?_
    intro ac w hb hu hk
    refine ⟨wanted_none rfl, ?_⟩
    have e69 : ac.eval (.tmp 69) = (.bool true) := (hk ⟨14, .data⟩ (by simp) rfl).is rfl rfl
    have e71 : ac.eval (.tmp 71) = (.bool true) := (hk ⟨16, .data⟩ (by simp) rfl).is rfl rfl
    exact step_value (run_pick_true e69 rfl w) (Below.refl _ _) e71
  · refine StepOKl.of ?_
    intro ac w hb hu hk
    refine ⟨wanted_none rfl, ?_⟩
    have e72 : ac.eval (.tmp 72) = (.bool true) := (hk ⟨17, .data⟩ (by simp) rfl).is rfl rfl
    exact step_value (BigFrame.run_move (.tmp 72) rfl w) (Below.refl _ _) e72
  · refine StepOKl.of ?_
    intro ac w hb hu hk
    refine ⟨wanted_some rfl (hk ⟨18, .guard⟩ (by simp) rfl) rfl rfl (fun _ h => h), ?_⟩
    have e19 : ac.eval (.tmp 19) = .int .i64 0 := hu.is (t := 19) (by kernel_rfl)
    exact step_value (BigFrame.run_move (.tmp 19) rfl w) (Below.refl _ _) e19
  · refine StepOKl.of ?_
    intro ac w hb hu hk
    refine ⟨wanted_some rfl (hk ⟨18, .guard⟩ (by simp) rfl) rfl rfl (fun _ h => h), ?_⟩
    have e74 : ac.eval (.tmp 74) = (.int .i64 0) := (hk ⟨19, .data⟩ (by simp) rfl).is rfl rfl
    refine step_value (w' := w) (v := (.bool true)) ?_ (Below.refl _ _) rfl
    have ec0 : ac.eval (.const (Value.int IntKind.i64 0)) = Value.int IntKind.i64 0 := rfl
    generalize ac.eval = ρ at e74 ec0 ⊢
    go_simp
  · refine StepOKl.of ?_
    intro ac w hb hu hk
    refine ⟨wanted_none rfl, ?_⟩
    have e73 : ac.eval (.tmp 73) = (.bool true) := (hk ⟨18, .data⟩ (by simp) rfl).is rfl rfl
    have e75 : ac.eval (.tmp 75) = (.bool true) := (hk ⟨20, .data⟩ (by simp) rfl).is rfl rfl
    exact step_value (run_pick_true e73 rfl w) (Below.refl _ _) e75
  · refine StepOKl.of ?_
    intro ac w hb hu hk
    refine ⟨wanted_none rfl, ?_⟩
    have e76 : ac.eval (.tmp 76) = (.bool true) := (hk ⟨21, .data⟩ (by simp) rfl).is rfl rfl
    exact step_value (BigFrame.run_move (.tmp 76) rfl w) (Below.refl _ _) e76
  · refine StepOKl.of ?_
    intro ac w hb hu hk
    refine ⟨wanted_some rfl (hk ⟨22, .guard⟩ (by simp) rfl) rfl rfl (fun _ h => h), ?_⟩
    have e7 : ac.eval (.tmp 7) = .pointer (some ⟨g7, 0, none⟩) := hu.is (t := 7) (by kernel_rfl)
    refine step_value (w' := w) (v := (.pointer (some ⟨g7, 1, none⟩))) ?_ (Below.refl _ _) rfl
    generalize ac.eval = ρ at e7 ⊢
    go_simp
  · refine StepOKl.of ?_
    intro ac w hb hu hk
    refine ⟨wanted_some rfl (hk ⟨22, .guard⟩ (by simp) rfl) rfl rfl (fun _ h => h), ?_⟩
    have e78 : ac.eval (.tmp 78) = (.pointer (some ⟨g7, 1, none⟩)) := (hk ⟨23, .data⟩ (by simp) rfl).is rfl rfl
    exact step_value (run_load_rowC 23 (.tmp 78) rfl g7 1 e78 (Lib.byteCells (keyW k0)) _ (HG7.out w hb) Tryd.underlying23 rfl (by rw [Lib.byteCells_length, HLW.out.1]; kernel_rfl) HEKW.out) (Below.refl _ _) rfl
  · refine StepOKl.of ?_
    intro ac w hb hu hk
    refine ⟨wanted_some rfl (hk ⟨22, .guard⟩ (by simp) rfl) rfl rfl (fun _ h => h), ?_⟩
    have e3 : ac.eval (.tmp 3) = .pointer (some ⟨g3, 0, none⟩) := hu.is (t := 3) (by kernel_rfl)
    refine step_value (w' := w) (v := (.slice (some ⟨g3, 0, none⟩) 16 16)) ?_ (Below.refl _ _) rfl
    generalize ac.eval = ρ at e3 ⊢
    go_simp
  · refine StepOKl.of ?_
    intro ac w hb hu hk
    refine ⟨wanted_some rfl (hk ⟨22, .guard⟩ (by simp) rfl) rfl rfl (fun _ h => h), ?_⟩
    have e80 : ac.eval (.tmp 80) = (.slice (some ⟨g3, 0, none⟩) 16 16) := (hk ⟨25, .data⟩ (by simp) rfl).is rfl rfl
    refine step_value (w' := w.alloc (.cells #[.slice (some ⟨g3, 0, none⟩) 16 16] 26)) (v := .slice (some ⟨w.heap.size, 0, none⟩) 1 1) ?_ ((Below.refl _ _).alloc (Nat.le_refl _) _) ⟨w.heap.size, rfl, rdr_leafC w _ HLE.out.1 (Nat.le_refl _) (by decide) (HRS3.out w hb)⟩
    generalize ac.eval = ρ at e80 ⊢
    go_simp
  · refine StepOKl.of ?_
    intro ac w hb hu hk
    refine ⟨wanted_some rfl (hk ⟨22, .chain⟩ (by simp) rfl) rfl rfl (fun _ h => h), ?_⟩
    have e81 : ∃ g, ac.eval (.tmp 81) = .slice (some ⟨g, 0, none⟩) 1 1 ∧ RdR w w.heap.size (some ⟨g, 0, none⟩) [k0] := (hk ⟨26, .data⟩ (by simp) rfl).is rfl rfl
    obtain ⟨g, eg, hr⟩ := e81
    have ef : ac.eval (.func 15) = .func (.func 15) #[] #[] := rfl
    have es : ac.eval (.const (.string ⟨#[119, 114, 105, 116, 101]⟩)) = .string ⟨#[119, 114, 105, 116, 101]⟩ := rfl
    refine step_enter (f := 15) (args := #[.string ⟨#[119, 114, 105, 116, 101]⟩, .slice (some ⟨g, 0, none⟩) 1 1]) ?_ ?_
    · generalize ac.eval = ρ at eg es ef ⊢
      go_simp
    · exact (HSH1.out g w hb hr).mono fun e w' ⟨he, hq⟩ => ⟨_, he, rfl, hq⟩
  · refine StepOKl.of ?_
    intro ac w hb hu hk
    refine ⟨wanted_some rfl (hk ⟨22, .guard⟩ (by simp) rfl) rfl rfl (fun _ h => h), ?_⟩
    have e79 : ac.eval (.tmp 79) = (.agg KW) := (hk ⟨24, .data⟩ (by simp) rfl).is rfl rfl
    have e82 : ac.eval (.tmp 82) = (.agg KW) := (hk ⟨27, .data⟩ (by simp) rfl).is rfl rfl
    refine step_value (w' := w) (v := .bool true) ?_ (Below.refl _ _) rfl
    have hq := HQW.out w
    generalize ac.eval = ρ at e79 e82 ⊢
    go_simp
  · refine StepOKl.of ?_
    intro ac w hb hu hk
    refine ⟨wanted_none rfl, ?_⟩
    have e77 : ac.eval (.tmp 77) = (.bool true) := (hk ⟨22, .data⟩ (by simp) rfl).is rfl rfl
    have e83 : ac.eval (.tmp 83) = (.bool true) := (hk ⟨28, .data⟩ (by simp) rfl).is rfl rfl
    exact step_value (run_pick_true e77 rfl w) (Below.refl _ _) e83
  · refine StepOKl.of ?_
    intro ac w hb hu hk
    refine ⟨wanted_none rfl, ?_⟩
    have e84 : ac.eval (.tmp 84) = (.bool true) := (hk ⟨29, .data⟩ (by simp) rfl).is rfl rfl
    exact step_value (BigFrame.run_move (.tmp 84) rfl w) (Below.refl _ _) e84
  · refine StepOKl.of ?_
    intro ac w hb hu hk
    refine ⟨wanted_some rfl (hk ⟨30, .guard⟩ (by simp) rfl) rfl rfl (fun _ h => h), ?_⟩
    have e8 : ac.eval (.tmp 8) = .pointer (some ⟨g8, 0, none⟩) := hu.is (t := 8) (by kernel_rfl)
    refine step_value (w' := w) (v := (.pointer (some ⟨g8, 1, none⟩))) ?_ (Below.refl _ _) rfl
    generalize ac.eval = ρ at e8 ⊢
    go_simp
  · refine StepOKl.of ?_
    intro ac w hb hu hk
    refine ⟨wanted_some rfl (hk ⟨30, .guard⟩ (by simp) rfl) rfl rfl (fun _ h => h), ?_⟩
    have e86 : ac.eval (.tmp 86) = (.pointer (some ⟨g8, 1, none⟩)) := (hk ⟨31, .data⟩ (by simp) rfl).is rfl rfl
    exact step_value (run_load_rowC 23 (.tmp 86) rfl g8 1 e86 (Lib.byteCells (keyR k0)) _ (HG8.out w hb) Tryd.underlying23 rfl (by rw [Lib.byteCells_length, HLW.out.2.1]; kernel_rfl) HEKR.out) (Below.refl _ _) rfl
  · refine StepOKl.of ?_
    intro ac w hb hu hk
    refine ⟨wanted_some rfl (hk ⟨30, .guard⟩ (by simp) rfl) rfl rfl (fun _ h => h), ?_⟩
    have e7 : ac.eval (.tmp 7) = .pointer (some ⟨g7, 0, none⟩) := hu.is (t := 7) (by kernel_rfl)
    refine step_value (w' := w) (v := (.pointer (some ⟨g7, 1, none⟩))) ?_ (Below.refl _ _) rfl
    generalize ac.eval = ρ at e7 ⊢
    go_simp
  · refine StepOKl.of ?_
    intro ac w hb hu hk
    refine ⟨wanted_some rfl (hk ⟨30, .guard⟩ (by simp) rfl) rfl rfl (fun _ h => h), ?_⟩
    have e88 : ac.eval (.tmp 88) = (.pointer (some ⟨g7, 1, none⟩)) := (hk ⟨33, .data⟩ (by simp) rfl).is rfl rfl
    refine step_value (w' := w) (v := (.slice (some ⟨g7, 1, none⟩) 16 16)) ?_ (Below.refl _ _) rfl
    generalize ac.eval = ρ at e88 ⊢
    go_simp
  · refine StepOKl.of ?_
    intro ac w hb hu hk
    refine ⟨wanted_some rfl (hk ⟨30, .guard⟩ (by simp) rfl) rfl rfl (fun _ h => h), ?_⟩
    have e89 : ac.eval (.tmp 89) = (.slice (some ⟨g7, 1, none⟩) 16 16) := (hk ⟨34, .data⟩ (by simp) rfl).is rfl rfl
    refine step_value (w' := w.alloc (.cells #[.slice (some ⟨g7, 1, none⟩) 16 16] 26)) (v := .slice (some ⟨w.heap.size, 0, none⟩) 1 1) ?_ ((Below.refl _ _).alloc (Nat.le_refl _) _) ⟨w.heap.size, rfl, rdr_leafC w _ HLW.out.1 (Nat.le_refl _) (by decide) (HRS7.out w hb)⟩
    generalize ac.eval = ρ at e89 ⊢
    go_simp
  · refine StepOKl.of ?_
    intro ac w hb hu hk
    refine ⟨wanted_some rfl (hk ⟨30, .chain⟩ (by simp) rfl) rfl rfl (fun _ h => h), ?_⟩
    have e90 : ∃ g, ac.eval (.tmp 90) = .slice (some ⟨g, 0, none⟩) 1 1 ∧ RdR w w.heap.size (some ⟨g, 0, none⟩) [keyW k0] := (hk ⟨35, .data⟩ (by simp) rfl).is rfl rfl
    obtain ⟨g, eg, hr⟩ := e90
    have ef : ac.eval (.func 15) = .func (.func 15) #[] #[] := rfl
    have es : ac.eval (.const (.string ⟨#[114, 101, 97, 100]⟩)) = .string ⟨#[114, 101, 97, 100]⟩ := rfl
    refine step_enter (f := 15) (args := #[.string ⟨#[114, 101, 97, 100]⟩, .slice (some ⟨g, 0, none⟩) 1 1]) ?_ ?_
    · generalize ac.eval = ρ at eg es ef ⊢
      go_simp
    · exact (HSH2.out g w hb hr).mono fun e w' ⟨he, hq⟩ => ⟨_, he, rfl, hq⟩
  · refine StepOKl.of ?_
    intro ac w hb hu hk
    refine ⟨wanted_some rfl (hk ⟨30, .guard⟩ (by simp) rfl) rfl rfl (fun _ h => h), ?_⟩
    have e87 : ac.eval (.tmp 87) = (.agg KR) := (hk ⟨32, .data⟩ (by simp) rfl).is rfl rfl
    have e91 : ac.eval (.tmp 91) = (.agg KR) := (hk ⟨36, .data⟩ (by simp) rfl).is rfl rfl
    refine step_value (w' := w) (v := .bool true) ?_ (Below.refl _ _) rfl
    have hq := HQR.out w
    generalize ac.eval = ρ at e87 e91 ⊢
    go_simp
  · refine StepOKl.of ?_
    intro ac w hb hu hk
    refine ⟨wanted_none rfl, ?_⟩
    have e85 : ac.eval (.tmp 85) = (.bool true) := (hk ⟨30, .data⟩ (by simp) rfl).is rfl rfl
    have e92 : ac.eval (.tmp 92) = (.bool true) := (hk ⟨37, .data⟩ (by simp) rfl).is rfl rfl
    exact step_value (run_pick_true e85 rfl w) (Below.refl _ _) e92
  · refine StepOKl.of ?_
    intro ac w hb hu hk
    refine ⟨wanted_none rfl, ?_⟩
    have e93 : ac.eval (.tmp 93) = (.bool true) := (hk ⟨38, .data⟩ (by simp) rfl).is rfl rfl
    exact step_value (BigFrame.run_move (.tmp 93) rfl w) (Below.refl _ _) e93
  · refine StepOKl.of ?_
    intro ac w hb hu hk
    refine ⟨wanted_some rfl (hk ⟨39, .guard⟩ (by simp) rfl) rfl rfl (fun _ h => h), ?_⟩
    have e10 : ac.eval (.tmp 10) = .pointer (some ⟨g10, 0, none⟩) := hu.is (t := 10) (by kernel_rfl)
    refine step_value (w' := w) (v := (.pointer (some ⟨g10, 1, none⟩))) ?_ (Below.refl _ _) rfl
    generalize ac.eval = ρ at e10 ⊢
    go_simp
  · refine StepOKl.of ?_
    intro ac w hb hu hk
    refine ⟨wanted_some rfl (hk ⟨39, .guard⟩ (by simp) rfl) rfl rfl (fun _ h => h), ?_⟩
    have e95 : ac.eval (.tmp 95) = (.pointer (some ⟨g10, 1, none⟩)) := (hk ⟨40, .data⟩ (by simp) rfl).is rfl rfl
    exact step_value (run_load_rowC 23 (.tmp 95) rfl g10 1 e95 (Lib.byteCells (keyI k0)) _ (HG10.out w hb) Tryd.underlying23 rfl (by rw [Lib.byteCells_length, HLW.out.2.2]; kernel_rfl) HEKI.out) (Below.refl _ _) rfl
  · refine StepOKl.of ?_
    intro ac w hb hu hk
    refine ⟨wanted_some rfl (hk ⟨39, .guard⟩ (by simp) rfl) rfl rfl (fun _ h => h), ?_⟩
    have e8 : ac.eval (.tmp 8) = .pointer (some ⟨g8, 0, none⟩) := hu.is (t := 8) (by kernel_rfl)
    refine step_value (w' := w) (v := (.pointer (some ⟨g8, 1, none⟩))) ?_ (Below.refl _ _) rfl
    generalize ac.eval = ρ at e8 ⊢
    go_simp
  · refine StepOKl.of ?_
    intro ac w hb hu hk
    refine ⟨wanted_some rfl (hk ⟨39, .guard⟩ (by simp) rfl) rfl rfl (fun _ h => h), ?_⟩
    have e97 : ac.eval (.tmp 97) = (.pointer (some ⟨g8, 1, none⟩)) := (hk ⟨42, .data⟩ (by simp) rfl).is rfl rfl
    refine step_value (w' := w) (v := (.slice (some ⟨g8, 1, none⟩) 16 16)) ?_ (Below.refl _ _) rfl
    generalize ac.eval = ρ at e97 ⊢
    go_simp
  · refine StepOKl.of ?_
    intro ac w hb hu hk
    refine ⟨wanted_some rfl (hk ⟨39, .guard⟩ (by simp) rfl) rfl rfl (fun _ h => h), ?_⟩
    have e98 : ac.eval (.tmp 98) = (.slice (some ⟨g8, 1, none⟩) 16 16) := (hk ⟨43, .data⟩ (by simp) rfl).is rfl rfl
    refine step_value (w' := w.alloc (.cells #[.slice (some ⟨g8, 1, none⟩) 16 16] 26)) (v := .slice (some ⟨w.heap.size, 0, none⟩) 1 1) ?_ ((Below.refl _ _).alloc (Nat.le_refl _) _) ⟨w.heap.size, rfl, rdr_leafC w _ HLW.out.2.1 (Nat.le_refl _) (by decide) (HRS8.out w hb)⟩
    generalize ac.eval = ρ at e98 ⊢
    go_simp
  · refine StepOKl.of ?_
    intro ac w hb hu hk
    refine ⟨wanted_some rfl (hk ⟨39, .chain⟩ (by simp) rfl) rfl rfl (fun _ h => h), ?_⟩
    have e99 : ∃ g, ac.eval (.tmp 99) = .slice (some ⟨g, 0, none⟩) 1 1 ∧ RdR w w.heap.size (some ⟨g, 0, none⟩) [keyR k0] := (hk ⟨44, .data⟩ (by simp) rfl).is rfl rfl
    obtain ⟨g, eg, hr⟩ := e99
    have ef : ac.eval (.func 15) = .func (.func 15) #[] #[] := rfl
    have es : ac.eval (.const (.string ⟨#[105, 110, 100, 101, 120]⟩)) = .string ⟨#[105, 110, 100, 101, 120]⟩ := rfl
    refine step_enter (f := 15) (args := #[.string ⟨#[105, 110, 100, 101, 120]⟩, .slice (some ⟨g, 0, none⟩) 1 1]) ?_ ?_
    · generalize ac.eval = ρ at eg es ef ⊢
      go_simp
    · exact (HSH3.out g w hb hr).mono fun e w' ⟨he, hq⟩ => ⟨_, he, rfl, hq⟩
  · refine StepOKl.of ?_
    intro ac w hb hu hk
    refine ⟨wanted_some rfl (hk ⟨39, .guard⟩ (by simp) rfl) rfl rfl (fun _ h => h), ?_⟩
    have e96 : ac.eval (.tmp 96) = (.agg KI) := (hk ⟨41, .data⟩ (by simp) rfl).is rfl rfl
    have e100 : ac.eval (.tmp 100) = (.agg KI) := (hk ⟨45, .data⟩ (by simp) rfl).is rfl rfl
    refine step_value (w' := w) (v := .bool true) ?_ (Below.refl _ _) rfl
    have hq := HQI.out w
    generalize ac.eval = ρ at e96 e100 ⊢
    go_simp
  · refine StepOKl.of ?_
    intro ac w hb hu hk
    refine ⟨wanted_none rfl, ?_⟩
    have e94 : ac.eval (.tmp 94) = (.bool true) := (hk ⟨39, .data⟩ (by simp) rfl).is rfl rfl
    have e101 : ac.eval (.tmp 101) = (.bool true) := (hk ⟨46, .data⟩ (by simp) rfl).is rfl rfl
    exact step_value (run_pick_true e94 rfl w) (Below.refl _ _) e101
  · refine StepOKl.of ?_
    intro ac w hb hu hk
    refine ⟨wanted_none rfl, ?_⟩
    have e102 : ac.eval (.tmp 102) = (.bool true) := (hk ⟨47, .data⟩ (by simp) rfl).is rfl rfl
    exact step_value (BigFrame.run_move (.tmp 102) rfl w) (Below.refl _ _) e102
  · refine StepOKl.of ?_
    intro ac w hb hu hk
    refine ⟨wanted_some rfl (hk ⟨48, .guard⟩ (by simp) rfl) rfl rfl (fun _ h => h), ?_⟩
    have e14 : ac.eval (.tmp 14) = .pointer (some ⟨i14, 0, none⟩) := hu.is (t := 14) (by kernel_rfl)
    exact wp_load_row 23 (.tmp 14) rfl i14 e14 23 KI (0, 0) _ (HB14.out w hb) Tryd.underlying23 rfl (by rw [HZKI.out]; kernel_rfl) ⟨_, rfl, rfl, Below.refl _ _⟩
  · refine StepOKl.of ?_
    intro ac w hb hu hk
    refine ⟨wanted_some rfl (hk ⟨48, .guard⟩ (by simp) rfl) rfl rfl (fun _ h => h), ?_⟩
    have e10 : ac.eval (.tmp 10) = .pointer (some ⟨g10, 0, none⟩) := hu.is (t := 10) (by kernel_rfl)
    refine step_value (w' := w) (v := (.pointer (some ⟨g10, 1, none⟩))) ?_ (Below.refl _ _) rfl
    generalize ac.eval = ρ at e10 ⊢
    go_simp
  · refine StepOKl.of ?_
    intro ac w hb hu hk
    refine ⟨wanted_some rfl (hk ⟨48, .guard⟩ (by simp) rfl) rfl rfl (fun _ h => h), ?_⟩
    have e105 : ac.eval (.tmp 105) = (.pointer (some ⟨g10, 1, none⟩)) := (hk ⟨50, .data⟩ (by simp) rfl).is rfl rfl
    exact step_value (run_load_rowC 23 (.tmp 105) rfl g10 1 e105 (Lib.byteCells (keyI k0)) _ (HG10.out w hb) Tryd.underlying23 rfl (by rw [Lib.byteCells_length, HLW.out.2.2]; kernel_rfl) HEKI.out) (Below.refl _ _) rfl
  · refine StepOKl.of ?_
    intro ac w hb hu hk
    refine ⟨wanted_some rfl (hk ⟨48, .guard⟩ (by simp) rfl) rfl rfl (fun _ h => h), ?_⟩
    have e104 : ac.eval (.tmp 104) = (.agg KI) := (hk ⟨49, .data⟩ (by simp) rfl).is rfl rfl
    have e106 : ac.eval (.tmp 106) = (.agg KI) := (hk ⟨51, .data⟩ (by simp) rfl).is rfl rfl
    refine step_value (w' := w) (v := .bool true) ?_ (Below.refl _ _) rfl
    have hq := HQI.out w
    generalize ac.eval = ρ at e104 e106 ⊢
    go_simp
  · refine StepOKl.of ?_
    intro ac w hb hu hk
    refine ⟨wanted_none rfl, ?_⟩
    have e103 : ac.eval (.tmp 103) = (.bool true) := (hk ⟨48, .data⟩ (by simp) rfl).is rfl rfl
    have e107 : ac.eval (.tmp 107) = (.bool true) := (hk ⟨52, .data⟩ (by simp) rfl).is rfl rfl
    exact step_value (run_pick_true e103 rfl w) (Below.refl _ _) e107
  · refine StepOKl.of ?_
    intro ac w hb hu hk
    refine ⟨wanted_none rfl, ?_⟩
    have e108 : ac.eval (.tmp 108) = (.bool true) := (hk ⟨53, .data⟩ (by simp) rfl).is rfl rfl
    exact step_value (BigFrame.run_move (.tmp 108) rfl w) (Below.refl _ _) e108
  · refine StepOKl.of ?_
    intro ac w hb hu hk
    refine ⟨wanted_some rfl (hk ⟨54, .guard⟩ (by simp) rfl) rfl rfl (fun _ h => h), ?_⟩
    have e16 : ac.eval (.tmp 16) = .pointer (some ⟨i16, 0, none⟩) := hu.is (t := 16) (by kernel_rfl)
    exact wp_load_row 23 (.tmp 16) rfl i16 e16 23 KE (0, 0) _ (HB16.out w hb) Tryd.underlying23 rfl (by rw [HZKE.out]; kernel_rfl) ⟨_, rfl, rfl, Below.refl _ _⟩
  · refine StepOKl.of ?_
    intro ac w hb hu hk
    refine ⟨wanted_some rfl (hk ⟨54, .guard⟩ (by simp) rfl) rfl rfl (fun _ h => h), ?_⟩
    have e18 : ac.eval (.tmp 18) = .pointer (some ⟨i18, 0, none⟩) := hu.is (t := 18) (by kernel_rfl)
    exact wp_load_row 23 (.tmp 18) rfl i18 e18 23 KE (0, 0) _ (HB18.out w hb) Tryd.underlying23 rfl (by rw [HZKE.out]; kernel_rfl) ⟨_, rfl, rfl, Below.refl _ _⟩
  · refine StepOKl.of ?_
    intro ac w hb hu hk
    refine ⟨wanted_some rfl (hk ⟨54, .guard⟩ (by simp) rfl) rfl rfl (fun _ h => h), ?_⟩
    have e110 : ac.eval (.tmp 110) = (.agg KE) := (hk ⟨55, .data⟩ (by simp) rfl).is rfl rfl
    have e111 : ac.eval (.tmp 111) = (.agg KE) := (hk ⟨56, .data⟩ (by simp) rfl).is rfl rfl
    refine step_value (w' := w) (v := .bool true) ?_ (Below.refl _ _) rfl
    have hq := HQE.out w
    generalize ac.eval = ρ at e110 e111 ⊢
    go_simp
  · refine StepOKl.of ?_
    intro ac w hb hu hk
    refine ⟨wanted_none rfl, ?_⟩
    have e109 : ac.eval (.tmp 109) = (.bool true) := (hk ⟨54, .data⟩ (by simp) rfl).is rfl rfl
    have e112 : ac.eval (.tmp 112) = (.bool true) := (hk ⟨57, .data⟩ (by simp) rfl).is rfl rfl
    exact step_value (run_pick_true e109 rfl w) (Below.refl _ _) e112
  · refine StepOKl.of ?_
    intro ac w hb hu hk
    refine ⟨wanted_none rfl, ?_⟩
    have e113 : ac.eval (.tmp 113) = (.bool true) := (hk ⟨58, .data⟩ (by simp) rfl).is rfl rfl
    exact step_value (BigFrame.run_move (.tmp 113) rfl w) (Below.refl _ _) e113
  · refine StepOKl.of ?_
    intro ac w hb hu hk
    refine ⟨wanted_some rfl (hk ⟨59, .guard⟩ (by simp) rfl) rfl rfl (fun _ h => h), ?_⟩
    have e12 : ac.eval (.tmp 12) = .pointer (some ⟨g12, 0, none⟩) := hu.is (t := 12) (by kernel_rfl)
    refine step_value (w' := w) (v := (.pointer (some ⟨g12, 0, none⟩))) ?_ (Below.refl _ _) rfl
    generalize ac.eval = ρ at e12 ⊢
    go_simp
  · refine StepOKl.of ?_
    intro ac w hb hu hk
    refine ⟨wanted_some rfl (hk ⟨59, .guard⟩ (by simp) rfl) rfl rfl (fun _ h => h), ?_⟩
    have e115 : ac.eval (.tmp 115) = (.pointer (some ⟨g12, 0, none⟩)) := (hk ⟨60, .data⟩ (by simp) rfl).is rfl rfl
    have hc := HC12.out w hb
    refine step_value (w' := w) (v := .int .i64 7) ?_ (Below.refl _ _) rfl
    generalize ac.eval = ρ at e115 ⊢
    go_simp
  · refine StepOKl.of ?_
    intro ac w hb hu hk
    refine ⟨wanted_some rfl (hk ⟨59, .guard⟩ (by simp) rfl) rfl rfl (fun _ h => h), ?_⟩
    have e116 : ac.eval (.tmp 116) = (.int .i64 7) := (hk ⟨61, .data⟩ (by simp) rfl).is rfl rfl
    refine step_value (w' := w) (v := (.bool true)) ?_ (Below.refl _ _) rfl
    have ec0 : ac.eval (.const (Value.int IntKind.i64 7)) = Value.int IntKind.i64 7 := rfl
    generalize ac.eval = ρ at e116 ec0 ⊢
    go_simp
  · refine StepOKl.of ?_
    intro ac w hb hu hk
    refine ⟨wanted_none rfl, ?_⟩
    have e114 : ac.eval (.tmp 114) = (.bool true) := (hk ⟨59, .data⟩ (by simp) rfl).is rfl rfl
    have e117 : ac.eval (.tmp 117) = (.bool true) := (hk ⟨62, .data⟩ (by simp) rfl).is rfl rfl
    exact step_value (run_pick_true e114 rfl w) (Below.refl _ _) e117
  · refine StepOKl.of ?_
    intro ac w hb hu hk
    refine ⟨wanted_none rfl, ?_⟩
    have e118 : ac.eval (.tmp 118) = (.bool true) := (hk ⟨63, .data⟩ (by simp) rfl).is rfl rfl
    exact step_value (BigFrame.run_move (.tmp 118) rfl w) (Below.refl _ _) e118
  · refine StepOKl.of ?_
    intro ac w hb hu hk
    refine ⟨wanted_some rfl (hk ⟨64, .guard⟩ (by simp) rfl) rfl rfl (fun _ h => h), ?_⟩
    have e8 : ac.eval (.tmp 8) = .pointer (some ⟨g8, 0, none⟩) := hu.is (t := 8) (by kernel_rfl)
    refine step_value (w' := w) (v := (.pointer (some ⟨g8, 0, none⟩))) ?_ (Below.refl _ _) rfl
    generalize ac.eval = ρ at e8 ⊢
    go_simp
  · refine StepOKl.of ?_
    intro ac w hb hu hk
    refine ⟨wanted_some rfl (hk ⟨64, .guard⟩ (by simp) rfl) rfl rfl (fun _ h => h), ?_⟩
    have e120 : ac.eval (.tmp 120) = (.pointer (some ⟨g8, 0, none⟩)) := (hk ⟨65, .data⟩ (by simp) rfl).is rfl rfl
    have hc := HC8.out w hb
    refine step_value (w' := w) (v := .int .i64 5) ?_ (Below.refl _ _) rfl
    generalize ac.eval = ρ at e120 ⊢
    go_simp
  · refine StepOKl.of ?_
    intro ac w hb hu hk
    refine ⟨wanted_some rfl (hk ⟨64, .guard⟩ (by simp) rfl) rfl rfl (fun _ h => h), ?_⟩
    have e121 : ac.eval (.tmp 121) = (.int .i64 5) := (hk ⟨66, .data⟩ (by simp) rfl).is rfl rfl
    refine step_value (w' := w) (v := (.bool true)) ?_ (Below.refl _ _) rfl
    have ec0 : ac.eval (.const (Value.int IntKind.i64 5)) = Value.int IntKind.i64 5 := rfl
    generalize ac.eval = ρ at e121 ec0 ⊢
    go_simp
  · refine StepOKl.of ?_
    intro ac w hb hu hk
    refine ⟨wanted_none rfl, ?_⟩
    have e119 : ac.eval (.tmp 119) = (.bool true) := (hk ⟨64, .data⟩ (by simp) rfl).is rfl rfl
    have e122 : ac.eval (.tmp 122) = (.bool true) := (hk ⟨67, .data⟩ (by simp) rfl).is rfl rfl
    exact step_value (run_pick_true e119 rfl w) (Below.refl _ _) e122
  · refine StepOKl.of ?_
    intro ac w hb hu hk
    refine ⟨wanted_none rfl, ?_⟩
    have e123 : ac.eval (.tmp 123) = (.bool true) := (hk ⟨68, .data⟩ (by simp) rfl).is rfl rfl
    exact step_value (BigFrame.run_move (.tmp 123) rfl w) (Below.refl _ _) e123
  · refine StepOKl.of ?_
    intro ac w hb hu hk
    refine ⟨wanted_some rfl (hk ⟨69, .guard⟩ (by simp) rfl) rfl rfl (fun _ h => h), ?_⟩
    have e10 : ac.eval (.tmp 10) = .pointer (some ⟨g10, 0, none⟩) := hu.is (t := 10) (by kernel_rfl)
    refine step_value (w' := w) (v := (.pointer (some ⟨g10, 0, none⟩))) ?_ (Below.refl _ _) rfl
    generalize ac.eval = ρ at e10 ⊢
    go_simp
  · refine StepOKl.of ?_
    intro ac w hb hu hk
    refine ⟨wanted_some rfl (hk ⟨69, .guard⟩ (by simp) rfl) rfl rfl (fun _ h => h), ?_⟩
    have e125 : ac.eval (.tmp 125) = (.pointer (some ⟨g10, 0, none⟩)) := (hk ⟨70, .data⟩ (by simp) rfl).is rfl rfl
    have hc := HC10.out w hb
    refine step_value (w' := w) (v := .int .i64 6) ?_ (Below.refl _ _) rfl
    generalize ac.eval = ρ at e125 ⊢
    go_simp
  · refine StepOKl.of ?_
    intro ac w hb hu hk
    refine ⟨wanted_some rfl (hk ⟨69, .guard⟩ (by simp) rfl) rfl rfl (fun _ h => h), ?_⟩
    have e126 : ac.eval (.tmp 126) = (.int .i64 6) := (hk ⟨71, .data⟩ (by simp) rfl).is rfl rfl
    refine step_value (w' := w) (v := (.bool true)) ?_ (Below.refl _ _) rfl
    have ec0 : ac.eval (.const (Value.int IntKind.i64 6)) = Value.int IntKind.i64 6 := rfl
    generalize ac.eval = ρ at e126 ec0 ⊢
    go_simp
  · refine StepOKl.of ?_
    intro ac w hb hu hk
    refine ⟨wanted_none rfl, ?_⟩
    have e124 : ac.eval (.tmp 124) = (.bool true) := (hk ⟨69, .data⟩ (by simp) rfl).is rfl rfl
    have e127 : ac.eval (.tmp 127) = (.bool true) := (hk ⟨72, .data⟩ (by simp) rfl).is rfl rfl
    exact step_value (run_pick_true e124 rfl w) (Below.refl _ _) e127
  · refine StepOKl.of ?_
    intro ac w hb hu hk
    refine ⟨wanted_none rfl, ?_⟩
    have e128 : ac.eval (.tmp 128) = (.bool true) := (hk ⟨73, .data⟩ (by simp) rfl).is rfl rfl
    exact step_value (BigFrame.run_move (.tmp 128) rfl w) (Below.refl _ _) e128
  · refine StepOKl.of ?_
    intro ac w hb hu hk
    refine ⟨wanted_some rfl (hk ⟨74, .guard⟩ (by simp) rfl) rfl rfl (fun _ h => h), ?_⟩
    have e10 : ac.eval (.tmp 10) = .pointer (some ⟨g10, 0, none⟩) := hu.is (t := 10) (by kernel_rfl)
    refine step_value (w' := w) (v := (.pointer (some ⟨g10, 17, none⟩))) ?_ (Below.refl _ _) rfl
    generalize ac.eval = ρ at e10 ⊢
    go_simp
  · refine StepOKl.of ?_
    intro ac w hb hu hk
    refine ⟨wanted_some rfl (hk ⟨74, .guard⟩ (by simp) rfl) rfl rfl (fun _ h => h), ?_⟩
    have e130 : ac.eval (.tmp 130) = (.pointer (some ⟨g10, 17, none⟩)) := (hk ⟨75, .data⟩ (by simp) rfl).is rfl rfl
    exact step_value (run_load_rowC 25 (.tmp 130) rfl g10 17 e130 (Lib.byteCells k1) _ (HF10.out w hb) Tryd.underlying25 rfl (by rw [Lib.byteCells_length, HLE.out.2.1]; kernel_rfl) HEFP.out) (Below.refl _ _) rfl
  · refine StepOKl.of ?_
    intro ac w hb hu hk
    refine ⟨wanted_some rfl (hk ⟨74, .guard⟩ (by simp) rfl) rfl rfl (fun _ h => h), ?_⟩
    have e4 : ac.eval (.tmp 4) = .pointer (some ⟨g4, 0, none⟩) := hu.is (t := 4) (by kernel_rfl)
    exact wp_load_row 25 (.tmp 4) rfl g4 e4 25 FP (0, 0) _ (HB4.out w hb) Tryd.underlying25 rfl (by rw [HZFP.out]; kernel_rfl) ⟨_, rfl, rfl, Below.refl _ _⟩
  · refine StepOKl.of ?_
    intro ac w hb hu hk
    refine ⟨wanted_some rfl (hk ⟨74, .guard⟩ (by simp) rfl) rfl rfl (fun _ h => h), ?_⟩
    have e131 : ac.eval (.tmp 131) = (.agg FP) := (hk ⟨76, .data⟩ (by simp) rfl).is rfl rfl
    have e132 : ac.eval (.tmp 132) = (.agg FP) := (hk ⟨77, .data⟩ (by simp) rfl).is rfl rfl
    refine step_value (w' := w) (v := .bool true) ?_ (Below.refl _ _) rfl
    have hq := HQFP.out w
    generalize ac.eval = ρ at e131 e132 ⊢
    go_simp
  · refine StepOKl.of ?_
    intro ac w hb hu hk
    refine ⟨wanted_none rfl, ?_⟩
    have e129 : ac.eval (.tmp 129) = (.bool true) := (hk ⟨74, .data⟩ (by simp) rfl).is rfl rfl
    have e133 : ac.eval (.tmp 133) = (.bool true) := (hk ⟨78, .data⟩ (by simp) rfl).is rfl rfl
    exact step_value (run_pick_true e129 rfl w) (Below.refl _ _) e133
  · refine StepOKl.of ?_
    intro ac w hb hu hk
    refine ⟨wanted_none rfl, ?_⟩
    have e134 : ac.eval (.tmp 134) = (.bool true) := (hk ⟨79, .data⟩ (by simp) rfl).is rfl rfl
    exact step_value (BigFrame.run_move (.tmp 134) rfl w) (Below.refl _ _) e134
  · refine StepOKl.of ?_
    intro ac w hb hu hk
    refine ⟨wanted_some rfl (hk ⟨80, .chain⟩ (by simp) rfl) rfl rfl (fun _ h => h), ?_⟩
    have ef : ac.eval (.func 16) = .func (.func 16) #[] #[] := rfl
    refine step_enter (f := 16) (args := #[]) ?_ ?_
    · generalize ac.eval = ρ at  ef ⊢
      go_simp
    · exact (HWK.out w hb).mono fun e w' ⟨he, hq⟩ => ⟨_, he, rfl, hq⟩
  · refine StepOKl.of ?_
    intro ac w hb hu hk
    refine ⟨wanted_none rfl, ?_⟩
    have e135 : ac.eval (.tmp 135) = (.bool true) := (hk ⟨80, .data⟩ (by simp) rfl).is rfl rfl
    have e136 : ac.eval (.tmp 136) = (.bool true) := (hk ⟨81, .data⟩ (by simp) rfl).is rfl rfl
    exact step_value (run_pick_true e135 rfl w) (Below.refl _ _) e136
  · refine StepOKl.of ?_
    intro ac w hb hu hk
    refine ⟨wanted_none rfl, ?_⟩
    have e137 : ac.eval (.tmp 137) = (.bool true) := (hk ⟨82, .data⟩ (by simp) rfl).is rfl rfl
    exact step_value (BigFrame.run_assign (.tmp 137) rfl w) (Below.refl _ _) e137
  · intro ac w' hb hu hk hap
    obtain ⟨_, h6, rfl⟩ := (hk 83 (by decide)).put rfl rfl
    obtain ⟨_, h55, rfl⟩ := (hk 0 (by decide)).put rfl rfl
    obtain ⟨_, h56, rfl⟩ := (hk 1 (by decide)).put rfl rfl
    obtain ⟨_, h57, rfl⟩ := (hk 2 (by decide)).put rfl rfl
    obtain ⟨_, h58, rfl⟩ := (hk 3 (by decide)).put rfl rfl
    obtain ⟨_, h59, rfl⟩ := (hk 4 (by decide)).put rfl rfl
    obtain ⟨_, h60, rfl⟩ := (hk 5 (by decide)).put rfl rfl
    obtain ⟨_, h61, rfl⟩ := (hk 6 (by decide)).put rfl rfl
    obtain ⟨_, h62, rfl⟩ := (hk 7 (by decide)).put rfl rfl
    obtain ⟨_, h63, rfl⟩ := (hk 8 (by decide)).put rfl rfl
    obtain ⟨_, h64, rfl⟩ := (hk 9 (by decide)).put rfl rfl
    obtain ⟨_, h65, rfl⟩ := (hk 10 (by decide)).put rfl rfl
    obtain ⟨_, h66, rfl⟩ := (hk 11 (by decide)).put rfl rfl
    obtain ⟨_, h67, rfl⟩ := (hk 12 (by decide)).put rfl rfl
    obtain ⟨_, h68, rfl⟩ := (hk 13 (by decide)).put rfl rfl
    obtain ⟨_, h69, rfl⟩ := (hk 14 (by decide)).put rfl rfl
    obtain ⟨_, h70, rfl⟩ := (hk 15 (by decide)).put rfl rfl
    obtain ⟨_, h71, rfl⟩ := (hk 16 (by decide)).put rfl rfl
    obtain ⟨_, h72, rfl⟩ := (hk 17 (by decide)).put rfl rfl
    obtain ⟨_, h73, rfl⟩ := (hk 18 (by decide)).put rfl rfl
    obtain ⟨_, h74, rfl⟩ := (hk 19 (by decide)).put rfl rfl
    obtain ⟨_, h75, rfl⟩ := (hk 20 (by decide)).put rfl rfl
    obtain ⟨_, h76, rfl⟩ := (hk 21 (by decide)).put rfl rfl
    obtain ⟨_, h77, rfl⟩ := (hk 22 (by decide)).put rfl rfl
    obtain ⟨_, h78, rfl⟩ := (hk 23 (by decide)).put rfl rfl
    obtain ⟨_, h79, rfl⟩ := (hk 24 (by decide)).put rfl rfl
    obtain ⟨_, h80, rfl⟩ := (hk 25 (by decide)).put rfl rfl
    obtain ⟨_, h81, ⟨g81, rfl, hG81⟩⟩ := (hk 26 (by decide)).put rfl rfl
    obtain ⟨_, h82, rfl⟩ := (hk 27 (by decide)).put rfl rfl
    obtain ⟨_, h83, rfl⟩ := (hk 28 (by decide)).put rfl rfl
    obtain ⟨_, h84, rfl⟩ := (hk 29 (by decide)).put rfl rfl
    obtain ⟨_, h85, rfl⟩ := (hk 30 (by decide)).put rfl rfl
    obtain ⟨_, h86, rfl⟩ := (hk 31 (by decide)).put rfl rfl
    obtain ⟨_, h87, rfl⟩ := (hk 32 (by decide)).put rfl rfl
    obtain ⟨_, h88, rfl⟩ := (hk 33 (by decide)).put rfl rfl
    obtain ⟨_, h89, rfl⟩ := (hk 34 (by decide)).put rfl rfl
    obtain ⟨_, h90, ⟨g90, rfl, hG90⟩⟩ := (hk 35 (by decide)).put rfl rfl
    obtain ⟨_, h91, rfl⟩ := (hk 36 (by decide)).put rfl rfl
    obtain ⟨_, h92, rfl⟩ := (hk 37 (by decide)).put rfl rfl
    obtain ⟨_, h93, rfl⟩ := (hk 38 (by decide)).put rfl rfl
    obtain ⟨_, h94, rfl⟩ := (hk 39 (by decide)).put rfl rfl
    obtain ⟨_, h95, rfl⟩ := (hk 40 (by decide)).put rfl rfl
    obtain ⟨_, h96, rfl⟩ := (hk 41 (by decide)).put rfl rfl
    obtain ⟨_, h97, rfl⟩ := (hk 42 (by decide)).put rfl rfl
    obtain ⟨_, h98, rfl⟩ := (hk 43 (by decide)).put rfl rfl
    obtain ⟨_, h99, ⟨g99, rfl, hG99⟩⟩ := (hk 44 (by decide)).put rfl rfl
    obtain ⟨_, h100, rfl⟩ := (hk 45 (by decide)).put rfl rfl
    obtain ⟨_, h101, rfl⟩ := (hk 46 (by decide)).put rfl rfl
    obtain ⟨_, h102, rfl⟩ := (hk 47 (by decide)).put rfl rfl
    obtain ⟨_, h103, rfl⟩ := (hk 48 (by decide)).put rfl rfl
    obtain ⟨_, h104, rfl⟩ := (hk 49 (by decide)).put rfl rfl
    obtain ⟨_, h105, rfl⟩ := (hk 50 (by decide)).put rfl rfl
    obtain ⟨_, h106, rfl⟩ := (hk 51 (by decide)).put rfl rfl
    obtain ⟨_, h107, rfl⟩ := (hk 52 (by decide)).put rfl rfl
    obtain ⟨_, h108, rfl⟩ := (hk 53 (by decide)).put rfl rfl
    obtain ⟨_, h109, rfl⟩ := (hk 54 (by decide)).put rfl rfl
    obtain ⟨_, h110, rfl⟩ := (hk 55 (by decide)).put rfl rfl
    obtain ⟨_, h111, rfl⟩ := (hk 56 (by decide)).put rfl rfl
    obtain ⟨_, h112, rfl⟩ := (hk 57 (by decide)).put rfl rfl
    obtain ⟨_, h113, rfl⟩ := (hk 58 (by decide)).put rfl rfl
    obtain ⟨_, h114, rfl⟩ := (hk 59 (by decide)).put rfl rfl
    obtain ⟨_, h115, rfl⟩ := (hk 60 (by decide)).put rfl rfl
    obtain ⟨_, h116, rfl⟩ := (hk 61 (by decide)).put rfl rfl
    obtain ⟨_, h117, rfl⟩ := (hk 62 (by decide)).put rfl rfl
    obtain ⟨_, h118, rfl⟩ := (hk 63 (by decide)).put rfl rfl
    obtain ⟨_, h119, rfl⟩ := (hk 64 (by decide)).put rfl rfl
    obtain ⟨_, h120, rfl⟩ := (hk 65 (by decide)).put rfl rfl
    obtain ⟨_, h121, rfl⟩ := (hk 66 (by decide)).put rfl rfl
    obtain ⟨_, h122, rfl⟩ := (hk 67 (by decide)).put rfl rfl
    obtain ⟨_, h123, rfl⟩ := (hk 68 (by decide)).put rfl rfl
    obtain ⟨_, h124, rfl⟩ := (hk 69 (by decide)).put rfl rfl
    obtain ⟨_, h125, rfl⟩ := (hk 70 (by decide)).put rfl rfl
    obtain ⟨_, h126, rfl⟩ := (hk 71 (by decide)).put rfl rfl
    obtain ⟨_, h127, rfl⟩ := (hk 72 (by decide)).put rfl rfl
    obtain ⟨_, h128, rfl⟩ := (hk 73 (by decide)).put rfl rfl
    obtain ⟨_, h129, rfl⟩ := (hk 74 (by decide)).put rfl rfl
    obtain ⟨_, h130, rfl⟩ := (hk 75 (by decide)).put rfl rfl
    obtain ⟨_, h131, rfl⟩ := (hk 76 (by decide)).put rfl rfl
    obtain ⟨_, h132, rfl⟩ := (hk 77 (by decide)).put rfl rfl
    obtain ⟨_, h133, rfl⟩ := (hk 78 (by decide)).put rfl rfl
    obtain ⟨_, h134, rfl⟩ := (hk 79 (by decide)).put rfl rfl
    obtain ⟨_, h135, rfl⟩ := (hk 80 (by decide)).put rfl rfl
    obtain ⟨_, h136, rfl⟩ := (hk 81 (by decide)).put rfl rfl
    obtain ⟨_, h137, rfl⟩ := (hk 82 (by decide)).put rfl rfl
    clear hap
    have hF : AllPuts ac.tmps ((6, _) :: (55, _) :: (56, _) :: (57, _) :: (58, _) :: (59, _) :: (60, _) :: (61, _) :: (62, _) :: (63, _) :: (64, _) :: (65, _) :: (66, _) :: (67, _) :: (68, _) :: (69, _) :: (70, _) :: (71, _) :: (72, _) :: (73, _) :: (74, _) :: (75, _) :: (76, _) :: (77, _) :: (78, _) :: (79, _) :: (80, _) :: (81, _) :: (82, _) :: (83, _) :: (84, _) :: (85, _) :: (86, _) :: (87, _) :: (88, _) :: (89, _) :: (90, _) :: (91, _) :: (92, _) :: (93, _) :: (94, _) :: (95, _) :: (96, _) :: (97, _) :: (98, _) :: (99, _) :: (100, _) :: (101, _) :: (102, _) :: (103, _) :: (104, _) :: (105, _) :: (106, _) :: (107, _) :: (108, _) :: (109, _) :: (110, _) :: (111, _) :: (112, _) :: (113, _) :: (114, _) :: (115, _) :: (116, _) :: (117, _) :: (118, _) :: (119, _) :: (120, _) :: (121, _) :: (122, _) :: (123, _) :: (124, _) :: (125, _) :: (126, _) :: (127, _) :: (128, _) :: (129, _) :: (130, _) :: (131, _) :: (132, _) :: (133, _) :: (134, _) :: (135, _) :: (136, _) :: (137, _) :: []) := ⟨h6, h55, h56, h57, h58, h59, h60, h61, h62, h63, h64, h65, h66, h67, h68, h69, h70, h71, h72, h73, h74, h75, h76, h77, h78, h79, h80, h81, h82, h83, h84, h85, h86, h87, h88, h89, h90, h91, h92, h93, h94, h95, h96, h97, h98, h99, h100, h101, h102, h103, h104, h105, h106, h107, h108, h109, h110, h111, h112, h113, h114, h115, h116, h117, h118, h119, h120, h121, h122, h123, h124, h125, h126, h127, h128, h129, h130, h131, h132, h133, h134, h135, h136, h137, trivial⟩
    obtain rfl := frame_puts hu (by kernel_rfl) hF
    simp only [puts, Act.put, List.setIfInBounds_toArray, List.set_cons_zero, List.set_cons_succ]
    clear hk hu hF h6 h55 h56 h57 h58 h59 h60 h61 h62 h63 h64 h65 h66 h67 h68 h69 h70 h71 h72 h73 h74 h75 h76 h77 h78 h79 h80 h81 h82 h83 h84 h85 h86 h87 h88 h89 h90 h91 h92 h93 h94 h95 h96 h97 h98 h99 h100 h101 h102 h103 h104 h105 h106 h107 h108 h109 h110 h111 h112 h113 h114 h115 h116 h117 h118 h119 h120 h121 h122 h123 h124 h125 h126 h127 h128 h129 h130 h131 h132 h133 h134 h135 h136 h137
    have hfin := HSd.out.bel.trans (hb.mono HSd.out.bel.size)
    clear hb
    change wpList _ _ _ [] _ _
    go_wp2_with fail
    go_ret
    exact ⟨by first | rfl | kernel_rfl, hfin⟩

set_option maxRecDepth 100000 in
theorem contract (H : Type) (enc : TypeId × Value → H) (W : World) (base : Nat) (args : Array Value) (ds gs : List (DataW H)) (before : List MemPlace)
    (hval : ∀ (j : Nat) t v, Tryd.f3.params[j]? = some t → args[j]? = some v → Value.okWide Tryd.prog W .any base t v)
    (hW : DataW.Whole enc Tryd.prog Tryd.f3.params.toList Rows.capsKeysSpec.vars false W args.toList ds gs before) (hL : laidMetH Tryd.prog Rows.capsKeysRow.laid W) :
    Calls Tryd.prog 3 args W fun e W' => ∃ v, e = .returned v ∧ Rows.capsKeysSpec.post enc Tryd.prog Tryd.f3 false true false false W args v W' := by
  have hW' := hW
  obtain ⟨p, q, hA0, hV, rfl, hfz, hnd⟩ := hW
  have hA : DataW.TrodAll enc Tryd.prog W 0 (fun _ => true) true Tryd.f3.params.toList args.toList ds p := hA0
  rw [Tryd.params3] at hA hval
  obtain ⟨v0, v1, v2, d0, d1, d2, p0, p1, p2, rfl, rfl, rfl, h0, h1, h2⟩ := trodAll_three hA
  obtain ⟨rfl, rfl⟩ := trodVars_none hV
  obtain ⟨k0, rfl, hk0⟩ := open_array Tryd.underlying23 (by kernel_rfl) (hval 0 23 v0 rfl rfl) h0
  obtain ⟨k1, rfl, hk1⟩ := open_array Tryd.underlying25 (by kernel_rfl) (hval 1 25 v1 rfl rfl) h1
  obtain ⟨n2, rfl, rfl, rfl, wf2⟩ := open_int Tryd.underlying3 (hval 2 3 v2 rfl rfl) h2
  have b2 := bounds_i64 wf2
  clear hA0
  refine (walk k0 k1 n2 W hk0 hk1 b2.2 (pow10 hL)).mono fun e W' ⟨he, hb⟩ => ?_
  exact ⟨_, he, law_post hW' rfl (by kernel_rfl) rfl (by kernel_rfl) hb⟩

theorem laid_met (os : Os) : laidMet Tryd.prog Rows.capsKeysRow.laid ((laidWorld os).forCall (fun _ _ => 0) ⟨#[], #[.agg #[.int .u8 0, .int .u8 0, .int .u8 0, .int .u8 0, .int .u8 0, .int .u8 0, .int .u8 0, .int .u8 0, .int .u8 0, .int .u8 0, .int .u8 0, .int .u8 0, .int .u8 0, .int .u8 0, .int .u8 0, .int .u8 0], .agg #[.int .u8 0, .int .u8 0, .int .u8 0, .int .u8 0, .int .u8 0, .int .u8 0, .int .u8 0, .int .u8 0, .int .u8 0, .int .u8 0, .int .u8 0, .int .u8 0, .int .u8 0, .int .u8 0, .int .u8 0, .int .u8 0, .int .u8 0, .int .u8 0, .int .u8 0, .int .u8 0, .int .u8 0, .int .u8 0, .int .u8 0, .int .u8 0, .int .u8 0, .int .u8 0, .int .u8 0, .int .u8 0, .int .u8 0, .int .u8 0, .int .u8 0, .int .u8 0], .int .i64 0], []⟩).memory :=
  laidMet_of_run' 8 (by kernel_rfl) (by kernel_rfl)
theorem reads (os : Os) {H : Type} (enc : TypeId × Value → H) : ∃ places, DataW.whole enc Tryd.prog ((laidWorld os).forCall (fun _ _ => 0) ⟨#[], #[.agg #[.int .u8 0, .int .u8 0, .int .u8 0, .int .u8 0, .int .u8 0, .int .u8 0, .int .u8 0, .int .u8 0, .int .u8 0, .int .u8 0, .int .u8 0, .int .u8 0, .int .u8 0, .int .u8 0, .int .u8 0, .int .u8 0], .agg #[.int .u8 0, .int .u8 0, .int .u8 0, .int .u8 0, .int .u8 0, .int .u8 0, .int .u8 0, .int .u8 0, .int .u8 0, .int .u8 0, .int .u8 0, .int .u8 0, .int .u8 0, .int .u8 0, .int .u8 0, .int .u8 0, .int .u8 0, .int .u8 0, .int .u8 0, .int .u8 0, .int .u8 0, .int .u8 0, .int .u8 0, .int .u8 0, .int .u8 0, .int .u8 0, .int .u8 0, .int .u8 0, .int .u8 0, .int .u8 0, .int .u8 0, .int .u8 0], .int .i64 0], []⟩).memory Tryd.f3.params.toList Rows.capsKeysSpec.vars false #[Value.agg #[.int .u8 0, .int .u8 0, .int .u8 0, .int .u8 0, .int .u8 0, .int .u8 0, .int .u8 0, .int .u8 0, .int .u8 0, .int .u8 0, .int .u8 0, .int .u8 0, .int .u8 0, .int .u8 0, .int .u8 0, .int .u8 0], Value.agg #[.int .u8 0, .int .u8 0, .int .u8 0, .int .u8 0, .int .u8 0, .int .u8 0, .int .u8 0, .int .u8 0, .int .u8 0, .int .u8 0, .int .u8 0, .int .u8 0, .int .u8 0, .int .u8 0, .int .u8 0, .int .u8 0, .int .u8 0, .int .u8 0, .int .u8 0, .int .u8 0, .int .u8 0, .int .u8 0, .int .u8 0, .int .u8 0, .int .u8 0, .int .u8 0, .int .u8 0, .int .u8 0, .int .u8 0, .int .u8 0, .int .u8 0, .int .u8 0], Value.int .i64 0].toList 8 = some ([.agg [.lit (.int .u8 0), .lit (.int .u8 0), .lit (.int .u8 0), .lit (.int .u8 0), .lit (.int .u8 0), .lit (.int .u8 0), .lit (.int .u8 0), .lit (.int .u8 0), .lit (.int .u8 0), .lit (.int .u8 0), .lit (.int .u8 0), .lit (.int .u8 0), .lit (.int .u8 0), .lit (.int .u8 0), .lit (.int .u8 0), .lit (.int .u8 0)], .agg [.lit (.int .u8 0), .lit (.int .u8 0), .lit (.int .u8 0), .lit (.int .u8 0), .lit (.int .u8 0), .lit (.int .u8 0), .lit (.int .u8 0), .lit (.int .u8 0), .lit (.int .u8 0), .lit (.int .u8 0), .lit (.int .u8 0), .lit (.int .u8 0), .lit (.int .u8 0), .lit (.int .u8 0), .lit (.int .u8 0), .lit (.int .u8 0), .lit (.int .u8 0), .lit (.int .u8 0), .lit (.int .u8 0), .lit (.int .u8 0), .lit (.int .u8 0), .lit (.int .u8 0), .lit (.int .u8 0), .lit (.int .u8 0), .lit (.int .u8 0), .lit (.int .u8 0), .lit (.int .u8 0), .lit (.int .u8 0), .lit (.int .u8 0), .lit (.int .u8 0), .lit (.int .u8 0), .lit (.int .u8 0)], .lit (.int .i64 0)], [], places) :=
  ⟨[], by kernel_rfl⟩

set_option maxRecDepth 100000 in
theorem lifted (os : Os) (started : os.Started) (H : Type) (enc : TypeId × Value → H) (F : Stop.Interp) :
    ReturnsInHanded {} Tryd.checked os 3 .any ((OpenSpec.ofChange Rows.capsKeysSpec).preRow enc Tryd.prog Tryd.f3 Rows.capsKeysRow.domain false Rows.capsKeysRow.laid) (((OpenSpec.ofChange Rows.capsKeysSpec).at F).post enc Tryd.prog Tryd.f3 false true false false) := by
  obtain ⟨places, hx⟩ := reads os enc
  refine returnsInHanded_of_row (C := Tryd.checked) (s := OpenSpec.ofChange Rows.capsKeysSpec) own started (by kernel_rfl) Tryd.func3
    (witness_row_at (enc := enc) (C := Tryd.checked) false (laidWorld os) #[.agg #[.int .u8 0, .int .u8 0, .int .u8 0, .int .u8 0, .int .u8 0, .int .u8 0, .int .u8 0, .int .u8 0, .int .u8 0, .int .u8 0, .int .u8 0, .int .u8 0, .int .u8 0, .int .u8 0, .int .u8 0, .int .u8 0], .agg #[.int .u8 0, .int .u8 0, .int .u8 0, .int .u8 0, .int .u8 0, .int .u8 0, .int .u8 0, .int .u8 0, .int .u8 0, .int .u8 0, .int .u8 0, .int .u8 0, .int .u8 0, .int .u8 0, .int .u8 0, .int .u8 0, .int .u8 0, .int .u8 0, .int .u8 0, .int .u8 0, .int .u8 0, .int .u8 0, .int .u8 0, .int .u8 0, .int .u8 0, .int .u8 0, .int .u8 0, .int .u8 0, .int .u8 0, .int .u8 0, .int .u8 0, .int .u8 0], .int .i64 0] rfl (by kernel_rfl) (by kernel_rfl) (by kernel_rfl)
      (OpenSpec.preRow_of_cond 8 hx (by kernel_rfl) (fun k hk => by cases hk) (by kernel_rfl) (laid_met os))) ?_
  intro W base args ds gs before hval hW _ _ _ hL _ _
  exact contract H enc W base args ds gs before hval hW hL

theorem said : Rows.CapsKeysSaid :=
  OpenClaim.holds_of_cond 3 Tryd.f3 rfl rfl rfl rfl rfl rfl rfl ⟨rfl, rfl, rfl, rfl, rfl⟩ rfl rfl rfl rfl rfl (by kernel_rfl) Tryd.func3 (by kernel_rfl)
    (of_decide_eq_true (by kernel_rfl)) (by unfold Func.isWrapper; first | (rw [if_pos (by decide +kernel)]; kernel_rfl) | (rw [if_neg (by decide +kernel)]; exact ⟨rfl, rfl⟩))
    (fun os started H enc _ F => by rw [OpenClaim.pre_eq_preRow]; exact lifted os started H enc F)

theorem plain (f : FuncId) (fn : Func) (hf : Tryd.pinned.checked.prog.funcNamed "aumbry/aumbrylaw13.CapsKeys" = some f) (hfn : Tryd.pinned.checked.prog.funcs[f]? = some fn) :
    true = Tryd.pinned.checked.prog.looks [] ∧ ∀ (j : Nat) t, fn.params[j]? = some t → Tryd.pinned.checked.prog.wantsStandIn t = false := by
  obtain rfl : f = 3 := Option.some.inj ((show Tryd.prog.funcNamed "aumbry/aumbrylaw13.CapsKeys" = some 3 by kernel_rfl).symm.trans hf) |>.symm
  obtain rfl : fn = Tryd.f3 := (Option.some.inj (Tryd.func3.symm.trans hfn)).symm
  refine ⟨by kernel_rfl, fun j t ht => ?_⟩
  exact wants_none (by kernel_rfl) (Array.mem_of_getElem? ht)

/-- The card: the statement holds, its listed tables tied to the program's text. -/
theorem card : Rows.CapsKeysCardSaid :=
  Claim7.holds_tied_plain_at .later [] _ _ _ _ said (fun _ h => by cases h) (by kernel_rfl) (fun _ h => by cases h) capsKeys_row_tie rfl ⟨rfl, rfl⟩ (by kernel_rfl) rfl plain (by kernel_rfl)
end Go.Proofs.YtkkokngdhhakdaaDoor.capsKeys
