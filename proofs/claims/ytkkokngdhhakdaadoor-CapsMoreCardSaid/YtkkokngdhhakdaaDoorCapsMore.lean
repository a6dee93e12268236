/- CapsMore: a slot's capability, a directory's, write enablers, leases' secrets, are what the document says. For all capabilities, keys, prints and servers. -/
import Derived.Test.YtkkokngdhhakdaaDoorLaw
import Derived.Test.YtkkokngdhhakdaaDoorCapY
import Derived.Test.YtkkokngdhhakdaaDoorCapP
import Derived.Test.YtkkokngdhhakdaaDoorCapE
import Derived.Test.YtkkokngdhhakdaaDoorSeven
import Derived.Deep.CutRange
namespace Go.Proofs.YtkkokngdhhakdaaDoor.capsMore
open Go.ChangeShapes Go.WideShapes Go.ChangeAt Go.RowKit

set_option maxRecDepth 100000 in
set_option maxHeartbeats 16000000 in
theorem walk (c0 : Cap13) (A0 : Option Addr) (m0 k0 : Nat) (t1 : Bool) (k2 k3 k4 k5 : List UInt8) (n6 : Int) (w : World) (hw0 : c0.wf) (hb0 : c0.bd) (hl0 : c0.lit.length = m0) (hc0 : m0 ≤ k0) (hr0 : Rd w w.heap.size A0 c0.lit) (hk2 : k2.length = 16) (hk3 : k3.length = 16) (hk4 : k4.length = 16) (hk5 : k5.length = 32) (hn6 : n6 ≤ 9223372036854775807) (htab : Pow10 w.heap.size w) :
    Calls Tryd.prog 5 #[.agg (capA c0 (.slice A0 m0 k0)), .bool t1, .agg (u8A k2), .agg (u8A k3), .agg (u8A k4), .agg (u8A k5), .int .i64 n6] w fun e w' => e = .returned (.bool true) ∧ Below w.heap.size w w' := by
  have HT := Lib.hid htab
  obtain ⟨SD, hSD⟩ : ∃ x, u8A k2 = x := ⟨_, rfl⟩
  obtain ⟨CL, hCL⟩ : ∃ x, u8A k3 = x := ⟨_, rfl⟩
  obtain ⟨IX, hIX⟩ : ∃ x, u8A k4 = x := ⟨_, rfl⟩
  obtain ⟨FP, hFP⟩ : ∃ x, u8A k5 = x := ⟨_, rfl⟩
  obtain ⟨CS, hCS⟩ : ∃ x, capA (slot13 k2 k5) (.slice none 0 0) = x := ⟨_, rfl⟩
  obtain ⟨RK, hRK⟩ : ∃ x, u8A (ren13 k3 k4 n6) = x := ⟨_, rfl⟩
  have HLE := Lib.hid (And.intro hk2 (And.intro hk3 (And.intro hk4 (And.intro hk5 hn6))))
  have HAG := Lib.hid (And.intro hSD (And.intro hCL (And.intro hIX (And.intro hFP True.intro))))
  have HCS := Lib.hid hCS
  have HRK := Lib.hid hRK
  have HZSD := Lib.hid (show SD.size = 16 by rw [← hSD, u8A_size]; exact hk2)
  have HZCL := Lib.hid (show CL.size = 16 by rw [← hCL, u8A_size]; exact hk3)
  have HZIX := Lib.hid (show IX.size = 16 by rw [← hIX, u8A_size]; exact hk4)
  have HZFP := Lib.hid (show FP.size = 32 by rw [← hFP, u8A_size]; exact hk5)
  obtain ⟨CX, hCX⟩ : ∃ x, capA c0 (.slice A0 m0 k0) = x := ⟨_, rfl⟩
  have HCX := Lib.hid hCX
  have hst := CapW.start hw0 hl0 hc0 hr0 hCX
  have HR0 := Lib.hid hr0
  obtain ⟨C1, hC1⟩ : ∃ x, capA (cut13 c0) (.slice A0 (min m0 80) k0) = x := ⟨_, rfl⟩
  have HC1 := Lib.hid hC1
  have HCUT := Lib.hid (fun (W : World) => (show Calls Tryd.prog 17 #[.agg CX] W fun e w' => e = .returned (.agg C1) ∧ Below W.heap.size W w' from by
    rw [← hCX, ← hC1]
    exact cut13_any hw0 hc0))
  have HS1 := Lib.hid (show C1.size = 53 ∧ CX.size = 53 ∧ C1.all (·.oneCell') = true by rw [← hC1, ← hCX]; exact ⟨capA_size (cut13_wf hw0) _, capA_size hw0 _, capA_one⟩)
  have HBD := Lib.hid (And.intro (cut13_wf hw0) (cut13_bd hb0))
  rw [hCX, hSD, hCL, hIX, hFP]
  clear htab hCX hC1 hw0 hb0 hl0 hc0 hr0 hSD hCL hIX hFP hCS hRK hk2 hk3 hk4 hk5 hn6
  go_enter Tryd.func5, Tryd.ntmps5
  go_upto_region 1 with fail
  generalize hwa : World.alloc _ _ = w1
  obtain ⟨g, hg⟩ : ∃ g, w.heap.size = g := ⟨_, rfl⟩
  obtain ⟨g9, h9⟩ : ∃ g, w.heap.size + 1 = g := ⟨_, rfl⟩
  obtain ⟨g10, h10⟩ : ∃ g, w.heap.size + 2 = g := ⟨_, rfl⟩
  obtain ⟨g11, h11⟩ : ∃ g, w.heap.size + 3 = g := ⟨_, rfl⟩
  obtain ⟨g12, h12⟩ : ∃ g, w.heap.size + 4 = g := ⟨_, rfl⟩
  have hO : CapW w w1 g c0 A0 m0 k0 ∧ Blk w1 g9 SD 23 ∧ Blk w1 g10 CL 23 ∧ Blk w1 g11 IX 23 ∧ Blk w1 g12 FP 25 := by
    obtain ⟨wA, hA⟩ : ∃ x, w.alloc (.cells CX 28) = x := ⟨_, rfl⟩
    have sA : wA.heap.size = w.heap.size + 1 := by rw [← hA]; simp
    rw [hA, hg] at hst
    rw [← hwa, hA]
    have sB : (wA.alloc (.cells SD 23)).heap.size = w.heap.size + 2 := by simp [sA]
    have sC : ((wA.alloc (.cells SD 23)).alloc (.cells CL 23)).heap.size = w.heap.size + 3 := by simp [sA]
    have sD : (((wA.alloc (.cells SD 23)).alloc (.cells CL 23)).alloc (.cells IX 23)).heap.size = w.heap.size + 4 := by simp [sA]
    have hb : Below wA.heap.size wA ((((wA.alloc (.cells SD 23)).alloc (.cells CL 23)).alloc (.cells IX 23)).alloc (.cells FP 25)) := ((((Below.refl _ _).alloc (Nat.le_refl _) _).alloc (by simp) _).alloc (by simp; omega) _).alloc (by simp; omega) _
    refine ⟨hst.below hb, ?_, ?_, ?_, ?_⟩
    · rw [← h9, ← sA]; exact (((Blk.new _ _ _).alloc _).alloc _).alloc _
    · rw [← h10, ← sB]; exact ((Blk.new _ _ _).alloc _).alloc _
    · rw [← h11, ← sC]; exact (Blk.new _ _ _).alloc _
    · rw [← h12, ← sD]; exact Blk.new _ _ _
  have HG := Lib.hid hg
  have HNE := Lib.hid (show g ≠ g9 ∧ g ≠ g10 ∧ g ≠ g11 ∧ g ≠ g12 by omega)
  rw [h12, h11, h10, h9, hg]
  have H1 := Lib.hid hO.1
  have HO9 := Lib.hid hO.2.1
  have HO10 := Lib.hid hO.2.2.1
  have HO11 := Lib.hid hO.2.2.2.1
  have HO12 := Lib.hid hO.2.2.2.2
  clear hst hg h9 h10 h11 h12 hwa hO
  have hcut : ∀ w2, Below w1.heap.size w1 w2 → CapW w (w2.setRow g C1) g (cut13 c0) A0 (min m0 80) k0 ∧ Blk w2 g CX 28 := fun w2 hb => ⟨(H1.out.below hb).cut HR0.out HC1.out, HCX.out ▸ (H1.out.below hb).cap.blk⟩
  have HCT := Lib.hid hcut
  clear hcut
  go_upto_region 2 with (first
    | (refine wpList_load_capC ?_ (.tmp 7) rfl g rfl H1.out.cap HCX.out ?_; · rfl)
    | (with_reducible refine (HCUT.out _).mono ?_; rintro e w2 ⟨rfl, hb2⟩)
    | (with_reducible refine wpList_store_blkTo rfl 28 (.tmp 7) (.tmp 24) rfl rfl g C1 rfl rfl 28 CX (HCT.out _ (by assumption)).2 (by rw [HS1.out.1]; kernel_rfl) (by rw [HS1.out.1, HS1.out.2.1]) HS1.out.2.2 ?_))
  have H2 := Lib.hid (HCT.out _ hb2).1
  replace HO9 := Lib.hid ((HO9.out.below hb2 HO9.out.lt).rowOther HNE.out.1 C1)
  replace HO10 := Lib.hid ((HO10.out.below hb2 HO10.out.lt).rowOther HNE.out.2.1 C1)
  replace HO11 := Lib.hid ((HO11.out.below hb2 HO11.out.lt).rowOther HNE.out.2.2.1 C1)
  replace HO12 := Lib.hid ((HO12.out.below hb2 HO12.out.lt).rowOther HNE.out.2.2.2 C1)
  clear hb2 HCT HCUT H1
  generalize w2.setRow g C1 = w3 at *
  cases t1
  · have H3 := H2
    have HCD := HC1
    clear H2 HC1
    generalize cut13 c0 = d at *
    generalize min m0 80 = n' at *
    generalize A0 = A' at *
    generalize k0 = cc' at *
    generalize C1 = CD at *
    obtain ⟨M, hM⟩ : ∃ x, (if dirOK d then dir13 d else cap0) = x := ⟨_, rfl⟩
    obtain ⟨E1, hE1⟩ : ∃ x, (if dirOK d then (0 : Int) else 11) = x := ⟨_, rfl⟩
    obtain ⟨KV, hKV⟩ : ∃ x, u8A (if d.writes then enb13 d.key n6 else key0) = x := ⟨_, rfl⟩
    obtain ⟨E2, hE2⟩ : ∃ x, (if d.writes then (0 : Int) else 11) = x := ⟨_, rfl⟩
    have HT3 := Lib.hid (fun (W : World) (hW : Below w3.heap.size w3 W) => tab_on HT.out (H3.out.bel.trans (hW.mono H3.out.bel.size)) (Nat.le_trans H3.out.bel.size hW.size))
    have HL1 := Lib.hid (show M.lit.length ≤ maxLen by
      rw [← hM]
      split
      · rename_i h
        have := ok_small h.1 (n := d.lit.length) rfl
        show d.lit.length ≤ maxLen
        unfold maxLen
        omega
      · exact Nat.zero_le _)
    have hkl : (if d.writes then enb13 d.key n6 else key0).length = 16 := by
      split
      · exact short13_len _ _
      · rfl
    have HKS := Lib.hid (show KV.size = 16 ∧ KV.all (·.oneCell') = true by
      rw [← hKV]
      exact ⟨by rw [u8A_size]; exact hkl, u8A_one _⟩)
    have HKE := Lib.hid (fun W => (show (Op.equalIn 10000 23 (.agg KV) (.agg KV)).run Tryd.prog W = .ok true W by
      have h := run_key_eq W _ _ hkl hkl
      rwa [hKV, decide_eq_true rfl] at h))
    have HPD := Lib.hid (fun (W : World) (hW : Below w3.heap.size w3 W) => (show Calls Tryd.prog 12 #[.agg CD] W fun e w' => CapSaid W w' e M E1 from by
      have h := pdir_any (w := W) (cc := cc') H3.out.cap.wf H3.out.len (H3.out.lit.on hW)
      rwa [HCD.out, hM, hE1] at h))
    have HRD := Lib.hid (fun (W : World) (_ : Below w3.heap.size w3 W) => (show Calls Tryd.prog 23 #[.agg CD] W fun e w' => CapSaid W w' e M E1 from by
      have h := rdir_any (w := W) (A := A') H3.out.cap.wf H3.out.len H3.out.room
      rwa [HCD.out, hM, hE1] at h))
    have HPE := Lib.hid (fun (W : World) (hW : Below w3.heap.size w3 W) => (show Calls Tryd.prog 14 #[.agg CD, .int .i64 n6] W fun e w' => e = .returned (.tuple #[.agg KV, .int .i64 E2]) ∧ Below W.heap.size W w' from by
      have h := penabler_any (w := W) (cc := cc') H3.out.cap.wf H3.out.len (H3.out.lit.on hW) HLE.out.2.2.2.2 (HT3.out W hW)
      rwa [HCD.out, hKV, hE2] at h))
    have HRE := Lib.hid (fun (W : World) (_ : Below w3.heap.size w3 W) => (show Calls Tryd.prog 24 #[.agg CD, .int .i64 n6] W fun e w' => e = .returned (.tuple #[.agg KV, .int .i64 E2]) ∧ Below W.heap.size W w' from by
      have h := renabler_any (w := W) (A := A') (cc := cc') H3.out.cap.wf H3.out.len HLE.out.2.2.2.2
      rwa [HCD.out, hKV, hE2] at h))
    have HWK0 := Lib.hid (fun (W : World) (hW : Below w3.heap.size w3 W) => wakes13_any W (HT3.out W hW))
    clear hM hE1 hE2 hKV hkl
    go_upto_region 4 with fail
    have HSd := H3
    have HBK := Lib.hid (Below.refl w3.heap.size w3)
    go_upto_region 5 with (first
      | (refine wpList_load_capC ?_ (.tmp 7) rfl g rfl HSd.out.cap HCD.out ?_; · rfl)
      | ((with_reducible refine (HPD.out _ HBK.out).mono ?_); rintro e w5 ⟨⟨v, rfl, hv⟩, hba⟩; obtain ⟨hwf, A4, n4, cc4, rfl, hln, hrm, hrd, hla⟩ := hv; obtain ⟨CA, hCA⟩ : ∃ x, capA M (.slice A4 n4 cc4) = x := ⟨_, rfl⟩; rw [hCA]; have HCA := Lib.hid hCA; have HZCA := Lib.hid (show CA.size = 53 ∧ CA.all (·.oneCell') = true by rw [← hCA]; exact ⟨capA_size hwf _, capA_one⟩))
      | (with_reducible refine wpList_store_blkTo rfl 28 (.tmp 15) (.tmp 31) rfl rfl w5.heap.size CA rfl rfl 28 _ (Blk.new w5 _ _) (by rw [HZCA.out.1]; kernel_rfl) (by rw [HZCA.out.1]; kernel_rfl) HZCA.out.2 ?_))
    have hfr := fun Y => CapW.fresh (HSd.out.bel.trans (hba.mono HSd.out.bel.size)) hwf hln hrm hrd Y hCA
    generalize hwn : World.setRow _ _ _ = w6
    have hk : CapW w w6 w5.heap.size M A4 n4 cc4 ∧ Below w5.heap.size w5 w6 := by
      rw [← hwn]
      exact hfr _
    have hbn := hba.trans (hk.2.mono hba.size)
    obtain ⟨g15, hg15⟩ : ∃ x, w5.heap.size = x := ⟨_, rfl⟩
    rw [hg15] at hk ⊢
    replace HSd := Lib.hid (HSd.out.below hbn)
    replace HO9 := Lib.hid (HO9.out.below hbn HO9.out.lt)
    replace HO10 := Lib.hid (HO10.out.below hbn HO10.out.lt)
    replace HO11 := Lib.hid (HO11.out.below hbn HO11.out.lt)
    replace HO12 := Lib.hid (HO12.out.below hbn HO12.out.lt)
    replace HBK := Lib.hid (HBK.out.trans (hbn.mono HBK.out.size))
    have HS15 := Lib.hid hk.1
    clear hfr hwn hk hbn hba hg15 hwf hln hrm hrd hla hCA HPD
    go_upto_region 6 with (first
      | (refine wpList_load_capC ?_ (.tmp 7) rfl g rfl HSd.out.cap HCD.out ?_; · rfl)
      | ((with_reducible refine (HRD.out _ HBK.out).mono ?_); rintro e w7 ⟨⟨v, rfl, hv⟩, hba⟩; obtain ⟨hwf, A5, n5, cc5, rfl, hln, hrm, hrd, hla⟩ := hv; obtain ⟨CB, hCB⟩ : ∃ x, capA M (.slice A5 n5 cc5) = x := ⟨_, rfl⟩; rw [hCB]; have HCB := Lib.hid hCB; have HZCB := Lib.hid (show CB.size = 53 ∧ CB.all (·.oneCell') = true by rw [← hCB]; exact ⟨capA_size hwf _, capA_one⟩))
      | (with_reducible refine wpList_store_blkTo rfl 28 (.tmp 17) (.tmp 36) rfl rfl w7.heap.size CB rfl rfl 28 _ (Blk.new w7 _ _) (by rw [HZCB.out.1]; kernel_rfl) (by rw [HZCB.out.1]; kernel_rfl) HZCB.out.2 ?_))
    have hfr := fun Y => CapW.fresh (HSd.out.bel.trans (hba.mono HSd.out.bel.size)) hwf hln hrm hrd Y hCB
    generalize hwn : World.setRow _ _ _ = w8
    have hk : CapW w w8 w7.heap.size M A5 n5 cc5 ∧ Below w7.heap.size w7 w8 := by
      rw [← hwn]
      exact hfr _
    have hbn := hba.trans (hk.2.mono hba.size)
    obtain ⟨g17, hg17⟩ : ∃ x, w7.heap.size = x := ⟨_, rfl⟩
    rw [hg17] at hk ⊢
    replace HSd := Lib.hid (HSd.out.below hbn)
    replace HS15 := Lib.hid (HS15.out.below hbn)
    replace HO9 := Lib.hid (HO9.out.below hbn HO9.out.lt)
    replace HO10 := Lib.hid (HO10.out.below hbn HO10.out.lt)
    replace HO11 := Lib.hid (HO11.out.below hbn HO11.out.lt)
    replace HO12 := Lib.hid (HO12.out.below hbn HO12.out.lt)
    replace HBK := Lib.hid (HBK.out.trans (hbn.mono HBK.out.size))
    have HS17 := Lib.hid hk.1
    clear hfr hwn hk hbn hba hg17 hwf hln hrm hrd hla hCB HRD
    go_upto_region 7 with (first
      | (refine wpList_load_capC ?_ (.tmp 7) rfl g rfl HSd.out.cap HCD.out ?_; · rfl)
      | ((with_reducible refine (HPE.out _ HBK.out).mono ?_); rintro e w9 ⟨rfl, hba⟩)
      | (with_reducible refine wpList_store_blkTo rfl 23 (.tmp 19) (.tmp 42) rfl rfl w9.heap.size KV rfl rfl 23 _ (Blk.new w9 _ _) (by rw [HKS.out.1]; kernel_rfl) (by rw [HKS.out.1]; kernel_rfl) HKS.out.2 ?_))
    have hkf := fun Y => key_fresh (w := w9) Y KV
    generalize hwn : World.setRow _ _ _ = wa
    have hk : Blk wa w9.heap.size KV 23 ∧ Below w9.heap.size w9 wa := by
      rw [← hwn]
      exact hkf _
    have hbn := hba.trans (hk.2.mono hba.size)
    obtain ⟨i19, hi19⟩ : ∃ x, w9.heap.size = x := ⟨_, rfl⟩
    rw [hi19] at hk ⊢
    replace HSd := Lib.hid (HSd.out.below hbn)
    replace HS15 := Lib.hid (HS15.out.below hbn)
    replace HS17 := Lib.hid (HS17.out.below hbn)
    replace HO9 := Lib.hid (HO9.out.below hbn HO9.out.lt)
    replace HO10 := Lib.hid (HO10.out.below hbn HO10.out.lt)
    replace HO11 := Lib.hid (HO11.out.below hbn HO11.out.lt)
    replace HO12 := Lib.hid (HO12.out.below hbn HO12.out.lt)
    replace HBK := Lib.hid (HBK.out.trans (hbn.mono HBK.out.size))
    have HI19 := Lib.hid hk.1
    clear hkf hwn hk hbn hba hi19 HPE
    go_upto_region 8 with (first
      | (refine wpList_load_capC ?_ (.tmp 7) rfl g rfl HSd.out.cap HCD.out ?_; · rfl)
      | ((with_reducible refine (HRE.out _ HBK.out).mono ?_); rintro e wb ⟨rfl, hba⟩)
      | (with_reducible refine wpList_store_blkTo rfl 23 (.tmp 21) (.tmp 48) rfl rfl wb.heap.size KV rfl rfl 23 _ (Blk.new wb _ _) (by rw [HKS.out.1]; kernel_rfl) (by rw [HKS.out.1]; kernel_rfl) HKS.out.2 ?_))
    have hkf := fun Y => key_fresh (w := wb) Y KV
    generalize hwn : World.setRow _ _ _ = wg
    have hk : Blk wg wb.heap.size KV 23 ∧ Below wb.heap.size wb wg := by
      rw [← hwn]
      exact hkf _
    have hbn := hba.trans (hk.2.mono hba.size)
    obtain ⟨i21, hi21⟩ : ∃ x, wb.heap.size = x := ⟨_, rfl⟩
    rw [hi21] at hk ⊢
    replace HSd := Lib.hid (HSd.out.below hbn)
    replace HS15 := Lib.hid (HS15.out.below hbn)
    replace HS17 := Lib.hid (HS17.out.below hbn)
    replace HO9 := Lib.hid (HO9.out.below hbn HO9.out.lt)
    replace HO10 := Lib.hid (HO10.out.below hbn HO10.out.lt)
    replace HO11 := Lib.hid (HO11.out.below hbn HO11.out.lt)
    replace HO12 := Lib.hid (HO12.out.below hbn HO12.out.lt)
    replace HI19 := Lib.hid (HI19.out.below hbn HI19.out.lt)
    replace HBK := Lib.hid (HBK.out.trans (hbn.mono HBK.out.size))
    have HI21 := Lib.hid hk.1
    clear hkf hwn hk hbn hba hi21 HRE
    have HP15 := HS15
    have HP17 := HS17
    have HKT := HBK
    have HTT := Lib.hid (fun (W : World) (hW : Below wg.heap.size wg W) => HT3.out W (HKT.out.trans (hW.mono HKT.out.size)))
    have HSM := Lib.hid (fun (W : World) (hW : Below wg.heap.size wg W) => (show Calls Tryd.prog 22 #[.agg CA, .agg CB] W fun e w' => e = .returned (.bool true) ∧ Below W.heap.size W w' from by
      have h := ksame_any (w := W) HP15.out.cap.wf HP17.out.cap.wf (c := cc4) (d := cc5) HP15.out.len HP17.out.len (by rw [← HP15.out.len]; exact HL1.out) (HP15.out.lit.on hW) (HP17.out.lit.on hW)
      rwa [HCA.out, HCB.out, decide_eq_true rfl] at h))
    have HSP := Lib.hid (fun (W : World) (hW : Below wg.heap.size wg W) => (show Calls Tryd.prog 9 #[.agg SD, .agg FP] W fun e w' => e = .returned (.agg CS) ∧ Below W.heap.size W w' from by
      have h := pslot_any (w := W) HLE.out.1 HLE.out.2.2.2.1 (HTT.out W hW)
      rwa [HAG.out.1, HAG.out.2.2.2.1, HCS.out] at h))
    have HSR := Lib.hid (fun (W : World) => (show Calls Tryd.prog 25 #[.agg SD, .agg FP] W fun e w' => e = .returned (.agg CS) ∧ Below W.heap.size W w' from by
      have h := rslotc_any (w := W) HLE.out.1 HLE.out.2.2.2.1
      rwa [HAG.out.1, HAG.out.2.2.2.1, HCS.out] at h))
    have HSS := Lib.hid (fun (W : World) => (show Calls Tryd.prog 22 #[.agg CS, .agg CS] W fun e w' => e = .returned (.bool true) ∧ Below W.heap.size W w' from by
      have hwf : (slot13 k2 k5).wf := ⟨short13_len _ _, HLE.out.2.2.2.1⟩
      have h := ksame_any (w := W) (A := none) (B := none) (n := 0) (m := 0) (c := 0) (d := 0) hwf hwf rfl rfl (Nat.zero_le _) (.inl rfl) (.inl rfl)
      rwa [HCS.out, decide_eq_true rfl] at h))
    have HRP := Lib.hid (fun (W : World) (hW : Below wg.heap.size wg W) => (show Calls Tryd.prog 26 #[.agg CL, .agg IX, .int .i64 n6] W fun e w' => e = .returned (.agg RK) ∧ Below W.heap.size W w' from by
      have h := prenewal_any (w := W) HLE.out.2.1 HLE.out.2.2.1 HLE.out.2.2.2.2 (HTT.out W hW)
      rwa [HAG.out.2.1, HAG.out.2.2.1, HRK.out] at h))
    have HRR := Lib.hid (fun (W : World) => (show Calls Tryd.prog 27 #[.agg CL, .agg IX, .int .i64 n6] W fun e w' => e = .returned (.agg RK) ∧ Below W.heap.size W w' from by
      have h := rrenewal_any (w := W) HLE.out.2.1 HLE.out.2.2.1 HLE.out.2.2.2.2
      rwa [HAG.out.2.1, HAG.out.2.2.1, HRK.out] at h))
    have HRKE := Lib.hid (fun W => (show (Op.equalIn 10000 23 (.agg RK) (.agg RK)).run Tryd.prog W = .ok true W by
      have h := run_key_eq W _ _ (short13_len renTag [k3, k4, put2 n6]) (short13_len renTag [k3, k4, put2 n6])
      change (Op.equalIn 10000 23 (.agg (u8A (ren13 k3 k4 n6))) (.agg (u8A (ren13 k3 k4 n6)))).run Tryd.prog W = _ at h
      rwa [HRK.out, decide_eq_true rfl] at h))
    have HWK := Lib.hid (fun (W : World) (hW : Below wg.heap.size wg W) => HWK0.out W (HKT.out.trans (hW.mono HKT.out.size)))
    have HB9 := Lib.hid (fun (W : World) (hW : Below wg.heap.size wg W) => HO9.out.below hW HO9.out.lt)
    have HB10 := Lib.hid (fun (W : World) (hW : Below wg.heap.size wg W) => HO10.out.below hW HO10.out.lt)
    have HB11 := Lib.hid (fun (W : World) (hW : Below wg.heap.size wg W) => HO11.out.below hW HO11.out.lt)
    have HB12 := Lib.hid (fun (W : World) (hW : Below wg.heap.size wg W) => HO12.out.below hW HO12.out.lt)
    have HB15 := Lib.hid (fun (W : World) (hW : Below wg.heap.size wg W) => (HCA.out ▸ (HP15.out.cap.below hW).blk : Blk W g15 CA 28))
    have HB17 := Lib.hid (fun (W : World) (hW : Below wg.heap.size wg W) => (HCB.out ▸ (HP17.out.cap.below hW).blk : Blk W g17 CB 28))
    have HB19 := Lib.hid (fun (W : World) (hW : Below wg.heap.size wg W) => HI19.out.below hW HI19.out.lt)
    have HB21 := Lib.hid (fun (W : World) (hW : Below wg.heap.size wg W) => HI21.out.below hW HI21.out.lt)
    replace HZCA := Lib.hid HZCA.out.1
    replace HZCB := Lib.hid HZCB.out.1
    have HZKV := Lib.hid HKS.out.1
    refine wp_region_loose 42 0 (fun i => false) (promises [.is (.agg SD), .is (.agg FP), .is (.agg CS), .is (.agg SD), .is (.agg FP), .is (.agg CS), .is (.bool true), .is (.bool true), .is (.int .i64 E1), .is (.int .i64 E1), .is (.bool true), .is (.bool true), .is (.bool true), .is (.agg CA), .is (.agg CB), .is (.bool true), .is (.bool true), .is (.bool true), .is (.int .i64 E2), .is (.int .i64 E2), .is (.bool true), .is (.bool true), .is (.bool true), .is (.agg KV), .is (.agg KV), .is (.bool true), .is (.bool true), .is (.bool true), .is (.agg CL), .is (.agg IX), .is (.int .i64 n6), .is (.agg RK), .is (.agg CL), .is (.agg IX), .is (.int .i64 n6), .is (.agg RK), .is (.bool true), .is (.bool true), .is (.bool true), .is (.bool true), .is (.bool true), .is (.bool true)]) (by kernel_rfl) rfl (by kernel_rfl) (fun i v w w' h hb => Spec.keep h hb) ⟨?_, ?_, ?_, ?_, ?_, ?_, ?_, ?_, ?_, ?_, ?_, ?_, ?_, ?_, ?_, ?_, ?_, ?_, ?_, ?_, ?_, ?_, ?_, ?_, ?_, ?_, ?_, ?_, ?_, ?_, ?_, ?_, ?_, ?_, ?_, ?_, ?_, ?_, ?_, ?_, ?_, ?_, trivial⟩ ?_
    · refine StepOKl.of ?_
      intro ac w hb hu hk
      refine ⟨wanted_none rfl, ?_⟩
      have e9 : ac.eval (.tmp 9) = .pointer (some ⟨g9, 0, none⟩) := hu.is (t := 9) (by kernel_rfl)
      exact wp_load_row 23 (.tmp 9) rfl g9 e9 23 SD (0, 0) _ (HB9.out w hb) Tryd.underlying23 rfl (by rw [HZSD.out]; kernel_rfl) ⟨_, rfl, rfl, Below.refl _ _⟩
    · refine StepOKl.of ?_
      intro ac w hb hu hk
      refine ⟨wanted_none rfl, ?_⟩
      have e12 : ac.eval (.tmp 12) = .pointer (some ⟨g12, 0, none⟩) := hu.is (t := 12) (by kernel_rfl)
      exact wp_load_row 25 (.tmp 12) rfl g12 e12 25 FP (0, 0) _ (HB12.out w hb) Tryd.underlying25 rfl (by rw [HZFP.out]; kernel_rfl) ⟨_, rfl, rfl, Below.refl _ _⟩
    · refine StepOKl.of ?_
      intro ac w hb hu hk
      refine ⟨wanted_none rfl, ?_⟩
      have e50 : ac.eval (.tmp 50) = (.agg SD) := (hk ⟨0, .data⟩ (by simp) rfl).is rfl rfl
      have e51 : ac.eval (.tmp 51) = (.agg FP) := (hk ⟨1, .data⟩ (by simp) rfl).is rfl rfl
      have ef : ac.eval (.func 9) = .func (.func 9) #[] #[] := rfl
      refine step_enter (f := 9) (args := #[.agg SD, .agg FP]) ?_ ?_
      · generalize ac.eval = ρ at e50 e51 ef ⊢
        go_simp
      · exact (HSP.out w hb).mono fun e w' ⟨he, hq⟩ => ⟨_, he, rfl, hq⟩
    · refine StepOKl.of ?_
      intro ac w hb hu hk
      refine ⟨wanted_none rfl, ?_⟩
      have e9 : ac.eval (.tmp 9) = .pointer (some ⟨g9, 0, none⟩) := hu.is (t := 9) (by kernel_rfl)
      exact wp_load_row 23 (.tmp 9) rfl g9 e9 23 SD (0, 0) _ (HB9.out w hb) Tryd.underlying23 rfl (by rw [HZSD.out]; kernel_rfl) ⟨_, rfl, rfl, Below.refl _ _⟩
    · refine StepOKl.of ?_
      intro ac w hb hu hk
      refine ⟨wanted_none rfl, ?_⟩
      have e12 : ac.eval (.tmp 12) = .pointer (some ⟨g12, 0, none⟩) := hu.is (t := 12) (by kernel_rfl)
      exact wp_load_row 25 (.tmp 12) rfl g12 e12 25 FP (0, 0) _ (HB12.out w hb) Tryd.underlying25 rfl (by rw [HZFP.out]; kernel_rfl) ⟨_, rfl, rfl, Below.refl _ _⟩
    · refine StepOKl.of ?_
      intro ac w hb hu hk
      refine ⟨wanted_none rfl, ?_⟩
      have e53 : ac.eval (.tmp 53) = (.agg SD) := (hk ⟨3, .data⟩ (by simp) rfl).is rfl rfl
      have e54 : ac.eval (.tmp 54) = (.agg FP) := (hk ⟨4, .data⟩ (by simp) rfl).is rfl rfl
      have ef : ac.eval (.func 25) = .func (.func 25) #[] #[] := rfl
      refine step_enter (f := 25) (args := #[.agg SD, .agg FP]) ?_ ?_
      · generalize ac.eval = ρ at e53 e54 ef ⊢
        go_simp
      · exact (HSR.out w).mono fun e w' ⟨he, hq⟩ => ⟨_, he, rfl, hq⟩
    · refine StepOKl.of ?_
      intro ac w hb hu hk
      refine ⟨wanted_none rfl, ?_⟩
      have e52 : ac.eval (.tmp 52) = (.agg CS) := (hk ⟨2, .data⟩ (by simp) rfl).is rfl rfl
      have e55 : ac.eval (.tmp 55) = (.agg CS) := (hk ⟨5, .data⟩ (by simp) rfl).is rfl rfl
      have ef : ac.eval (.func 22) = .func (.func 22) #[] #[] := rfl
      refine step_enter (f := 22) (args := #[.agg CS, .agg CS]) ?_ ?_
      · generalize ac.eval = ρ at e52 e55 ef ⊢
        go_simp
      · exact (HSS.out w).mono fun e w' ⟨he, hq⟩ => ⟨_, he, rfl, hq⟩
    · refine StepOKl.of ?_
      intro ac w hb hu hk
      refine ⟨wanted_none rfl, ?_⟩
      have e56 : ac.eval (.tmp 56) = (.bool true) := (hk ⟨6, .data⟩ (by simp) rfl).is rfl rfl
      exact step_value (BigFrame.run_move (.tmp 56) rfl w) (Below.refl _ _) e56
    · refine StepOKl.of ?_
      intro ac w hb hu hk
      refine ⟨wanted_some rfl (hk ⟨7, .guard⟩ (by simp) rfl) rfl rfl (fun _ h => h), ?_⟩
      have e16 : ac.eval (.tmp 16) = .int .i64 E1 := hu.is (t := 16) (by kernel_rfl)
      exact step_value (BigFrame.run_move (.tmp 16) rfl w) (Below.refl _ _) e16
    · refine StepOKl.of ?_
      intro ac w hb hu hk
      refine ⟨wanted_some rfl (hk ⟨7, .guard⟩ (by simp) rfl) rfl rfl (fun _ h => h), ?_⟩
      have e18 : ac.eval (.tmp 18) = .int .i64 E1 := hu.is (t := 18) (by kernel_rfl)
      exact step_value (BigFrame.run_move (.tmp 18) rfl w) (Below.refl _ _) e18
    · refine StepOKl.of ?_
      intro ac w hb hu hk
      refine ⟨wanted_some rfl (hk ⟨7, .guard⟩ (by simp) rfl) rfl rfl (fun _ h => h), ?_⟩
      have e58 : ac.eval (.tmp 58) = (.int .i64 E1) := (hk ⟨8, .data⟩ (by simp) rfl).is rfl rfl
      have e59 : ac.eval (.tmp 59) = (.int .i64 E1) := (hk ⟨9, .data⟩ (by simp) rfl).is rfl rfl
      refine step_value (w' := w) (v := (.bool true)) ?_ (Below.refl _ _) rfl
      generalize ac.eval = ρ at e58 e59 ⊢
      go_simp
    · refine StepOKl.of ?_
      intro ac w hb hu hk
      refine ⟨wanted_none rfl, ?_⟩
      have e57 : ac.eval (.tmp 57) = (.bool true) := (hk ⟨7, .data⟩ (by simp) rfl).is rfl rfl
      have e60 : ac.eval (.tmp 60) = (.bool true) := (hk ⟨10, .data⟩ (by simp) rfl).is rfl rfl
      exact step_value (run_pick_true e57 rfl w) (Below.refl _ _) e60
    · refine StepOKl.of ?_
      intro ac w hb hu hk
      refine ⟨wanted_none rfl, ?_⟩
      have e61 : ac.eval (.tmp 61) = (.bool true) := (hk ⟨11, .data⟩ (by simp) rfl).is rfl rfl
      exact step_value (BigFrame.run_move (.tmp 61) rfl w) (Below.refl _ _) e61
    · refine StepOKl.of ?_
      intro ac w hb hu hk
      refine ⟨wanted_some rfl (hk ⟨12, .guard⟩ (by simp) rfl) rfl rfl (fun _ h => h), ?_⟩
      have e15 : ac.eval (.tmp 15) = .pointer (some ⟨g15, 0, none⟩) := hu.is (t := 15) (by kernel_rfl)
      exact wp_load_row 28 (.tmp 15) rfl g15 e15 28 CA (0, 0) _ (HB15.out w hb) Tryd.underlying28 rfl (by rw [HZCA.out]; kernel_rfl) ⟨_, rfl, rfl, Below.refl _ _⟩
    · refine StepOKl.of ?_
      intro ac w hb hu hk
      refine ⟨wanted_some rfl (hk ⟨12, .guard⟩ (by simp) rfl) rfl rfl (fun _ h => h), ?_⟩
      have e17 : ac.eval (.tmp 17) = .pointer (some ⟨g17, 0, none⟩) := hu.is (t := 17) (by kernel_rfl)
      exact wp_load_row 28 (.tmp 17) rfl g17 e17 28 CB (0, 0) _ (HB17.out w hb) Tryd.underlying28 rfl (by rw [HZCB.out]; kernel_rfl) ⟨_, rfl, rfl, Below.refl _ _⟩
    · refine StepOKl.of ?_
      intro ac w hb hu hk
      refine ⟨wanted_some rfl (hk ⟨12, .chain⟩ (by simp) rfl) rfl rfl (fun _ h => h), ?_⟩
      have e63 : ac.eval (.tmp 63) = (.agg CA) := (hk ⟨13, .data⟩ (by simp) rfl).is rfl rfl
      have e64 : ac.eval (.tmp 64) = (.agg CB) := (hk ⟨14, .data⟩ (by simp) rfl).is rfl rfl
      have ef : ac.eval (.func 22) = .func (.func 22) #[] #[] := rfl
      refine step_enter (f := 22) (args := #[.agg CA, .agg CB]) ?_ ?_
      · generalize ac.eval = ρ at e63 e64 ef ⊢
        go_simp
      · exact (HSM.out w hb).mono fun e w' ⟨he, hq⟩ => ⟨_, he, rfl, hq⟩
    · refine StepOKl.of ?_
      intro ac w hb hu hk
      refine ⟨wanted_none rfl, ?_⟩
      have e62 : ac.eval (.tmp 62) = (.bool true) := (hk ⟨12, .data⟩ (by simp) rfl).is rfl rfl
      have e65 : ac.eval (.tmp 65) = (.bool true) := (hk ⟨15, .data⟩ (by simp) rfl).is rfl rfl
      exact step_value (run_pick_true e62 rfl w) (Below.refl _ _) e65
    · refine StepOKl.of ?_
      intro ac w hb hu hk
      refine ⟨wanted_none rfl, ?_⟩
      have e66 : ac.eval (.tmp 66) = (.bool true) := (hk ⟨16, .data⟩ (by simp) rfl).is rfl rfl
      exact step_value (BigFrame.run_move (.tmp 66) rfl w) (Below.refl _ _) e66
    · refine StepOKl.of ?_
      intro ac w hb hu hk
      refine ⟨wanted_some rfl (hk ⟨17, .guard⟩ (by simp) rfl) rfl rfl (fun _ h => h), ?_⟩
      have e20 : ac.eval (.tmp 20) = .int .i64 E2 := hu.is (t := 20) (by kernel_rfl)
      exact step_value (BigFrame.run_move (.tmp 20) rfl w) (Below.refl _ _) e20
    · refine StepOKl.of ?_
      intro ac w hb hu hk
      refine ⟨wanted_some rfl (hk ⟨17, .guard⟩ (by simp) rfl) rfl rfl (fun _ h => h), ?_⟩
      have e22 : ac.eval (.tmp 22) = .int .i64 E2 := hu.is (t := 22) (by kernel_rfl)
      exact step_value (BigFrame.run_move (.tmp 22) rfl w) (Below.refl _ _) e22
    · refine StepOKl.of ?_
      intro ac w hb hu hk
      refine ⟨wanted_some rfl (hk ⟨17, .guard⟩ (by simp) rfl) rfl rfl (fun _ h => h), ?_⟩
      have e68 : ac.eval (.tmp 68) = (.int .i64 E2) := (hk ⟨18, .data⟩ (by simp) rfl).is rfl rfl
      have e69 : ac.eval (.tmp 69) = (.int .i64 E2) := (hk ⟨19, .data⟩ (by simp) rfl).is rfl rfl
      refine step_value (w' := w) (v := (.bool true)) ?_ (Below.refl _ _) rfl
      generalize ac.eval = ρ at e68 e69 ⊢
      go_simp
    · refine StepOKl.of ?_
      intro ac w hb hu hk
      refine ⟨wanted_none rfl, ?_⟩
      have e67 : ac.eval (.tmp 67) = (.bool true) := (hk ⟨17, .data⟩ (by simp) rfl).is rfl rfl
      have e70 : ac.eval (.tmp 70) = (.bool true) := (hk ⟨20, .data⟩ (by simp) rfl).is rfl rfl
      exact step_value (run_pick_true e67 rfl w) (Below.refl _ _) e70
    · refine StepOKl.of ?_
      intro ac w hb hu hk
      refine ⟨wanted_none rfl, ?_⟩
      have e71 : ac.eval (.tmp 71) = (.bool true) := (hk ⟨21, .data⟩ (by simp) rfl).is rfl rfl
      exact step_value (BigFrame.run_move (.tmp 71) rfl w) (Below.refl _ _) e71
    · refine StepOKl.of ?_
      intro ac w hb hu hk
      refine ⟨wanted_some rfl (hk ⟨22, .guard⟩ (by simp) rfl) rfl rfl (fun _ h => h), ?_⟩
      have e19 : ac.eval (.tmp 19) = .pointer (some ⟨i19, 0, none⟩) := hu.is (t := 19) (by kernel_rfl)
      exact wp_load_row 23 (.tmp 19) rfl i19 e19 23 KV (0, 0) _ (HB19.out w hb) Tryd.underlying23 rfl (by rw [HZKV.out]; kernel_rfl) ⟨_, rfl, rfl, Below.refl _ _⟩
    · refine StepOKl.of ?_
      intro ac w hb hu hk
      refine ⟨wanted_some rfl (hk ⟨22, .guard⟩ (by simp) rfl) rfl rfl (fun _ h => h), ?_⟩
      have e21 : ac.eval (.tmp 21) = .pointer (some ⟨i21, 0, none⟩) := hu.is (t := 21) (by kernel_rfl)
      exact wp_load_row 23 (.tmp 21) rfl i21 e21 23 KV (0, 0) _ (HB21.out w hb) Tryd.underlying23 rfl (by rw [HZKV.out]; kernel_rfl) ⟨_, rfl, rfl, Below.refl _ _⟩
    · refine StepOKl.of ?_
      intro ac w hb hu hk
      refine ⟨wanted_some rfl (hk ⟨22, .guard⟩ (by simp) rfl) rfl rfl (fun _ h => h), ?_⟩
      have e73 : ac.eval (.tmp 73) = (.agg KV) := (hk ⟨23, .data⟩ (by simp) rfl).is rfl rfl
      have e74 : ac.eval (.tmp 74) = (.agg KV) := (hk ⟨24, .data⟩ (by simp) rfl).is rfl rfl
      refine step_value (w' := w) (v := .bool true) ?_ (Below.refl _ _) rfl
      have hq := HKE.out w
      generalize ac.eval = ρ at e73 e74 ⊢
      go_simp
    · refine StepOKl.of ?_
      intro ac w hb hu hk
      refine ⟨wanted_none rfl, ?_⟩
      have e72 : ac.eval (.tmp 72) = (.bool true) := (hk ⟨22, .data⟩ (by simp) rfl).is rfl rfl
      have e75 : ac.eval (.tmp 75) = (.bool true) := (hk ⟨25, .data⟩ (by simp) rfl).is rfl rfl
      exact step_value (run_pick_true e72 rfl w) (Below.refl _ _) e75
    · refine StepOKl.of ?_
      intro ac w hb hu hk
      refine ⟨wanted_none rfl, ?_⟩
      have e76 : ac.eval (.tmp 76) = (.bool true) := (hk ⟨26, .data⟩ (by simp) rfl).is rfl rfl
      exact step_value (BigFrame.run_move (.tmp 76) rfl w) (Below.refl _ _) e76
    · refine StepOKl.of ?_
      intro ac w hb hu hk
      refine ⟨wanted_some rfl (hk ⟨27, .guard⟩ (by simp) rfl) rfl rfl (fun _ h => h), ?_⟩
      have e10 : ac.eval (.tmp 10) = .pointer (some ⟨g10, 0, none⟩) := hu.is (t := 10) (by kernel_rfl)
      exact wp_load_row 23 (.tmp 10) rfl g10 e10 23 CL (0, 0) _ (HB10.out w hb) Tryd.underlying23 rfl (by rw [HZCL.out]; kernel_rfl) ⟨_, rfl, rfl, Below.refl _ _⟩
    · refine StepOKl.of ?_
      intro ac w hb hu hk
      refine ⟨wanted_some rfl (hk ⟨27, .guard⟩ (by simp) rfl) rfl rfl (fun _ h => h), ?_⟩
      have e11 : ac.eval (.tmp 11) = .pointer (some ⟨g11, 0, none⟩) := hu.is (t := 11) (by kernel_rfl)
      exact wp_load_row 23 (.tmp 11) rfl g11 e11 23 IX (0, 0) _ (HB11.out w hb) Tryd.underlying23 rfl (by rw [HZIX.out]; kernel_rfl) ⟨_, rfl, rfl, Below.refl _ _⟩
    · refine StepOKl.of ?_
      intro ac w hb hu hk
      refine ⟨wanted_some rfl (hk ⟨27, .guard⟩ (by simp) rfl) rfl rfl (fun _ h => h), ?_⟩
      have e6 : ac.eval (.tmp 6) = .int .i64 n6 := hu.is (t := 6) (by kernel_rfl)
      exact step_value (BigFrame.run_move (.tmp 6) rfl w) (Below.refl _ _) e6
    · refine StepOKl.of ?_
      intro ac w hb hu hk
      refine ⟨wanted_some rfl (hk ⟨27, .chain⟩ (by simp) rfl) rfl rfl (fun _ h => h), ?_⟩
      have e78 : ac.eval (.tmp 78) = (.agg CL) := (hk ⟨28, .data⟩ (by simp) rfl).is rfl rfl
      have e79 : ac.eval (.tmp 79) = (.agg IX) := (hk ⟨29, .data⟩ (by simp) rfl).is rfl rfl
      have e80 : ac.eval (.tmp 80) = (.int .i64 n6) := (hk ⟨30, .data⟩ (by simp) rfl).is rfl rfl
      have ef : ac.eval (.func 26) = .func (.func 26) #[] #[] := rfl
      refine step_enter (f := 26) (args := #[.agg CL, .agg IX, .int .i64 n6]) ?_ ?_
      · generalize ac.eval = ρ at e78 e79 e80 ef ⊢
        go_simp
      · exact (HRP.out w hb).mono fun e w' ⟨he, hq⟩ => ⟨_, he, rfl, hq⟩
    · refine StepOKl.of ?_
      intro ac w hb hu hk
      refine ⟨wanted_some rfl (hk ⟨27, .guard⟩ (by simp) rfl) rfl rfl (fun _ h => h), ?_⟩
      have e10 : ac.eval (.tmp 10) = .pointer (some ⟨g10, 0, none⟩) := hu.is (t := 10) (by kernel_rfl)
      exact wp_load_row 23 (.tmp 10) rfl g10 e10 23 CL (0, 0) _ (HB10.out w hb) Tryd.underlying23 rfl (by rw [HZCL.out]; kernel_rfl) ⟨_, rfl, rfl, Below.refl _ _⟩
    · refine StepOKl.of ?_
      intro ac w hb hu hk
      refine ⟨wanted_some rfl (hk ⟨27, .guard⟩ (by simp) rfl) rfl rfl (fun _ h => h), ?_⟩
      have e11 : ac.eval (.tmp 11) = .pointer (some ⟨g11, 0, none⟩) := hu.is (t := 11) (by kernel_rfl)
      exact wp_load_row 23 (.tmp 11) rfl g11 e11 23 IX (0, 0) _ (HB11.out w hb) Tryd.underlying23 rfl (by rw [HZIX.out]; kernel_rfl) ⟨_, rfl, rfl, Below.refl _ _⟩
    · refine StepOKl.of ?_
      intro ac w hb hu hk
      refine ⟨wanted_some rfl (hk ⟨27, .guard⟩ (by simp) rfl) rfl rfl (fun _ h => h), ?_⟩
      have e6 : ac.eval (.tmp 6) = .int .i64 n6 := hu.is (t := 6) (by kernel_rfl)
      exact step_value (BigFrame.run_move (.tmp 6) rfl w) (Below.refl _ _) e6
    · refine StepOKl.of ?_
      intro ac w hb hu hk
      refine ⟨wanted_some rfl (hk ⟨27, .guard⟩ (by simp) rfl) rfl rfl (fun _ h => h), ?_⟩
      have e82 : ac.eval (.tmp 82) = (.agg CL) := (hk ⟨32, .data⟩ (by simp) rfl).is rfl rfl
      have e83 : ac.eval (.tmp 83) = (.agg IX) := (hk ⟨33, .data⟩ (by simp) rfl).is rfl rfl
      have e84 : ac.eval (.tmp 84) = (.int .i64 n6) := (hk ⟨34, .data⟩ (by simp) rfl).is rfl rfl
      have ef : ac.eval (.func 27) = .func (.func 27) #[] #[] := rfl
      refine step_enter (f := 27) (args := #[.agg CL, .agg IX, .int .i64 n6]) ?_ ?_
      · generalize ac.eval = ρ at e82 e83 e84 ef ⊢
        go_simp
      · exact (HRR.out w).mono fun e w' ⟨he, hq⟩ => ⟨_, he, rfl, hq⟩
    · refine StepOKl.of ?_
      intro ac w hb hu hk
      refine ⟨wanted_some rfl (hk ⟨27, .guard⟩ (by simp) rfl) rfl rfl (fun _ h => h), ?_⟩
      have e81 : ac.eval (.tmp 81) = (.agg RK) := (hk ⟨31, .data⟩ (by simp) rfl).is rfl rfl
      have e85 : ac.eval (.tmp 85) = (.agg RK) := (hk ⟨35, .data⟩ (by simp) rfl).is rfl rfl
      refine step_value (w' := w) (v := .bool true) ?_ (Below.refl _ _) rfl
      have hq := HRKE.out w
      generalize ac.eval = ρ at e81 e85 ⊢
      go_simp
    · refine StepOKl.of ?_
      intro ac w hb hu hk
      refine ⟨wanted_none rfl, ?_⟩
      have e77 : ac.eval (.tmp 77) = (.bool true) := (hk ⟨27, .data⟩ (by simp) rfl).is rfl rfl
      have e86 : ac.eval (.tmp 86) = (.bool true) := (hk ⟨36, .data⟩ (by simp) rfl).is rfl rfl
      exact step_value (run_pick_true e77 rfl w) (Below.refl _ _) e86
    · refine StepOKl.of ?_
      intro ac w hb hu hk
      refine ⟨wanted_none rfl, ?_⟩
      have e87 : ac.eval (.tmp 87) = (.bool true) := (hk ⟨37, .data⟩ (by simp) rfl).is rfl rfl
      exact step_value (BigFrame.run_move (.tmp 87) rfl w) (Below.refl _ _) e87
    · refine StepOKl.of ?_
      intro ac w hb hu hk
      refine ⟨wanted_some rfl (hk ⟨38, .chain⟩ (by simp) rfl) rfl rfl (fun _ h => h), ?_⟩
      have ef : ac.eval (.func 16) = .func (.func 16) #[] #[] := rfl
      refine step_enter (f := 16) (args := #[]) ?_ ?_
      · generalize ac.eval = ρ at  ef ⊢
        go_simp
      · exact (HWK.out w hb).mono fun e w' ⟨he, hq⟩ => ⟨_, he, rfl, hq⟩
    · refine StepOKl.of ?_
      intro ac w hb hu hk
      refine ⟨wanted_none rfl, ?_⟩
      have e88 : ac.eval (.tmp 88) = (.bool true) := (hk ⟨38, .data⟩ (by simp) rfl).is rfl rfl
      have e89 : ac.eval (.tmp 89) = (.bool true) := (hk ⟨39, .data⟩ (by simp) rfl).is rfl rfl
      exact step_value (run_pick_true e88 rfl w) (Below.refl _ _) e89
    · refine StepOKl.of ?_
      intro ac w hb hu hk
      refine ⟨wanted_none rfl, ?_⟩
      have e90 : ac.eval (.tmp 90) = (.bool true) := (hk ⟨40, .data⟩ (by simp) rfl).is rfl rfl
      exact step_value (BigFrame.run_assign (.tmp 90) rfl w) (Below.refl _ _) e90
    · intro ac w' hb hu hk hap
      obtain ⟨_, h14, rfl⟩ := (hk 41 (by decide)).put rfl rfl
      obtain ⟨_, h50, rfl⟩ := (hk 0 (by decide)).put rfl rfl
      obtain ⟨_, h51, rfl⟩ := (hk 1 (by decide)).put rfl rfl
      obtain ⟨_, h52, rfl⟩ := (hk 2 (by decide)).put rfl rfl
      obtain ⟨_, h53, rfl⟩ := (hk 3 (by decide)).put rfl rfl
      obtain ⟨_, h54, rfl⟩ := (hk 4 (by decide)).put rfl rfl
      obtain ⟨_, h55, rfl⟩ := (hk 5 (by decide)).put rfl rfl
      obtain ⟨_, h56, rfl⟩ := (hk 6 (by decide)).put rfl rfl
      obtain ⟨_, h57, rfl⟩ := (hk 7 (by decide)).put rfl rfl
      obtain ⟨_, h58, rfl⟩ := (hk 8 (by decide)).put rfl rfl
      obtain ⟨_, h59, rfl⟩ := (hk 9 (by decide)).put rfl rfl
      obtain ⟨_, h60, rfl⟩ := (hk 10 (by decide)).put rfl rfl
      obtain ⟨_, h61, rfl⟩ := (hk 11 (by decide)).put rfl rfl
      obtain ⟨_, h62, rfl⟩ := (hk 12 (by decide)).put rfl rfl
      obtain ⟨_, h63, rfl⟩ := (hk 13 (by decide)).put rfl rfl
      obtain ⟨_, h64, rfl⟩ := (hk 14 (by decide)).put rfl rfl
      obtain ⟨_, h65, rfl⟩ := (hk 15 (by decide)).put rfl rfl
      obtain ⟨_, h66, rfl⟩ := (hk 16 (by decide)).put rfl rfl
      obtain ⟨_, h67, rfl⟩ := (hk 17 (by decide)).put rfl rfl
      obtain ⟨_, h68, rfl⟩ := (hk 18 (by decide)).put rfl rfl
      obtain ⟨_, h69, rfl⟩ := (hk 19 (by decide)).put rfl rfl
      obtain ⟨_, h70, rfl⟩ := (hk 20 (by decide)).put rfl rfl
      obtain ⟨_, h71, rfl⟩ := (hk 21 (by decide)).put rfl rfl
      obtain ⟨_, h72, rfl⟩ := (hk 22 (by decide)).put rfl rfl
      obtain ⟨_, h73, rfl⟩ := (hk 23 (by decide)).put rfl rfl
      obtain ⟨_, h74, rfl⟩ := (hk 24 (by decide)).put rfl rfl
      obtain ⟨_, h75, rfl⟩ := (hk 25 (by decide)).put rfl rfl
      obtain ⟨_, h76, rfl⟩ := (hk 26 (by decide)).put rfl rfl
      obtain ⟨_, h77, rfl⟩ := (hk 27 (by decide)).put rfl rfl
      obtain ⟨_, h78, rfl⟩ := (hk 28 (by decide)).put rfl rfl
      obtain ⟨_, h79, rfl⟩ := (hk 29 (by decide)).put rfl rfl
      obtain ⟨_, h80, rfl⟩ := (hk 30 (by decide)).put rfl rfl
      obtain ⟨_, h81, rfl⟩ := (hk 31 (by decide)).put rfl rfl
      obtain ⟨_, h82, rfl⟩ := (hk 32 (by decide)).put rfl rfl
      obtain ⟨_, h83, rfl⟩ := (hk 33 (by decide)).put rfl rfl
      obtain ⟨_, h84, rfl⟩ := (hk 34 (by decide)).put rfl rfl
      obtain ⟨_, h85, rfl⟩ := (hk 35 (by decide)).put rfl rfl
      obtain ⟨_, h86, rfl⟩ := (hk 36 (by decide)).put rfl rfl
      obtain ⟨_, h87, rfl⟩ := (hk 37 (by decide)).put rfl rfl
      obtain ⟨_, h88, rfl⟩ := (hk 38 (by decide)).put rfl rfl
      obtain ⟨_, h89, rfl⟩ := (hk 39 (by decide)).put rfl rfl
      obtain ⟨_, h90, rfl⟩ := (hk 40 (by decide)).put rfl rfl
      clear hap
      have hF : AllPuts ac.tmps ((14, _) :: (50, _) :: (51, _) :: (52, _) :: (53, _) :: (54, _) :: (55, _) :: (56, _) :: (57, _) :: (58, _) :: (59, _) :: (60, _) :: (61, _) :: (62, _) :: (63, _) :: (64, _) :: (65, _) :: (66, _) :: (67, _) :: (68, _) :: (69, _) :: (70, _) :: (71, _) :: (72, _) :: (73, _) :: (74, _) :: (75, _) :: (76, _) :: (77, _) :: (78, _) :: (79, _) :: (80, _) :: (81, _) :: (82, _) :: (83, _) :: (84, _) :: (85, _) :: (86, _) :: (87, _) :: (88, _) :: (89, _) :: (90, _) :: []) := ⟨h14, h50, h51, h52, h53, h54, h55, h56, h57, h58, h59, h60, h61, h62, h63, h64, h65, h66, h67, h68, h69, h70, h71, h72, h73, h74, h75, h76, h77, h78, h79, h80, h81, h82, h83, h84, h85, h86, h87, h88, h89, h90, trivial⟩
      obtain rfl := frame_puts hu (by kernel_rfl) hF
      simp only [puts, Act.put, List.setIfInBounds_toArray, List.set_cons_zero, List.set_cons_succ, List.drop_succ_cons, List.drop_nil]
      clear hk hu hF h14 h50 h51 h52 h53 h54 h55 h56 h57 h58 h59 h60 h61 h62 h63 h64 h65 h66 h67 h68 h69 h70 h71 h72 h73 h74 h75 h76 h77 h78 h79 h80 h81 h82 h83 h84 h85 h86 h87 h88 h89 h90
      have hfin := HSd.out.bel.trans (hb.mono HSd.out.bel.size)
      clear hb
      go_wp2_with fail
      go_ret
      exact ⟨by first | rfl | kernel_rfl, by first | exact hfin | (rw [← HG.out]; exact hfin)⟩
  · obtain ⟨c1, hc1⟩ : ∃ x, cut13 c0 = x := ⟨_, rfl⟩
    obtain ⟨n1, hn1⟩ : ∃ x, min m0 80 = x := ⟨_, rfl⟩
    rw [hc1, hn1] at H2 HC1
    rw [hc1] at HBD
    clear hc1 hn1
    have HMK := Lib.hid (show Calls Tryd.prog 18 #[.agg C1] w3 fun e w' => (∃ v, e = .returned v ∧ CapV w' w3.heap.size v (mk13 c1)) ∧ Below w3.heap.size w3 w' from by
      rw [← HC1.out]
      exact mk13_any HBD.out.1 HBD.out.2 H2.out.len H2.out.room H2.out.lit)
    generalize mk13 c1 = d at *
    go_upto_region 4 with (first
      | (refine wpList_load_capC ?_ (.tmp 7) rfl g rfl H2.out.cap HC1.out ?_; · rfl)
      | ((with_reducible refine HMK.out.mono ?_); rintro e w4 ⟨⟨v, rfl, hv⟩, hb4⟩; obtain ⟨hwf, A', n', cc', rfl, hln, hrm, hrd, hla⟩ := hv; obtain ⟨CD, hCD⟩ : ∃ x, capA d (.slice A' n' cc') = x := ⟨_, rfl⟩; rw [hCD]; have HCD := Lib.hid hCD; have HX4 := Lib.hid (show Blk w4 g C1 28 from HC1.out ▸ (H2.out.below hb4).cap.blk); have H3 := Lib.hid (H2.out.made hb4 hwf hln hrm hrd hla hCD); have HS4 := Lib.hid (show CD.size = 53 ∧ CD.all (·.oneCell') = true by rw [← hCD]; exact ⟨capA_size hwf _, capA_one⟩); replace HO9 := Lib.hid ((HO9.out.below hb4 HO9.out.lt).rowOther HNE.out.1 CD); replace HO10 := Lib.hid ((HO10.out.below hb4 HO10.out.lt).rowOther HNE.out.2.1 CD); replace HO11 := Lib.hid ((HO11.out.below hb4 HO11.out.lt).rowOther HNE.out.2.2.1 CD); replace HO12 := Lib.hid ((HO12.out.below hb4 HO12.out.lt).rowOther HNE.out.2.2.2 CD); clear hCD hwf hln hrm hrd hla hb4)
      | (with_reducible refine wpList_store_blkTo rfl 28 (.tmp 7) (.tmp 27) rfl rfl g CD rfl rfl 28 C1 HX4.out (by rw [HS4.out.1]; kernel_rfl) (by rw [HS4.out.1, HS1.out.1]) HS4.out.2 ?_))
    generalize w4.setRow g CD = w3 at *
    obtain ⟨M, hM⟩ : ∃ x, (if dirOK d then dir13 d else cap0) = x := ⟨_, rfl⟩
    obtain ⟨E1, hE1⟩ : ∃ x, (if dirOK d then (0 : Int) else 11) = x := ⟨_, rfl⟩
    obtain ⟨KV, hKV⟩ : ∃ x, u8A (if d.writes then enb13 d.key n6 else key0) = x := ⟨_, rfl⟩
    obtain ⟨E2, hE2⟩ : ∃ x, (if d.writes then (0 : Int) else 11) = x := ⟨_, rfl⟩
    have HT3 := Lib.hid (fun (W : World) (hW : Below w3.heap.size w3 W) => tab_on HT.out (H3.out.bel.trans (hW.mono H3.out.bel.size)) (Nat.le_trans H3.out.bel.size hW.size))
    have HL1 := Lib.hid (show M.lit.length ≤ maxLen by
      rw [← hM]
      split
      · rename_i h
        have := ok_small h.1 (n := d.lit.length) rfl
        show d.lit.length ≤ maxLen
        unfold maxLen
        omega
      · exact Nat.zero_le _)
    have hkl : (if d.writes then enb13 d.key n6 else key0).length = 16 := by
      split
      · exact short13_len _ _
      · rfl
    have HKS := Lib.hid (show KV.size = 16 ∧ KV.all (·.oneCell') = true by
      rw [← hKV]
      exact ⟨by rw [u8A_size]; exact hkl, u8A_one _⟩)
    have HKE := Lib.hid (fun W => (show (Op.equalIn 10000 23 (.agg KV) (.agg KV)).run Tryd.prog W = .ok true W by
      have h := run_key_eq W _ _ hkl hkl
      rwa [hKV, decide_eq_true rfl] at h))
    have HPD := Lib.hid (fun (W : World) (hW : Below w3.heap.size w3 W) => (show Calls Tryd.prog 12 #[.agg CD] W fun e w' => CapSaid W w' e M E1 from by
      have h := pdir_any (w := W) (cc := cc') H3.out.cap.wf H3.out.len (H3.out.lit.on hW)
      rwa [HCD.out, hM, hE1] at h))
    have HRD := Lib.hid (fun (W : World) (_ : Below w3.heap.size w3 W) => (show Calls Tryd.prog 23 #[.agg CD] W fun e w' => CapSaid W w' e M E1 from by
      have h := rdir_any (w := W) (A := A') H3.out.cap.wf H3.out.len H3.out.room
      rwa [HCD.out, hM, hE1] at h))
    have HPE := Lib.hid (fun (W : World) (hW : Below w3.heap.size w3 W) => (show Calls Tryd.prog 14 #[.agg CD, .int .i64 n6] W fun e w' => e = .returned (.tuple #[.agg KV, .int .i64 E2]) ∧ Below W.heap.size W w' from by
      have h := penabler_any (w := W) (cc := cc') H3.out.cap.wf H3.out.len (H3.out.lit.on hW) HLE.out.2.2.2.2 (HT3.out W hW)
      rwa [HCD.out, hKV, hE2] at h))
    have HRE := Lib.hid (fun (W : World) (_ : Below w3.heap.size w3 W) => (show Calls Tryd.prog 24 #[.agg CD, .int .i64 n6] W fun e w' => e = .returned (.tuple #[.agg KV, .int .i64 E2]) ∧ Below W.heap.size W w' from by
      have h := renabler_any (w := W) (A := A') (cc := cc') H3.out.cap.wf H3.out.len HLE.out.2.2.2.2
      rwa [HCD.out, hKV, hE2] at h))
    have HWK0 := Lib.hid (fun (W : World) (hW : Below w3.heap.size w3 W) => wakes13_any W (HT3.out W hW))
    clear hM hE1 hE2 hKV hkl
    have HSd := H3
    have HBK := Lib.hid (Below.refl w3.heap.size w3)
    go_upto_region 5 with (first
      | (refine wpList_load_capC ?_ (.tmp 7) rfl g rfl HSd.out.cap HCD.out ?_; · rfl)
      | ((with_reducible refine (HPD.out _ HBK.out).mono ?_); rintro e w5 ⟨⟨v, rfl, hv⟩, hba⟩; obtain ⟨hwf, A4, n4, cc4, rfl, hln, hrm, hrd, hla⟩ := hv; obtain ⟨CA, hCA⟩ : ∃ x, capA M (.slice A4 n4 cc4) = x := ⟨_, rfl⟩; rw [hCA]; have HCA := Lib.hid hCA; have HZCA := Lib.hid (show CA.size = 53 ∧ CA.all (·.oneCell') = true by rw [← hCA]; exact ⟨capA_size hwf _, capA_one⟩))
      | (with_reducible refine wpList_store_blkTo rfl 28 (.tmp 15) (.tmp 31) rfl rfl w5.heap.size CA rfl rfl 28 _ (Blk.new w5 _ _) (by rw [HZCA.out.1]; kernel_rfl) (by rw [HZCA.out.1]; kernel_rfl) HZCA.out.2 ?_))
    have hfr := fun Y => CapW.fresh (HSd.out.bel.trans (hba.mono HSd.out.bel.size)) hwf hln hrm hrd Y hCA
    generalize hwn : World.setRow _ _ _ = w6
    have hk : CapW w w6 w5.heap.size M A4 n4 cc4 ∧ Below w5.heap.size w5 w6 := by
      rw [← hwn]
      exact hfr _
    have hbn := hba.trans (hk.2.mono hba.size)
    obtain ⟨g15, hg15⟩ : ∃ x, w5.heap.size = x := ⟨_, rfl⟩
    rw [hg15] at hk ⊢
    replace HSd := Lib.hid (HSd.out.below hbn)
    replace HO9 := Lib.hid (HO9.out.below hbn HO9.out.lt)
    replace HO10 := Lib.hid (HO10.out.below hbn HO10.out.lt)
    replace HO11 := Lib.hid (HO11.out.below hbn HO11.out.lt)
    replace HO12 := Lib.hid (HO12.out.below hbn HO12.out.lt)
    replace HBK := Lib.hid (HBK.out.trans (hbn.mono HBK.out.size))
    have HS15 := Lib.hid hk.1
    clear hfr hwn hk hbn hba hg15 hwf hln hrm hrd hla hCA HPD
    go_upto_region 6 with (first
      | (refine wpList_load_capC ?_ (.tmp 7) rfl g rfl HSd.out.cap HCD.out ?_; · rfl)
      | ((with_reducible refine (HRD.out _ HBK.out).mono ?_); rintro e w7 ⟨⟨v, rfl, hv⟩, hba⟩; obtain ⟨hwf, A5, n5, cc5, rfl, hln, hrm, hrd, hla⟩ := hv; obtain ⟨CB, hCB⟩ : ∃ x, capA M (.slice A5 n5 cc5) = x := ⟨_, rfl⟩; rw [hCB]; have HCB := Lib.hid hCB; have HZCB := Lib.hid (show CB.size = 53 ∧ CB.all (·.oneCell') = true by rw [← hCB]; exact ⟨capA_size hwf _, capA_one⟩))
      | (with_reducible refine wpList_store_blkTo rfl 28 (.tmp 17) (.tmp 36) rfl rfl w7.heap.size CB rfl rfl 28 _ (Blk.new w7 _ _) (by rw [HZCB.out.1]; kernel_rfl) (by rw [HZCB.out.1]; kernel_rfl) HZCB.out.2 ?_))
    have hfr := fun Y => CapW.fresh (HSd.out.bel.trans (hba.mono HSd.out.bel.size)) hwf hln hrm hrd Y hCB
    generalize hwn : World.setRow _ _ _ = w8
    have hk : CapW w w8 w7.heap.size M A5 n5 cc5 ∧ Below w7.heap.size w7 w8 := by
      rw [← hwn]
      exact hfr _
    have hbn := hba.trans (hk.2.mono hba.size)
    obtain ⟨g17, hg17⟩ : ∃ x, w7.heap.size = x := ⟨_, rfl⟩
    rw [hg17] at hk ⊢
    replace HSd := Lib.hid (HSd.out.below hbn)
    replace HS15 := Lib.hid (HS15.out.below hbn)
    replace HO9 := Lib.hid (HO9.out.below hbn HO9.out.lt)
    replace HO10 := Lib.hid (HO10.out.below hbn HO10.out.lt)
    replace HO11 := Lib.hid (HO11.out.below hbn HO11.out.lt)
    replace HO12 := Lib.hid (HO12.out.below hbn HO12.out.lt)
    replace HBK := Lib.hid (HBK.out.trans (hbn.mono HBK.out.size))
    have HS17 := Lib.hid hk.1
    clear hfr hwn hk hbn hba hg17 hwf hln hrm hrd hla hCB HRD
    go_upto_region 7 with (first
      | (refine wpList_load_capC ?_ (.tmp 7) rfl g rfl HSd.out.cap HCD.out ?_; · rfl)
      | ((with_reducible refine (HPE.out _ HBK.out).mono ?_); rintro e w9 ⟨rfl, hba⟩)
      | (with_reducible refine wpList_store_blkTo rfl 23 (.tmp 19) (.tmp 42) rfl rfl w9.heap.size KV rfl rfl 23 _ (Blk.new w9 _ _) (by rw [HKS.out.1]; kernel_rfl) (by rw [HKS.out.1]; kernel_rfl) HKS.out.2 ?_))
    have hkf := fun Y => key_fresh (w := w9) Y KV
    generalize hwn : World.setRow _ _ _ = wa
    have hk : Blk wa w9.heap.size KV 23 ∧ Below w9.heap.size w9 wa := by
      rw [← hwn]
      exact hkf _
    have hbn := hba.trans (hk.2.mono hba.size)
    obtain ⟨i19, hi19⟩ : ∃ x, w9.heap.size = x := ⟨_, rfl⟩
    rw [hi19] at hk ⊢
    replace HSd := Lib.hid (HSd.out.below hbn)
    replace HS15 := Lib.hid (HS15.out.below hbn)
    replace HS17 := Lib.hid (HS17.out.below hbn)
    replace HO9 := Lib.hid (HO9.out.below hbn HO9.out.lt)
    replace HO10 := Lib.hid (HO10.out.below hbn HO10.out.lt)
    replace HO11 := Lib.hid (HO11.out.below hbn HO11.out.lt)
    replace HO12 := Lib.hid (HO12.out.below hbn HO12.out.lt)
    replace HBK := Lib.hid (HBK.out.trans (hbn.mono HBK.out.size))
    have HI19 := Lib.hid hk.1
    clear hkf hwn hk hbn hba hi19 HPE
    go_upto_region 8 with (first
      | (refine wpList_load_capC ?_ (.tmp 7) rfl g rfl HSd.out.cap HCD.out ?_; · rfl)
      | ((with_reducible refine (HRE.out _ HBK.out).mono ?_); rintro e wb ⟨rfl, hba⟩)
      | (with_reducible refine wpList_store_blkTo rfl 23 (.tmp 21) (.tmp 48) rfl rfl wb.heap.size KV rfl rfl 23 _ (Blk.new wb _ _) (by rw [HKS.out.1]; kernel_rfl) (by rw [HKS.out.1]; kernel_rfl) HKS.out.2 ?_))
    have hkf := fun Y => key_fresh (w := wb) Y KV
    generalize hwn : World.setRow _ _ _ = wg
    have hk : Blk wg wb.heap.size KV 23 ∧ Below wb.heap.size wb wg := by
      rw [← hwn]
      exact hkf _
    have hbn := hba.trans (hk.2.mono hba.size)
    obtain ⟨i21, hi21⟩ : ∃ x, wb.heap.size = x := ⟨_, rfl⟩
    rw [hi21] at hk ⊢
    replace HSd := Lib.hid (HSd.out.below hbn)
    replace HS15 := Lib.hid (HS15.out.below hbn)
    replace HS17 := Lib.hid (HS17.out.below hbn)
    replace HO9 := Lib.hid (HO9.out.below hbn HO9.out.lt)
    replace HO10 := Lib.hid (HO10.out.below hbn HO10.out.lt)
    replace HO11 := Lib.hid (HO11.out.below hbn HO11.out.lt)
    replace HO12 := Lib.hid (HO12.out.below hbn HO12.out.lt)
    replace HI19 := Lib.hid (HI19.out.below hbn HI19.out.lt)
    replace HBK := Lib.hid (HBK.out.trans (hbn.mono HBK.out.size))
    have HI21 := Lib.hid hk.1
    clear hkf hwn hk hbn hba hi21 HRE
    have HP15 := HS15
    have HP17 := HS17
    have HKT := HBK
    have HTT := Lib.hid (fun (W : World) (hW : Below wg.heap.size wg W) => HT3.out W (HKT.out.trans (hW.mono HKT.out.size)))
    have HSM := Lib.hid (fun (W : World) (hW : Below wg.heap.size wg W) => (show Calls Tryd.prog 22 #[.agg CA, .agg CB] W fun e w' => e = .returned (.bool true) ∧ Below W.heap.size W w' from by
      have h := ksame_any (w := W) HP15.out.cap.wf HP17.out.cap.wf (c := cc4) (d := cc5) HP15.out.len HP17.out.len (by rw [← HP15.out.len]; exact HL1.out) (HP15.out.lit.on hW) (HP17.out.lit.on hW)
      rwa [HCA.out, HCB.out, decide_eq_true rfl] at h))
    have HSP := Lib.hid (fun (W : World) (hW : Below wg.heap.size wg W) => (show Calls Tryd.prog 9 #[.agg SD, .agg FP] W fun e w' => e = .returned (.agg CS) ∧ Below W.heap.size W w' from by
      have h := pslot_any (w := W) HLE.out.1 HLE.out.2.2.2.1 (HTT.out W hW)
      rwa [HAG.out.1, HAG.out.2.2.2.1, HCS.out] at h))
    have HSR := Lib.hid (fun (W : World) => (show Calls Tryd.prog 25 #[.agg SD, .agg FP] W fun e w' => e = .returned (.agg CS) ∧ Below W.heap.size W w' from by
      have h := rslotc_any (w := W) HLE.out.1 HLE.out.2.2.2.1
      rwa [HAG.out.1, HAG.out.2.2.2.1, HCS.out] at h))
    have HSS := Lib.hid (fun (W : World) => (show Calls Tryd.prog 22 #[.agg CS, .agg CS] W fun e w' => e = .returned (.bool true) ∧ Below W.heap.size W w' from by
      have hwf : (slot13 k2 k5).wf := ⟨short13_len _ _, HLE.out.2.2.2.1⟩
      have h := ksame_any (w := W) (A := none) (B := none) (n := 0) (m := 0) (c := 0) (d := 0) hwf hwf rfl rfl (Nat.zero_le _) (.inl rfl) (.inl rfl)
      rwa [HCS.out, decide_eq_true rfl] at h))
    have HRP := Lib.hid (fun (W : World) (hW : Below wg.heap.size wg W) => (show Calls Tryd.prog 26 #[.agg CL, .agg IX, .int .i64 n6] W fun e w' => e = .returned (.agg RK) ∧ Below W.heap.size W w' from by
      have h := prenewal_any (w := W) HLE.out.2.1 HLE.out.2.2.1 HLE.out.2.2.2.2 (HTT.out W hW)
      rwa [HAG.out.2.1, HAG.out.2.2.1, HRK.out] at h))
    have HRR := Lib.hid (fun (W : World) => (show Calls Tryd.prog 27 #[.agg CL, .agg IX, .int .i64 n6] W fun e w' => e = .returned (.agg RK) ∧ Below W.heap.size W w' from by
      have h := rrenewal_any (w := W) HLE.out.2.1 HLE.out.2.2.1 HLE.out.2.2.2.2
      rwa [HAG.out.2.1, HAG.out.2.2.1, HRK.out] at h))
    have HRKE := Lib.hid (fun W => (show (Op.equalIn 10000 23 (.agg RK) (.agg RK)).run Tryd.prog W = .ok true W by
      have h := run_key_eq W _ _ (short13_len renTag [k3, k4, put2 n6]) (short13_len renTag [k3, k4, put2 n6])
      change (Op.equalIn 10000 23 (.agg (u8A (ren13 k3 k4 n6))) (.agg (u8A (ren13 k3 k4 n6)))).run Tryd.prog W = _ at h
      rwa [HRK.out, decide_eq_true rfl] at h))
    have HWK := Lib.hid (fun (W : World) (hW : Below wg.heap.size wg W) => HWK0.out W (HKT.out.trans (hW.mono HKT.out.size)))
    have HB9 := Lib.hid (fun (W : World) (hW : Below wg.heap.size wg W) => HO9.out.below hW HO9.out.lt)
    have HB10 := Lib.hid (fun (W : World) (hW : Below wg.heap.size wg W) => HO10.out.below hW HO10.out.lt)
    have HB11 := Lib.hid (fun (W : World) (hW : Below wg.heap.size wg W) => HO11.out.below hW HO11.out.lt)
    have HB12 := Lib.hid (fun (W : World) (hW : Below wg.heap.size wg W) => HO12.out.below hW HO12.out.lt)
    have HB15 := Lib.hid (fun (W : World) (hW : Below wg.heap.size wg W) => (HCA.out ▸ (HP15.out.cap.below hW).blk : Blk W g15 CA 28))
    have HB17 := Lib.hid (fun (W : World) (hW : Below wg.heap.size wg W) => (HCB.out ▸ (HP17.out.cap.below hW).blk : Blk W g17 CB 28))
    have HB19 := Lib.hid (fun (W : World) (hW : Below wg.heap.size wg W) => HI19.out.below hW HI19.out.lt)
    have HB21 := Lib.hid (fun (W : World) (hW : Below wg.heap.size wg W) => HI21.out.below hW HI21.out.lt)
    replace HZCA := Lib.hid HZCA.out.1
    replace HZCB := Lib.hid HZCB.out.1
    have HZKV := Lib.hid HKS.out.1
    refine wp_region_loose 42 0 (fun i => false) (promises [.is (.agg SD), .is (.agg FP), .is (.agg CS), .is (.agg SD), .is (.agg FP), .is (.agg CS), .is (.bool true), .is (.bool true), .is (.int .i64 E1), .is (.int .i64 E1), .is (.bool true), .is (.bool true), .is (.bool true), .is (.agg CA), .is (.agg CB), .is (.bool true), .is (.bool true), .is (.bool true), .is (.int .i64 E2), .is (.int .i64 E2), .is (.bool true), .is (.bool true), .is (.bool true), .is (.agg KV), .is (.agg KV), .is (.bool true), .is (.bool true), .is (.bool true), .is (.agg CL), .is (.agg IX), .is (.int .i64 n6), .is (.agg RK), .is (.agg CL), .is (.agg IX), .is (.int .i64 n6), .is (.agg RK), .is (.bool true), .is (.bool true), .is (.bool true), .is (.bool true), .is (.bool true), .is (.bool true)]) (by kernel_rfl) rfl (by kernel_rfl) (fun i v w w' h hb => Spec.keep h hb) ⟨?_, ?_, ?_, ?_, ?_, ?_, ?_, ?_, ?_, ?_, ?_, ?_, ?_, ?_, ?_, ?_, ?_, ?_, ?_, ?_, ?_, ?_, ?_, ?_, ?_, ?_, ?_, ?_, ?_, ?_, ?_, ?_, ?_, ?_, ?_, ?_, ?_, ?_, ?_, ?_, ?_, ?_, trivial⟩ ?_
    · refine StepOKl.of ?_
      intro ac w hb hu hk
      refine ⟨wanted_none rfl, ?_⟩
      have e9 : ac.eval (.tmp 9) = .pointer (some ⟨g9, 0, none⟩) := hu.is (t := 9) (by kernel_rfl)
      exact wp_load_row 23 (.tmp 9) rfl g9 e9 23 SD (0, 0) _ (HB9.out w hb) Tryd.underlying23 rfl (by rw [HZSD.out]; kernel_rfl) ⟨_, rfl, rfl, Below.refl _ _⟩
    · refine StepOKl.of ?_
      intro ac w hb hu hk
      refine ⟨wanted_none rfl, ?_⟩
      have e12 : ac.eval (.tmp 12) = .pointer (some ⟨g12, 0, none⟩) := hu.is (t := 12) (by kernel_rfl)
      exact wp_load_row 25 (.tmp 12) rfl g12 e12 25 FP (0, 0) _ (HB12.out w hb) Tryd.underlying25 rfl (by rw [HZFP.out]; kernel_rfl) ⟨_, rfl, rfl, Below.refl _ _⟩
    · refine StepOKl.of ?_
      intro ac w hb hu hk
      refine ⟨wanted_none rfl, ?_⟩
      have e50 : ac.eval (.tmp 50) = (.agg SD) := (hk ⟨0, .data⟩ (by simp) rfl).is rfl rfl
      have e51 : ac.eval (.tmp 51) = (.agg FP) := (hk ⟨1, .data⟩ (by simp) rfl).is rfl rfl
      have ef : ac.eval (.func 9) = .func (.func 9) #[] #[] := rfl
      refine step_enter (f := 9) (args := #[.agg SD, .agg FP]) ?_ ?_
      · generalize ac.eval = ρ at e50 e51 ef ⊢
        go_simp
      · exact (HSP.out w hb).mono fun e w' ⟨he, hq⟩ => ⟨_, he, rfl, hq⟩
    · refine StepOKl.of ?_
      intro ac w hb hu hk
      refine ⟨wanted_none rfl, ?_⟩
      have e9 : ac.eval (.tmp 9) = .pointer (some ⟨g9, 0, none⟩) := hu.is (t := 9) (by kernel_rfl)
      exact wp_load_row 23 (.tmp 9) rfl g9 e9 23 SD (0, 0) _ (HB9.out w hb) Tryd.underlying23 rfl (by rw [HZSD.out]; kernel_rfl) ⟨_, rfl, rfl, Below.refl _ _⟩
    · refine StepOKl.of ?_
      intro ac w hb hu hk
      refine ⟨wanted_none rfl, ?_⟩
      have e12 : ac.eval (.tmp 12) = .pointer (some ⟨g12, 0, none⟩) := hu.is (t := 12) (by kernel_rfl)
      exact wp_load_row 25 (.tmp 12) rfl g12 e12 25 FP (0, 0) _ (HB12.out w hb) Tryd.underlying25 rfl (by rw [HZFP.out]; kernel_rfl) ⟨_, rfl, rfl, Below.refl _ _⟩
    · refine StepOKl.of ?_
      intro ac w hb hu hk
      refine ⟨wanted_none rfl, ?_⟩
      have e53 : ac.eval (.tmp 53) = (.agg SD) := (hk ⟨3, .data⟩ (by simp) rfl).is rfl rfl
      have e54 : ac.eval (.tmp 54) = (.agg FP) := (hk ⟨4, .data⟩ (by simp) rfl).is rfl rfl
      have ef : ac.eval (.func 25) = .func (.func 25) #[] #[] := rfl
      refine step_enter (f := 25) (args := #[.agg SD, .agg FP]) ?_ ?_
      · generalize ac.eval = ρ at e53 e54 ef ⊢
        go_simp
      · exact (HSR.out w).mono fun e w' ⟨he, hq⟩ => ⟨_, he, rfl, hq⟩
    · refine StepOKl.of ?_
      intro ac w hb hu hk
      refine ⟨wanted_none rfl, ?_⟩
      have e52 : ac.eval (.tmp 52) = (.agg CS) := (hk ⟨2, .data⟩ (by simp) rfl).is rfl rfl
      have e55 : ac.eval (.tmp 55) = (.agg CS) := (hk ⟨5, .data⟩ (by simp) rfl).is rfl rfl
      have ef : ac.eval (.func 22) = .func (.func 22) #[] #[] := rfl
      refine step_enter (f := 22) (args := #[.agg CS, .agg CS]) ?_ ?_
      · generalize ac.eval = ρ at e52 e55 ef ⊢
        go_simp
      · exact (HSS.out w).mono fun e w' ⟨he, hq⟩ => ⟨_, he, rfl, hq⟩
    · refine StepOKl.of ?_
      intro ac w hb hu hk
      refine ⟨wanted_none rfl, ?_⟩
      have e56 : ac.eval (.tmp 56) = (.bool true) := (hk ⟨6, .data⟩ (by simp) rfl).is rfl rfl
      exact step_value (BigFrame.run_move (.tmp 56) rfl w) (Below.refl _ _) e56
    · refine StepOKl.of ?_
      intro ac w hb hu hk
      refine ⟨wanted_some rfl (hk ⟨7, .guard⟩ (by simp) rfl) rfl rfl (fun _ h => h), ?_⟩
      have e16 : ac.eval (.tmp 16) = .int .i64 E1 := hu.is (t := 16) (by kernel_rfl)
      exact step_value (BigFrame.run_move (.tmp 16) rfl w) (Below.refl _ _) e16
    · refine StepOKl.of ?_
      intro ac w hb hu hk
      refine ⟨wanted_some rfl (hk ⟨7, .guard⟩ (by simp) rfl) rfl rfl (fun _ h => h), ?_⟩
      have e18 : ac.eval (.tmp 18) = .int .i64 E1 := hu.is (t := 18) (by kernel_rfl)
      exact step_value (BigFrame.run_move (.tmp 18) rfl w) (Below.refl _ _) e18
    · refine StepOKl.of ?_
      intro ac w hb hu hk
      refine ⟨wanted_some rfl (hk ⟨7, .guard⟩ (by simp) rfl) rfl rfl (fun _ h => h), ?_⟩
      have e58 : ac.eval (.tmp 58) = (.int .i64 E1) := (hk ⟨8, .data⟩ (by simp) rfl).is rfl rfl
      have e59 : ac.eval (.tmp 59) = (.int .i64 E1) := (hk ⟨9, .data⟩ (by simp) rfl).is rfl rfl
      refine step_value (w' := w) (v := (.bool true)) ?_ (Below.refl _ _) rfl
      generalize ac.eval = ρ at e58 e59 ⊢
      go_simp
    · refine StepOKl.of ?_
      intro ac w hb hu hk
      refine ⟨wanted_none rfl, ?_⟩
      have e57 : ac.eval (.tmp 57) = (.bool true) := (hk ⟨7, .data⟩ (by simp) rfl).is rfl rfl
      have e60 : ac.eval (.tmp 60) = (.bool true) := (hk ⟨10, .data⟩ (by simp) rfl).is rfl rfl
      exact step_value (run_pick_true e57 rfl w) (Below.refl _ _) e60
    · refine StepOKl.of ?_
      intro ac w hb hu hk
      refine ⟨wanted_none rfl, ?_⟩
      have e61 : ac.eval (.tmp 61) = (.bool true) := (hk ⟨11, .data⟩ (by simp) rfl).is rfl rfl
      exact step_value (BigFrame.run_move (.tmp 61) rfl w) (Below.refl _ _) e61
    · refine StepOKl.of ?_
      intro ac w hb hu hk
      refine ⟨wanted_some rfl (hk ⟨12, .guard⟩ (by simp) rfl) rfl rfl (fun _ h => h), ?_⟩
      have e15 : ac.eval (.tmp 15) = .pointer (some ⟨g15, 0, none⟩) := hu.is (t := 15) (by kernel_rfl)
      exact wp_load_row 28 (.tmp 15) rfl g15 e15 28 CA (0, 0) _ (HB15.out w hb) Tryd.underlying28 rfl (by rw [HZCA.out]; kernel_rfl) ⟨_, rfl, rfl, Below.refl _ _⟩
    · refine StepOKl.of ?_
      intro ac w hb hu hk
      refine ⟨wanted_some rfl (hk ⟨12, .guard⟩ (by simp) rfl) rfl rfl (fun _ h => h), ?_⟩
      have e17 : ac.eval (.tmp 17) = .pointer (some ⟨g17, 0, none⟩) := hu.is (t := 17) (by kernel_rfl)
      exact wp_load_row 28 (.tmp 17) rfl g17 e17 28 CB (0, 0) _ (HB17.out w hb) Tryd.underlying28 rfl (by rw [HZCB.out]; kernel_rfl) ⟨_, rfl, rfl, Below.refl _ _⟩
    · refine StepOKl.of ?_
      intro ac w hb hu hk
      refine ⟨wanted_some rfl (hk ⟨12, .chain⟩ (by simp) rfl) rfl rfl (fun _ h => h), ?_⟩
      have e63 : ac.eval (.tmp 63) = (.agg CA) := (hk ⟨13, .data⟩ (by simp) rfl).is rfl rfl
      have e64 : ac.eval (.tmp 64) = (.agg CB) := (hk ⟨14, .data⟩ (by simp) rfl).is rfl rfl
      have ef : ac.eval (.func 22) = .func (.func 22) #[] #[] := rfl
      refine step_enter (f := 22) (args := #[.agg CA, .agg CB]) ?_ ?_
      · generalize ac.eval = ρ at e63 e64 ef ⊢
        go_simp
      · exact (HSM.out w hb).mono fun e w' ⟨he, hq⟩ => ⟨_, he, rfl, hq⟩
    · refine StepOKl.of ?_
      intro ac w hb hu hk
      refine ⟨wanted_none rfl, ?_⟩
      have e62 : ac.eval (.tmp 62) = (.bool true) := (hk ⟨12, .data⟩ (by simp) rfl).is rfl rfl
      have e65 : ac.eval (.tmp 65) = (.bool true) := (hk ⟨15, .data⟩ (by simp) rfl).is rfl rfl
      exact step_value (run_pick_true e62 rfl w) (Below.refl _ _) e65
    · refine StepOKl.of ?_
      intro ac w hb hu hk
      refine ⟨wanted_none rfl, ?_⟩
      have e66 : ac.eval (.tmp 66) = (.bool true) := (hk ⟨16, .data⟩ (by simp) rfl).is rfl rfl
      exact step_value (BigFrame.run_move (.tmp 66) rfl w) (Below.refl _ _) e66
    · refine StepOKl.of ?_
      intro ac w hb hu hk
      refine ⟨wanted_some rfl (hk ⟨17, .guard⟩ (by simp) rfl) rfl rfl (fun _ h => h), ?_⟩
      have e20 : ac.eval (.tmp 20) = .int .i64 E2 := hu.is (t := 20) (by kernel_rfl)
      exact step_value (BigFrame.run_move (.tmp 20) rfl w) (Below.refl _ _) e20
    · refine StepOKl.of ?_
      intro ac w hb hu hk
      refine ⟨wanted_some rfl (hk ⟨17, .guard⟩ (by simp) rfl) rfl rfl (fun _ h => h), ?_⟩
      have e22 : ac.eval (.tmp 22) = .int .i64 E2 := hu.is (t := 22) (by kernel_rfl)
      exact step_value (BigFrame.run_move (.tmp 22) rfl w) (Below.refl _ _) e22
    · refine StepOKl.of ?_
      intro ac w hb hu hk
      refine ⟨wanted_some rfl (hk ⟨17, .guard⟩ (by simp) rfl) rfl rfl (fun _ h => h), ?_⟩
      have e68 : ac.eval (.tmp 68) = (.int .i64 E2) := (hk ⟨18, .data⟩ (by simp) rfl).is rfl rfl
      have e69 : ac.eval (.tmp 69) = (.int .i64 E2) := (hk ⟨19, .data⟩ (by simp) rfl).is rfl rfl
      refine step_value (w' := w) (v := (.bool true)) ?_ (Below.refl _ _) rfl
      generalize ac.eval = ρ at e68 e69 ⊢
      go_simp
    · refine StepOKl.of ?_
      intro ac w hb hu hk
      refine ⟨wanted_none rfl, ?_⟩
      have e67 : ac.eval (.tmp 67) = (.bool true) := (hk ⟨17, .data⟩ (by simp) rfl).is rfl rfl
      have e70 : ac.eval (.tmp 70) = (.bool true) := (hk ⟨20, .data⟩ (by simp) rfl).is rfl rfl
      exact step_value (run_pick_true e67 rfl w) (Below.refl _ _) e70
    · refine StepOKl.of ?_
      intro ac w hb hu hk
      refine ⟨wanted_none rfl, ?_⟩
      have e71 : ac.eval (.tmp 71) = (.bool true) := (hk ⟨21, .data⟩ (by simp) rfl).is rfl rfl
      exact step_value (BigFrame.run_move (.tmp 71) rfl w) (Below.refl _ _) e71
    · refine StepOKl.of ?_
      intro ac w hb hu hk
      refine ⟨wanted_some rfl (hk ⟨22, .guard⟩ (by simp) rfl) rfl rfl (fun _ h => h), ?_⟩
      have e19 : ac.eval (.tmp 19) = .pointer (some ⟨i19, 0, none⟩) := hu.is (t := 19) (by kernel_rfl)
      exact wp_load_row 23 (.tmp 19) rfl i19 e19 23 KV (0, 0) _ (HB19.out w hb) Tryd.underlying23 rfl (by rw [HZKV.out]; kernel_rfl) ⟨_, rfl, rfl, Below.refl _ _⟩
    · refine StepOKl.of ?_
      intro ac w hb hu hk
      refine ⟨wanted_some rfl (hk ⟨22, .guard⟩ (by simp) rfl) rfl rfl (fun _ h => h), ?_⟩
      have e21 : ac.eval (.tmp 21) = .pointer (some ⟨i21, 0, none⟩) := hu.is (t := 21) (by kernel_rfl)
      exact wp_load_row 23 (.tmp 21) rfl i21 e21 23 KV (0, 0) _ (HB21.out w hb) Tryd.underlying23 rfl (by rw [HZKV.out]; kernel_rfl) ⟨_, rfl, rfl, Below.refl _ _⟩
    · refine StepOKl.of ?_
      intro ac w hb hu hk
      refine ⟨wanted_some rfl (hk ⟨22, .guard⟩ (by simp) rfl) rfl rfl (fun _ h => h), ?_⟩
      have e73 : ac.eval (.tmp 73) = (.agg KV) := (hk ⟨23, .data⟩ (by simp) rfl).is rfl rfl
      have e74 : ac.eval (.tmp 74) = (.agg KV) := (hk ⟨24, .data⟩ (by simp) rfl).is rfl rfl
      refine step_value (w' := w) (v := .bool true) ?_ (Below.refl _ _) rfl
      have hq := HKE.out w
      generalize ac.eval = ρ at e73 e74 ⊢
      go_simp
    · refine StepOKl.of ?_
      intro ac w hb hu hk
      refine ⟨wanted_none rfl, ?_⟩
      have e72 : ac.eval (.tmp 72) = (.bool true) := (hk ⟨22, .data⟩ (by simp) rfl).is rfl rfl
      have e75 : ac.eval (.tmp 75) = (.bool true) := (hk ⟨25, .data⟩ (by simp) rfl).is rfl rfl
      exact step_value (run_pick_true e72 rfl w) (Below.refl _ _) e75
    · refine StepOKl.of ?_
      intro ac w hb hu hk
      refine ⟨wanted_none rfl, ?_⟩
      have e76 : ac.eval (.tmp 76) = (.bool true) := (hk ⟨26, .data⟩ (by simp) rfl).is rfl rfl
      exact step_value (BigFrame.run_move (.tmp 76) rfl w) (Below.refl _ _) e76
    · refine StepOKl.of ?_
      intro ac w hb hu hk
      refine ⟨wanted_some rfl (hk ⟨27, .guard⟩ (by simp) rfl) rfl rfl (fun _ h => h), ?_⟩
      have e10 : ac.eval (.tmp 10) = .pointer (some ⟨g10, 0, none⟩) := hu.is (t := 10) (by kernel_rfl)
      exact wp_load_row 23 (.tmp 10) rfl g10 e10 23 CL (0, 0) _ (HB10.out w hb) Tryd.underlying23 rfl (by rw [HZCL.out]; kernel_rfl) ⟨_, rfl, rfl, Below.refl _ _⟩
    · refine StepOKl.of ?_
      intro ac w hb hu hk
      refine ⟨wanted_some rfl (hk ⟨27, .guard⟩ (by simp) rfl) rfl rfl (fun _ h => h), ?_⟩
      have e11 : ac.eval (.tmp 11) = .pointer (some ⟨g11, 0, none⟩) := hu.is (t := 11) (by kernel_rfl)
      exact wp_load_row 23 (.tmp 11) rfl g11 e11 23 IX (0, 0) _ (HB11.out w hb) Tryd.underlying23 rfl (by rw [HZIX.out]; kernel_rfl) ⟨_, rfl, rfl, Below.refl _ _⟩
    · refine StepOKl.of ?_
      intro ac w hb hu hk
      refine ⟨wanted_some rfl (hk ⟨27, .guard⟩ (by simp) rfl) rfl rfl (fun _ h => h), ?_⟩
      have e6 : ac.eval (.tmp 6) = .int .i64 n6 := hu.is (t := 6) (by kernel_rfl)
      exact step_value (BigFrame.run_move (.tmp 6) rfl w) (Below.refl _ _) e6
    · refine StepOKl.of ?_
      intro ac w hb hu hk
      refine ⟨wanted_some rfl (hk ⟨27, .chain⟩ (by simp) rfl) rfl rfl (fun _ h => h), ?_⟩
      have e78 : ac.eval (.tmp 78) = (.agg CL) := (hk ⟨28, .data⟩ (by simp) rfl).is rfl rfl
      have e79 : ac.eval (.tmp 79) = (.agg IX) := (hk ⟨29, .data⟩ (by simp) rfl).is rfl rfl
      have e80 : ac.eval (.tmp 80) = (.int .i64 n6) := (hk ⟨30, .data⟩ (by simp) rfl).is rfl rfl
      have ef : ac.eval (.func 26) = .func (.func 26) #[] #[] := rfl
      refine step_enter (f := 26) (args := #[.agg CL, .agg IX, .int .i64 n6]) ?_ ?_
      · generalize ac.eval = ρ at e78 e79 e80 ef ⊢
        go_simp
      · exact (HRP.out w hb).mono fun e w' ⟨he, hq⟩ => ⟨_, he, rfl, hq⟩
    · refine StepOKl.of ?_
      intro ac w hb hu hk
      refine ⟨wanted_some rfl (hk ⟨27, .guard⟩ (by simp) rfl) rfl rfl (fun _ h => h), ?_⟩
      have e10 : ac.eval (.tmp 10) = .pointer (some ⟨g10, 0, none⟩) := hu.is (t := 10) (by kernel_rfl)
      exact wp_load_row 23 (.tmp 10) rfl g10 e10 23 CL (0, 0) _ (HB10.out w hb) Tryd.underlying23 rfl (by rw [HZCL.out]; kernel_rfl) ⟨_, rfl, rfl, Below.refl _ _⟩
    · refine StepOKl.of ?_
      intro ac w hb hu hk
      refine ⟨wanted_some rfl (hk ⟨27, .guard⟩ (by simp) rfl) rfl rfl (fun _ h => h), ?_⟩
      have e11 : ac.eval (.tmp 11) = .pointer (some ⟨g11, 0, none⟩) := hu.is (t := 11) (by kernel_rfl)
      exact wp_load_row 23 (.tmp 11) rfl g11 e11 23 IX (0, 0) _ (HB11.out w hb) Tryd.underlying23 rfl (by rw [HZIX.out]; kernel_rfl) ⟨_, rfl, rfl, Below.refl _ _⟩
    · refine StepOKl.of ?_
      intro ac w hb hu hk
      refine ⟨wanted_some rfl (hk ⟨27, .guard⟩ (by simp) rfl) rfl rfl (fun _ h => h), ?_⟩
      have e6 : ac.eval (.tmp 6) = .int .i64 n6 := hu.is (t := 6) (by kernel_rfl)
      exact step_value (BigFrame.run_move (.tmp 6) rfl w) (Below.refl _ _) e6
    · refine StepOKl.of ?_
      intro ac w hb hu hk
      refine ⟨wanted_some rfl (hk ⟨27, .guard⟩ (by simp) rfl) rfl rfl (fun _ h => h), ?_⟩
      have e82 : ac.eval (.tmp 82) = (.agg CL) := (hk ⟨32, .data⟩ (by simp) rfl).is rfl rfl
      have e83 : ac.eval (.tmp 83) = (.agg IX) := (hk ⟨33, .data⟩ (by simp) rfl).is rfl rfl
      have e84 : ac.eval (.tmp 84) = (.int .i64 n6) := (hk ⟨34, .data⟩ (by simp) rfl).is rfl rfl
      have ef : ac.eval (.func 27) = .func (.func 27) #[] #[] := rfl
      refine step_enter (f := 27) (args := #[.agg CL, .agg IX, .int .i64 n6]) ?_ ?_
      · generalize ac.eval = ρ at e82 e83 e84 ef ⊢
        go_simp
      · exact (HRR.out w).mono fun e w' ⟨he, hq⟩ => ⟨_, he, rfl, hq⟩
    · refine StepOKl.of ?_
      intro ac w hb hu hk
      refine ⟨wanted_some rfl (hk ⟨27, .guard⟩ (by simp) rfl) rfl rfl (fun _ h => h), ?_⟩
      have e81 : ac.eval (.tmp 81) = (.agg RK) := (hk ⟨31, .data⟩ (by simp) rfl).is rfl rfl
      have e85 : ac.eval (.tmp 85) = (.agg RK) := (hk ⟨35, .data⟩ (by simp) rfl).is rfl rfl
      refine step_value (w' := w) (v := .bool true) ?_ (Below.refl _ _) rfl
      have hq := HRKE.out w
      generalize ac.eval = ρ at e81 e85 ⊢
      go_simp
    · refine StepOKl.of ?_
      intro ac w hb hu hk
      refine ⟨wanted_none rfl, ?_⟩
      have e77 : ac.eval (.tmp 77) = (.bool true) := (hk ⟨27, .data⟩ (by simp) rfl).is rfl rfl
      have e86 : ac.eval (.tmp 86) = (.bool true) := (hk ⟨36, .data⟩ (by simp) rfl).is rfl rfl
      exact step_value (run_pick_true e77 rfl w) (Below.refl _ _) e86
    · refine StepOKl.of ?_
      intro ac w hb hu hk
      refine ⟨wanted_none rfl, ?_⟩
      have e87 : ac.eval (.tmp 87) = (.bool true) := (hk ⟨37, .data⟩ (by simp) rfl).is rfl rfl
      exact step_value (BigFrame.run_move (.tmp 87) rfl w) (Below.refl _ _) e87
    · refine StepOKl.of ?_
      intro ac w hb hu hk
      refine ⟨wanted_some rfl (hk ⟨38, .chain⟩ (by simp) rfl) rfl rfl (fun _ h => h), ?_⟩
      have ef : ac.eval (.func 16) = .func (.func 16) #[] #[] := rfl
      refine step_enter (f := 16) (args := #[]) ?_ ?_
      · generalize ac.eval = ρ at  ef ⊢
        go_simp
      · exact (HWK.out w hb).mono fun e w' ⟨he, hq⟩ => ⟨_, he, rfl, hq⟩
    · refine StepOKl.of ?_
      intro ac w hb hu hk
      refine ⟨wanted_none rfl, ?_⟩
      have e88 : ac.eval (.tmp 88) = (.bool true) := (hk ⟨38, .data⟩ (by simp) rfl).is rfl rfl
      have e89 : ac.eval (.tmp 89) = (.bool true) := (hk ⟨39, .data⟩ (by simp) rfl).is rfl rfl
      exact step_value (run_pick_true e88 rfl w) (Below.refl _ _) e89
    · refine StepOKl.of ?_
      intro ac w hb hu hk
      refine ⟨wanted_none rfl, ?_⟩
      have e90 : ac.eval (.tmp 90) = (.bool true) := (hk ⟨40, .data⟩ (by simp) rfl).is rfl rfl
      exact step_value (BigFrame.run_assign (.tmp 90) rfl w) (Below.refl _ _) e90
    · intro ac w' hb hu hk hap
      obtain ⟨_, h14, rfl⟩ := (hk 41 (by decide)).put rfl rfl
      obtain ⟨_, h50, rfl⟩ := (hk 0 (by decide)).put rfl rfl
      obtain ⟨_, h51, rfl⟩ := (hk 1 (by decide)).put rfl rfl
      obtain ⟨_, h52, rfl⟩ := (hk 2 (by decide)).put rfl rfl
      obtain ⟨_, h53, rfl⟩ := (hk 3 (by decide)).put rfl rfl
      obtain ⟨_, h54, rfl⟩ := (hk 4 (by decide)).put rfl rfl
      obtain ⟨_, h55, rfl⟩ := (hk 5 (by decide)).put rfl rfl
      obtain ⟨_, h56, rfl⟩ := (hk 6 (by decide)).put rfl rfl
      obtain ⟨_, h57, rfl⟩ := (hk 7 (by decide)).put rfl rfl
      obtain ⟨_, h58, rfl⟩ := (hk 8 (by decide)).put rfl rfl
      obtain ⟨_, h59, rfl⟩ := (hk 9 (by decide)).put rfl rfl
      obtain ⟨_, h60, rfl⟩ := (hk 10 (by decide)).put rfl rfl
      obtain ⟨_, h61, rfl⟩ := (hk 11 (by decide)).put rfl rfl
      obtain ⟨_, h62, rfl⟩ := (hk 12 (by decide)).put rfl rfl
      obtain ⟨_, h63, rfl⟩ := (hk 13 (by decide)).put rfl rfl
      obtain ⟨_, h64, rfl⟩ := (hk 14 (by decide)).put rfl rfl
      obtain ⟨_, h65, rfl⟩ := (hk 15 (by decide)).put rfl rfl
      obtain ⟨_, h66, rfl⟩ := (hk 16 (by decide)).put rfl rfl
      obtain ⟨_, h67, rfl⟩ := (hk 17 (by decide)).put rfl rfl
      obtain ⟨_, h68, rfl⟩ := (hk 18 (by decide)).put rfl rfl
      obtain ⟨_, h69, rfl⟩ := (hk 19 (by decide)).put rfl rfl
      obtain ⟨_, h70, rfl⟩ := (hk 20 (by decide)).put rfl rfl
      obtain ⟨_, h71, rfl⟩ := (hk 21 (by decide)).put rfl rfl
      obtain ⟨_, h72, rfl⟩ := (hk 22 (by decide)).put rfl rfl
      obtain ⟨_, h73, rfl⟩ := (hk 23 (by decide)).put rfl rfl
      obtain ⟨_, h74, rfl⟩ := (hk 24 (by decide)).put rfl rfl
      obtain ⟨_, h75, rfl⟩ := (hk 25 (by decide)).put rfl rfl
      obtain ⟨_, h76, rfl⟩ := (hk 26 (by decide)).put rfl rfl
      obtain ⟨_, h77, rfl⟩ := (hk 27 (by decide)).put rfl rfl
      obtain ⟨_, h78, rfl⟩ := (hk 28 (by decide)).put rfl rfl
      obtain ⟨_, h79, rfl⟩ := (hk 29 (by decide)).put rfl rfl
      obtain ⟨_, h80, rfl⟩ := (hk 30 (by decide)).put rfl rfl
      obtain ⟨_, h81, rfl⟩ := (hk 31 (by decide)).put rfl rfl
      obtain ⟨_, h82, rfl⟩ := (hk 32 (by decide)).put rfl rfl
      obtain ⟨_, h83, rfl⟩ := (hk 33 (by decide)).put rfl rfl
      obtain ⟨_, h84, rfl⟩ := (hk 34 (by decide)).put rfl rfl
      obtain ⟨_, h85, rfl⟩ := (hk 35 (by decide)).put rfl rfl
      obtain ⟨_, h86, rfl⟩ := (hk 36 (by decide)).put rfl rfl
      obtain ⟨_, h87, rfl⟩ := (hk 37 (by decide)).put rfl rfl
      obtain ⟨_, h88, rfl⟩ := (hk 38 (by decide)).put rfl rfl
      obtain ⟨_, h89, rfl⟩ := (hk 39 (by decide)).put rfl rfl
      obtain ⟨_, h90, rfl⟩ := (hk 40 (by decide)).put rfl rfl
      clear hap
      have hF : AllPuts ac.tmps ((14, _) :: (50, _) :: (51, _) :: (52, _) :: (53, _) :: (54, _) :: (55, _) :: (56, _) :: (57, _) :: (58, _) :: (59, _) :: (60, _) :: (61, _) :: (62, _) :: (63, _) :: (64, _) :: (65, _) :: (66, _) :: (67, _) :: (68, _) :: (69, _) :: (70, _) :: (71, _) :: (72, _) :: (73, _) :: (74, _) :: (75, _) :: (76, _) :: (77, _) :: (78, _) :: (79, _) :: (80, _) :: (81, _) :: (82, _) :: (83, _) :: (84, _) :: (85, _) :: (86, _) :: (87, _) :: (88, _) :: (89, _) :: (90, _) :: []) := ⟨h14, h50, h51, h52, h53, h54, h55, h56, h57, h58, h59, h60, h61, h62, h63, h64, h65, h66, h67, h68, h69, h70, h71, h72, h73, h74, h75, h76, h77, h78, h79, h80, h81, h82, h83, h84, h85, h86, h87, h88, h89, h90, trivial⟩
      obtain rfl := frame_puts hu (by kernel_rfl) hF
      simp only [puts, Act.put, List.setIfInBounds_toArray, List.set_cons_zero, List.set_cons_succ, List.drop_succ_cons, List.drop_nil]
      clear hk hu hF h14 h50 h51 h52 h53 h54 h55 h56 h57 h58 h59 h60 h61 h62 h63 h64 h65 h66 h67 h68 h69 h70 h71 h72 h73 h74 h75 h76 h77 h78 h79 h80 h81 h82 h83 h84 h85 h86 h87 h88 h89 h90
      have hfin := HSd.out.bel.trans (hb.mono HSd.out.bel.size)
      clear hb
      go_wp2_with fail
      go_ret
      exact ⟨by first | rfl | kernel_rfl, by first | exact hfin | (rw [← HG.out]; exact hfin)⟩

set_option maxRecDepth 100000 in
theorem contract (H : Type) (enc : TypeId × Value → H) (W : World) (base : Nat) (args : Array Value) (ds gs : List (DataW H)) (before : List MemPlace)
    (hval : ∀ (j : Nat) t v, Tryd.f5.params[j]? = some t → args[j]? = some v → Value.okWide Tryd.prog W .any base t v)
    (hW : DataW.Whole enc Tryd.prog Tryd.f5.params.toList Rows.capsMoreSpec.vars false W args.toList ds gs before) (hL : laidMetH Tryd.prog Rows.capsMoreRow.laid W) :
    Calls Tryd.prog 5 args W fun e W' => ∃ v, e = .returned v ∧ Rows.capsMoreSpec.post enc Tryd.prog Tryd.f5 false true false false W args v W' := by
  have hW' := hW
  obtain ⟨p, q, hA0, hV, rfl, hfz, hnd⟩ := hW
  have hA : DataW.TrodAll enc Tryd.prog W 0 (fun _ => true) true Tryd.f5.params.toList args.toList ds p := hA0
  rw [Tryd.params5] at hA hval
  obtain ⟨v0, v1, v2, v3, v4, v5, v6, d0, d1, d2, d3, d4, d5, d6, p0, p1, p2, p3, p4, p5, p6, rfl, rfl, rfl, h0, h1, h2, h3, h4, h5, h6⟩ := trodAll_seven hA
  obtain ⟨rfl, rfl⟩ := trodVars_none hV
  obtain ⟨c0, A0, m0, k0, rfl, hw0, hb0, hl0, hc0, hm0, hr0⟩ := open_cap (hval 0 28 v0 rfl rfl) h0
  obtain ⟨t1, rfl, rfl, rfl⟩ := open_bool Tryd.underlying4 (hval 1 4 v1 rfl rfl) h1
  obtain ⟨k2, rfl, hk2⟩ := open_array Tryd.underlying23 (by kernel_rfl) (hval 2 23 v2 rfl rfl) h2
  obtain ⟨k3, rfl, hk3⟩ := open_array Tryd.underlying23 (by kernel_rfl) (hval 3 23 v3 rfl rfl) h3
  obtain ⟨k4, rfl, hk4⟩ := open_array Tryd.underlying23 (by kernel_rfl) (hval 4 23 v4 rfl rfl) h4
  obtain ⟨k5, rfl, hk5⟩ := open_array Tryd.underlying25 (by kernel_rfl) (hval 5 25 v5 rfl rfl) h5
  obtain ⟨n6, rfl, rfl, rfl, wf6⟩ := open_int Tryd.underlying3 (hval 6 3 v6 rfl rfl) h6
  have b6 := bounds_i64 wf6
  clear hA0
  refine (walk c0 A0 m0 k0 t1 k2 k3 k4 k5 n6 W hw0 hb0 hl0 hc0 hr0 hk2 hk3 hk4 hk5 b6.2 (pow10 hL)).mono fun e W' ⟨he, hb⟩ => ?_
  exact ⟨_, he, law_post hW' rfl (by kernel_rfl) rfl (by kernel_rfl) hb⟩

theorem laid_met (os : Os) : laidMet Tryd.prog Rows.capsMoreRow.laid ((laidWorld os).forCall (fun _ _ => 0) ⟨#[], #[.agg (capA cap0 (.slice none 0 0)), .bool false, .agg #[.int .u8 0, .int .u8 0, .int .u8 0, .int .u8 0, .int .u8 0, .int .u8 0, .int .u8 0, .int .u8 0, .int .u8 0, .int .u8 0, .int .u8 0, .int .u8 0, .int .u8 0, .int .u8 0, .int .u8 0, .int .u8 0], .agg #[.int .u8 0, .int .u8 0, .int .u8 0, .int .u8 0, .int .u8 0, .int .u8 0, .int .u8 0, .int .u8 0, .int .u8 0, .int .u8 0, .int .u8 0, .int .u8 0, .int .u8 0, .int .u8 0, .int .u8 0, .int .u8 0], .agg #[.int .u8 0, .int .u8 0, .int .u8 0, .int .u8 0, .int .u8 0, .int .u8 0, .int .u8 0, .int .u8 0, .int .u8 0, .int .u8 0, .int .u8 0, .int .u8 0, .int .u8 0, .int .u8 0, .int .u8 0, .int .u8 0], .agg #[.int .u8 0, .int .u8 0, .int .u8 0, .int .u8 0, .int .u8 0, .int .u8 0, .int .u8 0, .int .u8 0, .int .u8 0, .int .u8 0, .int .u8 0, .int .u8 0, .int .u8 0, .int .u8 0, .int .u8 0, .int .u8 0, .int .u8 0, .int .u8 0, .int .u8 0, .int .u8 0, .int .u8 0, .int .u8 0, .int .u8 0, .int .u8 0, .int .u8 0, .int .u8 0, .int .u8 0, .int .u8 0, .int .u8 0, .int .u8 0, .int .u8 0, .int .u8 0], .int .i64 0], []⟩).memory :=
  laidMet_of_run' 8 (by kernel_rfl) (by kernel_rfl)
theorem reads (os : Os) {H : Type} (enc : TypeId × Value → H) : ∃ places, DataW.whole enc Tryd.prog ((laidWorld os).forCall (fun _ _ => 0) ⟨#[], #[.agg (capA cap0 (.slice none 0 0)), .bool false, .agg #[.int .u8 0, .int .u8 0, .int .u8 0, .int .u8 0, .int .u8 0, .int .u8 0, .int .u8 0, .int .u8 0, .int .u8 0, .int .u8 0, .int .u8 0, .int .u8 0, .int .u8 0, .int .u8 0, .int .u8 0, .int .u8 0], .agg #[.int .u8 0, .int .u8 0, .int .u8 0, .int .u8 0, .int .u8 0, .int .u8 0, .int .u8 0, .int .u8 0, .int .u8 0, .int .u8 0, .int .u8 0, .int .u8 0, .int .u8 0, .int .u8 0, .int .u8 0, .int .u8 0], .agg #[.int .u8 0, .int .u8 0, .int .u8 0, .int .u8 0, .int .u8 0, .int .u8 0, .int .u8 0, .int .u8 0, .int .u8 0, .int .u8 0, .int .u8 0, .int .u8 0, .int .u8 0, .int .u8 0, .int .u8 0, .int .u8 0], .agg #[.int .u8 0, .int .u8 0, .int .u8 0, .int .u8 0, .int .u8 0, .int .u8 0, .int .u8 0, .int .u8 0, .int .u8 0, .int .u8 0, .int .u8 0, .int .u8 0, .int .u8 0, .int .u8 0, .int .u8 0, .int .u8 0, .int .u8 0, .int .u8 0, .int .u8 0, .int .u8 0, .int .u8 0, .int .u8 0, .int .u8 0, .int .u8 0, .int .u8 0, .int .u8 0, .int .u8 0, .int .u8 0, .int .u8 0, .int .u8 0, .int .u8 0, .int .u8 0], .int .i64 0], []⟩).memory Tryd.f5.params.toList Rows.capsMoreSpec.vars false #[Value.agg (capA cap0 (.slice none 0 0)), Value.bool false, Value.agg #[.int .u8 0, .int .u8 0, .int .u8 0, .int .u8 0, .int .u8 0, .int .u8 0, .int .u8 0, .int .u8 0, .int .u8 0, .int .u8 0, .int .u8 0, .int .u8 0, .int .u8 0, .int .u8 0, .int .u8 0, .int .u8 0], Value.agg #[.int .u8 0, .int .u8 0, .int .u8 0, .int .u8 0, .int .u8 0, .int .u8 0, .int .u8 0, .int .u8 0, .int .u8 0, .int .u8 0, .int .u8 0, .int .u8 0, .int .u8 0, .int .u8 0, .int .u8 0, .int .u8 0], Value.agg #[.int .u8 0, .int .u8 0, .int .u8 0, .int .u8 0, .int .u8 0, .int .u8 0, .int .u8 0, .int .u8 0, .int .u8 0, .int .u8 0, .int .u8 0, .int .u8 0, .int .u8 0, .int .u8 0, .int .u8 0, .int .u8 0], Value.agg #[.int .u8 0, .int .u8 0, .int .u8 0, .int .u8 0, .int .u8 0, .int .u8 0, .int .u8 0, .int .u8 0, .int .u8 0, .int .u8 0, .int .u8 0, .int .u8 0, .int .u8 0, .int .u8 0, .int .u8 0, .int .u8 0, .int .u8 0, .int .u8 0, .int .u8 0, .int .u8 0, .int .u8 0, .int .u8 0, .int .u8 0, .int .u8 0, .int .u8 0, .int .u8 0, .int .u8 0, .int .u8 0, .int .u8 0, .int .u8 0, .int .u8 0, .int .u8 0], Value.int .i64 0].toList 8 = some ([.agg [.lit (.int .i64 0), .agg [.lit (.int .u8 0), .lit (.int .u8 0), .lit (.int .u8 0), .lit (.int .u8 0), .lit (.int .u8 0), .lit (.int .u8 0), .lit (.int .u8 0), .lit (.int .u8 0), .lit (.int .u8 0), .lit (.int .u8 0), .lit (.int .u8 0), .lit (.int .u8 0), .lit (.int .u8 0), .lit (.int .u8 0), .lit (.int .u8 0), .lit (.int .u8 0)], .agg [.lit (.int .u8 0), .lit (.int .u8 0), .lit (.int .u8 0), .lit (.int .u8 0), .lit (.int .u8 0), .lit (.int .u8 0), .lit (.int .u8 0), .lit (.int .u8 0), .lit (.int .u8 0), .lit (.int .u8 0), .lit (.int .u8 0), .lit (.int .u8 0), .lit (.int .u8 0), .lit (.int .u8 0), .lit (.int .u8 0), .lit (.int .u8 0), .lit (.int .u8 0), .lit (.int .u8 0), .lit (.int .u8 0), .lit (.int .u8 0), .lit (.int .u8 0), .lit (.int .u8 0), .lit (.int .u8 0), .lit (.int .u8 0), .lit (.int .u8 0), .lit (.int .u8 0), .lit (.int .u8 0), .lit (.int .u8 0), .lit (.int .u8 0), .lit (.int .u8 0), .lit (.int .u8 0), .lit (.int .u8 0)], .lit (.int .i64 0), .lit (.int .i64 0), .lit (.int .i64 0), .nil], .lit (.bool false), .agg [.lit (.int .u8 0), .lit (.int .u8 0), .lit (.int .u8 0), .lit (.int .u8 0), .lit (.int .u8 0), .lit (.int .u8 0), .lit (.int .u8 0), .lit (.int .u8 0), .lit (.int .u8 0), .lit (.int .u8 0), .lit (.int .u8 0), .lit (.int .u8 0), .lit (.int .u8 0), .lit (.int .u8 0), .lit (.int .u8 0), .lit (.int .u8 0)], .agg [.lit (.int .u8 0), .lit (.int .u8 0), .lit (.int .u8 0), .lit (.int .u8 0), .lit (.int .u8 0), .lit (.int .u8 0), .lit (.int .u8 0), .lit (.int .u8 0), .lit (.int .u8 0), .lit (.int .u8 0), .lit (.int .u8 0), .lit (.int .u8 0), .lit (.int .u8 0), .lit (.int .u8 0), .lit (.int .u8 0), .lit (.int .u8 0)], .agg [.lit (.int .u8 0), .lit (.int .u8 0), .lit (.int .u8 0), .lit (.int .u8 0), .lit (.int .u8 0), .lit (.int .u8 0), .lit (.int .u8 0), .lit (.int .u8 0), .lit (.int .u8 0), .lit (.int .u8 0), .lit (.int .u8 0), .lit (.int .u8 0), .lit (.int .u8 0), .lit (.int .u8 0), .lit (.int .u8 0), .lit (.int .u8 0)], .agg [.lit (.int .u8 0), .lit (.int .u8 0), .lit (.int .u8 0), .lit (.int .u8 0), .lit (.int .u8 0), .lit (.int .u8 0), .lit (.int .u8 0), .lit (.int .u8 0), .lit (.int .u8 0), .lit (.int .u8 0), .lit (.int .u8 0), .lit (.int .u8 0), .lit (.int .u8 0), .lit (.int .u8 0), .lit (.int .u8 0), .lit (.int .u8 0), .lit (.int .u8 0), .lit (.int .u8 0), .lit (.int .u8 0), .lit (.int .u8 0), .lit (.int .u8 0), .lit (.int .u8 0), .lit (.int .u8 0), .lit (.int .u8 0), .lit (.int .u8 0), .lit (.int .u8 0), .lit (.int .u8 0), .lit (.int .u8 0), .lit (.int .u8 0), .lit (.int .u8 0), .lit (.int .u8 0), .lit (.int .u8 0)], .lit (.int .i64 0)], [], places) :=
  ⟨[], by kernel_rfl⟩

set_option maxRecDepth 100000 in
theorem lifted (os : Os) (started : os.Started) (H : Type) (enc : TypeId × Value → H) (F : Stop.Interp) :
    ReturnsInHanded {} Tryd.checked os 5 .any ((OpenSpec.ofChange Rows.capsMoreSpec).preRow enc Tryd.prog Tryd.f5 Rows.capsMoreRow.domain false Rows.capsMoreRow.laid) (((OpenSpec.ofChange Rows.capsMoreSpec).at F).post enc Tryd.prog Tryd.f5 false true false false) := by
  obtain ⟨places, hx⟩ := reads os enc
  refine returnsInHanded_of_row (C := Tryd.checked) (s := OpenSpec.ofChange Rows.capsMoreSpec) own started (by kernel_rfl) Tryd.func5
    (witness_row_at (enc := enc) (C := Tryd.checked) false (laidWorld os) #[.agg (capA cap0 (.slice none 0 0)), .bool false, .agg #[.int .u8 0, .int .u8 0, .int .u8 0, .int .u8 0, .int .u8 0, .int .u8 0, .int .u8 0, .int .u8 0, .int .u8 0, .int .u8 0, .int .u8 0, .int .u8 0, .int .u8 0, .int .u8 0, .int .u8 0, .int .u8 0], .agg #[.int .u8 0, .int .u8 0, .int .u8 0, .int .u8 0, .int .u8 0, .int .u8 0, .int .u8 0, .int .u8 0, .int .u8 0, .int .u8 0, .int .u8 0, .int .u8 0, .int .u8 0, .int .u8 0, .int .u8 0, .int .u8 0], .agg #[.int .u8 0, .int .u8 0, .int .u8 0, .int .u8 0, .int .u8 0, .int .u8 0, .int .u8 0, .int .u8 0, .int .u8 0, .int .u8 0, .int .u8 0, .int .u8 0, .int .u8 0, .int .u8 0, .int .u8 0, .int .u8 0], .agg #[.int .u8 0, .int .u8 0, .int .u8 0, .int .u8 0, .int .u8 0, .int .u8 0, .int .u8 0, .int .u8 0, .int .u8 0, .int .u8 0, .int .u8 0, .int .u8 0, .int .u8 0, .int .u8 0, .int .u8 0, .int .u8 0, .int .u8 0, .int .u8 0, .int .u8 0, .int .u8 0, .int .u8 0, .int .u8 0, .int .u8 0, .int .u8 0, .int .u8 0, .int .u8 0, .int .u8 0, .int .u8 0, .int .u8 0, .int .u8 0, .int .u8 0, .int .u8 0], .int .i64 0] rfl (by kernel_rfl) (by kernel_rfl) (by kernel_rfl)
      (OpenSpec.preRow_of_cond 8 hx (by kernel_rfl) (fun k hk => by cases hk) (by kernel_rfl) (laid_met os))) ?_
  intro W base args ds gs before hval hW _ _ _ hL _ _
  exact contract H enc W base args ds gs before hval hW hL

theorem said : Rows.CapsMoreSaid :=
  OpenClaim.holds_of_cond 5 Tryd.f5 rfl rfl rfl rfl rfl rfl rfl ⟨rfl, rfl, rfl, rfl, rfl⟩ rfl rfl rfl rfl rfl (by kernel_rfl) Tryd.func5 (by kernel_rfl)
    (of_decide_eq_true (by kernel_rfl)) (by unfold Func.isWrapper; first | (rw [if_pos (by decide +kernel)]; kernel_rfl) | (rw [if_neg (by decide +kernel)]; exact ⟨rfl, rfl⟩))
    (fun os started H enc _ F => by rw [OpenClaim.pre_eq_preRow]; exact lifted os started H enc F)

theorem plain (f : FuncId) (fn : Func) (hf : Tryd.pinned.checked.prog.funcNamed "aumbry/aumbrylaw13.CapsMore" = some f) (hfn : Tryd.pinned.checked.prog.funcs[f]? = some fn) :
    true = Tryd.pinned.checked.prog.looks [] ∧ ∀ (j : Nat) t, fn.params[j]? = some t → Tryd.pinned.checked.prog.wantsStandIn t = false := by
  obtain rfl : f = 5 := Option.some.inj ((show Tryd.prog.funcNamed "aumbry/aumbrylaw13.CapsMore" = some 5 by kernel_rfl).symm.trans hf) |>.symm
  obtain rfl : fn = Tryd.f5 := (Option.some.inj (Tryd.func5.symm.trans hfn)).symm
  refine ⟨by kernel_rfl, fun j t ht => ?_⟩
  exact wants_none (by kernel_rfl) (Array.mem_of_getElem? ht)

/-- The card: the statement holds, its listed tables tied to the program's text. -/
theorem card : Rows.CapsMoreCardSaid :=
  Claim7.holds_tied_plain_at .later [] _ _ _ _ said (fun _ h => by cases h) (by kernel_rfl) (fun _ h => by cases h) capsMore_row_tie rfl ⟨rfl, rfl⟩ (by kernel_rfl) rfl plain (by kernel_rfl)
end Go.Proofs.YtkkokngdhhakdaaDoor.capsMore
