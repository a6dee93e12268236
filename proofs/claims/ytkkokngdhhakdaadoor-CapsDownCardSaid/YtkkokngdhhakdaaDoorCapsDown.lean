/- CapsDown: from less to more no way leads. For all capabilities. -/
import Derived.Test.YtkkokngdhhakdaaDoorLaw
import Derived.Test.YtkkokngdhhakdaaDoorCapJ
import Derived.Deep.CutRange
namespace Go.Proofs.YtkkokngdhhakdaaDoor.capsDown
open Go.ChangeShapes Go.WideShapes Go.ChangeAt Go.RowKit

set_option maxRecDepth 100000 in
set_option maxHeartbeats 16000000 in
theorem walk (c0 : Cap13) (A0 : Option Addr) (m0 k0 : Nat) (w : World) (hw0 : c0.wf) (hb0 : c0.bd) (hl0 : c0.lit.length = m0) (hc0 : m0 ≤ k0) (hr0 : Rd w w.heap.size A0 c0.lit) (htab : Pow10 w.heap.size w) :
    Calls Tryd.prog 8 #[.agg (capA c0 (.slice A0 m0 k0))] w fun e w' => e = .returned (.bool true) ∧ Below w.heap.size w w' := by
  have HT := Lib.hid htab
  obtain ⟨CX, hCX⟩ : ∃ x, capA c0 (.slice A0 m0 k0) = x := ⟨_, rfl⟩
  have HCX := Lib.hid hCX
  have hst := CapW.start hw0 hl0 hc0 hr0 hCX
  have HS1 := Lib.hid (show CX.size = 53 by rw [← hCX]; exact capA_size hw0 _)
  have HBD := Lib.hid (And.intro hw0 hb0)
  rw [hCX]
  clear htab hCX hw0 hb0 hl0 hc0 hr0
  go_enter Tryd.func8, Tryd.ntmps8
  go_upto_region 1 with fail
  obtain ⟨g, hg⟩ : ∃ g, w.heap.size = g := ⟨_, rfl⟩
  have HG := Lib.hid hg
  rw [hg] at hst ⊢
  generalize w.alloc (.cells CX 28) = w1 at *
  have H1 := Lib.hid hst
  clear hst hg
  have HMK := Lib.hid (show Calls Tryd.prog 18 #[.agg CX] w1 fun e w' => (∃ v, e = .returned v ∧ CapV w' w1.heap.size v (mk13 c0)) ∧ Below w1.heap.size w1 w' from by
    rw [← HCX.out]
    exact mk13_any HBD.out.1 HBD.out.2 H1.out.len H1.out.room H1.out.lit)
  have HOK := Lib.hid (mk13_ok c0)
  generalize mk13 c0 = d at *
  go_upto_region 2 with (first
    | (refine wpList_load_capC ?_ (.tmp 1) rfl g rfl H1.out.cap HCX.out ?_; · rfl)
    | ((with_reducible refine HMK.out.mono ?_); rintro e w4 ⟨⟨v, rfl, hv⟩, hb4⟩; obtain ⟨hwf, A', n', cc', rfl, hln, hrm, hrd, hla⟩ := hv; obtain ⟨CD, hCD⟩ : ∃ x, capA d (.slice A' n' cc') = x := ⟨_, rfl⟩; rw [hCD]; have HCD := Lib.hid hCD; have HX4 := Lib.hid (show Blk w4 g CX 28 from HCX.out ▸ (H1.out.below hb4).cap.blk); have H3 := Lib.hid (H1.out.made hb4 hwf hln hrm hrd hla hCD); have HS4 := Lib.hid (show CD.size = 53 ∧ CD.all (·.oneCell') = true by rw [← hCD]; exact ⟨capA_size hwf _, capA_one⟩); clear hCD hwf hln hrm hrd hla hb4)
    | (with_reducible refine wpList_store_blkTo rfl 28 (.tmp 1) (.tmp 26) rfl rfl g CD rfl rfl 28 CX HX4.out (by rw [HS4.out.1]; kernel_rfl) (by rw [HS4.out.1, HS1.out]) HS4.out.2 ?_))
  generalize w4.setRow g CD = w3 at *
  clear HX4 H1 HMK
  have HT3 := Lib.hid (fun (W : World) (hW : Below w3.heap.size w3 W) => tab_on HT.out (H3.out.bel.trans (hW.mono H3.out.bel.size)) (Nat.le_trans H3.out.bel.size hW.size))
  obtain ⟨KV, hKV⟩ : ∃ x, u8A (if idxOK d then idx13 d else key0) = x := ⟨_, rfl⟩
  obtain ⟨E, hE⟩ : ∃ x, (if idxOK d then (0 : Int) else 11) = x := ⟨_, rfl⟩
  have HIX := Lib.hid (fun (W : World) (hW : Below w3.heap.size w3 W) => (show Calls Tryd.prog 13 #[.agg CD] W fun e w' => e = .returned (.tuple #[.agg KV, .int .i64 E]) ∧ Below W.heap.size W w' from by
    rw [← HCD.out, ← hKV, ← hE]
    exact pindex_any H3.out.cap.wf H3.out.len (H3.out.lit.on hW) (HT3.out W hW)))
  have HZK := Lib.hid (show KV.size = 16 ∧ KV.all (·.oneCell') = true by
    rw [← hKV]
    refine ⟨?_, u8A_one _⟩
    rw [u8A_size]
    split
    · exact idx13_len H3.out.cap.wf
    · rfl)
  have HKV := Lib.hid hKV
  have HE := Lib.hid hE
  clear hKV hE
  go_upto_region 3 with (first
    | (refine wpList_load_capC ?_ (.tmp 1) rfl g rfl H3.out.cap HCD.out ?_; · rfl)
    | ((with_reducible refine (HIX.out _ (Below.refl _ _)).mono ?_); rintro e w5 ⟨rfl, hb5⟩)
    | (with_reducible refine wpList_store_blkTo rfl 23 (.tmp 3) (.tmp 30) rfl rfl w5.heap.size KV rfl rfl 23 _ (Blk.new w5 _ _) (by rw [HZK.out.1]; kernel_rfl) (by rw [HZK.out.1]; kernel_rfl) HZK.out.2 ?_))
  have hkf := fun Y => key_fresh (w := w5) Y KV
  generalize hw6 : World.setRow _ _ _ = w6
  have hk6 : Blk w6 w5.heap.size KV 23 ∧ Below w5.heap.size w5 w6 := by
    rw [← hw6]
    exact hkf _
  have hb36 := hb5.trans (hk6.2.mono hb5.size)
  obtain ⟨i3, hi3⟩ : ∃ x, w5.heap.size = x := ⟨_, rfl⟩
  rw [hi3] at hk6 ⊢
  have HK6 := Lib.hid hk6.1
  have H6 := Lib.hid (And.intro (H3.out.below hb36) hb36)
  clear hkf hw6 hk6 hb36 hb5 hi3 HIX
  by_cases hlit : d.kind = 3
  · have hrd : d.reads := ⟨HOK.out, by rw [hlit]; decide⟩
    have hni : ¬ idxOK d := fun h => h.2 hlit
    obtain rfl : E = 11 := by rw [← HE.out, if_neg hni]
    have HRO := Lib.hid (fun (W : World) (hW : Below w3.heap.size w3 W) => (show Calls Tryd.prog 10 #[.agg CD] W fun e w' => CapSaid W w' e d 0 from by
      have h := preadonly_any (w := W) (c := d) (A := A') (n := n') (cc := cc') H3.out.cap.wf H3.out.len (H3.out.lit.on hW) (HT3.out W hW)
      rw [HCD.out, if_pos hrd, if_pos hrd, ro13_three hlit] at h
      exact h))
    have HVO := Lib.hid (fun (W : World) (hW : Below w3.heap.size w3 W) => (show Calls Tryd.prog 11 #[.agg CD] W fun e w' => CapSaid W w' e cap0 11 from by
      have h := pverify_any (w := W) (c := d) (A := A') (n := n') (cc := cc') H3.out.cap.wf H3.out.len (H3.out.lit.on hW) (HT3.out W hW)
      rw [HCD.out, if_neg hni, if_neg hni] at h
      exact h))
    have HWK := Lib.hid (fun (W : World) (hW : Below w3.heap.size w3 W) => wakes13_any W (HT3.out W hW))
    have c1 := H6.out.1.cap.cells.1
    rw [hlit] at c1
    clear hlit hrd hni HE HKV
    go_upto_region 5 with (first
      | (refine wpList_load_capC ?_ (.tmp 1) rfl g rfl H6.out.1.cap HCD.out ?_; · rfl)
      | ((with_reducible refine (HRO.out _ H6.out.2).mono ?_); rintro e w7 ⟨⟨v, rfl, hv⟩, hb7⟩; obtain ⟨hwf, A2, n2, cc2, rfl, hln, hrm, hrd, hla⟩ := hv; obtain ⟨C5, hC5⟩ : ∃ x, capA d (.slice A2 n2 cc2) = x := ⟨_, rfl⟩; rw [hC5]; have HC5 := Lib.hid hC5; have HZ5 := Lib.hid (show C5.size = 53 ∧ C5.all (·.oneCell') = true by rw [← hC5]; exact ⟨capA_size hwf _, capA_one⟩))
      | (with_reducible refine wpList_store_blkTo rfl 28 (.tmp 5) (.tmp 38) rfl rfl w7.heap.size C5 rfl rfl 28 _ (Blk.new w7 _ _) (by rw [HZ5.out.1]; kernel_rfl) (by rw [HZ5.out.1]; kernel_rfl) HZ5.out.2 ?_))
    have hfr := fun Y => CapW.fresh (H6.out.1.bel.trans (hb7.mono H6.out.1.bel.size)) hwf hln hrm hrd Y hC5
    generalize hw8 : World.setRow _ _ _ = w8
    have hk8 : CapW w w8 w7.heap.size d A2 n2 cc2 ∧ Below w7.heap.size w7 w8 := by
      rw [← hw8]
      exact hfr _
    have hb68 := hb7.trans (hk8.2.mono hb7.size)
    obtain ⟨g5, hg5⟩ : ∃ x, w7.heap.size = x := ⟨_, rfl⟩
    rw [hg5] at hk8 ⊢
    have H8 := Lib.hid (show CapW w w8 g d A' n' cc' ∧ Below w3.heap.size w3 w8 ∧ CapW w w8 g5 d A2 n2 cc2 from ⟨H6.out.1.below hb68, H6.out.2.trans (hb68.mono H6.out.2.size), hk8.1⟩)
    clear hfr hw8 hk8 hb68 hb7 hg5 hwf hln hrm hrd hla hC5 H6 HRO c1
    go_upto_region 6 with (first
      | (refine wpList_load_capC ?_ (.tmp 1) rfl g rfl H8.out.1.cap HCD.out ?_; · rfl)
      | ((with_reducible refine (HVO.out _ H8.out.2.1).mono ?_); rintro e w9 ⟨⟨v, rfl, hv⟩, hb9⟩; obtain ⟨hwf, A3, n3, cc3, rfl, hln, hrm, hrd, hla⟩ := hv; obtain ⟨C7, hC7⟩ : ∃ x, capA cap0 (.slice A3 n3 cc3) = x := ⟨_, rfl⟩; rw [hC7]; have HZ7 := Lib.hid (show C7.size = 53 ∧ C7.all (·.oneCell') = true by rw [← hC7]; exact ⟨capA_size hwf _, capA_one⟩); clear hwf hln hrm hrd hla hC7)
      | (with_reducible refine wpList_store_blkTo rfl 28 (.tmp 7) (.tmp 43) rfl rfl w9.heap.size C7 rfl rfl 28 _ (Blk.new w9 _ _) (by rw [HZ7.out.1]; kernel_rfl) (by rw [HZ7.out.1]; kernel_rfl) HZ7.out.2 ?_))
    generalize hwA : World.setRow _ _ _ = wA
    have hb9A : Below w9.heap.size w9 wA := by
      rw [← hwA]
      exact below_row ((Below.refl _ _).alloc (Nat.le_refl _) _) (by simp) (Nat.le_refl _) _
    have hb8A := hb9.trans (hb9A.mono hb9.size)
    have HA := Lib.hid (show CapW w wA g d A' n' cc' ∧ Below w3.heap.size w3 wA ∧ CapW w wA g5 d A2 n2 cc2 from ⟨H8.out.1.below hb8A, H8.out.2.1.trans (hb8A.mono H8.out.2.1.size), H8.out.2.2.below hb8A⟩)
    clear hwA hb9A hb8A hb9 H8 HVO
    have HSM := Lib.hid (show Calls Tryd.prog 31 #[.agg C5, .agg CD] wA fun e w' => e = .returned (.bool true) ∧ Below wA.heap.size wA w' from by
      have h := psame_any (w := wA) HA.out.2.2.cap.wf HA.out.1.cap.wf (c := cc2) (d := cc') HA.out.2.2.len HA.out.1.len HA.out.2.2.lit HA.out.1.lit
      rw [HC5.out, HCD.out, decide_eq_true rfl] at h
      exact h)
    go_wp2_with (first
      | (refine wpList_load_capC ?_ (.tmp 5) rfl g5 rfl HA.out.2.2.cap HC5.out ?_; · rfl)
      | (refine wpList_load_capC ?_ (.tmp 1) rfl g rfl HA.out.1.cap HCD.out ?_; · rfl)
      | (with_reducible refine HSM.out.mono ?_; rintro e wB ⟨rfl, hbB⟩; have HBB := Lib.hid (HA.out.2.1.trans (hbB.mono HA.out.2.1.size)); clear hbB)
      | (with_reducible refine (HWK.out _ HBB.out).mono ?_; rintro e wC ⟨rfl, hbC⟩))
    have hfin := H3.out.bel.trans ((HBB.out.trans (hbC.mono HBB.out.size)).mono H3.out.bel.size)
    clear hbC
    go_wp2_with fail
    go_ret
    exact ⟨rfl, by first | exact hfin | (rw [← HG.out]; exact hfin)⟩
  · have hni : idxOK d := ⟨HOK.out, hlit⟩
    obtain rfl : E = 0 := by rw [← HE.out, if_pos hni]
    have hKV : u8A (idx13 d) = KV := by rw [← HKV.out, if_pos hni]
    have HNI := Lib.hid hni
    obtain ⟨V, hV⟩ : ∃ x, vo13 d = x := ⟨_, rfl⟩
    have HV := Lib.hid hV
    have HVK := Lib.hid (show u8A V.key = KV ∧ V.fp = d.fp ∧ ¬ V.reads ∧ ¬ V.writes ∧ idxOK V ∧ idx13 V = idx13 d by
      subst hV
      exact ⟨hKV, rfl, vo13_reads hni, vo13_writes hni, vo13_idxOK hni, idx13_vo hni⟩)
    have HVO := Lib.hid (fun (W : World) (hW : Below w3.heap.size w3 W) => (show Calls Tryd.prog 11 #[.agg CD] W fun e w' => CapSaid W w' e V 0 from by
      have h := pverify_any (w := W) (c := d) (A := A') (n := n') (cc := cc') H3.out.cap.wf H3.out.len (H3.out.lit.on hW) (HT3.out W hW)
      rw [HCD.out, if_pos hni, if_pos hni, hV] at h
      exact h))
    obtain ⟨FD, hFD⟩ : ∃ x, u8A d.fp = x := ⟨_, rfl⟩
    have HFD := Lib.hid (show u8A d.fp = FD ∧ u8A V.fp = FD from ⟨hFD, by rw [HVK.out.2.1]; exact hFD⟩)
    have HKE := Lib.hid (fun W => (show (Op.equalIn 10000 23 (.agg KV) (.agg KV)).run Tryd.prog W = .ok true W by
      have h := run_key_eq W (idx13 d) (idx13 d) (idx13_len H3.out.cap.wf) (idx13_len H3.out.cap.wf)
      rwa [hKV, decide_eq_true rfl] at h))
    have HFE := Lib.hid (fun W => (show (Op.equalIn 10000 25 (.agg FD) (.agg FD)).run Tryd.prog W = .ok true W by
      have h := run_hash_eq W d.fp d.fp H3.out.cap.wf.2 H3.out.cap.wf.2
      rwa [hFD, decide_eq_true rfl] at h))
    have HWK := Lib.hid (fun (W : World) (hW : Below w3.heap.size w3 W) => wakes13_any W (HT3.out W hW))
    have c1 := H6.out.1.cap.cells.1
    have e3 : (d.kind == 3) = false := beq_eq_false_iff_ne.2 hlit
    clear hlit hni HE HKV hKV hV hFD
    go_upto_region 8 with (first
      | (refine wpList_load_capC ?_ (.tmp 1) rfl g rfl H6.out.1.cap HCD.out ?_; · rfl)
      | ((with_reducible refine (HVO.out _ H6.out.2).mono ?_); rintro e w7 ⟨⟨v, rfl, hv⟩, hb7⟩; obtain ⟨hwf, A2, n2, cc2, rfl, hln, hrm, hrd, hla⟩ := hv; obtain ⟨C9, hC9⟩ : ∃ x, capA V (.slice A2 n2 cc2) = x := ⟨_, rfl⟩; rw [hC9]; have HC9 := Lib.hid hC9; have HZ9 := Lib.hid (show C9.size = 53 ∧ C9.all (·.oneCell') = true by rw [← hC9]; exact ⟨capA_size hwf _, capA_one⟩))
      | (with_reducible refine wpList_store_blkTo rfl 28 (.tmp 9) (.tmp 66) rfl rfl w7.heap.size C9 rfl rfl 28 _ (Blk.new w7 _ _) (by rw [HZ9.out.1]; kernel_rfl) (by rw [HZ9.out.1]; kernel_rfl) HZ9.out.2 ?_))
    have hfr := fun Y => CapW.fresh (H6.out.1.bel.trans (hb7.mono H6.out.1.bel.size)) hwf hln hrm hrd Y hC9
    generalize hw8 : World.setRow _ _ _ = w8
    have hk8 : CapW w w8 w7.heap.size V A2 n2 cc2 ∧ Below w7.heap.size w7 w8 := by
      rw [← hw8]
      exact hfr _
    have hb68 := hb7.trans (hk8.2.mono hb7.size)
    obtain ⟨g9, hg9⟩ : ∃ x, w7.heap.size = x := ⟨_, rfl⟩
    rw [hg9] at hk8 ⊢
    have H8 := Lib.hid (show CapW w w8 g d A' n' cc' ∧ Below w3.heap.size w3 w8 ∧ CapW w w8 g9 V A2 n2 cc2 ∧ Blk w8 i3 KV 23 from ⟨H6.out.1.below hb68, H6.out.2.trans (hb68.mono H6.out.2.size), hk8.1, HK6.out.below hb68 HK6.out.lt⟩)
    clear hfr hw8 hk8 hb68 hb7 hg9 hwf hln hrm hrd hla hC9 H6 HVO c1 HK6 e3
    have HT8 := Lib.hid (fun (W : World) (hW : Below w8.heap.size w8 W) => HT3.out W (H8.out.2.1.trans (hW.mono H8.out.2.1.size)))
    have HVR := Lib.hid (fun (W : World) (hW : Below w8.heap.size w8 W) => (show Calls Tryd.prog 33 #[.agg C9] W fun e w' => e = .returned (.bool false) ∧ Below W.heap.size W w' from by
      have h := pcanread_any (w := W) (cc := cc2) H8.out.2.2.1.cap.wf H8.out.2.2.1.len (H8.out.2.2.1.lit.on hW)
      rwa [HC9.out, decide_eq_false HVK.out.2.2.1] at h))
    have HVW := Lib.hid (fun (W : World) (hW : Below w8.heap.size w8 W) => (show Calls Tryd.prog 34 #[.agg C9] W fun e w' => e = .returned (.bool false) ∧ Below W.heap.size W w' from by
      have h := pcanwrite_any (w := W) (cc := cc2) H8.out.2.2.1.cap.wf H8.out.2.2.1.len (H8.out.2.2.1.lit.on hW)
      rwa [HC9.out, decide_eq_false HVK.out.2.2.2.1] at h))
    have HVI := Lib.hid (fun (W : World) (hW : Below w8.heap.size w8 W) => (show Calls Tryd.prog 13 #[.agg C9] W fun e w' => e = .returned (.tuple #[.agg KV, .int .i64 0]) ∧ Below W.heap.size W w' from by
      have h := pindex_any (w := W) (cc := cc2) H8.out.2.2.1.cap.wf H8.out.2.2.1.len (H8.out.2.2.1.lit.on hW) (HT8.out W hW)
      have hk : u8A (idx13 V) = KV := by rw [idx13_ver HVK.out.2.2.1]; exact HVK.out.1
      rwa [HC9.out, if_pos HVK.out.2.2.2.2.1, if_pos HVK.out.2.2.2.2.1, hk] at h))
    have HVRO := Lib.hid (fun (W : World) (hW : Below w8.heap.size w8 W) => (show Calls Tryd.prog 10 #[.agg C9] W fun e w' => CapSaid W w' e cap0 11 from by
      have h := preadonly_any (w := W) (cc := cc2) H8.out.2.2.1.cap.wf H8.out.2.2.1.len (H8.out.2.2.1.lit.on hW) (HT8.out W hW)
      rwa [HC9.out, if_neg HVK.out.2.2.1, if_neg HVK.out.2.2.1] at h))
    have hke := HKE.out
    have hfe := HFE.out
    go_upto_region 10 with (first
      | (refine wpList_load_capC ?_ (.tmp 9) rfl g9 rfl H8.out.2.2.1.cap HC9.out ?_; · rfl)
      | ((with_reducible refine (HVR.out _ (Below.refl _ _)).mono ?_); rintro e wA ⟨rfl, hbA⟩; have HA := Lib.hid (And.intro (H8.out.2.2.1.below hbA) hbA); clear hbA)
      | (refine wpList_load_capC ?_ (.tmp 9) rfl g9 rfl HA.out.1.cap HC9.out ?_; · rfl)
      | ((with_reducible refine (HVW.out _ HA.out.2).mono ?_); rintro e wB ⟨rfl, hbB⟩; have HB := Lib.hid (show CapW w wB g9 V A2 n2 cc2 ∧ Below w8.heap.size w8 wB ∧ CapW w wB g d A' n' cc' ∧ Blk wB i3 KV 23 from ⟨HA.out.1.below hbB, HA.out.2.trans (hbB.mono HA.out.2.size), H8.out.1.below (HA.out.2.trans (hbB.mono HA.out.2.size)), H8.out.2.2.2.below (HA.out.2.trans (hbB.mono HA.out.2.size)) H8.out.2.2.2.lt⟩); clear hbB)
      | (refine wpList_load_keyC ?_ (.tmp 83) rfl g9 rfl HB.out.1.cap HVK.out.1 ?_; · rfl)
      | (refine wpList_load_whenC ?_ 23 (.tmp 3) rfl i3 rfl 23 _ _ HB.out.2.2.2 Tryd.underlying23 rfl (by rw [HZK.out.1]; kernel_rfl) ?_; · rfl)
      | (refine wpList_load_fpC ?_ (.tmp 89) rfl g9 rfl HB.out.1.cap HFD.out.2 ?_; · rfl)
      | (refine wpList_load_fpC ?_ (.tmp 91) rfl g rfl HB.out.2.2.1.cap HFD.out.1 ?_; · rfl))
    have HC := Lib.hid (show CapW w wB g9 V A2 n2 cc2 ∧ Below w8.heap.size w8 wB ∧ CapW w wB g d A' n' cc' ∧ Blk wB i3 KV 23 from HB.out)
    clear HA HB HVR HVW
    go_upto_region 11 with (first
      | (refine wpList_load_capC ?_ (.tmp 9) rfl g9 rfl HC.out.1.cap HC9.out ?_; · rfl)
      | ((with_reducible refine (HVI.out _ HC.out.2.1).mono ?_); rintro e wD ⟨rfl, hbD⟩)
      | (with_reducible refine wpList_store_blkTo rfl 23 (.tmp 11) (.tmp 98) rfl rfl wD.heap.size KV rfl rfl 23 _ (Blk.new wD _ _) (by rw [HZK.out.1]; kernel_rfl) (by rw [HZK.out.1]; kernel_rfl) HZK.out.2 ?_))
    have hkf := fun Y => key_fresh (w := wD) Y KV
    generalize hwE : World.setRow _ _ _ = wE
    have hkE : Blk wE wD.heap.size KV 23 ∧ Below wD.heap.size wD wE := by
      rw [← hwE]
      exact hkf _
    have hbCE := hbD.trans (hkE.2.mono hbD.size)
    obtain ⟨i11, hi11⟩ : ∃ x, wD.heap.size = x := ⟨_, rfl⟩
    rw [hi11] at hkE ⊢
    have HE2 := Lib.hid (show CapW w wE g9 V A2 n2 cc2 ∧ Below w8.heap.size w8 wE ∧ CapW w wE g d A' n' cc' ∧ Blk wE i3 KV 23 ∧ Blk wE i11 KV 23 from ⟨HC.out.1.below hbCE, HC.out.2.1.trans (hbCE.mono HC.out.2.1.size), HC.out.2.2.1.below hbCE, HC.out.2.2.2.below hbCE HC.out.2.2.2.lt, hkE.1⟩)
    clear hkf hwE hkE hbCE hbD hi11 HC HVI
    go_upto_region 12 with (first
      | (refine wpList_load_capC ?_ (.tmp 9) rfl g9 rfl HE2.out.1.cap HC9.out ?_; · rfl)
      | ((with_reducible refine (HVRO.out _ HE2.out.2.1).mono ?_); rintro e wF ⟨⟨v, rfl, hv⟩, hbF⟩; obtain ⟨hwf, A3, n3, cc3, rfl, hln, hrm, hrd, hla⟩ := hv; obtain ⟨C7, hC7⟩ : ∃ x, capA cap0 (.slice A3 n3 cc3) = x := ⟨_, rfl⟩; rw [hC7]; have HZ7 := Lib.hid (show C7.size = 53 ∧ C7.all (·.oneCell') = true by rw [← hC7]; exact ⟨capA_size hwf _, capA_one⟩); clear hwf hln hrm hrd hla hC7)
      | (with_reducible refine wpList_store_blkTo rfl 28 (.tmp 13) (.tmp 103) rfl rfl wF.heap.size C7 rfl rfl 28 _ (Blk.new wF _ _) (by rw [HZ7.out.1]; kernel_rfl) (by rw [HZ7.out.1]; kernel_rfl) HZ7.out.2 ?_))
    generalize hwG : World.setRow _ _ _ = wG
    have hbFG : Below wF.heap.size wF wG := by
      rw [← hwG]
      exact below_row ((Below.refl _ _).alloc (Nat.le_refl _) _) (by simp) (Nat.le_refl _) _
    have hbEG := hbF.trans (hbFG.mono hbF.size)
    have HG2 := Lib.hid (show CapW w wG g9 V A2 n2 cc2 ∧ Below w8.heap.size w8 wG ∧ CapW w wG g d A' n' cc' ∧ Blk wG i3 KV 23 ∧ Blk wG i11 KV 23 from ⟨HE2.out.1.below hbEG, HE2.out.2.1.trans (hbEG.mono HE2.out.2.1.size), HE2.out.2.2.1.below hbEG, HE2.out.2.2.2.1.below hbEG HE2.out.2.2.2.1.lt, HE2.out.2.2.2.2.below hbEG HE2.out.2.2.2.2.lt⟩)
    clear hwG hbFG hbEG hbF HE2 HVRO
    go_upto_region 14 with (first
      | (refine wpList_load_whenC ?_ 23 (.tmp 11) rfl i11 rfl 23 _ _ HG2.out.2.2.2.2 Tryd.underlying23 rfl (by rw [HZK.out.1]; kernel_rfl) ?_; · rfl)
      | (refine wpList_load_whenC ?_ 23 (.tmp 3) rfl i3 rfl 23 _ _ HG2.out.2.2.2.1 Tryd.underlying23 rfl (by rw [HZK.out.1]; kernel_rfl) ?_; · rfl))
    obtain ⟨RD, hRD⟩ : ∃ x, decide d.reads = x := ⟨_, rfl⟩
    have HB3G := Lib.hid (H8.out.2.1.trans (HG2.out.2.1.mono H8.out.2.1.size))
    have HDR := Lib.hid (show Calls Tryd.prog 33 #[.agg CD] wG fun e w' => e = .returned (.bool RD) ∧ Below wG.heap.size wG w' from by
      have h := pcanread_any (w := wG) (cc := cc') H3.out.cap.wf H3.out.len (H3.out.lit.on HB3G.out)
      rwa [HCD.out, hRD] at h)
    by_cases hrd : d.reads
    · obtain rfl : RD = true := by rw [← hRD]; exact decide_eq_true hrd
      clear hRD
      clear hke hfe
      obtain ⟨R, hR⟩ : ∃ x, ro13 d = x := ⟨_, rfl⟩
      have HRR := Lib.hid (show R.reads ∧ ¬ R.writes ∧ ro13 R = R ∧ idx13 R = idx13 d ∧ vo13 R = V ∧ idxOK R from by
        rw [← hR, ← HV.out]
        exact ⟨ro13_reads hrd, ro13_writes hrd, ro13_twice hrd, idx13_ro hrd, vo13_ro hrd, ro13_idxOK HNI.out hrd⟩)
      have HKI := Lib.hid (show u8A (idx13 d) = KV by rw [← HVK.out.1, ← idx13_ver HVK.out.2.2.1, HVK.out.2.2.2.2.2])
      have HRO := Lib.hid (fun (W : World) (hW : Below w8.heap.size w8 W) => (show Calls Tryd.prog 10 #[.agg CD] W fun e w' => CapSaid W w' e R 0 from by
        have h := preadonly_any (w := W) (c := d) (A := A') (n := n') (cc := cc') H3.out.cap.wf H3.out.len (H3.out.lit.on (H8.out.2.1.trans (hW.mono H8.out.2.1.size))) (HT8.out W hW)
        rw [HCD.out, if_pos hrd, if_pos hrd, hR] at h
        exact h))
      clear hrd hR
      go_upto_region 16 with (first
        | (refine wpList_load_capC ?_ (.tmp 1) rfl g rfl HG2.out.2.2.1.cap HCD.out ?_; · rfl)
        | ((with_reducible refine HDR.out.mono ?_); rintro e wH ⟨rfl, hbH⟩))
      have HS9 := Lib.hid (HG2.out.1.below hbH)
      have HB8 := Lib.hid (HG2.out.2.1.trans (hbH.mono HG2.out.2.1.size))
      have HSd := Lib.hid (HG2.out.2.2.1.below hbH)
      have HI3 := Lib.hid (HG2.out.2.2.2.1.below hbH HG2.out.2.2.2.1.lt)
      clear hbH HDR HG2 HB3G
      go_upto_region 17 with (first
        | (refine wpList_load_capC ?_ (.tmp 1) rfl g rfl HSd.out.cap HCD.out ?_; · rfl)
        | ((with_reducible refine (HRO.out _ HB8.out).mono ?_); rintro e wI ⟨⟨v, rfl, hv⟩, hba⟩; obtain ⟨hwf, A4, n4, cc4, rfl, hln, hrm, hrd, hla⟩ := hv; obtain ⟨CR, hCR⟩ : ∃ x, capA R (.slice A4 n4 cc4) = x := ⟨_, rfl⟩; rw [hCR]; have HCR := Lib.hid hCR; have HZCR := Lib.hid (show CR.size = 53 ∧ CR.all (·.oneCell') = true by rw [← hCR]; exact ⟨capA_size hwf _, capA_one⟩))
        | (with_reducible refine wpList_store_blkTo rfl 28 (.tmp 15) (.tmp 124) rfl rfl wI.heap.size CR rfl rfl 28 _ (Blk.new wI _ _) (by rw [HZCR.out.1]; kernel_rfl) (by rw [HZCR.out.1]; kernel_rfl) HZCR.out.2 ?_))
      have hfr := fun Y => CapW.fresh (HSd.out.bel.trans (hba.mono HSd.out.bel.size)) hwf hln hrm hrd Y hCR
      generalize hwn : World.setRow _ _ _ = wK
      have hk : CapW w wK wI.heap.size R A4 n4 cc4 ∧ Below wI.heap.size wI wK := by
        rw [← hwn]
        exact hfr _
      have hbn := hba.trans (hk.2.mono hba.size)
      obtain ⟨g15, hg15⟩ : ∃ x, wI.heap.size = x := ⟨_, rfl⟩
      rw [hg15] at hk ⊢
      replace HS9 := Lib.hid (HS9.out.below hbn)
      replace HSd := Lib.hid (HSd.out.below hbn)
      replace HI3 := Lib.hid (HI3.out.below hbn HI3.out.lt)
      replace HB8 := Lib.hid (HB8.out.trans (hbn.mono HB8.out.size))
      have HS15 := Lib.hid hk.1
      clear hfr hwn hk hbn hba hg15 hwf hln hrm hrd hla hCR HRO
      have HBK := Lib.hid (Below.refl wK.heap.size wK)
      have HK8 := HB8
      have HKR := HS15
      have HTK := Lib.hid (fun (W : World) (hW : Below wK.heap.size wK W) => HT8.out W (HK8.out.trans (hW.mono HK8.out.size)))
      have HIX2 := Lib.hid (fun (W : World) (hW : Below wK.heap.size wK W) => (show Calls Tryd.prog 13 #[.agg CR] W fun e w' => e = .returned (.tuple #[.agg KV, .int .i64 0]) ∧ Below W.heap.size W w' from by
        have h := pindex_any (w := W) (cc := cc4) HKR.out.cap.wf HKR.out.len (HKR.out.lit.on hW) (HTK.out W hW)
        rwa [HCR.out, if_pos HRR.out.2.2.2.2.2, if_pos HRR.out.2.2.2.2.2, HRR.out.2.2.2.1, HKI.out] at h))
      have HRO2 := Lib.hid (fun (W : World) (hW : Below wK.heap.size wK W) => (show Calls Tryd.prog 10 #[.agg CR] W fun e w' => CapSaid W w' e R 0 from by
        have h := preadonly_any (w := W) (cc := cc4) HKR.out.cap.wf HKR.out.len (HKR.out.lit.on hW) (HTK.out W hW)
        rwa [HCR.out, if_pos HRR.out.1, if_pos HRR.out.1, HRR.out.2.2.1] at h))
      have HVO2 := Lib.hid (fun (W : World) (hW : Below wK.heap.size wK W) => (show Calls Tryd.prog 11 #[.agg CR] W fun e w' => CapSaid W w' e V 0 from by
        have h := pverify_any (w := W) (cc := cc4) HKR.out.cap.wf HKR.out.len (HKR.out.lit.on hW) (HTK.out W hW)
        rwa [HCR.out, if_pos HRR.out.2.2.2.2.2, if_pos HRR.out.2.2.2.2.2, HRR.out.2.2.2.2.1] at h))
      obtain ⟨KZ, hKZ⟩ : ∃ x, u8A key0 = x := ⟨_, rfl⟩
      have HZKZ := Lib.hid (show KZ.size = 16 ∧ KZ.all (·.oneCell') = true by rw [← hKZ]; exact ⟨by rw [u8A_size]; rfl, u8A_one _⟩)
      have HEN := Lib.hid (fun (W : World) (hW : Below wK.heap.size wK W) => (show Calls Tryd.prog 14 #[.agg CR, .int .i64 0] W fun e w' => e = .returned (.tuple #[.agg KZ, .int .i64 11]) ∧ Below W.heap.size W w' from by
        have h := penabler_any (w := W) (cc := cc4) (server := 0) HKR.out.cap.wf HKR.out.len (HKR.out.lit.on hW) (by omega) (HTK.out W hW)
        rwa [HCR.out, if_neg HRR.out.2.1, if_neg HRR.out.2.1, hKZ] at h))
      have HCRD := Lib.hid (fun (W : World) (hW : Below wK.heap.size wK W) => (show Calls Tryd.prog 33 #[.agg CR] W fun e w' => e = .returned (.bool true) ∧ Below W.heap.size W w' from by
        have h := pcanread_any (w := W) (cc := cc4) HKR.out.cap.wf HKR.out.len (HKR.out.lit.on hW)
        rwa [HCR.out, decide_eq_true HRR.out.1] at h))
      have HCWR := Lib.hid (fun (W : World) (hW : Below wK.heap.size wK W) => (show Calls Tryd.prog 34 #[.agg CR] W fun e w' => e = .returned (.bool false) ∧ Below W.heap.size W w' from by
        have h := pcanwrite_any (w := W) (cc := cc4) HKR.out.cap.wf HKR.out.len (HKR.out.lit.on hW)
        rwa [HCR.out, decide_eq_false HRR.out.2.1] at h))
      clear hKZ
      go_upto_region 18 with (first
        | (refine wpList_load_capC ?_ (.tmp 15) rfl g15 rfl HS15.out.cap HCR.out ?_; · rfl)
        | ((with_reducible refine (HIX2.out _ HBK.out).mono ?_); rintro e wL ⟨rfl, hba⟩)
        | (with_reducible refine wpList_store_blkTo rfl 23 (.tmp 17) (.tmp 129) rfl rfl wL.heap.size KV rfl rfl 23 _ (Blk.new wL _ _) (by rw [HZK.out.1]; kernel_rfl) (by rw [HZK.out.1]; kernel_rfl) HZK.out.2 ?_))
      have hkf := fun Y => key_fresh (w := wL) Y KV
      generalize hwn : World.setRow _ _ _ = wM
      have hk : Blk wM wL.heap.size KV 23 ∧ Below wL.heap.size wL wM := by
        rw [← hwn]
        exact hkf _
      have hbn := hba.trans (hk.2.mono hba.size)
      obtain ⟨i17, hi17⟩ : ∃ x, wL.heap.size = x := ⟨_, rfl⟩
      rw [hi17] at hk ⊢
      replace HS9 := Lib.hid (HS9.out.below hbn)
      replace HSd := Lib.hid (HSd.out.below hbn)
      replace HS15 := Lib.hid (HS15.out.below hbn)
      replace HI3 := Lib.hid (HI3.out.below hbn HI3.out.lt)
      replace HB8 := Lib.hid (HB8.out.trans (hbn.mono HB8.out.size))
      replace HBK := Lib.hid (HBK.out.trans (hbn.mono HBK.out.size))
      have HI17 := Lib.hid hk.1
      clear hkf hwn hk hbn hba hi17 HIX2
      go_upto_region 19 with (first
        | (refine wpList_load_capC ?_ (.tmp 15) rfl g15 rfl HS15.out.cap HCR.out ?_; · rfl)
        | ((with_reducible refine (HRO2.out _ HBK.out).mono ?_); rintro e wN ⟨⟨v, rfl, hv⟩, hba⟩; obtain ⟨hwf, A5, n5, cc5, rfl, hln, hrm, hrd, hla⟩ := hv; obtain ⟨CR2, hCR2⟩ : ∃ x, capA R (.slice A5 n5 cc5) = x := ⟨_, rfl⟩; rw [hCR2]; have HCR2 := Lib.hid hCR2; have HZCR2 := Lib.hid (show CR2.size = 53 ∧ CR2.all (·.oneCell') = true by rw [← hCR2]; exact ⟨capA_size hwf _, capA_one⟩))
        | (with_reducible refine wpList_store_blkTo rfl 28 (.tmp 19) (.tmp 134) rfl rfl wN.heap.size CR2 rfl rfl 28 _ (Blk.new wN _ _) (by rw [HZCR2.out.1]; kernel_rfl) (by rw [HZCR2.out.1]; kernel_rfl) HZCR2.out.2 ?_))
      have hfr := fun Y => CapW.fresh (HSd.out.bel.trans (hba.mono HSd.out.bel.size)) hwf hln hrm hrd Y hCR2
      generalize hwn : World.setRow _ _ _ = wO
      have hk : CapW w wO wN.heap.size R A5 n5 cc5 ∧ Below wN.heap.size wN wO := by
        rw [← hwn]
        exact hfr _
      have hbn := hba.trans (hk.2.mono hba.size)
      obtain ⟨g19, hg19⟩ : ∃ x, wN.heap.size = x := ⟨_, rfl⟩
      rw [hg19] at hk ⊢
      replace HS9 := Lib.hid (HS9.out.below hbn)
      replace HSd := Lib.hid (HSd.out.below hbn)
      replace HS15 := Lib.hid (HS15.out.below hbn)
      replace HI3 := Lib.hid (HI3.out.below hbn HI3.out.lt)
      replace HI17 := Lib.hid (HI17.out.below hbn HI17.out.lt)
      replace HB8 := Lib.hid (HB8.out.trans (hbn.mono HB8.out.size))
      replace HBK := Lib.hid (HBK.out.trans (hbn.mono HBK.out.size))
      have HS19 := Lib.hid hk.1
      clear hfr hwn hk hbn hba hg19 hwf hln hrm hrd hla hCR2 HRO2
      go_upto_region 20 with (first
        | (refine wpList_load_capC ?_ (.tmp 15) rfl g15 rfl HS15.out.cap HCR.out ?_; · rfl)
        | ((with_reducible refine (HVO2.out _ HBK.out).mono ?_); rintro e wP ⟨⟨v, rfl, hv⟩, hba⟩; obtain ⟨hwf, A6, n6, cc6, rfl, hln, hrm, hrd, hla⟩ := hv; obtain ⟨CV2, hCV2⟩ : ∃ x, capA V (.slice A6 n6 cc6) = x := ⟨_, rfl⟩; rw [hCV2]; have HCV2 := Lib.hid hCV2; have HZCV2 := Lib.hid (show CV2.size = 53 ∧ CV2.all (·.oneCell') = true by rw [← hCV2]; exact ⟨capA_size hwf _, capA_one⟩))
        | (with_reducible refine wpList_store_blkTo rfl 28 (.tmp 21) (.tmp 139) rfl rfl wP.heap.size CV2 rfl rfl 28 _ (Blk.new wP _ _) (by rw [HZCV2.out.1]; kernel_rfl) (by rw [HZCV2.out.1]; kernel_rfl) HZCV2.out.2 ?_))
      have hfr := fun Y => CapW.fresh (HSd.out.bel.trans (hba.mono HSd.out.bel.size)) hwf hln hrm hrd Y hCV2
      generalize hwn : World.setRow _ _ _ = wQ
      have hk : CapW w wQ wP.heap.size V A6 n6 cc6 ∧ Below wP.heap.size wP wQ := by
        rw [← hwn]
        exact hfr _
      have hbn := hba.trans (hk.2.mono hba.size)
      obtain ⟨g21, hg21⟩ : ∃ x, wP.heap.size = x := ⟨_, rfl⟩
      rw [hg21] at hk ⊢
      replace HS9 := Lib.hid (HS9.out.below hbn)
      replace HSd := Lib.hid (HSd.out.below hbn)
      replace HS15 := Lib.hid (HS15.out.below hbn)
      replace HS19 := Lib.hid (HS19.out.below hbn)
      replace HI3 := Lib.hid (HI3.out.below hbn HI3.out.lt)
      replace HI17 := Lib.hid (HI17.out.below hbn HI17.out.lt)
      replace HB8 := Lib.hid (HB8.out.trans (hbn.mono HB8.out.size))
      replace HBK := Lib.hid (HBK.out.trans (hbn.mono HBK.out.size))
      have HS21 := Lib.hid hk.1
      clear hfr hwn hk hbn hba hg21 hwf hln hrm hrd hla hCV2 HVO2
      go_upto_region 21 with (first
        | (refine wpList_load_capC ?_ (.tmp 15) rfl g15 rfl HS15.out.cap HCR.out ?_; · rfl)
        | ((with_reducible refine (HEN.out _ HBK.out).mono ?_); rintro e wS ⟨rfl, hba⟩)
        | (with_reducible refine wpList_store_blkTo rfl 23 (.tmp 23) (.tmp 144) rfl rfl wS.heap.size KZ rfl rfl 23 _ (Blk.new wS _ _) (by rw [HZKZ.out.1]; kernel_rfl) (by rw [HZKZ.out.1]; kernel_rfl) HZKZ.out.2 ?_))
      have hkf := fun Y => key_fresh (w := wS) Y KZ
      generalize hwn : World.setRow _ _ _ = wT
      have hk : Blk wT wS.heap.size KZ 23 ∧ Below wS.heap.size wS wT := by
        rw [← hwn]
        exact hkf _
      have hbn := hba.trans (hk.2.mono hba.size)
      obtain ⟨i23, hi23⟩ : ∃ x, wS.heap.size = x := ⟨_, rfl⟩
      rw [hi23] at hk ⊢
      replace HS9 := Lib.hid (HS9.out.below hbn)
      replace HSd := Lib.hid (HSd.out.below hbn)
      replace HS15 := Lib.hid (HS15.out.below hbn)
      replace HS19 := Lib.hid (HS19.out.below hbn)
      replace HS21 := Lib.hid (HS21.out.below hbn)
      replace HI3 := Lib.hid (HI3.out.below hbn HI3.out.lt)
      replace HI17 := Lib.hid (HI17.out.below hbn HI17.out.lt)
      replace HB8 := Lib.hid (HB8.out.trans (hbn.mono HB8.out.size))
      replace HBK := Lib.hid (HBK.out.trans (hbn.mono HBK.out.size))
      have HI23 := Lib.hid hk.1
      clear hkf hwn hk hbn hba hi23 HEN
      clear HI23
      have HBT := Lib.hid (Below.refl wT.heap.size wT)
      have HP15 := HS15
      have HP19 := HS19
      have HP21 := HS21
      have HP9 := HS9
      have HSM1 := Lib.hid (fun (W : World) (hW : Below wT.heap.size wT W) => (show Calls Tryd.prog 31 #[.agg CR2, .agg CR] W fun e w' => e = .returned (.bool true) ∧ Below W.heap.size W w' from by
        have h := psame_any (w := W) HP19.out.cap.wf HP15.out.cap.wf (c := cc5) (d := cc4) HP19.out.len HP15.out.len (HP19.out.lit.on hW) (HP15.out.lit.on hW)
        rwa [HCR2.out, HCR.out, decide_eq_true rfl] at h))
      have HSM2 := Lib.hid (fun (W : World) (hW : Below wT.heap.size wT W) => (show Calls Tryd.prog 31 #[.agg CV2, .agg C9] W fun e w' => e = .returned (.bool true) ∧ Below W.heap.size W w' from by
        have h := psame_any (w := W) HP21.out.cap.wf HP9.out.cap.wf (c := cc6) (d := cc2) HP21.out.len HP9.out.len (HP21.out.lit.on hW) (HP9.out.lit.on hW)
        rwa [HCV2.out, HC9.out, decide_eq_true rfl] at h))
      have hke := HKE.out
      go_wp2_with (first
        | (refine wpList_load_whenC ?_ 23 (.tmp 17) rfl i17 rfl 23 _ _ HI17.out Tryd.underlying23 rfl (by rw [HZK.out.1]; kernel_rfl) ?_; · rfl)
        | (refine wpList_load_whenC ?_ 23 (.tmp 3) rfl i3 rfl 23 _ _ HI3.out Tryd.underlying23 rfl (by rw [HZK.out.1]; kernel_rfl) ?_; · rfl)
        | (refine wpList_load_capC ?_ (.tmp 15) rfl g15 rfl HS15.out.cap HCR.out ?_; · rfl)
        | (refine wpList_load_capC ?_ (.tmp 19) rfl g19 rfl HS19.out.cap HCR2.out ?_; · rfl)
        | (refine wpList_load_capC ?_ (.tmp 21) rfl g21 rfl HS21.out.cap HCV2.out ?_; · rfl)
        | (refine wpList_load_capC ?_ (.tmp 9) rfl g9 rfl HS9.out.cap HC9.out ?_; · rfl)
        | ((with_reducible refine (HCRD.out _ HBK.out).mono ?_); rintro e wU ⟨rfl, hbu⟩; replace HS9 := Lib.hid (HS9.out.below hbu); replace HSd := Lib.hid (HSd.out.below hbu); replace HS15 := Lib.hid (HS15.out.below hbu); replace HS19 := Lib.hid (HS19.out.below hbu); replace HS21 := Lib.hid (HS21.out.below hbu); replace HI3 := Lib.hid (HI3.out.below hbu HI3.out.lt); replace HI17 := Lib.hid (HI17.out.below hbu HI17.out.lt); replace HB8 := Lib.hid (HB8.out.trans (hbu.mono HB8.out.size)); replace HBK := Lib.hid (HBK.out.trans (hbu.mono HBK.out.size)); replace HBT := Lib.hid (HBT.out.trans (hbu.mono HBT.out.size)); clear hbu)
        | ((with_reducible refine (HCWR.out _ HBK.out).mono ?_); rintro e wV ⟨rfl, hbu⟩; replace HS9 := Lib.hid (HS9.out.below hbu); replace HSd := Lib.hid (HSd.out.below hbu); replace HS15 := Lib.hid (HS15.out.below hbu); replace HS19 := Lib.hid (HS19.out.below hbu); replace HS21 := Lib.hid (HS21.out.below hbu); replace HI3 := Lib.hid (HI3.out.below hbu HI3.out.lt); replace HI17 := Lib.hid (HI17.out.below hbu HI17.out.lt); replace HB8 := Lib.hid (HB8.out.trans (hbu.mono HB8.out.size)); replace HBK := Lib.hid (HBK.out.trans (hbu.mono HBK.out.size)); replace HBT := Lib.hid (HBT.out.trans (hbu.mono HBT.out.size)); clear hbu)
        | ((with_reducible refine (HSM1.out _ HBT.out).mono ?_); rintro e wW ⟨rfl, hbu⟩; replace HS9 := Lib.hid (HS9.out.below hbu); replace HSd := Lib.hid (HSd.out.below hbu); replace HS15 := Lib.hid (HS15.out.below hbu); replace HS19 := Lib.hid (HS19.out.below hbu); replace HS21 := Lib.hid (HS21.out.below hbu); replace HI3 := Lib.hid (HI3.out.below hbu HI3.out.lt); replace HI17 := Lib.hid (HI17.out.below hbu HI17.out.lt); replace HB8 := Lib.hid (HB8.out.trans (hbu.mono HB8.out.size)); replace HBK := Lib.hid (HBK.out.trans (hbu.mono HBK.out.size)); replace HBT := Lib.hid (HBT.out.trans (hbu.mono HBT.out.size)); clear hbu)
        | ((with_reducible refine (HSM2.out _ HBT.out).mono ?_); rintro e wX ⟨rfl, hbu⟩; replace HS9 := Lib.hid (HS9.out.below hbu); replace HSd := Lib.hid (HSd.out.below hbu); replace HS15 := Lib.hid (HS15.out.below hbu); replace HS19 := Lib.hid (HS19.out.below hbu); replace HS21 := Lib.hid (HS21.out.below hbu); replace HI3 := Lib.hid (HI3.out.below hbu HI3.out.lt); replace HI17 := Lib.hid (HI17.out.below hbu HI17.out.lt); replace HB8 := Lib.hid (HB8.out.trans (hbu.mono HB8.out.size)); replace HBK := Lib.hid (HBK.out.trans (hbu.mono HBK.out.size)); replace HBT := Lib.hid (HBT.out.trans (hbu.mono HBT.out.size)); clear hbu; have HB3X := Lib.hid (H8.out.2.1.trans (HB8.out.mono H8.out.2.1.size)))
        | ((with_reducible refine (HWK.out _ HB3X.out).mono ?_); rintro e wY ⟨rfl, hbY⟩))
      have hfin := H3.out.bel.trans ((HB3X.out.trans (hbY.mono HB3X.out.size)).mono H3.out.bel.size)
      clear hbY hke
      go_wp2_with fail
      go_ret
      exact ⟨rfl, by first | exact hfin | (rw [← HG.out]; exact hfin)⟩
    · obtain rfl : RD = false := by rw [← hRD]; exact decide_eq_false hrd
      have hVd : V = d := by rw [← HV.out]; exact vo13_same HNI.out hrd
      clear hRD hrd hke hfe
      go_upto_region 15 with (first
        | (refine wpList_load_capC ?_ (.tmp 1) rfl g rfl HG2.out.2.2.1.cap HCD.out ?_; · rfl)
        | ((with_reducible refine HDR.out.mono ?_); rintro e wH ⟨rfl, hbH⟩))
      have HH := Lib.hid (show CapW w wH g9 V A2 n2 cc2 ∧ Below w8.heap.size w8 wH ∧ CapW w wH g d A' n' cc' from ⟨HG2.out.1.below hbH, HG2.out.2.1.trans (hbH.mono HG2.out.2.1.size), HG2.out.2.2.1.below hbH⟩)
      have HSM := Lib.hid (show Calls Tryd.prog 31 #[.agg C9, .agg CD] wH fun e w' => e = .returned (.bool true) ∧ Below wH.heap.size wH w' from by
        have h := psame_any (w := wH) HH.out.1.cap.wf HH.out.2.2.cap.wf (c := cc2) (d := cc') HH.out.1.len HH.out.2.2.len HH.out.1.lit HH.out.2.2.lit
        rwa [HC9.out, HCD.out, decide_eq_true hVd] at h)
      clear hbH HDR HG2 hVd
      go_wp2_with (first
        | (refine wpList_load_capC ?_ (.tmp 9) rfl g9 rfl HH.out.1.cap HC9.out ?_; · rfl)
        | (refine wpList_load_capC ?_ (.tmp 1) rfl g rfl HH.out.2.2.cap HCD.out ?_; · rfl)
        | (with_reducible refine HSM.out.mono ?_; rintro e wI ⟨rfl, hbI⟩; have HBI := Lib.hid (H8.out.2.1.trans ((HH.out.2.1.trans (hbI.mono HH.out.2.1.size)).mono H8.out.2.1.size)); clear hbI)
        | (with_reducible refine (HWK.out _ HBI.out).mono ?_; rintro e wJ ⟨rfl, hbJ⟩))
      have hfin := H3.out.bel.trans ((HBI.out.trans (hbJ.mono HBI.out.size)).mono H3.out.bel.size)
      clear hbJ
      go_wp2_with fail
      go_ret
      exact ⟨rfl, by first | exact hfin | (rw [← HG.out]; exact hfin)⟩

set_option maxRecDepth 100000 in
theorem contract (H : Type) (enc : TypeId × Value → H) (W : World) (base : Nat) (args : Array Value) (ds gs : List (DataW H)) (before : List MemPlace)
    (hval : ∀ (j : Nat) t v, Tryd.f8.params[j]? = some t → args[j]? = some v → Value.okWide Tryd.prog W .any base t v)
    (hW : DataW.Whole enc Tryd.prog Tryd.f8.params.toList Rows.capsDownSpec.vars false W args.toList ds gs before) (hL : laidMetH Tryd.prog Rows.capsDownRow.laid W) :
    Calls Tryd.prog 8 args W fun e W' => ∃ v, e = .returned v ∧ Rows.capsDownSpec.post enc Tryd.prog Tryd.f8 false true false false W args v W' := by
  have hW' := hW
  obtain ⟨p, q, hA0, hV, rfl, hfz, hnd⟩ := hW
  have hA : DataW.TrodAll enc Tryd.prog W 0 (fun _ => true) true Tryd.f8.params.toList args.toList ds p := hA0
  rw [Tryd.params8] at hA hval
  obtain ⟨v0, d0, rfl, rfl, h0⟩ := trodAll_one hA
  obtain ⟨rfl, rfl⟩ := trodVars_none hV
  obtain ⟨c0, A0, m0, k0, rfl, hw0, hb0, hl0, hc0, hm0, hr0⟩ := open_cap (hval 0 28 v0 rfl rfl) h0
  clear hA0
  refine (walk c0 A0 m0 k0 W hw0 hb0 hl0 hc0 hr0 (pow10 hL)).mono fun e W' ⟨he, hb⟩ => ?_
  exact ⟨_, he, law_post hW' rfl (by kernel_rfl) rfl (by kernel_rfl) hb⟩

theorem laid_met (os : Os) : laidMet Tryd.prog Rows.capsDownRow.laid ((laidWorld os).forCall (fun _ _ => 0) ⟨#[], #[.agg (capA cap0 (.slice none 0 0))], []⟩).memory :=
  laidMet_of_run' 8 (by kernel_rfl) (by kernel_rfl)
theorem reads (os : Os) {H : Type} (enc : TypeId × Value → H) : ∃ places, DataW.whole enc Tryd.prog ((laidWorld os).forCall (fun _ _ => 0) ⟨#[], #[.agg (capA cap0 (.slice none 0 0))], []⟩).memory Tryd.f8.params.toList Rows.capsDownSpec.vars false #[Value.agg (capA cap0 (.slice none 0 0))].toList 8 = some ([.agg [.lit (.int .i64 0), .agg [.lit (.int .u8 0), .lit (.int .u8 0), .lit (.int .u8 0), .lit (.int .u8 0), .lit (.int .u8 0), .lit (.int .u8 0), .lit (.int .u8 0), .lit (.int .u8 0), .lit (.int .u8 0), .lit (.int .u8 0), .lit (.int .u8 0), .lit (.int .u8 0), .lit (.int .u8 0), .lit (.int .u8 0), .lit (.int .u8 0), .lit (.int .u8 0)], .agg [.lit (.int .u8 0), .lit (.int .u8 0), .lit (.int .u8 0), .lit (.int .u8 0), .lit (.int .u8 0), .lit (.int .u8 0), .lit (.int .u8 0), .lit (.int .u8 0), .lit (.int .u8 0), .lit (.int .u8 0), .lit (.int .u8 0), .lit (.int .u8 0), .lit (.int .u8 0), .lit (.int .u8 0), .lit (.int .u8 0), .lit (.int .u8 0), .lit (.int .u8 0), .lit (.int .u8 0), .lit (.int .u8 0), .lit (.int .u8 0), .lit (.int .u8 0), .lit (.int .u8 0), .lit (.int .u8 0), .lit (.int .u8 0), .lit (.int .u8 0), .lit (.int .u8 0), .lit (.int .u8 0), .lit (.int .u8 0), .lit (.int .u8 0), .lit (.int .u8 0), .lit (.int .u8 0), .lit (.int .u8 0)], .lit (.int .i64 0), .lit (.int .i64 0), .lit (.int .i64 0), .nil]], [], places) :=
  ⟨[], by kernel_rfl⟩

set_option maxRecDepth 100000 in
theorem lifted (os : Os) (started : os.Started) (H : Type) (enc : TypeId × Value → H) (F : Stop.Interp) :
    ReturnsInHanded {} Tryd.checked os 8 .any ((OpenSpec.ofChange Rows.capsDownSpec).preRow enc Tryd.prog Tryd.f8 Rows.capsDownRow.domain false Rows.capsDownRow.laid) (((OpenSpec.ofChange Rows.capsDownSpec).at F).post enc Tryd.prog Tryd.f8 false true false false) := by
  obtain ⟨places, hx⟩ := reads os enc
  refine returnsInHanded_of_row (C := Tryd.checked) (s := OpenSpec.ofChange Rows.capsDownSpec) own started (by kernel_rfl) Tryd.func8
    (witness_row_at (enc := enc) (C := Tryd.checked) false (laidWorld os) #[.agg (capA cap0 (.slice none 0 0))] rfl (by kernel_rfl) (by kernel_rfl) (by kernel_rfl)
      (OpenSpec.preRow_of_cond 8 hx (by kernel_rfl) (fun k hk => by cases hk) (by kernel_rfl) (laid_met os))) ?_
  intro W base args ds gs before hval hW _ _ _ hL _ _
  exact contract H enc W base args ds gs before hval hW hL

theorem said : Rows.CapsDownSaid :=
  OpenClaim.holds_of_cond 8 Tryd.f8 rfl rfl rfl rfl rfl rfl rfl ⟨rfl, rfl, rfl, rfl, rfl⟩ rfl rfl rfl rfl rfl (by kernel_rfl) Tryd.func8 (by kernel_rfl)
    (of_decide_eq_true (by kernel_rfl)) (by unfold Func.isWrapper; first | (rw [if_pos (by decide +kernel)]; kernel_rfl) | (rw [if_neg (by decide +kernel)]; exact ⟨rfl, rfl⟩))
    (fun os started H enc _ F => by rw [OpenClaim.pre_eq_preRow]; exact lifted os started H enc F)

theorem plain (f : FuncId) (fn : Func) (hf : Tryd.pinned.checked.prog.funcNamed "aumbry/aumbrylaw13.CapsDown" = some f) (hfn : Tryd.pinned.checked.prog.funcs[f]? = some fn) :
    true = Tryd.pinned.checked.prog.looks [] ∧ ∀ (j : Nat) t, fn.params[j]? = some t → Tryd.pinned.checked.prog.wantsStandIn t = false := by
  obtain rfl : f = 8 := Option.some.inj ((show Tryd.prog.funcNamed "aumbry/aumbrylaw13.CapsDown" = some 8 by kernel_rfl).symm.trans hf) |>.symm
  obtain rfl : fn = Tryd.f8 := (Option.some.inj (Tryd.func8.symm.trans hfn)).symm
  refine ⟨by kernel_rfl, fun j t ht => ?_⟩
  exact wants_none (by kernel_rfl) (Array.mem_of_getElem? ht)

/-- The card: the statement holds, its listed tables tied to the program's text. -/
theorem card : Rows.CapsDownCardSaid :=
  Claim7.holds_tied_plain_at .later [] _ _ _ _ said (fun _ h => by cases h) (by kernel_rfl) (fun _ h => by cases h) capsDown_row_tie rfl ⟨rfl, rfl⟩ (by kernel_rfl) rfl plain (by kernel_rfl)
end Go.Proofs.YtkkokngdhhakdaaDoor.capsDown
