/- MssVerifies: whether a signature is right, whole or spoilt, of its message or another one. For all seeds, heights, leaves and messages, whatever is spoilt. -/
import Derived.Test.YtfgieebccjoboaaDoorLaw
import Derived.Test.YtfgieebccjoboaaDoorSeven
import Derived.Test.YtfgieebccjoboaaDoorLaw9
import Derived.Test.YtfgieebccjoboaaDoorSpl
import Derived.Test.YtfgieebccjoboaaDoorMpD
import Derived.Test.YtfgieebccjoboaaDoorMssV
import Derived.Test.YtfgieebccjoboaaDoorMssS
import Derived.Test.YtfgieebccjoboaaDoorHashD
namespace Go.Proofs.YtfgieebccjoboaaDoor.mssVerifies
open Go.ChangeShapes Go.WideShapes Go.ChangeAt Go.RowKit

set_option maxRecDepth 100000 in
set_option maxHeartbeats 16000000 in
theorem walk (sd : List UInt8) (height leaf : Int) (A3 : Option Addr) (n3 c3 : Nat) (m3 : List UInt8) (A4 : Option Addr) (n4 c4 : Nat) (m4 : List UInt8) (what at_ : Int) (w : World) (hs : sd.length = 16) (heightl : -9223372036854775808 ≤ height) (heighth : height ≤ 9223372036854775807) (leafl : -9223372036854775808 ≤ leaf) (leafh : leaf ≤ 9223372036854775807) (hn3 : m3.length = n3) (hc3 : n3 ≤ c3) (hcm3 : c3 ≤ maxLen) (hr3 : Rd w w.heap.size A3 m3) (hn4 : m4.length = n4) (hc4 : n4 ≤ c4) (hcm4 : c4 ≤ maxLen) (hr4 : Rd w w.heap.size A4 m4) (whatl : -9223372036854775808 ≤ what) (whath : what ≤ 9223372036854775807) (at_l : -9223372036854775808 ≤ at_) (at_h : at_ ≤ 9223372036854775807) (htab : Pow10 w.heap.size w) :
    Calls Tryd.prog 7 #[.agg (u8A sd), .int .i64 height, .int .i64 leaf, .slice A3 n3 c3, .slice A4 n4 c4, .int .i64 what, .int .i64 at_] w fun e w' => e = .returned (.bool true) ∧ Below w.heap.size w w' := by
  obtain ⟨p, hp, hpn⟩ : ∃ p : Nat, withinI height 3 = (p : Int) ∧ (p : Int) < 3 := by
    have := withinI_range height 3 (by omega)
    exact ⟨(withinI height 3).toNat, by omega, by omega⟩
  have HWI := Lib.hid (fun W => (show Calls Tryd.prog 11 #[.int .i64 height, .int .i64 3] W fun e w' => e = .returned (.int .i64 (p : Int)) ∧ W = w' from by rw [← hp]; exact within_any height 3 W (by omega) (by omega) (by omega)))
  obtain ⟨M, hM⟩ : ∃ M, min n3 40 = M := ⟨_, rfl⟩
  have HC3 := Lib.hid (fun W => (show Calls Tryd.prog 12 #[.slice A3 n3 c3, .int .i64 40] W fun e W' => e = .returned (.slice A3 M c3) ∧ W = W' from by
    rw [← hM]
    exact cut_any A3 n3 c3 40 W hc3))
  have hMk : M ≤ 40 := by omega
  have hMc : M ≤ c3 := by omega
  obtain ⟨bl, hbl⟩ : ∃ x, m3.take 40 = x := ⟨_, rfl⟩
  have hbln : bl.length = M := by rw [← hbl, List.length_take, hn3]; omega
  have hblr : Rd w w.heap.size A3 bl := by rw [← hbl]; exact hr3.take 40
  obtain ⟨M4, hM4⟩ : ∃ M, min n4 40 = M := ⟨_, rfl⟩
  have HC4 := Lib.hid (fun W => (show Calls Tryd.prog 12 #[.slice A4 n4 c4, .int .i64 40] W fun e W' => e = .returned (.slice A4 M4 c4) ∧ W = W' from by
    rw [← hM4]
    exact cut_any A4 n4 c4 40 W hc4))
  have hM4k : M4 ≤ 40 := by omega
  have hM4c : M4 ≤ c4 := by omega
  obtain ⟨bn, hbn⟩ : ∃ x, m4.take 40 = x := ⟨_, rfl⟩
  have hbnn : bn.length = M4 := by rw [← hbn, List.length_take, hn4]; omega
  have hbnr : Rd w w.heap.size A4 bn := by rw [← hbn]; exact hr4.take 40
  have HTAB := Lib.hid htab
  obtain ⟨X, hX⟩ : ∃ x, u8A sd = x := ⟨_, rfl⟩
  have HEX := Lib.hid hX
  have HZX := Lib.hid (show X.size = 16 by rw [← hX, u8A_size]; exact hs)
  have HOX := Lib.hid (show X.all (·.oneCell') = true by rw [← hX]; exact u8A_one _)
  have hp4 : p ≤ 4 := by omega
  obtain ⟨N, hN⟩ : ∃ N, 2 ^ p = N := ⟨_, rfl⟩
  have hN16 : N ≤ 16 := by rw [← hN]; exact Nat.pow_le_pow_right (n := 2) (by omega) (by omega)
  have hN1 : 1 ≤ N := by rw [← hN]; exact Nat.pos_of_ne_zero (by simp)
  have hp1 : (2 : Int) ^ p = (N : Int) := by rw [← hN]; simp
  obtain ⟨i, hi, hin⟩ : ∃ i : Nat, withinI leaf (N : Int) = (i : Int) ∧ (i : Int) < (N : Int) := by
    have := withinI_range leaf (N : Int) (by omega)
    exact ⟨(withinI leaf (N : Int)).toNat, by omega, by omega⟩
  have HWL := Lib.hid (fun W => (show Calls Tryd.prog 11 #[.int .i64 leaf, .int .i64 (N : Int)] W fun e w' => e = .returned (.int .i64 (i : Int)) ∧ W = w' from by rw [← hi]; exact within_any leaf (N : Int) W (by omega) (by omega) (by omega)))
  have hiN : i < N := by omega
  obtain ⟨sg, hsg⟩ : ∃ x, atL (signF sd (i : Int) (digH (msgH bl))) 67 = x := ⟨_, rfl⟩
  obtain ⟨pv, hpv⟩ : ∃ x, proofV (pubsL sd N) i = x := ⟨_, rfl⟩
  have hpl : pv.length = p := by rw [← hpv, ← hN]; exact proofV_len9 sd p i
  have hsl : sg.length = 67 := by rw [← hsg]; exact atL_len _ _
  have HLF := Lib.hid (And.intro hsl hpl)
  obtain ⟨fp, hfp⟩ : ∃ x, printH (p : Int) (keyRoot sd p) = x := ⟨_, rfl⟩
  have hfl : fp.length = 32 := by rw [← hfp]; exact printH_len _ _
  obtain ⟨F0, hF0⟩ : ∃ x, u8A fp = x := ⟨_, rfl⟩
  have HEF0 := Lib.hid hF0
  have HZF0 := Lib.hid (show F0.size = 32 by rw [← hF0, u8A_size]; exact hfl)
  have HOF0 := Lib.hid (show F0.all (·.oneCell') = true by rw [← hF0]; exact u8A_one _)
  have HPR := Lib.hid (fun W => (show Calls Tryd.prog 24 #[.agg X, .int .i64 (p : Int)] W fun e w' => e = .returned (.agg F0) ∧ Below W.heap.size W w' from by
    rw [← hX, ← hF0, ← hfp]
    exact rprint9_any sd p W hs (by omega)))
  have HRS := Lib.hid (fun W (hW : Below w.heap.size w W) => (show Calls Tryd.prog 26 #[.agg X, .int .i64 (p : Int), .int .i64 (i : Int), .slice A3 M c3] W fun e w' => ∃ V cv P cp, e = .returned (.agg (sigA (p : Int) (i : Int) V P 67 cv p cp)) ∧ HV w' (.slice V 67 cv) sg ∧ HV w' (.slice P p cp) pv ∧ Below W.heap.size W w' from by
    have h := rsig9_any sd p i A3 M c3 bl W hs (by omega) (by rw [hN]; exact hiN) hbln (by omega) hMc hcm3 (hblr.on hW)
    rw [hN, hpv, hsg, hX] at h
    exact h))
  have HSP := Lib.hid (fun V cv P cp W (h1 : HV W (.slice V 67 cv) sg) (h2 : HV W (.slice P p cp) pv) => spoilt9_any (p : Int) (i : Int) V P 67 cv p cp sg pv what at_ W (by omega) (by omega) (by omega) (by omega) (by omega) (by omega) h1 HLF.out.1 h2 HLF.out.2)
  have HVE := Lib.hid (fun (sh sl : Int) (vs ps : List (List UInt8)) V P n cv m cp SB W (hSB : sigA sh sl V P n cv m cp = SB) (hW : Below w.heap.size w W) (h1 : HV W (.slice V n cv) vs) (h2 : vs.length = n) (h3 : HV W (.slice P m cp) ps) (h4 : ps.length = m) (h5 : m ≤ 1000) => (show Calls Tryd.prog 15 #[.agg F0, .slice A3 M c3, .agg SB] W fun e w' => e = .returned (.bool (decide (verP fp bl ⟨sh, sl, vs, ps⟩))) ∧ Below W.heap.size W w' from by
    rw [← hF0, ← hSB]
    exact pverify9_any fp A3 M c3 bl ⟨sh, sl, vs, ps⟩ V P n cv m cp W hbln (by omega) hMc hcm3 (hblr.on hW) h1 h2 h3 h4 (by omega) (tab_on htab hW hW.size) hfl))
  have HVN := Lib.hid (fun (sh sl : Int) (vs ps : List (List UInt8)) V P n cv m cp SB W (hSB : sigA sh sl V P n cv m cp = SB) (hW : Below w.heap.size w W) (h1 : HV W (.slice V n cv) vs) (h2 : vs.length = n) (h3 : HV W (.slice P m cp) ps) (h4 : ps.length = m) (h5 : m ≤ 1000) => (show Calls Tryd.prog 15 #[.agg F0, .slice A4 M4 c4, .agg SB] W fun e w' => e = .returned (.bool (decide (verP fp bn ⟨sh, sl, vs, ps⟩))) ∧ Below W.heap.size W w' from by
    rw [← hF0, ← hSB]
    exact pverify9_any fp A4 M4 c4 bn ⟨sh, sl, vs, ps⟩ V P n cv m cp W hbnn (by omega) hM4c hcm4 (hbnr.on hW) h1 h2 h3 h4 (by omega) (tab_on htab hW hW.size) hfl))
  have HRE := Lib.hid (fun (sh sl : Int) (vs ps : List (List UInt8)) V P n cv m cp SB W (hSB : sigA sh sl V P n cv m cp = SB) (hW : Below w.heap.size w W) (h1 : HV W (.slice V n cv) vs) (h2 : vs.length = n) (h3 : HV W (.slice P m cp) ps) (h4 : ps.length = m) (h5 : m ≤ 1000) => (show Calls Tryd.prog 28 #[.agg F0, .slice A3 M c3, .agg SB] W fun e w' => e = .returned (.bool (decide (verP fp bl ⟨sh, sl, vs, ps⟩))) ∧ Below W.heap.size W w' from by
    rw [← hF0, ← hSB]
    exact rverify9_any fp A3 M c3 bl ⟨sh, sl, vs, ps⟩ V P n cv m cp W hfl hbln (by omega) hMc hcm3 (hblr.on hW) h1 h2 h3 h4 (by omega)))
  have HRN := Lib.hid (fun (sh sl : Int) (vs ps : List (List UInt8)) V P n cv m cp SB W (hSB : sigA sh sl V P n cv m cp = SB) (hW : Below w.heap.size w W) (h1 : HV W (.slice V n cv) vs) (h2 : vs.length = n) (h3 : HV W (.slice P m cp) ps) (h4 : ps.length = m) (h5 : m ≤ 1000) => (show Calls Tryd.prog 28 #[.agg F0, .slice A4 M4 c4, .agg SB] W fun e w' => e = .returned (.bool (decide (verP fp bn ⟨sh, sl, vs, ps⟩))) ∧ Below W.heap.size W w' from by
    rw [← hF0, ← hSB]
    exact rverify9_any fp A4 M4 c4 bn ⟨sh, sl, vs, ps⟩ V P n cv m cp W hfl hbnn (by omega) hM4c hcm4 (hbnr.on hW) h1 h2 h3 h4 (by omega)))
  rw [hX]
  clear hX hF0 htab hp hN hsg hpv hpl hsl hbl hbn hM hM4 hn3 hr3 hblr hn4 hr4 hbnr hfp hfl
  go_enter Tryd.func7, Tryd.ntmps7
  go_upto_region 1 with fail
  generalize hw1 : World.alloc _ _ = w3
  obtain ⟨g7, hg7⟩ : ∃ g, w.heap.size = g := ⟨_, rfl⟩
  have hf : Blk w3 g7 X 23 ∧ Below w.heap.size w w3 := by
    have hw : w3 = (w.alloc (.cells X 23)) := hw1.symm
    rw [hw, ← hg7]
    exact ⟨by exact Blk.new _ _ _, ((Below.refl _ _).alloc (Nat.le_refl _) _)⟩
  have HB7 := Lib.hid hf.1
  have HBW := Lib.hid hf.2
  have HG7 := Lib.hid (show w.heap.size ≤ g7 by omega)
  clear hf hw1
  rw [hg7]
  clear hg7
  go_wp2_with fail
  with_reducible refine (HWI.out _).mono ?_
  rintro e wx ⟨rfl, rfl⟩
  go_wp2_with fail
  with_reducible refine (HWL.out _).mono ?_
  rintro e wx ⟨rfl, rfl⟩
  go_wp2_with fail
  with_reducible refine (HC3.out _).mono ?_
  rintro e wx ⟨rfl, rfl⟩
  go_wp2_with fail
  with_reducible refine (HC4.out _).mono ?_
  rintro e wx ⟨rfl, rfl⟩
  clear HWI HWL HC3 HC4
  go_wp2_with (with_reducible refine wpList_load_blk rfl 23 (.tmp 7) rfl g7 rfl 23 X _ HB7.out Tryd.underlying23 rfl (by rw [HZX.out]; kernel_rfl) ?_)
  with_reducible refine (HPR.out w3).mono ?_
  rintro e w4 ⟨rfl, hb⟩
  replace HB7 := Lib.hid (HB7.out.below hb HB7.out.lt)
  replace HBW := Lib.hid (HBW.out.trans (hb.mono HBW.out.size))
  clear hb HPR
  go_upto_region 5 with (with_reducible refine wpList_store_blk rfl 29 (.tmp 15) (.tmp 30) rfl w4.heap.size F0 rfl rfl 29 _ (Blk.new _ _ _) (by rw [HZF0.out]; kernel_rfl) (by rw [HZF0.out]; kernel_rfl) HOF0.out ?_)
  generalize hwn : World.setRow _ _ _ = w5
  have hal : Below w4.heap.size w4 w5 := by
    rw [← hwn]
    exact below_row ((Below.refl _ _).alloc (Nat.le_refl _) _) (by simp) (Nat.le_refl _) _
  have HB15 := Lib.hid (show Blk w5 w4.heap.size F0 29 by
    rw [← hwn]
    exact (Blk.new _ _ _).row _)
  obtain ⟨g15, hgn⟩ : ∃ g, w4.heap.size = g := ⟨_, rfl⟩
  replace HB7 := Lib.hid (HB7.out.below hal HB7.out.lt)
  replace HBW := Lib.hid (HBW.out.trans (hal.mono HBW.out.size))
  rw [hgn] at HB15 ⊢
  clear hal hwn hgn
  go_wp2_with (with_reducible refine wpList_load_blk rfl 23 (.tmp 7) rfl g7 rfl 23 X _ HB7.out Tryd.underlying23 rfl (by rw [HZX.out]; kernel_rfl) ?_)
  with_reducible refine (HRS.out w5 HBW.out).mono ?_
  rintro e w6 ⟨V, cv, P, cp, rfl, hv1, hv2, hb⟩
  have HSW := Lib.hid (HSP.out V cv P cp w6 hv1 hv2)
  replace HB7 := Lib.hid (HB7.out.below hb HB7.out.lt)
  replace HB15 := Lib.hid (HB15.out.below hb HB15.out.lt)
  replace HBW := Lib.hid (HBW.out.trans (hb.mono HBW.out.size))
  clear hb hv1 hv2 HRS HSP
  go_wp2_with fail
  with_reducible refine (HSW.out).mono ?_
  rintro e w7 ⟨sh, sl, V2, P2, nx, cv2, mx, cp2, vx, px, rfl, hv1, hl1, hn1, hv2, hl2, hn2, hb⟩
  have HV1 := Lib.hid hv1
  have HV2 := Lib.hid hv2
  have HL1 := Lib.hid hl1
  have HL2 := Lib.hid hl2
  obtain ⟨SB, hSB⟩ : ∃ x, sigA sh sl V2 P2 nx cv2 mx cp2 = x := ⟨_, rfl⟩
  have HESB := Lib.hid hSB
  have HZSB := Lib.hid (show SB.size = 4 by rw [← hSB]; rfl)
  have HOSB := Lib.hid (show SB.all (·.oneCell') = true by rw [← hSB]; exact sigA_one _ _ _ _ _ _ _ _)
  replace HB7 := Lib.hid (HB7.out.below hb HB7.out.lt)
  replace HB15 := Lib.hid (HB15.out.below hb HB15.out.lt)
  replace HBW := Lib.hid (HBW.out.trans (hb.mono HBW.out.size))
  rw [hSB]
  clear hb hv1 hv2 hl1 hl2 hn1 hSB HSW
  go_upto_region 6 with (with_reducible refine wpList_store_blk rfl 35 (.tmp 16) (.tmp 38) rfl w7.heap.size SB rfl rfl 35 _ (Blk.new _ _ _) (by rw [HZSB.out]; kernel_rfl) (by rw [HZSB.out]; kernel_rfl) HOSB.out ?_)
  generalize hwn : World.setRow _ _ _ = w8
  have hal : Below w7.heap.size w7 w8 := by
    rw [← hwn]
    exact below_row ((Below.refl _ _).alloc (Nat.le_refl _) _) (by simp) (Nat.le_refl _) _
  have HB16 := Lib.hid (show Blk w8 w7.heap.size SB 35 by
    rw [← hwn]
    exact (Blk.new _ _ _).row _)
  obtain ⟨g16, hgn⟩ : ∃ g, w7.heap.size = g := ⟨_, rfl⟩
  replace HV1 := Lib.hid (HV1.out.on hal)
  replace HV2 := Lib.hid (HV2.out.on hal)
  replace HB7 := Lib.hid (HB7.out.below hal HB7.out.lt)
  replace HB15 := Lib.hid (HB15.out.below hal HB15.out.lt)
  replace HBW := Lib.hid (HBW.out.trans (hal.mono HBW.out.size))
  rw [hgn] at HB16 ⊢
  clear hal hwn hgn
  have HWK := Lib.hid (fun W (hW : Below w8.heap.size w8 W) => wakes9_any W (tab_on HTAB.out (HBW.out.trans (hW.mono HBW.out.size)) (HBW.out.trans (hW.mono HBW.out.size)).size))
  have HBF := Lib.hid (fun W (hW : Below w8.heap.size w8 W) => HB15.out.below hW HB15.out.lt)
  have HBS := Lib.hid (fun W (hW : Below w8.heap.size w8 W) => HB16.out.below hW HB16.out.lt)
  have HXE := Lib.hid (fun W (hW : Below w8.heap.size w8 W) => HVE.out sh sl vx px V2 P2 nx cv2 mx cp2 SB W HESB.out (HBW.out.trans (hW.mono HBW.out.size)) (HV1.out.on hW) HL1.out (HV2.out.on hW) HL2.out (by omega))
  have HXN := Lib.hid (fun W (hW : Below w8.heap.size w8 W) => HVN.out sh sl vx px V2 P2 nx cv2 mx cp2 SB W HESB.out (HBW.out.trans (hW.mono HBW.out.size)) (HV1.out.on hW) HL1.out (HV2.out.on hW) HL2.out (by omega))
  have HYE := Lib.hid (fun W (hW : Below w8.heap.size w8 W) => HRE.out sh sl vx px V2 P2 nx cv2 mx cp2 SB W HESB.out (HBW.out.trans (hW.mono HBW.out.size)) (HV1.out.on hW) HL1.out (HV2.out.on hW) HL2.out (by omega))
  have HYN := Lib.hid (fun W (hW : Below w8.heap.size w8 W) => HRN.out sh sl vx px V2 P2 nx cv2 mx cp2 SB W HESB.out (HBW.out.trans (hW.mono HBW.out.size)) (HV1.out.on hW) HL1.out (HV2.out.on hW) HL2.out (by omega))
  obtain ⟨va, hva⟩ : ∃ x, decide (verP fp bl ⟨sh, sl, vx, px⟩) = x := ⟨_, rfl⟩
  obtain ⟨vb, hvb⟩ : ∃ x, decide (verP fp bn ⟨sh, sl, vx, px⟩) = x := ⟨_, rfl⟩
  rw [hva] at HXE HYE
  rw [hvb] at HXN HYN
  clear HB7 HB15 HB16 HV1 HV2 HVE HVN HRE HRN HL1 HL2 HLF hva hvb
  go_wp2_with fail
  refine wp_region_loose 24 0 (fun i => false) (promises [.is (.agg F0), .is (.slice A3 M c3), .is (.agg SB), .is (.bool va), .is (.agg F0), .is (.slice A3 M c3), .is (.agg SB), .is (.bool va), .is (.bool true), .is (.bool true), .is (.agg F0), .is (.slice A4 M4 c4), .is (.agg SB), .is (.bool vb), .is (.agg F0), .is (.slice A4 M4 c4), .is (.agg SB), .is (.bool vb), .is (.bool true), .is (.bool true), .is (.bool true), .is (.bool true), .is (.bool true), .is (.bool true)]) (by kernel_rfl) rfl (by kernel_rfl) (fun i v w w' h hb => Spec.keep h hb) ⟨?_, ?_, ?_, ?_, ?_, ?_, ?_, ?_, ?_, ?_, ?_, ?_, ?_, ?_, ?_, ?_, ?_, ?_, ?_, ?_, ?_, ?_, ?_, ?_, trivial⟩ ?_
  · refine StepOKl.of ?_
    intro ac w hb hu hk
    refine ⟨wanted_none rfl, ?_⟩
    have e15 : ac.eval (.tmp 15) = .pointer (some ⟨g15, 0, none⟩) := hu.is (t := 15) (by kernel_rfl)
    exact wp_load_row 29 (.tmp 15) rfl g15 e15 29 F0 (0, 0) _ (HBF.out w hb) Tryd.underlying29 rfl (by rw [HZF0.out]; kernel_rfl) ⟨_, rfl, rfl, Below.refl _ _⟩
  · refine StepOKl.of ?_
    intro ac w hb hu hk
    refine ⟨wanted_none rfl, ?_⟩
    have e3 : ac.eval (.tmp 3) = .slice A3 M c3 := hu.is (t := 3) (by kernel_rfl)
    exact step_value (BigFrame.run_move (.tmp 3) rfl w) (Below.refl _ _) e3
  · refine StepOKl.of ?_
    intro ac w hb hu hk
    refine ⟨wanted_none rfl, ?_⟩
    have e16 : ac.eval (.tmp 16) = .pointer (some ⟨g16, 0, none⟩) := hu.is (t := 16) (by kernel_rfl)
    exact wp_load_row 35 (.tmp 16) rfl g16 e16 35 SB (0, 0) _ (HBS.out w hb) Tryd.underlying35 rfl (by rw [HZSB.out]; kernel_rfl) ⟨_, rfl, rfl, Below.refl _ _⟩
  · refine StepOKl.of ?_
    intro ac w hb hu hk
    refine ⟨wanted_none rfl, ?_⟩
    have e39 : ac.eval (.tmp 39) = (.agg F0) := (hk ⟨0, .data⟩ (by simp) rfl).is rfl rfl
    have e40 : ac.eval (.tmp 40) = (.slice A3 M c3) := (hk ⟨1, .data⟩ (by simp) rfl).is rfl rfl
    have e41 : ac.eval (.tmp 41) = (.agg SB) := (hk ⟨2, .data⟩ (by simp) rfl).is rfl rfl
    have ef : ac.eval (.func 15) = .func (.func 15) #[] #[] := rfl
    refine step_enter (f := 15) (args := #[.agg F0, .slice A3 M c3, .agg SB]) ?_ ?_
    · generalize ac.eval = ρ at e39 e40 e41 ef ⊢
      go_simp
    · exact (HXE.out w hb).mono fun e w' ⟨he, hq⟩ => ⟨_, he, rfl, hq⟩
  · refine StepOKl.of ?_
    intro ac w hb hu hk
    refine ⟨wanted_none rfl, ?_⟩
    have e15 : ac.eval (.tmp 15) = .pointer (some ⟨g15, 0, none⟩) := hu.is (t := 15) (by kernel_rfl)
    exact wp_load_row 29 (.tmp 15) rfl g15 e15 29 F0 (0, 0) _ (HBF.out w hb) Tryd.underlying29 rfl (by rw [HZF0.out]; kernel_rfl) ⟨_, rfl, rfl, Below.refl _ _⟩
  · refine StepOKl.of ?_
    intro ac w hb hu hk
    refine ⟨wanted_none rfl, ?_⟩
    have e3 : ac.eval (.tmp 3) = .slice A3 M c3 := hu.is (t := 3) (by kernel_rfl)
    exact step_value (BigFrame.run_move (.tmp 3) rfl w) (Below.refl _ _) e3
  · refine StepOKl.of ?_
    intro ac w hb hu hk
    refine ⟨wanted_none rfl, ?_⟩
    have e16 : ac.eval (.tmp 16) = .pointer (some ⟨g16, 0, none⟩) := hu.is (t := 16) (by kernel_rfl)
    exact wp_load_row 35 (.tmp 16) rfl g16 e16 35 SB (0, 0) _ (HBS.out w hb) Tryd.underlying35 rfl (by rw [HZSB.out]; kernel_rfl) ⟨_, rfl, rfl, Below.refl _ _⟩
  · refine StepOKl.of ?_
    intro ac w hb hu hk
    refine ⟨wanted_none rfl, ?_⟩
    have e43 : ac.eval (.tmp 43) = (.agg F0) := (hk ⟨4, .data⟩ (by simp) rfl).is rfl rfl
    have e44 : ac.eval (.tmp 44) = (.slice A3 M c3) := (hk ⟨5, .data⟩ (by simp) rfl).is rfl rfl
    have e45 : ac.eval (.tmp 45) = (.agg SB) := (hk ⟨6, .data⟩ (by simp) rfl).is rfl rfl
    have ef : ac.eval (.func 28) = .func (.func 28) #[] #[] := rfl
    refine step_enter (f := 28) (args := #[.agg F0, .slice A3 M c3, .agg SB]) ?_ ?_
    · generalize ac.eval = ρ at e43 e44 e45 ef ⊢
      go_simp
    · exact (HYE.out w hb).mono fun e w' ⟨he, hq⟩ => ⟨_, he, rfl, hq⟩
  · refine StepOKl.of ?_
    intro ac w hb hu hk
    refine ⟨wanted_none rfl, ?_⟩
    have e42 : ac.eval (.tmp 42) = (.bool va) := (hk ⟨3, .data⟩ (by simp) rfl).is rfl rfl
    have e46 : ac.eval (.tmp 46) = (.bool va) := (hk ⟨7, .data⟩ (by simp) rfl).is rfl rfl
    refine step_value (w' := w) (v := (.bool true)) ?_ (Below.refl _ _) rfl
    generalize ac.eval = ρ at e42 e46 ⊢
    go_simp
  · refine StepOKl.of ?_
    intro ac w hb hu hk
    refine ⟨wanted_none rfl, ?_⟩
    have e47 : ac.eval (.tmp 47) = (.bool true) := (hk ⟨8, .data⟩ (by simp) rfl).is rfl rfl
    exact step_value (BigFrame.run_move (.tmp 47) rfl w) (Below.refl _ _) e47
  · refine StepOKl.of ?_
    intro ac w hb hu hk
    refine ⟨wanted_some rfl (hk ⟨9, .guard⟩ (by simp) rfl) rfl rfl (fun _ h => h), ?_⟩
    have e15 : ac.eval (.tmp 15) = .pointer (some ⟨g15, 0, none⟩) := hu.is (t := 15) (by kernel_rfl)
    exact wp_load_row 29 (.tmp 15) rfl g15 e15 29 F0 (0, 0) _ (HBF.out w hb) Tryd.underlying29 rfl (by rw [HZF0.out]; kernel_rfl) ⟨_, rfl, rfl, Below.refl _ _⟩
  · refine StepOKl.of ?_
    intro ac w hb hu hk
    refine ⟨wanted_some rfl (hk ⟨9, .guard⟩ (by simp) rfl) rfl rfl (fun _ h => h), ?_⟩
    have e4 : ac.eval (.tmp 4) = .slice A4 M4 c4 := hu.is (t := 4) (by kernel_rfl)
    exact step_value (BigFrame.run_move (.tmp 4) rfl w) (Below.refl _ _) e4
  · refine StepOKl.of ?_
    intro ac w hb hu hk
    refine ⟨wanted_some rfl (hk ⟨9, .guard⟩ (by simp) rfl) rfl rfl (fun _ h => h), ?_⟩
    have e16 : ac.eval (.tmp 16) = .pointer (some ⟨g16, 0, none⟩) := hu.is (t := 16) (by kernel_rfl)
    exact wp_load_row 35 (.tmp 16) rfl g16 e16 35 SB (0, 0) _ (HBS.out w hb) Tryd.underlying35 rfl (by rw [HZSB.out]; kernel_rfl) ⟨_, rfl, rfl, Below.refl _ _⟩
  · refine StepOKl.of ?_
    intro ac w hb hu hk
    refine ⟨wanted_some rfl (hk ⟨9, .chain⟩ (by simp) rfl) rfl rfl (fun _ h => h), ?_⟩
    have e49 : ac.eval (.tmp 49) = (.agg F0) := (hk ⟨10, .data⟩ (by simp) rfl).is rfl rfl
    have e50 : ac.eval (.tmp 50) = (.slice A4 M4 c4) := (hk ⟨11, .data⟩ (by simp) rfl).is rfl rfl
    have e51 : ac.eval (.tmp 51) = (.agg SB) := (hk ⟨12, .data⟩ (by simp) rfl).is rfl rfl
    have ef : ac.eval (.func 15) = .func (.func 15) #[] #[] := rfl
    refine step_enter (f := 15) (args := #[.agg F0, .slice A4 M4 c4, .agg SB]) ?_ ?_
    · generalize ac.eval = ρ at e49 e50 e51 ef ⊢
      go_simp
    · exact (HXN.out w hb).mono fun e w' ⟨he, hq⟩ => ⟨_, he, rfl, hq⟩
  · refine StepOKl.of ?_
    intro ac w hb hu hk
    refine ⟨wanted_some rfl (hk ⟨9, .guard⟩ (by simp) rfl) rfl rfl (fun _ h => h), ?_⟩
    have e15 : ac.eval (.tmp 15) = .pointer (some ⟨g15, 0, none⟩) := hu.is (t := 15) (by kernel_rfl)
    exact wp_load_row 29 (.tmp 15) rfl g15 e15 29 F0 (0, 0) _ (HBF.out w hb) Tryd.underlying29 rfl (by rw [HZF0.out]; kernel_rfl) ⟨_, rfl, rfl, Below.refl _ _⟩
  · refine StepOKl.of ?_
    intro ac w hb hu hk
    refine ⟨wanted_some rfl (hk ⟨9, .guard⟩ (by simp) rfl) rfl rfl (fun _ h => h), ?_⟩
    have e4 : ac.eval (.tmp 4) = .slice A4 M4 c4 := hu.is (t := 4) (by kernel_rfl)
    exact step_value (BigFrame.run_move (.tmp 4) rfl w) (Below.refl _ _) e4
  · refine StepOKl.of ?_
    intro ac w hb hu hk
    refine ⟨wanted_some rfl (hk ⟨9, .guard⟩ (by simp) rfl) rfl rfl (fun _ h => h), ?_⟩
    have e16 : ac.eval (.tmp 16) = .pointer (some ⟨g16, 0, none⟩) := hu.is (t := 16) (by kernel_rfl)
    exact wp_load_row 35 (.tmp 16) rfl g16 e16 35 SB (0, 0) _ (HBS.out w hb) Tryd.underlying35 rfl (by rw [HZSB.out]; kernel_rfl) ⟨_, rfl, rfl, Below.refl _ _⟩
  · refine StepOKl.of ?_
    intro ac w hb hu hk
    refine ⟨wanted_some rfl (hk ⟨9, .guard⟩ (by simp) rfl) rfl rfl (fun _ h => h), ?_⟩
    have e53 : ac.eval (.tmp 53) = (.agg F0) := (hk ⟨14, .data⟩ (by simp) rfl).is rfl rfl
    have e54 : ac.eval (.tmp 54) = (.slice A4 M4 c4) := (hk ⟨15, .data⟩ (by simp) rfl).is rfl rfl
    have e55 : ac.eval (.tmp 55) = (.agg SB) := (hk ⟨16, .data⟩ (by simp) rfl).is rfl rfl
    have ef : ac.eval (.func 28) = .func (.func 28) #[] #[] := rfl
    refine step_enter (f := 28) (args := #[.agg F0, .slice A4 M4 c4, .agg SB]) ?_ ?_
    · generalize ac.eval = ρ at e53 e54 e55 ef ⊢
      go_simp
    · exact (HYN.out w hb).mono fun e w' ⟨he, hq⟩ => ⟨_, he, rfl, hq⟩
  · refine StepOKl.of ?_
    intro ac w hb hu hk
    refine ⟨wanted_some rfl (hk ⟨9, .guard⟩ (by simp) rfl) rfl rfl (fun _ h => h), ?_⟩
    have e52 : ac.eval (.tmp 52) = (.bool vb) := (hk ⟨13, .data⟩ (by simp) rfl).is rfl rfl
    have e56 : ac.eval (.tmp 56) = (.bool vb) := (hk ⟨17, .data⟩ (by simp) rfl).is rfl rfl
    refine step_value (w' := w) (v := (.bool true)) ?_ (Below.refl _ _) rfl
    generalize ac.eval = ρ at e52 e56 ⊢
    go_simp
  · refine StepOKl.of ?_
    intro ac w hb hu hk
    refine ⟨wanted_none rfl, ?_⟩
    have e48 : ac.eval (.tmp 48) = (.bool true) := (hk ⟨9, .data⟩ (by simp) rfl).is rfl rfl
    have e57 : ac.eval (.tmp 57) = (.bool true) := (hk ⟨18, .data⟩ (by simp) rfl).is rfl rfl
    exact step_value (run_pick_true e48 rfl w) (Below.refl _ _) e57
  · refine StepOKl.of ?_
    intro ac w hb hu hk
    refine ⟨wanted_none rfl, ?_⟩
    have e58 : ac.eval (.tmp 58) = (.bool true) := (hk ⟨19, .data⟩ (by simp) rfl).is rfl rfl
    exact step_value (BigFrame.run_move (.tmp 58) rfl w) (Below.refl _ _) e58
  · refine StepOKl.of ?_
    intro ac w hb hu hk
    refine ⟨wanted_some rfl (hk ⟨20, .chain⟩ (by simp) rfl) rfl rfl (fun _ h => h), ?_⟩
    have ef : ac.eval (.func 17) = .func (.func 17) #[] #[] := rfl
    refine step_enter (f := 17) (args := #[]) ?_ ?_
    · generalize ac.eval = ρ at  ef ⊢
      go_simp
    · exact (HWK.out w hb).mono fun e w' ⟨he, hq⟩ => ⟨_, he, rfl, hq⟩
  · refine StepOKl.of ?_
    intro ac w hb hu hk
    refine ⟨wanted_none rfl, ?_⟩
    have e59 : ac.eval (.tmp 59) = (.bool true) := (hk ⟨20, .data⟩ (by simp) rfl).is rfl rfl
    have e60 : ac.eval (.tmp 60) = (.bool true) := (hk ⟨21, .data⟩ (by simp) rfl).is rfl rfl
    exact step_value (run_pick_true e59 rfl w) (Below.refl _ _) e60
  · refine StepOKl.of ?_
    intro ac w hb hu hk
    refine ⟨wanted_none rfl, ?_⟩
    have e61 : ac.eval (.tmp 61) = (.bool true) := (hk ⟨22, .data⟩ (by simp) rfl).is rfl rfl
    exact step_value (BigFrame.run_assign (.tmp 61) rfl w) (Below.refl _ _) e61
  · intro ac w' hb hu hk hap
    obtain ⟨_, h14, rfl⟩ := (hk 23 (by decide)).put rfl rfl
    obtain ⟨_, h39, rfl⟩ := (hk 0 (by decide)).put rfl rfl
    obtain ⟨_, h40, rfl⟩ := (hk 1 (by decide)).put rfl rfl
    obtain ⟨_, h41, rfl⟩ := (hk 2 (by decide)).put rfl rfl
    obtain ⟨_, h42, rfl⟩ := (hk 3 (by decide)).put rfl rfl
    obtain ⟨_, h43, rfl⟩ := (hk 4 (by decide)).put rfl rfl
    obtain ⟨_, h44, rfl⟩ := (hk 5 (by decide)).put rfl rfl
    obtain ⟨_, h45, rfl⟩ := (hk 6 (by decide)).put rfl rfl
    obtain ⟨_, h46, rfl⟩ := (hk 7 (by decide)).put rfl rfl
    obtain ⟨_, h47, rfl⟩ := (hk 8 (by decide)).put rfl rfl
    obtain ⟨_, h48, rfl⟩ := (hk 9 (by decide)).put rfl rfl
    obtain ⟨_, h49, rfl⟩ := (hk 10 (by decide)).put rfl rfl
    obtain ⟨_, h50, rfl⟩ := (hk 11 (by decide)).put rfl rfl
    obtain ⟨_, h51, rfl⟩ := (hk 12 (by decide)).put rfl rfl
    obtain ⟨_, h52, rfl⟩ := (hk 13 (by decide)).put rfl rfl
    obtain ⟨_, h53, rfl⟩ := (hk 14 (by decide)).put rfl rfl
    obtain ⟨_, h54, rfl⟩ := (hk 15 (by decide)).put rfl rfl
    obtain ⟨_, h55, rfl⟩ := (hk 16 (by decide)).put rfl rfl
    obtain ⟨_, h56, rfl⟩ := (hk 17 (by decide)).put rfl rfl
    obtain ⟨_, h57, rfl⟩ := (hk 18 (by decide)).put rfl rfl
    obtain ⟨_, h58, rfl⟩ := (hk 19 (by decide)).put rfl rfl
    obtain ⟨_, h59, rfl⟩ := (hk 20 (by decide)).put rfl rfl
    obtain ⟨_, h60, rfl⟩ := (hk 21 (by decide)).put rfl rfl
    obtain ⟨_, h61, rfl⟩ := (hk 22 (by decide)).put rfl rfl
    clear hap
    have hF : AllPuts ac.tmps ((14, _) :: (39, _) :: (40, _) :: (41, _) :: (42, _) :: (43, _) :: (44, _) :: (45, _) :: (46, _) :: (47, _) :: (48, _) :: (49, _) :: (50, _) :: (51, _) :: (52, _) :: (53, _) :: (54, _) :: (55, _) :: (56, _) :: (57, _) :: (58, _) :: (59, _) :: (60, _) :: (61, _) :: []) := ⟨h14, h39, h40, h41, h42, h43, h44, h45, h46, h47, h48, h49, h50, h51, h52, h53, h54, h55, h56, h57, h58, h59, h60, h61, trivial⟩
    obtain rfl := frame_puts hu (by kernel_rfl) hF
    simp only [puts, Act.put, List.setIfInBounds_toArray, List.set_cons_zero, List.set_cons_succ, List.drop_succ_cons, List.drop_nil]
    clear hk hu hF h14 h39 h40 h41 h42 h43 h44 h45 h46 h47 h48 h49 h50 h51 h52 h53 h54 h55 h56 h57 h58 h59 h60 h61
    have HBE := Lib.hid (HBW.out.trans (hb.mono HBW.out.size))
    clear hb
    go_wp2_with fail
    go_ret
    exact ⟨by first | rfl | kernel_rfl, HBE.out⟩

set_option maxRecDepth 100000 in
theorem contract (H : Type) (enc : TypeId × Value → H) (W : World) (base : Nat) (args : Array Value) (ds gs : List (DataW H)) (before : List MemPlace)
    (hval : ∀ (j : Nat) t v, Tryd.f7.params[j]? = some t → args[j]? = some v → Value.okWide Tryd.prog W .any base t v)
    (hW : DataW.Whole enc Tryd.prog Tryd.f7.params.toList Rows.mssVerifiesSpec.vars false W args.toList ds gs before) (hL : laidMetH Tryd.prog Rows.mssVerifiesRow.laid W) :
    Calls Tryd.prog 7 args W fun e W' => ∃ v, e = .returned v ∧ Rows.mssVerifiesSpec.post enc Tryd.prog Tryd.f7 false true false false W args v W' := by
  have hW' := hW
  obtain ⟨p, q, hA0, hV, rfl, hfz, hnd⟩ := hW
  have hA : DataW.TrodAll enc Tryd.prog W 0 (fun _ => true) true Tryd.f7.params.toList args.toList ds p := hA0
  rw [Tryd.params7] at hA hval
  obtain ⟨v0, v1, v2, v3, v4, v5, v6, d0, d1, d2, d3, d4, d5, d6, p0, p1, p2, p3, p4, p5, p6, rfl, rfl, rfl, h0, h1, h2, h3, h4, h5, h6⟩ := trodAll_seven hA
  obtain ⟨rfl, rfl⟩ := trodVars_none hV
  obtain ⟨k0, rfl, hk0⟩ := open_array Tryd.underlying23 (by kernel_rfl) (hval 0 23 v0 rfl rfl) h0
  obtain ⟨n1, rfl, rfl, rfl, wf1⟩ := open_int Tryd.underlying3 (hval 1 3 v1 rfl rfl) h1
  have b1 := bounds_i64 wf1
  obtain ⟨n2, rfl, rfl, rfl, wf2⟩ := open_int Tryd.underlying3 (hval 2 3 v2 rfl rfl) h2
  have b2 := bounds_i64 wf2
  obtain ⟨A3, m3, c3, l3, rfl, hl3, hc3, hm3, hr3⟩ := open_bytes (hval 3 24 v3 rfl rfl) h3
  obtain ⟨A4, m4, c4, l4, rfl, hl4, hc4, hm4, hr4⟩ := open_bytes (hval 4 24 v4 rfl rfl) h4
  obtain ⟨n5, rfl, rfl, rfl, wf5⟩ := open_int Tryd.underlying3 (hval 5 3 v5 rfl rfl) h5
  have b5 := bounds_i64 wf5
  obtain ⟨n6, rfl, rfl, rfl, wf6⟩ := open_int Tryd.underlying3 (hval 6 3 v6 rfl rfl) h6
  have b6 := bounds_i64 wf6
  clear hA0
  refine (walk k0 n1 n2 A3 m3 c3 l3 A4 m4 c4 l4 n5 n6 W hk0 b1.1 b1.2 b2.1 b2.2 hl3 hc3 hm3 hr3 hl4 hc4 hm4 hr4 b5.1 b5.2 b6.1 b6.2 (pow10 hL)).mono fun e W' ⟨he, hb⟩ => ?_
  exact ⟨_, he, law_post hW' rfl (by kernel_rfl) rfl (by kernel_rfl) hb⟩

theorem laid_met (os : Os) : laidMet Tryd.prog Rows.mssVerifiesRow.laid ((laidWorld os).forCall (fun _ _ => 0) ⟨#[], #[.agg #[.int .u8 0, .int .u8 0, .int .u8 0, .int .u8 0, .int .u8 0, .int .u8 0, .int .u8 0, .int .u8 0, .int .u8 0, .int .u8 0, .int .u8 0, .int .u8 0, .int .u8 0, .int .u8 0, .int .u8 0, .int .u8 0], .int .i64 0, .int .i64 0, .slice none 0 0, .slice none 0 0, .int .i64 0, .int .i64 0], []⟩).memory :=
  laidMet_of_run' 8 (by kernel_rfl) (by kernel_rfl)
theorem reads (os : Os) {H : Type} (enc : TypeId × Value → H) : ∃ places, DataW.whole enc Tryd.prog ((laidWorld os).forCall (fun _ _ => 0) ⟨#[], #[.agg #[.int .u8 0, .int .u8 0, .int .u8 0, .int .u8 0, .int .u8 0, .int .u8 0, .int .u8 0, .int .u8 0, .int .u8 0, .int .u8 0, .int .u8 0, .int .u8 0, .int .u8 0, .int .u8 0, .int .u8 0, .int .u8 0], .int .i64 0, .int .i64 0, .slice none 0 0, .slice none 0 0, .int .i64 0, .int .i64 0], []⟩).memory Tryd.f7.params.toList Rows.mssVerifiesSpec.vars false #[Value.agg #[.int .u8 0, .int .u8 0, .int .u8 0, .int .u8 0, .int .u8 0, .int .u8 0, .int .u8 0, .int .u8 0, .int .u8 0, .int .u8 0, .int .u8 0, .int .u8 0, .int .u8 0, .int .u8 0, .int .u8 0, .int .u8 0], Value.int .i64 0, Value.int .i64 0, Value.slice none 0 0, Value.slice none 0 0, Value.int .i64 0, Value.int .i64 0].toList 8 = some ([.agg [.lit (.int .u8 0), .lit (.int .u8 0), .lit (.int .u8 0), .lit (.int .u8 0), .lit (.int .u8 0), .lit (.int .u8 0), .lit (.int .u8 0), .lit (.int .u8 0), .lit (.int .u8 0), .lit (.int .u8 0), .lit (.int .u8 0), .lit (.int .u8 0), .lit (.int .u8 0), .lit (.int .u8 0), .lit (.int .u8 0), .lit (.int .u8 0)], .lit (.int .i64 0), .lit (.int .i64 0), .nil, .nil, .lit (.int .i64 0), .lit (.int .i64 0)], [], places) :=
  ⟨[], by kernel_rfl⟩

set_option maxRecDepth 100000 in
theorem lifted (os : Os) (started : os.Started) (H : Type) (enc : TypeId × Value → H) (F : Stop.Interp) :
    ReturnsInHanded {} Tryd.checked os 7 .any ((OpenSpec.ofChange Rows.mssVerifiesSpec).preRow enc Tryd.prog Tryd.f7 Rows.mssVerifiesRow.domain false Rows.mssVerifiesRow.laid) (((OpenSpec.ofChange Rows.mssVerifiesSpec).at F).post enc Tryd.prog Tryd.f7 false true false false) := by
  obtain ⟨places, hx⟩ := reads os enc
  refine returnsInHanded_of_row (C := Tryd.checked) (s := OpenSpec.ofChange Rows.mssVerifiesSpec) own started (by kernel_rfl) Tryd.func7
    (witness_row_at (enc := enc) (C := Tryd.checked) false (laidWorld os) #[.agg #[.int .u8 0, .int .u8 0, .int .u8 0, .int .u8 0, .int .u8 0, .int .u8 0, .int .u8 0, .int .u8 0, .int .u8 0, .int .u8 0, .int .u8 0, .int .u8 0, .int .u8 0, .int .u8 0, .int .u8 0, .int .u8 0], .int .i64 0, .int .i64 0, .slice none 0 0, .slice none 0 0, .int .i64 0, .int .i64 0] rfl (by kernel_rfl) (by kernel_rfl) (by kernel_rfl)
      (OpenSpec.preRow_of_cond 8 hx (by kernel_rfl) (fun k hk => by cases hk) (by kernel_rfl) (laid_met os))) ?_
  intro W base args ds gs before hval hW _ _ _ hL _ _
  exact contract H enc W base args ds gs before hval hW hL

theorem said : Rows.MssVerifiesSaid :=
  OpenClaim.holds_of_cond 7 Tryd.f7 rfl rfl rfl rfl rfl rfl rfl ⟨rfl, rfl, rfl, rfl, rfl⟩ rfl rfl rfl rfl rfl (by kernel_rfl) Tryd.func7 (by kernel_rfl)
    (of_decide_eq_true (by kernel_rfl)) (by unfold Func.isWrapper; first | (rw [if_pos (by decide +kernel)]; kernel_rfl) | (rw [if_neg (by decide +kernel)]; exact ⟨rfl, rfl⟩))
    (fun os started H enc _ F => by rw [OpenClaim.pre_eq_preRow]; exact lifted os started H enc F)

theorem plain (f : FuncId) (fn : Func) (hf : Tryd.pinned.checked.prog.funcNamed "aumbry/aumbrylaw09.MssVerifies" = some f) (hfn : Tryd.pinned.checked.prog.funcs[f]? = some fn) :
    false = Tryd.pinned.checked.prog.looks [] ∧ ∀ (j : Nat) t, fn.params[j]? = some t → Tryd.pinned.checked.prog.wantsStandIn t = false := by
  obtain rfl : f = 7 := Option.some.inj ((show Tryd.prog.funcNamed "aumbry/aumbrylaw09.MssVerifies" = some 7 by kernel_rfl).symm.trans hf) |>.symm
  obtain rfl : fn = Tryd.f7 := (Option.some.inj (Tryd.func7.symm.trans hfn)).symm
  refine ⟨by kernel_rfl, fun j t ht => ?_⟩
  exact wants_none (by kernel_rfl) (Array.mem_of_getElem? ht)

/-- The card: the statement holds, its listed tables tied to the program's text. -/
theorem card : Rows.MssVerifiesCardSaid :=
  Claim7.holds_tied_plain_at .later [] _ _ _ _ said (fun _ h => by cases h) (by kernel_rfl) (fun _ h => by cases h) mssVerifies_row_tie rfl ⟨rfl, rfl⟩ (by kernel_rfl) rfl plain (by kernel_rfl)
end Go.Proofs.YtfgieebccjoboaaDoor.mssVerifies
