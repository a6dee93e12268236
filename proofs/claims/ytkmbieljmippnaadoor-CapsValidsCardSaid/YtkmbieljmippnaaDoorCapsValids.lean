/- CapsValids: which capabilities may be, may read, may write; what is one. For all capabilities. -/
import Derived.Test.YtkmbieljmippnaaDoorLaw
import Derived.Test.YtkmbieljmippnaaDoorCapY
import Derived.Test.YtkmbieljmippnaaDoorCapC
import Derived.Test.YtkmbieljmippnaaDoorCapE
import Derived.Deep.CutRange
namespace Go.Proofs.YtkmbieljmippnaaDoor.capsValids
open Go.ChangeShapes Go.WideShapes Go.ChangeAt Go.RowKit

set_option maxRecDepth 100000 in
set_option maxHeartbeats 16000000 in
theorem walk (c0 c1 : Cap13) (A0 A1 : Option Addr) (m0 m1 k0 k1 : Nat) (t2 : Bool) (w : World) (hw0 : c0.wf) (hw1 : c1.wf) (hb0 : c0.bd) (hb1 : c1.bd) (hl0 : c0.lit.length = m0) (hl1 : c1.lit.length = m1) (hc0 : m0 ≤ k0) (hc1 : m1 ≤ k1) (hr0 : Rd w w.heap.size A0 c0.lit) (hr1 : Rd w w.heap.size A1 c1.lit) (htab : Pow10 w.heap.size w) :
    Calls Tryd.prog 5 #[.agg (capA c0 (.slice A0 m0 k0)), .agg (capA c1 (.slice A1 m1 k1)), .bool t2] w fun e w' => e = .returned (.bool true) ∧ Below w.heap.size w w' := by
  have HT := Lib.hid htab
  obtain ⟨AX, hAX⟩ : ∃ x, capA c0 (.slice A0 m0 k0) = x := ⟨_, rfl⟩
  obtain ⟨BX, hBX⟩ : ∃ x, capA c1 (.slice A1 m1 k1) = x := ⟨_, rfl⟩
  obtain ⟨CA, hCA⟩ : ∃ x, capA (cut13 c0) (.slice A0 (min m0 80) k0) = x := ⟨_, rfl⟩
  obtain ⟨CB, hCB⟩ : ∃ x, capA (cut13 c1) (.slice A1 (min m1 80) k1) = x := ⟨_, rfl⟩
  have HVA := Lib.hid (fun (W : World) => (show Calls Tryd.prog 23 #[.agg AX] W fun e w' => e = .returned (.agg CA) ∧ Below W.heap.size W w' from by
    rw [← hAX, ← hCA]
    exact cut13_any hw0 hc0))
  have HVB := Lib.hid (fun (W : World) => (show Calls Tryd.prog 23 #[.agg BX] W fun e w' => e = .returned (.agg CB) ∧ Below W.heap.size W w' from by
    rw [← hBX, ← hCB]
    exact cut13_any hw1 hc1))
  have HSA := Lib.hid (show CA.size = 53 ∧ CA.all (·.oneCell') = true by rw [← hCA]; exact ⟨capA_size (cut13_wf hw0) _, capA_one⟩)
  have HSB := Lib.hid (show CB.size = 53 ∧ CB.all (·.oneCell') = true by rw [← hCB]; exact ⟨capA_size (cut13_wf hw1) _, capA_one⟩)
  have HCA := Lib.hid hCA
  have HCB := Lib.hid hCB
  have HZA := Lib.hid (show AX.size = 53 by rw [← hAX]; exact capA_size hw0 _)
  have HZB := Lib.hid (show BX.size = 53 by rw [← hBX]; exact capA_size hw1 _)
  have HZAX := HZA
  have HZBX := HZB
  have HZCA := Lib.hid HSA.out.1
  rw [hAX, hBX]
  have HD0 := Lib.hid (show (cut13 c0).wf ∧ (cut13 c0).bd ∧ (cut13 c0).lit.length = min m0 80 ∧ min m0 80 ≤ k0 ∧ Rd w w.heap.size A0 (cut13 c0).lit from ⟨hw0, hb0, cut13_len hl0, by omega, hr0.take 80⟩)
  have HD1 := Lib.hid (show (cut13 c1).wf ∧ (cut13 c1).bd ∧ (cut13 c1).lit.length = min m1 80 ∧ min m1 80 ≤ k1 ∧ Rd w w.heap.size A1 (cut13 c1).lit from ⟨hw1, hb1, cut13_len hl1, by omega, hr1.take 80⟩)
  clear htab hAX hBX hCA hCB hw0 hw1 hb0 hb1 hl0 hl1 hc0 hc1 hr0 hr1
  have HM8 := Lib.hid (show min m0 80 ≤ 80 by omega)
  have HZCB := Lib.hid HSB.out.1
  generalize cut13 c0 = a at *
  generalize cut13 c1 = b at *
  generalize min m0 80 = m at *
  generalize min m1 80 = n at *
  go_enter Tryd.func5, Tryd.ntmps5
  go_upto_region 1 with fail
  have hsz : (w.alloc (.cells AX 28)).heap.size = w.heap.size + 1 := by simp
  have hf : Blk ((w.alloc (.cells AX 28)).alloc (.cells BX 28)) w.heap.size AX 28 ∧ Blk ((w.alloc (.cells AX 28)).alloc (.cells BX 28)) (w.heap.size + 1) BX 28 ∧ Below w.heap.size w ((w.alloc (.cells AX 28)).alloc (.cells BX 28)) :=
    ⟨(Blk.new w AX _).alloc _, by rw [← hsz]; exact Blk.new _ _ _, ((Below.refl _ _).alloc (Nat.le_refl _) _).alloc (by simp) _⟩
  generalize (w.alloc (.cells AX 28)).alloc (.cells BX 28) = w1 at *
  obtain ⟨ga, hga⟩ : ∃ g, w.heap.size = g := ⟨_, rfl⟩
  obtain ⟨gb, hgb⟩ : ∃ g, w.heap.size + 1 = g := ⟨_, rfl⟩
  have HGE := Lib.hid (show w.heap.size ≤ ga ∧ w.heap.size ≤ gb ∧ ga ≠ gb by omega)
  rw [show (Value.pointer (some ⟨w.heap.size, 0, none⟩)) = .pointer (some ⟨ga, 0, none⟩) by rw [hga], show (Value.pointer (some ⟨w.heap.size + 1, 0, none⟩)) = .pointer (some ⟨gb, 0, none⟩) by rw [hgb]]
  have HPA := Lib.hid (show Blk w1 ga AX 28 by rw [← hga]; exact hf.1)
  have HPB := Lib.hid (show Blk w1 gb BX 28 by rw [← hgb]; exact hf.2.1)
  have HBW := Lib.hid hf.2.2
  have HBA := Lib.hid (fun (W : World) (hW : Below w1.heap.size w1 W) => HPA.out.below hW HPA.out.lt)
  have HBB := Lib.hid (fun (W : World) (hW : Below w1.heap.size w1 W) => HPB.out.below hW HPB.out.lt)
  clear hf hga hgb hsz
  refine wp_region_loose 4 2 (fun i => false) (promises [.is (.agg AX), .is (.agg CA), .is (.agg BX), .is (.agg CB)]) (by kernel_rfl) rfl (by kernel_rfl) (fun i v w w' h hb => Spec.keep h hb) ⟨?_, ?_, ?_, ?_, trivial⟩ ?_
  · refine StepOKl.of ?_
    intro ac w hb hu hk
    refine ⟨wanted_none rfl, ?_⟩
    have e3 : ac.eval (.tmp 3) = .pointer (some ⟨ga, 0, none⟩) := hu.is (t := 3) (by kernel_rfl)
    exact wp_load_row 28 (.tmp 3) rfl ga e3 28 AX (0, 0) _ (HBA.out w hb) Tryd.underlying28 rfl (by rw [HZAX.out]; kernel_rfl) ⟨_, rfl, rfl, Below.refl _ _⟩
  · refine StepOKl.of ?_
    intro ac w hb hu hk
    refine ⟨wanted_none rfl, ?_⟩
    have e7 : ac.eval (.tmp 7) = (.agg AX) := (hk ⟨0, .data⟩ (by simp) rfl).is rfl rfl
    have ef : ac.eval (.func 23) = .func (.func 23) #[] #[] := rfl
    refine step_enter (f := 23) (args := #[.agg AX]) ?_ ?_
    · generalize ac.eval = ρ at e7 ef ⊢
      go_simp
    · exact (HVA.out w).mono fun e w' ⟨he, hq⟩ => ⟨_, he, rfl, hq⟩
  · refine StepOKl.of ?_
    intro ac w hb hu hk
    refine ⟨wanted_none rfl, ?_⟩
    have e4 : ac.eval (.tmp 4) = .pointer (some ⟨gb, 0, none⟩) := hu.is (t := 4) (by kernel_rfl)
    exact wp_load_row 28 (.tmp 4) rfl gb e4 28 BX (0, 0) _ (HBB.out w hb) Tryd.underlying28 rfl (by rw [HZBX.out]; kernel_rfl) ⟨_, rfl, rfl, Below.refl _ _⟩
  · refine StepOKl.of ?_
    intro ac w hb hu hk
    refine ⟨wanted_none rfl, ?_⟩
    have e9 : ac.eval (.tmp 9) = (.agg BX) := (hk ⟨2, .data⟩ (by simp) rfl).is rfl rfl
    have ef : ac.eval (.func 23) = .func (.func 23) #[] #[] := rfl
    refine step_enter (f := 23) (args := #[.agg BX]) ?_ ?_
    · generalize ac.eval = ρ at e9 ef ⊢
      go_simp
    · exact (HVB.out w).mono fun e w' ⟨he, hq⟩ => ⟨_, he, rfl, hq⟩
  · intro ac w' hb hu hk hap
    obtain ⟨_, h7, rfl⟩ := (hk 0 (by decide)).put rfl rfl
    obtain ⟨_, h8, rfl⟩ := (hk 1 (by decide)).put rfl rfl
    obtain ⟨_, h9, rfl⟩ := (hk 2 (by decide)).put rfl rfl
    obtain ⟨_, h10, rfl⟩ := (hk 3 (by decide)).put rfl rfl
    clear hap
    have hF : AllPuts ac.tmps ((7, _) :: (8, _) :: (9, _) :: (10, _) :: []) := ⟨h7, h8, h9, h10, trivial⟩
    obtain rfl := frame_puts hu (by kernel_rfl) hF
    simp only [puts, Act.put, List.setIfInBounds_toArray, List.set_cons_zero, List.set_cons_succ, List.drop_succ_cons, List.drop_zero]
    clear hk hu hF h7 h8 h9 h10
    have HXA := Lib.hid (HBA.out w' hb)
    have HXB := Lib.hid (HBB.out w' hb)
    have HWB := Lib.hid (HBW.out.trans (hb.mono HBW.out.size))
    clear hb HBA HBB HPA HPB HBW
    have HXB2 := Lib.hid (HXB.out.rowOther HGE.out.2.2 CA)
    go_upto_region 2 with (first
      | (with_reducible refine wpList_store_blkTo rfl 28 (.tmp 3) (.tmp 8) rfl rfl ga CA rfl rfl 28 AX HXA.out (by rw [HSA.out.1]; kernel_rfl) (by rw [HSA.out.1, HZA.out]) HSA.out.2 ?_)
      | (with_reducible refine wpList_store_blkTo rfl 28 (.tmp 4) (.tmp 10) rfl rfl gb CB rfl rfl 28 BX HXB2.out (by rw [HSB.out.1]; kernel_rfl) (by rw [HSB.out.1, HZB.out]) HSB.out.2 ?_))
    have hbw5 : Below w.heap.size w ((w'.setRow ga CA).setRow gb CB) := below_row (below_row HWB.out HWB.out.size HGE.out.1 _) (by have := HWB.out.size; simpa using this) HGE.out.2.1 _
    have HX5 := Lib.hid (show Blk ((w'.setRow ga CA).setRow gb CB) ga CA 28 ∧ Blk ((w'.setRow ga CA).setRow gb CB) gb CB 28 from ⟨(HXA.out.row CA).rowOther (fun e => HGE.out.2.2 e.symm) CB, (HXB2.out).row CB⟩)
    have HBW5 := Lib.hid hbw5
    clear hbw5 HXA HXB HXB2 HWB
    generalize (w'.setRow ga CA).setRow gb CB = w5 at *
    have HRA := Lib.hid (HD0.out.2.2.2.2.on HBW5.out)
    cases t2
    · have H6 := Lib.hid (show CapAt w5 ga a (.slice A0 m k0) ∧ CapAt w5 gb b (.slice A1 n k1) ∧ Rd w5 w5.heap.size A0 a.lit ∧ Rd w5 w5.heap.size A1 b.lit ∧ b.lit.length = n ∧ n ≤ k1 ∧ Below w.heap.size w w5 ∧ b.wf ∧ b.bd from ⟨⟨HCA.out ▸ HX5.out.1, HD0.out.1⟩, ⟨HCB.out ▸ HX5.out.2, HD1.out.1⟩, HRA.out, HD1.out.2.2.2.2.on HBW5.out, HD1.out.2.2.1, HD1.out.2.2.2.1, HBW5.out, HD1.out.1, HD1.out.2.1⟩)
      clear HX5 HRA HBW5 HVA HVB
      obtain ⟨w6, hw6⟩ : ∃ x, w5 = x := ⟨_, rfl⟩
      rw [hw6] at H6 ⊢
      clear hw6
      obtain ⟨D, hD⟩ : ∃ x, A1 = x := ⟨_, rfl⟩
      obtain ⟨l, hl⟩ : ∃ x, k1 = x := ⟨_, rfl⟩
      rw [hD, hl] at H6 HCB
      clear hD hl
      obtain ⟨VV, hVV⟩ : ∃ x, decide a.ok = x := ⟨_, rfl⟩
      obtain ⟨RR, hRR⟩ : ∃ x, decide a.reads = x := ⟨_, rfl⟩
      obtain ⟨WW, hWW⟩ : ∃ x, decide a.writes = x := ⟨_, rfl⟩
      obtain ⟨SS, hSS⟩ : ∃ x, decide (a = b) = x := ⟨_, rfl⟩
      have HBA := Lib.hid (fun (W : World) (hW : Below w6.heap.size w6 W) => (show Blk W ga CA 28 from HCA.out ▸ (H6.out.1.below hW).blk))
      have HBB := Lib.hid (fun (W : World) (hW : Below w6.heap.size w6 W) => (show Blk W gb CB 28 from HCB.out ▸ (H6.out.2.1.below hW).blk))
      have HZCB := Lib.hid (show CB.size = 53 by rw [← HCB.out]; exact capA_size H6.out.2.1.wf _)
      have HV1 := Lib.hid (fun (W : World) (hW : Below w6.heap.size w6 W) => (show Calls Tryd.prog 25 #[.agg CA] W fun e w' => e = .returned (.bool VV) ∧ Below W.heap.size W w' from by rw [← HCA.out, ← hVV]; exact pvalid_any HD0.out.1 HD0.out.2.2.1 (H6.out.2.2.1.on hW)))
      have HV2 := Lib.hid (fun (W : World) (_ : Below w6.heap.size w6 W) => (show Calls Tryd.prog 26 #[.agg CA] W fun e w' => e = .returned (.bool VV) ∧ Below W.heap.size W w' from by rw [← HCA.out, ← hVV]; exact rvalid_any HD0.out.1 HD0.out.2.2.1))
      have HR1 := Lib.hid (fun (W : World) (hW : Below w6.heap.size w6 W) => (show Calls Tryd.prog 27 #[.agg CA] W fun e w' => e = .returned (.bool RR) ∧ Below W.heap.size W w' from by rw [← HCA.out, ← hRR]; exact pcanread_any HD0.out.1 HD0.out.2.2.1 (H6.out.2.2.1.on hW)))
      have HR2 := Lib.hid (fun (W : World) (_ : Below w6.heap.size w6 W) => (show Calls Tryd.prog 28 #[.agg CA] W fun e w' => e = .returned (.bool RR) ∧ Below W.heap.size W w' from by rw [← HCA.out, ← hRR]; exact rcanread_any HD0.out.1 HD0.out.2.2.1))
      have HW1 := Lib.hid (fun (W : World) (hW : Below w6.heap.size w6 W) => (show Calls Tryd.prog 29 #[.agg CA] W fun e w' => e = .returned (.bool WW) ∧ Below W.heap.size W w' from by rw [← HCA.out, ← hWW]; exact pcanwrite_any HD0.out.1 HD0.out.2.2.1 (H6.out.2.2.1.on hW)))
      have HW2 := Lib.hid (fun (W : World) (_ : Below w6.heap.size w6 W) => (show Calls Tryd.prog 30 #[.agg CA] W fun e w' => e = .returned (.bool WW) ∧ Below W.heap.size W w' from by rw [← HCA.out, ← hWW]; exact rcanwrite_any HD0.out.1 HD0.out.2.2.1))
      have HS1 := Lib.hid (fun (W : World) (hW : Below w6.heap.size w6 W) => (show Calls Tryd.prog 14 #[.agg CA, .agg CB] W fun e w' => e = .returned (.bool SS) ∧ Below W.heap.size W w' from by rw [← HCA.out, ← HCB.out, ← hSS]; exact psame_any HD0.out.1 H6.out.2.1.wf HD0.out.2.2.1 H6.out.2.2.2.2.1 (H6.out.2.2.1.on hW) (H6.out.2.2.2.1.on hW)))
      have HS2 := Lib.hid (fun (W : World) (hW : Below w6.heap.size w6 W) => (show Calls Tryd.prog 31 #[.agg CA, .agg CB] W fun e w' => e = .returned (.bool SS) ∧ Below W.heap.size W w' from by rw [← HCA.out, ← HCB.out, ← hSS]; exact ksame_any HD0.out.1 H6.out.2.1.wf HD0.out.2.2.1 H6.out.2.2.2.2.1 (by have := HM8.out; unfold maxLen; omega) (H6.out.2.2.1.on hW) (H6.out.2.2.2.1.on hW)))
      have HWK := Lib.hid (fun (W : World) (hW : Below w6.heap.size w6 W) => wakes13_any W (tab_on HT.out (H6.out.2.2.2.2.2.2.1.trans (hW.mono H6.out.2.2.2.2.2.2.1.size)) (Nat.le_trans H6.out.2.2.2.2.2.2.1.size hW.size)))
      have HMK := Lib.hid (fun (W : World) (hW : Below w6.heap.size w6 W) => (show Calls Tryd.prog 12 #[.agg CB] W fun e w' => (∃ v, e = .returned v ∧ CapV w' W.heap.size v (mk13 b)) ∧ Below W.heap.size W w' from by rw [← HCB.out]; exact mk13_any H6.out.2.1.wf H6.out.2.2.2.2.2.2.2.2 H6.out.2.2.2.2.1 H6.out.2.2.2.2.2.1 (H6.out.2.2.2.1.on hW)))
      have HMO := Lib.hid (mk13_ok b)
      obtain ⟨M, hM⟩ : ∃ x, mk13 b = x := ⟨_, rfl⟩
      rw [hM] at HMK HMO
      clear hVV hRR hWW hSS hM
      go_upto_region 5 with fail
      refine wp_region_loose 37 0 (fun i => false) (promises [.is (.agg CA), .is (.bool VV), .is (.agg CA), .is (.bool VV), .is (.bool true), .is (.bool true), .is (.agg CA), .is (.bool RR), .is (.agg CA), .is (.bool RR), .is (.bool true), .is (.bool true), .is (.bool true), .is (.agg CA), .is (.bool WW), .is (.agg CA), .is (.bool WW), .is (.bool true), .is (.bool true), .is (.bool true), .is (.agg CA), .is (.agg CB), .is (.bool SS), .is (.agg CA), .is (.agg CB), .is (.bool SS), .is (.bool true), .is (.bool true), .is (.bool true), .is (.agg CB), .cv w6.heap.size M, .is (.bool true), .is (.bool true), .is (.bool true), .is (.bool true), .is (.bool true), .is (.bool true)]) (by kernel_rfl) rfl (by kernel_rfl) (fun i v w w' h hb => Spec.keep h hb) ⟨?_, ?_, ?_, ?_, ?_, ?_, ?_, ?_, ?_, ?_, ?_, ?_, ?_, ?_, ?_, ?_, ?_, ?_, ?_, ?_, ?_, ?_, ?_, ?_, ?_, ?_, ?_, ?_, ?_, ?_, ?_, ?_, ?_, ?_, ?_, ?_, ?_, trivial⟩ ?_
      · refine StepOKl.of ?_
        intro ac w hb hu hk
        refine ⟨wanted_none rfl, ?_⟩
        have e3 : ac.eval (.tmp 3) = .pointer (some ⟨ga, 0, none⟩) := hu.is (t := 3) (by kernel_rfl)
        exact wp_load_row 28 (.tmp 3) rfl ga e3 28 CA (0, 0) _ (HBA.out w hb) Tryd.underlying28 rfl (by rw [HZCA.out]; kernel_rfl) ⟨_, rfl, rfl, Below.refl _ _⟩
      · refine StepOKl.of ?_
        intro ac w hb hu hk
        refine ⟨wanted_none rfl, ?_⟩
        have e17 : ac.eval (.tmp 17) = (.agg CA) := (hk ⟨0, .data⟩ (by simp) rfl).is rfl rfl
        have ef : ac.eval (.func 25) = .func (.func 25) #[] #[] := rfl
        refine step_enter (f := 25) (args := #[.agg CA]) ?_ ?_
        · generalize ac.eval = ρ at e17 ef ⊢
          go_simp
        · exact (HV1.out w hb).mono fun e w' ⟨he, hq⟩ => ⟨_, he, rfl, hq⟩
      · refine StepOKl.of ?_
        intro ac w hb hu hk
        refine ⟨wanted_none rfl, ?_⟩
        have e3 : ac.eval (.tmp 3) = .pointer (some ⟨ga, 0, none⟩) := hu.is (t := 3) (by kernel_rfl)
        exact wp_load_row 28 (.tmp 3) rfl ga e3 28 CA (0, 0) _ (HBA.out w hb) Tryd.underlying28 rfl (by rw [HZCA.out]; kernel_rfl) ⟨_, rfl, rfl, Below.refl _ _⟩
      · refine StepOKl.of ?_
        intro ac w hb hu hk
        refine ⟨wanted_none rfl, ?_⟩
        have e19 : ac.eval (.tmp 19) = (.agg CA) := (hk ⟨2, .data⟩ (by simp) rfl).is rfl rfl
        have ef : ac.eval (.func 26) = .func (.func 26) #[] #[] := rfl
        refine step_enter (f := 26) (args := #[.agg CA]) ?_ ?_
        · generalize ac.eval = ρ at e19 ef ⊢
          go_simp
        · exact (HV2.out w hb).mono fun e w' ⟨he, hq⟩ => ⟨_, he, rfl, hq⟩
      · refine StepOKl.of ?_
        intro ac w hb hu hk
        refine ⟨wanted_none rfl, ?_⟩
        have e18 : ac.eval (.tmp 18) = (.bool VV) := (hk ⟨1, .data⟩ (by simp) rfl).is rfl rfl
        have e20 : ac.eval (.tmp 20) = (.bool VV) := (hk ⟨3, .data⟩ (by simp) rfl).is rfl rfl
        refine step_value (w' := w) (v := .bool true) ?_ (Below.refl _ _) rfl
        generalize ac.eval = ρ at e18 e20 ⊢
        go_simp
      · refine StepOKl.of ?_
        intro ac w hb hu hk
        refine ⟨wanted_none rfl, ?_⟩
        have e21 : ac.eval (.tmp 21) = (.bool true) := (hk ⟨4, .data⟩ (by simp) rfl).is rfl rfl
        exact step_value (BigFrame.run_move (.tmp 21) rfl w) (Below.refl _ _) e21
      · refine StepOKl.of ?_
        intro ac w hb hu hk
        refine ⟨wanted_some rfl (hk ⟨5, .guard⟩ (by simp) rfl) rfl rfl (fun _ h => h), ?_⟩
        have e3 : ac.eval (.tmp 3) = .pointer (some ⟨ga, 0, none⟩) := hu.is (t := 3) (by kernel_rfl)
        exact wp_load_row 28 (.tmp 3) rfl ga e3 28 CA (0, 0) _ (HBA.out w hb) Tryd.underlying28 rfl (by rw [HZCA.out]; kernel_rfl) ⟨_, rfl, rfl, Below.refl _ _⟩
      · refine StepOKl.of ?_
        intro ac w hb hu hk
        refine ⟨wanted_some rfl (hk ⟨5, .chain⟩ (by simp) rfl) rfl rfl (fun _ h => h), ?_⟩
        have e23 : ac.eval (.tmp 23) = (.agg CA) := (hk ⟨6, .data⟩ (by simp) rfl).is rfl rfl
        have ef : ac.eval (.func 27) = .func (.func 27) #[] #[] := rfl
        refine step_enter (f := 27) (args := #[.agg CA]) ?_ ?_
        · generalize ac.eval = ρ at e23 ef ⊢
          go_simp
        · exact (HR1.out w hb).mono fun e w' ⟨he, hq⟩ => ⟨_, he, rfl, hq⟩
      · refine StepOKl.of ?_
        intro ac w hb hu hk
        refine ⟨wanted_some rfl (hk ⟨5, .guard⟩ (by simp) rfl) rfl rfl (fun _ h => h), ?_⟩
        have e3 : ac.eval (.tmp 3) = .pointer (some ⟨ga, 0, none⟩) := hu.is (t := 3) (by kernel_rfl)
        exact wp_load_row 28 (.tmp 3) rfl ga e3 28 CA (0, 0) _ (HBA.out w hb) Tryd.underlying28 rfl (by rw [HZCA.out]; kernel_rfl) ⟨_, rfl, rfl, Below.refl _ _⟩
      · refine StepOKl.of ?_
        intro ac w hb hu hk
        refine ⟨wanted_some rfl (hk ⟨5, .guard⟩ (by simp) rfl) rfl rfl (fun _ h => h), ?_⟩
        have e25 : ac.eval (.tmp 25) = (.agg CA) := (hk ⟨8, .data⟩ (by simp) rfl).is rfl rfl
        have ef : ac.eval (.func 28) = .func (.func 28) #[] #[] := rfl
        refine step_enter (f := 28) (args := #[.agg CA]) ?_ ?_
        · generalize ac.eval = ρ at e25 ef ⊢
          go_simp
        · exact (HR2.out w hb).mono fun e w' ⟨he, hq⟩ => ⟨_, he, rfl, hq⟩
      · refine StepOKl.of ?_
        intro ac w hb hu hk
        refine ⟨wanted_some rfl (hk ⟨5, .guard⟩ (by simp) rfl) rfl rfl (fun _ h => h), ?_⟩
        have e24 : ac.eval (.tmp 24) = (.bool RR) := (hk ⟨7, .data⟩ (by simp) rfl).is rfl rfl
        have e26 : ac.eval (.tmp 26) = (.bool RR) := (hk ⟨9, .data⟩ (by simp) rfl).is rfl rfl
        refine step_value (w' := w) (v := .bool true) ?_ (Below.refl _ _) rfl
        generalize ac.eval = ρ at e24 e26 ⊢
        go_simp
      · refine StepOKl.of ?_
        intro ac w hb hu hk
        refine ⟨wanted_none rfl, ?_⟩
        have e22 : ac.eval (.tmp 22) = (.bool true) := (hk ⟨5, .data⟩ (by simp) rfl).is rfl rfl
        have e27 : ac.eval (.tmp 27) = (.bool true) := (hk ⟨10, .data⟩ (by simp) rfl).is rfl rfl
        exact step_value (run_pick_true e22 rfl w) (Below.refl _ _) e27
      · refine StepOKl.of ?_
        intro ac w hb hu hk
        refine ⟨wanted_none rfl, ?_⟩
        have e28 : ac.eval (.tmp 28) = (.bool true) := (hk ⟨11, .data⟩ (by simp) rfl).is rfl rfl
        exact step_value (BigFrame.run_move (.tmp 28) rfl w) (Below.refl _ _) e28
      · refine StepOKl.of ?_
        intro ac w hb hu hk
        refine ⟨wanted_some rfl (hk ⟨12, .guard⟩ (by simp) rfl) rfl rfl (fun _ h => h), ?_⟩
        have e3 : ac.eval (.tmp 3) = .pointer (some ⟨ga, 0, none⟩) := hu.is (t := 3) (by kernel_rfl)
        exact wp_load_row 28 (.tmp 3) rfl ga e3 28 CA (0, 0) _ (HBA.out w hb) Tryd.underlying28 rfl (by rw [HZCA.out]; kernel_rfl) ⟨_, rfl, rfl, Below.refl _ _⟩
      · refine StepOKl.of ?_
        intro ac w hb hu hk
        refine ⟨wanted_some rfl (hk ⟨12, .chain⟩ (by simp) rfl) rfl rfl (fun _ h => h), ?_⟩
        have e30 : ac.eval (.tmp 30) = (.agg CA) := (hk ⟨13, .data⟩ (by simp) rfl).is rfl rfl
        have ef : ac.eval (.func 29) = .func (.func 29) #[] #[] := rfl
        refine step_enter (f := 29) (args := #[.agg CA]) ?_ ?_
        · generalize ac.eval = ρ at e30 ef ⊢
          go_simp
        · exact (HW1.out w hb).mono fun e w' ⟨he, hq⟩ => ⟨_, he, rfl, hq⟩
      · refine StepOKl.of ?_
        intro ac w hb hu hk
        refine ⟨wanted_some rfl (hk ⟨12, .guard⟩ (by simp) rfl) rfl rfl (fun _ h => h), ?_⟩
        have e3 : ac.eval (.tmp 3) = .pointer (some ⟨ga, 0, none⟩) := hu.is (t := 3) (by kernel_rfl)
        exact wp_load_row 28 (.tmp 3) rfl ga e3 28 CA (0, 0) _ (HBA.out w hb) Tryd.underlying28 rfl (by rw [HZCA.out]; kernel_rfl) ⟨_, rfl, rfl, Below.refl _ _⟩
      · refine StepOKl.of ?_
        intro ac w hb hu hk
        refine ⟨wanted_some rfl (hk ⟨12, .guard⟩ (by simp) rfl) rfl rfl (fun _ h => h), ?_⟩
        have e32 : ac.eval (.tmp 32) = (.agg CA) := (hk ⟨15, .data⟩ (by simp) rfl).is rfl rfl
        have ef : ac.eval (.func 30) = .func (.func 30) #[] #[] := rfl
        refine step_enter (f := 30) (args := #[.agg CA]) ?_ ?_
        · generalize ac.eval = ρ at e32 ef ⊢
          go_simp
        · exact (HW2.out w hb).mono fun e w' ⟨he, hq⟩ => ⟨_, he, rfl, hq⟩
      · refine StepOKl.of ?_
        intro ac w hb hu hk
        refine ⟨wanted_some rfl (hk ⟨12, .guard⟩ (by simp) rfl) rfl rfl (fun _ h => h), ?_⟩
        have e31 : ac.eval (.tmp 31) = (.bool WW) := (hk ⟨14, .data⟩ (by simp) rfl).is rfl rfl
        have e33 : ac.eval (.tmp 33) = (.bool WW) := (hk ⟨16, .data⟩ (by simp) rfl).is rfl rfl
        refine step_value (w' := w) (v := .bool true) ?_ (Below.refl _ _) rfl
        generalize ac.eval = ρ at e31 e33 ⊢
        go_simp
      · refine StepOKl.of ?_
        intro ac w hb hu hk
        refine ⟨wanted_none rfl, ?_⟩
        have e29 : ac.eval (.tmp 29) = (.bool true) := (hk ⟨12, .data⟩ (by simp) rfl).is rfl rfl
        have e34 : ac.eval (.tmp 34) = (.bool true) := (hk ⟨17, .data⟩ (by simp) rfl).is rfl rfl
        exact step_value (run_pick_true e29 rfl w) (Below.refl _ _) e34
      · refine StepOKl.of ?_
        intro ac w hb hu hk
        refine ⟨wanted_none rfl, ?_⟩
        have e35 : ac.eval (.tmp 35) = (.bool true) := (hk ⟨18, .data⟩ (by simp) rfl).is rfl rfl
        exact step_value (BigFrame.run_move (.tmp 35) rfl w) (Below.refl _ _) e35
      · refine StepOKl.of ?_
        intro ac w hb hu hk
        refine ⟨wanted_some rfl (hk ⟨19, .guard⟩ (by simp) rfl) rfl rfl (fun _ h => h), ?_⟩
        have e3 : ac.eval (.tmp 3) = .pointer (some ⟨ga, 0, none⟩) := hu.is (t := 3) (by kernel_rfl)
        exact wp_load_row 28 (.tmp 3) rfl ga e3 28 CA (0, 0) _ (HBA.out w hb) Tryd.underlying28 rfl (by rw [HZCA.out]; kernel_rfl) ⟨_, rfl, rfl, Below.refl _ _⟩
      · refine StepOKl.of ?_
        intro ac w hb hu hk
        refine ⟨wanted_some rfl (hk ⟨19, .guard⟩ (by simp) rfl) rfl rfl (fun _ h => h), ?_⟩
        have e4 : ac.eval (.tmp 4) = .pointer (some ⟨gb, 0, none⟩) := hu.is (t := 4) (by kernel_rfl)
        exact wp_load_row 28 (.tmp 4) rfl gb e4 28 CB (0, 0) _ (HBB.out w hb) Tryd.underlying28 rfl (by rw [HZCB.out]; kernel_rfl) ⟨_, rfl, rfl, Below.refl _ _⟩
      · refine StepOKl.of ?_
        intro ac w hb hu hk
        refine ⟨wanted_some rfl (hk ⟨19, .chain⟩ (by simp) rfl) rfl rfl (fun _ h => h), ?_⟩
        have e37 : ac.eval (.tmp 37) = (.agg CA) := (hk ⟨20, .data⟩ (by simp) rfl).is rfl rfl
        have e38 : ac.eval (.tmp 38) = (.agg CB) := (hk ⟨21, .data⟩ (by simp) rfl).is rfl rfl
        have ef : ac.eval (.func 14) = .func (.func 14) #[] #[] := rfl
        refine step_enter (f := 14) (args := #[.agg CA, .agg CB]) ?_ ?_
        · generalize ac.eval = ρ at e37 e38 ef ⊢
          go_simp
        · exact (HS1.out w hb).mono fun e w' ⟨he, hq⟩ => ⟨_, he, rfl, hq⟩
      · refine StepOKl.of ?_
        intro ac w hb hu hk
        refine ⟨wanted_some rfl (hk ⟨19, .guard⟩ (by simp) rfl) rfl rfl (fun _ h => h), ?_⟩
        have e3 : ac.eval (.tmp 3) = .pointer (some ⟨ga, 0, none⟩) := hu.is (t := 3) (by kernel_rfl)
        exact wp_load_row 28 (.tmp 3) rfl ga e3 28 CA (0, 0) _ (HBA.out w hb) Tryd.underlying28 rfl (by rw [HZCA.out]; kernel_rfl) ⟨_, rfl, rfl, Below.refl _ _⟩
      · refine StepOKl.of ?_
        intro ac w hb hu hk
        refine ⟨wanted_some rfl (hk ⟨19, .guard⟩ (by simp) rfl) rfl rfl (fun _ h => h), ?_⟩
        have e4 : ac.eval (.tmp 4) = .pointer (some ⟨gb, 0, none⟩) := hu.is (t := 4) (by kernel_rfl)
        exact wp_load_row 28 (.tmp 4) rfl gb e4 28 CB (0, 0) _ (HBB.out w hb) Tryd.underlying28 rfl (by rw [HZCB.out]; kernel_rfl) ⟨_, rfl, rfl, Below.refl _ _⟩
      · refine StepOKl.of ?_
        intro ac w hb hu hk
        refine ⟨wanted_some rfl (hk ⟨19, .guard⟩ (by simp) rfl) rfl rfl (fun _ h => h), ?_⟩
        have e40 : ac.eval (.tmp 40) = (.agg CA) := (hk ⟨23, .data⟩ (by simp) rfl).is rfl rfl
        have e41 : ac.eval (.tmp 41) = (.agg CB) := (hk ⟨24, .data⟩ (by simp) rfl).is rfl rfl
        have ef : ac.eval (.func 31) = .func (.func 31) #[] #[] := rfl
        refine step_enter (f := 31) (args := #[.agg CA, .agg CB]) ?_ ?_
        · generalize ac.eval = ρ at e40 e41 ef ⊢
          go_simp
        · exact (HS2.out w hb).mono fun e w' ⟨he, hq⟩ => ⟨_, he, rfl, hq⟩
      · refine StepOKl.of ?_
        intro ac w hb hu hk
        refine ⟨wanted_some rfl (hk ⟨19, .guard⟩ (by simp) rfl) rfl rfl (fun _ h => h), ?_⟩
        have e39 : ac.eval (.tmp 39) = (.bool SS) := (hk ⟨22, .data⟩ (by simp) rfl).is rfl rfl
        have e42 : ac.eval (.tmp 42) = (.bool SS) := (hk ⟨25, .data⟩ (by simp) rfl).is rfl rfl
        refine step_value (w' := w) (v := .bool true) ?_ (Below.refl _ _) rfl
        generalize ac.eval = ρ at e39 e42 ⊢
        go_simp
      · refine StepOKl.of ?_
        intro ac w hb hu hk
        refine ⟨wanted_none rfl, ?_⟩
        have e36 : ac.eval (.tmp 36) = (.bool true) := (hk ⟨19, .data⟩ (by simp) rfl).is rfl rfl
        have e43 : ac.eval (.tmp 43) = (.bool true) := (hk ⟨26, .data⟩ (by simp) rfl).is rfl rfl
        exact step_value (run_pick_true e36 rfl w) (Below.refl _ _) e43
      · refine StepOKl.of ?_
        intro ac w hb hu hk
        refine ⟨wanted_none rfl, ?_⟩
        have e44 : ac.eval (.tmp 44) = (.bool true) := (hk ⟨27, .data⟩ (by simp) rfl).is rfl rfl
        exact step_value (BigFrame.run_move (.tmp 44) rfl w) (Below.refl _ _) e44
      · refine StepOKl.of ?_
        intro ac w hb hu hk
        refine ⟨wanted_some rfl (hk ⟨28, .guard⟩ (by simp) rfl) rfl rfl (fun _ h => h), ?_⟩
        have e4 : ac.eval (.tmp 4) = .pointer (some ⟨gb, 0, none⟩) := hu.is (t := 4) (by kernel_rfl)
        exact wp_load_row 28 (.tmp 4) rfl gb e4 28 CB (0, 0) _ (HBB.out w hb) Tryd.underlying28 rfl (by rw [HZCB.out]; kernel_rfl) ⟨_, rfl, rfl, Below.refl _ _⟩
      · refine StepOKl.of ?_
        intro ac w hb hu hk
        refine ⟨wanted_some rfl (hk ⟨28, .chain⟩ (by simp) rfl) rfl rfl (fun _ h => h), ?_⟩
        have e46 : ac.eval (.tmp 46) = (.agg CB) := (hk ⟨29, .data⟩ (by simp) rfl).is rfl rfl
        have ef : ac.eval (.func 12) = .func (.func 12) #[] #[] := rfl
        refine step_enter (f := 12) (args := #[.agg CB]) ?_ ?_
        · generalize ac.eval = ρ at e46 ef ⊢
          go_simp
        · exact (HMK.out w hb).mono fun e w' ⟨⟨v, he, hv⟩, hq⟩ => ⟨_, he, hv.low hb.size, hq⟩
      · refine StepOKl.of ?_
        intro ac w hb hu hk
        refine ⟨wanted_some rfl (hk ⟨28, .guard⟩ (by simp) rfl) rfl rfl (fun _ h => h), ?_⟩
        have e47 : CapV w w6.heap.size (ac.eval (.tmp 47)) M := (hk ⟨30, .data⟩ (by simp) rfl).is rfl rfl
        have ef : ac.eval (.func 25) = .func (.func 25) #[] #[] := rfl
        refine step_enter (f := 25) (args := #[ac.eval (.tmp 47)]) ?_ ?_
        · generalize ac.eval = ρ at ef ⊢
          go_simp
        · exact (cv_valid e47 HMO.out).mono fun e w' ⟨he, hq⟩ => ⟨_, he, rfl, hq⟩
      · refine StepOKl.of ?_
        intro ac w hb hu hk
        refine ⟨wanted_none rfl, ?_⟩
        have e45 : ac.eval (.tmp 45) = (.bool true) := (hk ⟨28, .data⟩ (by simp) rfl).is rfl rfl
        have e48 : ac.eval (.tmp 48) = (.bool true) := (hk ⟨31, .data⟩ (by simp) rfl).is rfl rfl
        exact step_value (run_pick_true e45 rfl w) (Below.refl _ _) e48
      · refine StepOKl.of ?_
        intro ac w hb hu hk
        refine ⟨wanted_none rfl, ?_⟩
        have e49 : ac.eval (.tmp 49) = (.bool true) := (hk ⟨32, .data⟩ (by simp) rfl).is rfl rfl
        exact step_value (BigFrame.run_move (.tmp 49) rfl w) (Below.refl _ _) e49
      · refine StepOKl.of ?_
        intro ac w hb hu hk
        refine ⟨wanted_some rfl (hk ⟨33, .chain⟩ (by simp) rfl) rfl rfl (fun _ h => h), ?_⟩
        have ef : ac.eval (.func 15) = .func (.func 15) #[] #[] := rfl
        refine step_enter (f := 15) (args := #[]) ?_ ?_
        · generalize ac.eval = ρ at  ef ⊢
          go_simp
        · exact (HWK.out w hb).mono fun e w' ⟨he, hq⟩ => ⟨_, he, rfl, hq⟩
      · refine StepOKl.of ?_
        intro ac w hb hu hk
        refine ⟨wanted_none rfl, ?_⟩
        have e50 : ac.eval (.tmp 50) = (.bool true) := (hk ⟨33, .data⟩ (by simp) rfl).is rfl rfl
        have e51 : ac.eval (.tmp 51) = (.bool true) := (hk ⟨34, .data⟩ (by simp) rfl).is rfl rfl
        exact step_value (run_pick_true e50 rfl w) (Below.refl _ _) e51
      · refine StepOKl.of ?_
        intro ac w hb hu hk
        refine ⟨wanted_none rfl, ?_⟩
        have e52 : ac.eval (.tmp 52) = (.bool true) := (hk ⟨35, .data⟩ (by simp) rfl).is rfl rfl
        exact step_value (BigFrame.run_assign (.tmp 52) rfl w) (Below.refl _ _) e52
      · intro ac w' hb hu hk hap
        obtain ⟨_, h6, rfl⟩ := (hk 36 (by decide)).put rfl rfl
        obtain ⟨_, h17, rfl⟩ := (hk 0 (by decide)).put rfl rfl
        obtain ⟨_, h18, rfl⟩ := (hk 1 (by decide)).put rfl rfl
        obtain ⟨_, h19, rfl⟩ := (hk 2 (by decide)).put rfl rfl
        obtain ⟨_, h20, rfl⟩ := (hk 3 (by decide)).put rfl rfl
        obtain ⟨_, h21, rfl⟩ := (hk 4 (by decide)).put rfl rfl
        obtain ⟨_, h22, rfl⟩ := (hk 5 (by decide)).put rfl rfl
        obtain ⟨_, h23, rfl⟩ := (hk 6 (by decide)).put rfl rfl
        obtain ⟨_, h24, rfl⟩ := (hk 7 (by decide)).put rfl rfl
        obtain ⟨_, h25, rfl⟩ := (hk 8 (by decide)).put rfl rfl
        obtain ⟨_, h26, rfl⟩ := (hk 9 (by decide)).put rfl rfl
        obtain ⟨_, h27, rfl⟩ := (hk 10 (by decide)).put rfl rfl
        obtain ⟨_, h28, rfl⟩ := (hk 11 (by decide)).put rfl rfl
        obtain ⟨_, h29, rfl⟩ := (hk 12 (by decide)).put rfl rfl
        obtain ⟨_, h30, rfl⟩ := (hk 13 (by decide)).put rfl rfl
        obtain ⟨_, h31, rfl⟩ := (hk 14 (by decide)).put rfl rfl
        obtain ⟨_, h32, rfl⟩ := (hk 15 (by decide)).put rfl rfl
        obtain ⟨_, h33, rfl⟩ := (hk 16 (by decide)).put rfl rfl
        obtain ⟨_, h34, rfl⟩ := (hk 17 (by decide)).put rfl rfl
        obtain ⟨_, h35, rfl⟩ := (hk 18 (by decide)).put rfl rfl
        obtain ⟨_, h36, rfl⟩ := (hk 19 (by decide)).put rfl rfl
        obtain ⟨_, h37, rfl⟩ := (hk 20 (by decide)).put rfl rfl
        obtain ⟨_, h38, rfl⟩ := (hk 21 (by decide)).put rfl rfl
        obtain ⟨_, h39, rfl⟩ := (hk 22 (by decide)).put rfl rfl
        obtain ⟨_, h40, rfl⟩ := (hk 23 (by decide)).put rfl rfl
        obtain ⟨_, h41, rfl⟩ := (hk 24 (by decide)).put rfl rfl
        obtain ⟨_, h42, rfl⟩ := (hk 25 (by decide)).put rfl rfl
        obtain ⟨_, h43, rfl⟩ := (hk 26 (by decide)).put rfl rfl
        obtain ⟨_, h44, rfl⟩ := (hk 27 (by decide)).put rfl rfl
        obtain ⟨_, h45, rfl⟩ := (hk 28 (by decide)).put rfl rfl
        obtain ⟨_, h46, rfl⟩ := (hk 29 (by decide)).put rfl rfl
        obtain ⟨_, h47, hcv47⟩ := (hk 30 (by decide)).put rfl rfl
        obtain ⟨_, h48, rfl⟩ := (hk 31 (by decide)).put rfl rfl
        obtain ⟨_, h49, rfl⟩ := (hk 32 (by decide)).put rfl rfl
        obtain ⟨_, h50, rfl⟩ := (hk 33 (by decide)).put rfl rfl
        obtain ⟨_, h51, rfl⟩ := (hk 34 (by decide)).put rfl rfl
        obtain ⟨_, h52, rfl⟩ := (hk 35 (by decide)).put rfl rfl
        clear hap
        have hF : AllPuts ac.tmps ((6, _) :: (17, _) :: (18, _) :: (19, _) :: (20, _) :: (21, _) :: (22, _) :: (23, _) :: (24, _) :: (25, _) :: (26, _) :: (27, _) :: (28, _) :: (29, _) :: (30, _) :: (31, _) :: (32, _) :: (33, _) :: (34, _) :: (35, _) :: (36, _) :: (37, _) :: (38, _) :: (39, _) :: (40, _) :: (41, _) :: (42, _) :: (43, _) :: (44, _) :: (45, _) :: (46, _) :: (47, _) :: (48, _) :: (49, _) :: (50, _) :: (51, _) :: (52, _) :: []) := ⟨h6, h17, h18, h19, h20, h21, h22, h23, h24, h25, h26, h27, h28, h29, h30, h31, h32, h33, h34, h35, h36, h37, h38, h39, h40, h41, h42, h43, h44, h45, h46, h47, h48, h49, h50, h51, h52, trivial⟩
        obtain rfl := frame_puts hu (by kernel_rfl) hF
        simp only [puts, Act.put, List.setIfInBounds_toArray, List.set_cons_zero, List.set_cons_succ, List.drop_succ_cons, List.drop_nil]
        clear hk hu hF h6 h17 h18 h19 h20 h21 h22 h23 h24 h25 h26 h27 h28 h29 h30 h31 h32 h33 h34 h35 h36 h37 h38 h39 h40 h41 h42 h43 h44 h45 h46 h47 h48 h49 h50 h51 h52
        have hfin := H6.out.2.2.2.2.2.2.1.trans (hb.mono H6.out.2.2.2.2.2.2.1.size)
        go_wp2_with fail
        go_ret
        exact ⟨rfl, hfin⟩
    · have hlt : ga < w5.heap.size ∧ gb < w5.heap.size := ⟨HX5.out.1.lt, HX5.out.2.lt⟩
      have HLT := Lib.hid hlt
      clear hlt
      have HA5 := Lib.hid (show CapAt w5 ga a (.slice A0 m k0) from ⟨HCA.out ▸ HX5.out.1, HD0.out.1⟩)
      have HA6 := Lib.hid (show CapAt (w5.setRow gb CA) ga a (.slice A0 m k0) ∧ CapAt (w5.setRow gb CA) gb a (.slice A0 m k0) ∧ Below w.heap.size w (w5.setRow gb CA) from ⟨⟨HCA.out ▸ (HX5.out.1.rowOther (fun e => HGE.out.2.2 e.symm) CA), HD0.out.1⟩, ⟨HCA.out ▸ (HX5.out.2.row CA), HD0.out.1⟩, below_row HBW5.out HBW5.out.size HGE.out.2.1 _⟩)
      have HCP := Lib.hid (fun (W : World) (hW : Below w.heap.size w W) => copyB_any A0 m k0 W.heap.size a.lit W HD0.out.2.2.1 (by have := HM8.out; omega) (HD0.out.2.2.2.2.on hW))
      go_upto_region 4 with (first
        | (refine wpList_load_capC ?_ (.tmp 3) rfl ga rfl HA5.out HCA.out ?_; · rfl)
        | (with_reducible refine wpList_store_blkTo rfl 28 (.tmp 4) (.tmp 12) rfl rfl gb CA rfl rfl 28 CB HX5.out.2 (by rw [HSA.out.1]; kernel_rfl) (by rw [HSA.out.1, HZCB.out]) HSA.out.2 ?_))
      have hs6 : w5.heap.size = (w5.setRow gb CA).heap.size := by simp
      have HS6 := Lib.hid hs6
      clear hs6 HX5 HA5 HVA HVB HRA HBW5
      generalize w5.setRow gb CA = w7 at *
      obtain ⟨_, _, _, _, a52⟩ := HA6.out.1.cells
      have g52 := fun (W : World) (hW : Below w7.heap.size w7 W) => (HA6.out.2.1.below hW).cells.2.2.2.2
      have f52 := fun (W : World) (hW : Below w7.heap.size w7 W) => (HA6.out.2.1.below hW).frozen 52
      have HG52 := Lib.hid g52
      have HF52 := Lib.hid f52
      clear g52 f52
      go_upto_region 5 with (first
        | ((with_reducible refine (HCP.out _ HA6.out.2.2).mono ?_); rintro e w8 ⟨A', c', rfl, hc', hown, hb8⟩; have d52 := HG52.out _ hb8; have e52 := HF52.out _ hb8))
      have HB8 := Lib.hid (show ∃ (A2 : Option Addr) (c2 : Nat), A2 = A' ∧ c2 = c' from ⟨_, _, rfl, rfl⟩)
      have hA8 := HA6.out.1.below hb8
      have hB8 := HA6.out.2.1.below hb8
      have hbw8 := HA6.out.2.2.trans (hb8.mono HA6.out.2.2.size)
      have hRa := (HD0.out.2.2.2.2.on hbw8)
      have hgb7 : gb < w7.heap.size := by have := HLT.out.2; have := HS6.out; omega
      have hkb : KeepB w7.heap.size w8 (w8.setCell ⟨gb, 52, none⟩ (.slice A' m c')) := (KeepB.refl _ _).setCell hgb7 52 _
      have hRb := (hkb.own hown).rd
      have hbw9 : Below w.heap.size w (w8.setCell ⟨gb, 52, none⟩ (.slice A' m c')) := hbw8.setCell HGE.out.2.1 _
      have H6 := Lib.hid (show CapAt (w8.setCell ⟨gb, 52, none⟩ (.slice A' m c')) ga a (.slice A0 m k0) ∧ CapAt (w8.setCell ⟨gb, 52, none⟩ (.slice A' m c')) gb { a with lit := a.lit } (.slice A' m c') ∧ Rd (w8.setCell ⟨gb, 52, none⟩ (.slice A' m c')) (w8.setCell ⟨gb, 52, none⟩ (.slice A' m c')).heap.size A0 a.lit ∧ Rd (w8.setCell ⟨gb, 52, none⟩ (.slice A' m c')) (w8.setCell ⟨gb, 52, none⟩ (.slice A' m c')).heap.size A' a.lit ∧ a.lit.length = m ∧ m ≤ c' ∧ Below w.heap.size w (w8.setCell ⟨gb, 52, none⟩ (.slice A' m c')) ∧ a.wf ∧ a.bd from ⟨hA8.other HGE.out.2.2 _, hB8.setLit _ _, HD0.out.2.2.2.2.on hbw9, hRb, HD0.out.2.2.1, hc', hbw9, HD0.out.1, HD0.out.2.1⟩)
      clear d52 e52 a52 hA8 hB8 hbw8 hRa hgb7 hkb hRb hbw9 hown hb8 hc' HB8 HG52 HF52 HA6 HCP HS6 HLT
      generalize w8.setCell ⟨gb, 52, none⟩ (.slice A' m c') = w6 at *
      obtain ⟨b, hab⟩ : ∃ x, a = x := ⟨_, rfl⟩
      obtain ⟨CB, hCB⟩ : ∃ x, capA b (.slice A' m c') = x := ⟨_, rfl⟩
      have HCB := Lib.hid hCB
      have H6 := Lib.hid (show CapAt w6 ga a (.slice A0 m k0) ∧ CapAt w6 gb b (.slice A' m c') ∧ Rd w6 w6.heap.size A0 a.lit ∧ Rd w6 w6.heap.size A' b.lit ∧ b.lit.length = m ∧ m ≤ c' ∧ Below w.heap.size w w6 ∧ b.wf ∧ b.bd by rw [← hab]; exact H6.out)
      obtain ⟨D, hD⟩ : ∃ x, A' = x := ⟨_, rfl⟩
      obtain ⟨l, hl⟩ : ∃ x, c' = x := ⟨_, rfl⟩
      obtain ⟨n, hn⟩ : ∃ x, m = x := ⟨_, rfl⟩
      have H6 := Lib.hid (show CapAt w6 ga a (.slice A0 m k0) ∧ CapAt w6 gb b (.slice D n l) ∧ Rd w6 w6.heap.size A0 a.lit ∧ Rd w6 w6.heap.size D b.lit ∧ b.lit.length = n ∧ n ≤ l ∧ Below w.heap.size w w6 ∧ b.wf ∧ b.bd by rw [← hD, ← hl, ← hn]; exact H6.out)
      have HCB := Lib.hid (show capA b (.slice D n l) = CB by rw [← hD, ← hl, ← hn]; exact HCB.out)
      clear hab hCB hD hl hn
      obtain ⟨VV, hVV⟩ : ∃ x, decide a.ok = x := ⟨_, rfl⟩
      obtain ⟨RR, hRR⟩ : ∃ x, decide a.reads = x := ⟨_, rfl⟩
      obtain ⟨WW, hWW⟩ : ∃ x, decide a.writes = x := ⟨_, rfl⟩
      obtain ⟨SS, hSS⟩ : ∃ x, decide (a = b) = x := ⟨_, rfl⟩
      have HBA := Lib.hid (fun (W : World) (hW : Below w6.heap.size w6 W) => (show Blk W ga CA 28 from HCA.out ▸ (H6.out.1.below hW).blk))
      have HBB := Lib.hid (fun (W : World) (hW : Below w6.heap.size w6 W) => (show Blk W gb CB 28 from HCB.out ▸ (H6.out.2.1.below hW).blk))
      have HZCB := Lib.hid (show CB.size = 53 by rw [← HCB.out]; exact capA_size H6.out.2.1.wf _)
      have HV1 := Lib.hid (fun (W : World) (hW : Below w6.heap.size w6 W) => (show Calls Tryd.prog 25 #[.agg CA] W fun e w' => e = .returned (.bool VV) ∧ Below W.heap.size W w' from by rw [← HCA.out, ← hVV]; exact pvalid_any HD0.out.1 HD0.out.2.2.1 (H6.out.2.2.1.on hW)))
      have HV2 := Lib.hid (fun (W : World) (_ : Below w6.heap.size w6 W) => (show Calls Tryd.prog 26 #[.agg CA] W fun e w' => e = .returned (.bool VV) ∧ Below W.heap.size W w' from by rw [← HCA.out, ← hVV]; exact rvalid_any HD0.out.1 HD0.out.2.2.1))
      have HR1 := Lib.hid (fun (W : World) (hW : Below w6.heap.size w6 W) => (show Calls Tryd.prog 27 #[.agg CA] W fun e w' => e = .returned (.bool RR) ∧ Below W.heap.size W w' from by rw [← HCA.out, ← hRR]; exact pcanread_any HD0.out.1 HD0.out.2.2.1 (H6.out.2.2.1.on hW)))
      have HR2 := Lib.hid (fun (W : World) (_ : Below w6.heap.size w6 W) => (show Calls Tryd.prog 28 #[.agg CA] W fun e w' => e = .returned (.bool RR) ∧ Below W.heap.size W w' from by rw [← HCA.out, ← hRR]; exact rcanread_any HD0.out.1 HD0.out.2.2.1))
      have HW1 := Lib.hid (fun (W : World) (hW : Below w6.heap.size w6 W) => (show Calls Tryd.prog 29 #[.agg CA] W fun e w' => e = .returned (.bool WW) ∧ Below W.heap.size W w' from by rw [← HCA.out, ← hWW]; exact pcanwrite_any HD0.out.1 HD0.out.2.2.1 (H6.out.2.2.1.on hW)))
      have HW2 := Lib.hid (fun (W : World) (_ : Below w6.heap.size w6 W) => (show Calls Tryd.prog 30 #[.agg CA] W fun e w' => e = .returned (.bool WW) ∧ Below W.heap.size W w' from by rw [← HCA.out, ← hWW]; exact rcanwrite_any HD0.out.1 HD0.out.2.2.1))
      have HS1 := Lib.hid (fun (W : World) (hW : Below w6.heap.size w6 W) => (show Calls Tryd.prog 14 #[.agg CA, .agg CB] W fun e w' => e = .returned (.bool SS) ∧ Below W.heap.size W w' from by rw [← HCA.out, ← HCB.out, ← hSS]; exact psame_any HD0.out.1 H6.out.2.1.wf HD0.out.2.2.1 H6.out.2.2.2.2.1 (H6.out.2.2.1.on hW) (H6.out.2.2.2.1.on hW)))
      have HS2 := Lib.hid (fun (W : World) (hW : Below w6.heap.size w6 W) => (show Calls Tryd.prog 31 #[.agg CA, .agg CB] W fun e w' => e = .returned (.bool SS) ∧ Below W.heap.size W w' from by rw [← HCA.out, ← HCB.out, ← hSS]; exact ksame_any HD0.out.1 H6.out.2.1.wf HD0.out.2.2.1 H6.out.2.2.2.2.1 (by have := HM8.out; unfold maxLen; omega) (H6.out.2.2.1.on hW) (H6.out.2.2.2.1.on hW)))
      have HWK := Lib.hid (fun (W : World) (hW : Below w6.heap.size w6 W) => wakes13_any W (tab_on HT.out (H6.out.2.2.2.2.2.2.1.trans (hW.mono H6.out.2.2.2.2.2.2.1.size)) (Nat.le_trans H6.out.2.2.2.2.2.2.1.size hW.size)))
      have HMK := Lib.hid (fun (W : World) (hW : Below w6.heap.size w6 W) => (show Calls Tryd.prog 12 #[.agg CB] W fun e w' => (∃ v, e = .returned v ∧ CapV w' W.heap.size v (mk13 b)) ∧ Below W.heap.size W w' from by rw [← HCB.out]; exact mk13_any H6.out.2.1.wf H6.out.2.2.2.2.2.2.2.2 H6.out.2.2.2.2.1 H6.out.2.2.2.2.2.1 (H6.out.2.2.2.1.on hW)))
      have HMO := Lib.hid (mk13_ok b)
      obtain ⟨M, hM⟩ : ∃ x, mk13 b = x := ⟨_, rfl⟩
      rw [hM] at HMK HMO
      clear hVV hRR hWW hSS hM
      go_upto_region 5 with fail
      refine wp_region_loose 37 0 (fun i => false) (promises [.is (.agg CA), .is (.bool VV), .is (.agg CA), .is (.bool VV), .is (.bool true), .is (.bool true), .is (.agg CA), .is (.bool RR), .is (.agg CA), .is (.bool RR), .is (.bool true), .is (.bool true), .is (.bool true), .is (.agg CA), .is (.bool WW), .is (.agg CA), .is (.bool WW), .is (.bool true), .is (.bool true), .is (.bool true), .is (.agg CA), .is (.agg CB), .is (.bool SS), .is (.agg CA), .is (.agg CB), .is (.bool SS), .is (.bool true), .is (.bool true), .is (.bool true), .is (.agg CB), .cv w6.heap.size M, .is (.bool true), .is (.bool true), .is (.bool true), .is (.bool true), .is (.bool true), .is (.bool true)]) (by kernel_rfl) rfl (by kernel_rfl) (fun i v w w' h hb => Spec.keep h hb) ⟨?_, ?_, ?_, ?_, ?_, ?_, ?_, ?_, ?_, ?_, ?_, ?_, ?_, ?_, ?_, ?_, ?_, ?_, ?_, ?_, ?_, ?_, ?_, ?_, ?_, ?_, ?_, ?_, ?_, ?_, ?_, ?_, ?_, ?_, ?_, ?_, ?_, trivial⟩ ?_
      · refine StepOKl.of ?_
        intro ac w hb hu hk
        refine ⟨wanted_none rfl, ?_⟩
        have e3 : ac.eval (.tmp 3) = .pointer (some ⟨ga, 0, none⟩) := hu.is (t := 3) (by kernel_rfl)
        exact wp_load_row 28 (.tmp 3) rfl ga e3 28 CA (0, 0) _ (HBA.out w hb) Tryd.underlying28 rfl (by rw [HZCA.out]; kernel_rfl) ⟨_, rfl, rfl, Below.refl _ _⟩
      · refine StepOKl.of ?_
        intro ac w hb hu hk
        refine ⟨wanted_none rfl, ?_⟩
        have e17 : ac.eval (.tmp 17) = (.agg CA) := (hk ⟨0, .data⟩ (by simp) rfl).is rfl rfl
        have ef : ac.eval (.func 25) = .func (.func 25) #[] #[] := rfl
        refine step_enter (f := 25) (args := #[.agg CA]) ?_ ?_
        · generalize ac.eval = ρ at e17 ef ⊢
          go_simp
        · exact (HV1.out w hb).mono fun e w' ⟨he, hq⟩ => ⟨_, he, rfl, hq⟩
      · refine StepOKl.of ?_
        intro ac w hb hu hk
        refine ⟨wanted_none rfl, ?_⟩
        have e3 : ac.eval (.tmp 3) = .pointer (some ⟨ga, 0, none⟩) := hu.is (t := 3) (by kernel_rfl)
        exact wp_load_row 28 (.tmp 3) rfl ga e3 28 CA (0, 0) _ (HBA.out w hb) Tryd.underlying28 rfl (by rw [HZCA.out]; kernel_rfl) ⟨_, rfl, rfl, Below.refl _ _⟩
      · refine StepOKl.of ?_
        intro ac w hb hu hk
        refine ⟨wanted_none rfl, ?_⟩
        have e19 : ac.eval (.tmp 19) = (.agg CA) := (hk ⟨2, .data⟩ (by simp) rfl).is rfl rfl
        have ef : ac.eval (.func 26) = .func (.func 26) #[] #[] := rfl
        refine step_enter (f := 26) (args := #[.agg CA]) ?_ ?_
        · generalize ac.eval = ρ at e19 ef ⊢
          go_simp
        · exact (HV2.out w hb).mono fun e w' ⟨he, hq⟩ => ⟨_, he, rfl, hq⟩
      · refine StepOKl.of ?_
        intro ac w hb hu hk
        refine ⟨wanted_none rfl, ?_⟩
        have e18 : ac.eval (.tmp 18) = (.bool VV) := (hk ⟨1, .data⟩ (by simp) rfl).is rfl rfl
        have e20 : ac.eval (.tmp 20) = (.bool VV) := (hk ⟨3, .data⟩ (by simp) rfl).is rfl rfl
        refine step_value (w' := w) (v := .bool true) ?_ (Below.refl _ _) rfl
        generalize ac.eval = ρ at e18 e20 ⊢
        go_simp
      · refine StepOKl.of ?_
        intro ac w hb hu hk
        refine ⟨wanted_none rfl, ?_⟩
        have e21 : ac.eval (.tmp 21) = (.bool true) := (hk ⟨4, .data⟩ (by simp) rfl).is rfl rfl
        exact step_value (BigFrame.run_move (.tmp 21) rfl w) (Below.refl _ _) e21
      · refine StepOKl.of ?_
        intro ac w hb hu hk
        refine ⟨wanted_some rfl (hk ⟨5, .guard⟩ (by simp) rfl) rfl rfl (fun _ h => h), ?_⟩
        have e3 : ac.eval (.tmp 3) = .pointer (some ⟨ga, 0, none⟩) := hu.is (t := 3) (by kernel_rfl)
        exact wp_load_row 28 (.tmp 3) rfl ga e3 28 CA (0, 0) _ (HBA.out w hb) Tryd.underlying28 rfl (by rw [HZCA.out]; kernel_rfl) ⟨_, rfl, rfl, Below.refl _ _⟩
      · refine StepOKl.of ?_
        intro ac w hb hu hk
        refine ⟨wanted_some rfl (hk ⟨5, .chain⟩ (by simp) rfl) rfl rfl (fun _ h => h), ?_⟩
        have e23 : ac.eval (.tmp 23) = (.agg CA) := (hk ⟨6, .data⟩ (by simp) rfl).is rfl rfl
        have ef : ac.eval (.func 27) = .func (.func 27) #[] #[] := rfl
        refine step_enter (f := 27) (args := #[.agg CA]) ?_ ?_
        · generalize ac.eval = ρ at e23 ef ⊢
          go_simp
        · exact (HR1.out w hb).mono fun e w' ⟨he, hq⟩ => ⟨_, he, rfl, hq⟩
      · refine StepOKl.of ?_
        intro ac w hb hu hk
        refine ⟨wanted_some rfl (hk ⟨5, .guard⟩ (by simp) rfl) rfl rfl (fun _ h => h), ?_⟩
        have e3 : ac.eval (.tmp 3) = .pointer (some ⟨ga, 0, none⟩) := hu.is (t := 3) (by kernel_rfl)
        exact wp_load_row 28 (.tmp 3) rfl ga e3 28 CA (0, 0) _ (HBA.out w hb) Tryd.underlying28 rfl (by rw [HZCA.out]; kernel_rfl) ⟨_, rfl, rfl, Below.refl _ _⟩
      · refine StepOKl.of ?_
        intro ac w hb hu hk
        refine ⟨wanted_some rfl (hk ⟨5, .guard⟩ (by simp) rfl) rfl rfl (fun _ h => h), ?_⟩
        have e25 : ac.eval (.tmp 25) = (.agg CA) := (hk ⟨8, .data⟩ (by simp) rfl).is rfl rfl
        have ef : ac.eval (.func 28) = .func (.func 28) #[] #[] := rfl
        refine step_enter (f := 28) (args := #[.agg CA]) ?_ ?_
        · generalize ac.eval = ρ at e25 ef ⊢
          go_simp
        · exact (HR2.out w hb).mono fun e w' ⟨he, hq⟩ => ⟨_, he, rfl, hq⟩
      · refine StepOKl.of ?_
        intro ac w hb hu hk
        refine ⟨wanted_some rfl (hk ⟨5, .guard⟩ (by simp) rfl) rfl rfl (fun _ h => h), ?_⟩
        have e24 : ac.eval (.tmp 24) = (.bool RR) := (hk ⟨7, .data⟩ (by simp) rfl).is rfl rfl
        have e26 : ac.eval (.tmp 26) = (.bool RR) := (hk ⟨9, .data⟩ (by simp) rfl).is rfl rfl
        refine step_value (w' := w) (v := .bool true) ?_ (Below.refl _ _) rfl
        generalize ac.eval = ρ at e24 e26 ⊢
        go_simp
      · refine StepOKl.of ?_
        intro ac w hb hu hk
        refine ⟨wanted_none rfl, ?_⟩
        have e22 : ac.eval (.tmp 22) = (.bool true) := (hk ⟨5, .data⟩ (by simp) rfl).is rfl rfl
        have e27 : ac.eval (.tmp 27) = (.bool true) := (hk ⟨10, .data⟩ (by simp) rfl).is rfl rfl
        exact step_value (run_pick_true e22 rfl w) (Below.refl _ _) e27
      · refine StepOKl.of ?_
        intro ac w hb hu hk
        refine ⟨wanted_none rfl, ?_⟩
        have e28 : ac.eval (.tmp 28) = (.bool true) := (hk ⟨11, .data⟩ (by simp) rfl).is rfl rfl
        exact step_value (BigFrame.run_move (.tmp 28) rfl w) (Below.refl _ _) e28
      · refine StepOKl.of ?_
        intro ac w hb hu hk
        refine ⟨wanted_some rfl (hk ⟨12, .guard⟩ (by simp) rfl) rfl rfl (fun _ h => h), ?_⟩
        have e3 : ac.eval (.tmp 3) = .pointer (some ⟨ga, 0, none⟩) := hu.is (t := 3) (by kernel_rfl)
        exact wp_load_row 28 (.tmp 3) rfl ga e3 28 CA (0, 0) _ (HBA.out w hb) Tryd.underlying28 rfl (by rw [HZCA.out]; kernel_rfl) ⟨_, rfl, rfl, Below.refl _ _⟩
      · refine StepOKl.of ?_
        intro ac w hb hu hk
        refine ⟨wanted_some rfl (hk ⟨12, .chain⟩ (by simp) rfl) rfl rfl (fun _ h => h), ?_⟩
        have e30 : ac.eval (.tmp 30) = (.agg CA) := (hk ⟨13, .data⟩ (by simp) rfl).is rfl rfl
        have ef : ac.eval (.func 29) = .func (.func 29) #[] #[] := rfl
        refine step_enter (f := 29) (args := #[.agg CA]) ?_ ?_
        · generalize ac.eval = ρ at e30 ef ⊢
          go_simp
        · exact (HW1.out w hb).mono fun e w' ⟨he, hq⟩ => ⟨_, he, rfl, hq⟩
      · refine StepOKl.of ?_
        intro ac w hb hu hk
        refine ⟨wanted_some rfl (hk ⟨12, .guard⟩ (by simp) rfl) rfl rfl (fun _ h => h), ?_⟩
        have e3 : ac.eval (.tmp 3) = .pointer (some ⟨ga, 0, none⟩) := hu.is (t := 3) (by kernel_rfl)
        exact wp_load_row 28 (.tmp 3) rfl ga e3 28 CA (0, 0) _ (HBA.out w hb) Tryd.underlying28 rfl (by rw [HZCA.out]; kernel_rfl) ⟨_, rfl, rfl, Below.refl _ _⟩
      · refine StepOKl.of ?_
        intro ac w hb hu hk
        refine ⟨wanted_some rfl (hk ⟨12, .guard⟩ (by simp) rfl) rfl rfl (fun _ h => h), ?_⟩
        have e32 : ac.eval (.tmp 32) = (.agg CA) := (hk ⟨15, .data⟩ (by simp) rfl).is rfl rfl
        have ef : ac.eval (.func 30) = .func (.func 30) #[] #[] := rfl
        refine step_enter (f := 30) (args := #[.agg CA]) ?_ ?_
        · generalize ac.eval = ρ at e32 ef ⊢
          go_simp
        · exact (HW2.out w hb).mono fun e w' ⟨he, hq⟩ => ⟨_, he, rfl, hq⟩
      · refine StepOKl.of ?_
        intro ac w hb hu hk
        refine ⟨wanted_some rfl (hk ⟨12, .guard⟩ (by simp) rfl) rfl rfl (fun _ h => h), ?_⟩
        have e31 : ac.eval (.tmp 31) = (.bool WW) := (hk ⟨14, .data⟩ (by simp) rfl).is rfl rfl
        have e33 : ac.eval (.tmp 33) = (.bool WW) := (hk ⟨16, .data⟩ (by simp) rfl).is rfl rfl
        refine step_value (w' := w) (v := .bool true) ?_ (Below.refl _ _) rfl
        generalize ac.eval = ρ at e31 e33 ⊢
        go_simp
      · refine StepOKl.of ?_
        intro ac w hb hu hk
        refine ⟨wanted_none rfl, ?_⟩
        have e29 : ac.eval (.tmp 29) = (.bool true) := (hk ⟨12, .data⟩ (by simp) rfl).is rfl rfl
        have e34 : ac.eval (.tmp 34) = (.bool true) := (hk ⟨17, .data⟩ (by simp) rfl).is rfl rfl
        exact step_value (run_pick_true e29 rfl w) (Below.refl _ _) e34
      · refine StepOKl.of ?_
        intro ac w hb hu hk
        refine ⟨wanted_none rfl, ?_⟩
        have e35 : ac.eval (.tmp 35) = (.bool true) := (hk ⟨18, .data⟩ (by simp) rfl).is rfl rfl
        exact step_value (BigFrame.run_move (.tmp 35) rfl w) (Below.refl _ _) e35
      · refine StepOKl.of ?_
        intro ac w hb hu hk
        refine ⟨wanted_some rfl (hk ⟨19, .guard⟩ (by simp) rfl) rfl rfl (fun _ h => h), ?_⟩
        have e3 : ac.eval (.tmp 3) = .pointer (some ⟨ga, 0, none⟩) := hu.is (t := 3) (by kernel_rfl)
        exact wp_load_row 28 (.tmp 3) rfl ga e3 28 CA (0, 0) _ (HBA.out w hb) Tryd.underlying28 rfl (by rw [HZCA.out]; kernel_rfl) ⟨_, rfl, rfl, Below.refl _ _⟩
      · refine StepOKl.of ?_
        intro ac w hb hu hk
        refine ⟨wanted_some rfl (hk ⟨19, .guard⟩ (by simp) rfl) rfl rfl (fun _ h => h), ?_⟩
        have e4 : ac.eval (.tmp 4) = .pointer (some ⟨gb, 0, none⟩) := hu.is (t := 4) (by kernel_rfl)
        exact wp_load_row 28 (.tmp 4) rfl gb e4 28 CB (0, 0) _ (HBB.out w hb) Tryd.underlying28 rfl (by rw [HZCB.out]; kernel_rfl) ⟨_, rfl, rfl, Below.refl _ _⟩
      · refine StepOKl.of ?_
        intro ac w hb hu hk
        refine ⟨wanted_some rfl (hk ⟨19, .chain⟩ (by simp) rfl) rfl rfl (fun _ h => h), ?_⟩
        have e37 : ac.eval (.tmp 37) = (.agg CA) := (hk ⟨20, .data⟩ (by simp) rfl).is rfl rfl
        have e38 : ac.eval (.tmp 38) = (.agg CB) := (hk ⟨21, .data⟩ (by simp) rfl).is rfl rfl
        have ef : ac.eval (.func 14) = .func (.func 14) #[] #[] := rfl
        refine step_enter (f := 14) (args := #[.agg CA, .agg CB]) ?_ ?_
        · generalize ac.eval = ρ at e37 e38 ef ⊢
          go_simp
        · exact (HS1.out w hb).mono fun e w' ⟨he, hq⟩ => ⟨_, he, rfl, hq⟩
      · refine StepOKl.of ?_
        intro ac w hb hu hk
        refine ⟨wanted_some rfl (hk ⟨19, .guard⟩ (by simp) rfl) rfl rfl (fun _ h => h), ?_⟩
        have e3 : ac.eval (.tmp 3) = .pointer (some ⟨ga, 0, none⟩) := hu.is (t := 3) (by kernel_rfl)
        exact wp_load_row 28 (.tmp 3) rfl ga e3 28 CA (0, 0) _ (HBA.out w hb) Tryd.underlying28 rfl (by rw [HZCA.out]; kernel_rfl) ⟨_, rfl, rfl, Below.refl _ _⟩
      · refine StepOKl.of ?_
        intro ac w hb hu hk
        refine ⟨wanted_some rfl (hk ⟨19, .guard⟩ (by simp) rfl) rfl rfl (fun _ h => h), ?_⟩
        have e4 : ac.eval (.tmp 4) = .pointer (some ⟨gb, 0, none⟩) := hu.is (t := 4) (by kernel_rfl)
        exact wp_load_row 28 (.tmp 4) rfl gb e4 28 CB (0, 0) _ (HBB.out w hb) Tryd.underlying28 rfl (by rw [HZCB.out]; kernel_rfl) ⟨_, rfl, rfl, Below.refl _ _⟩
      · refine StepOKl.of ?_
        intro ac w hb hu hk
        refine ⟨wanted_some rfl (hk ⟨19, .guard⟩ (by simp) rfl) rfl rfl (fun _ h => h), ?_⟩
        have e40 : ac.eval (.tmp 40) = (.agg CA) := (hk ⟨23, .data⟩ (by simp) rfl).is rfl rfl
        have e41 : ac.eval (.tmp 41) = (.agg CB) := (hk ⟨24, .data⟩ (by simp) rfl).is rfl rfl
        have ef : ac.eval (.func 31) = .func (.func 31) #[] #[] := rfl
        refine step_enter (f := 31) (args := #[.agg CA, .agg CB]) ?_ ?_
        · generalize ac.eval = ρ at e40 e41 ef ⊢
          go_simp
        · exact (HS2.out w hb).mono fun e w' ⟨he, hq⟩ => ⟨_, he, rfl, hq⟩
      · refine StepOKl.of ?_
        intro ac w hb hu hk
        refine ⟨wanted_some rfl (hk ⟨19, .guard⟩ (by simp) rfl) rfl rfl (fun _ h => h), ?_⟩
        have e39 : ac.eval (.tmp 39) = (.bool SS) := (hk ⟨22, .data⟩ (by simp) rfl).is rfl rfl
        have e42 : ac.eval (.tmp 42) = (.bool SS) := (hk ⟨25, .data⟩ (by simp) rfl).is rfl rfl
        refine step_value (w' := w) (v := .bool true) ?_ (Below.refl _ _) rfl
        generalize ac.eval = ρ at e39 e42 ⊢
        go_simp
      · refine StepOKl.of ?_
        intro ac w hb hu hk
        refine ⟨wanted_none rfl, ?_⟩
        have e36 : ac.eval (.tmp 36) = (.bool true) := (hk ⟨19, .data⟩ (by simp) rfl).is rfl rfl
        have e43 : ac.eval (.tmp 43) = (.bool true) := (hk ⟨26, .data⟩ (by simp) rfl).is rfl rfl
        exact step_value (run_pick_true e36 rfl w) (Below.refl _ _) e43
      · refine StepOKl.of ?_
        intro ac w hb hu hk
        refine ⟨wanted_none rfl, ?_⟩
        have e44 : ac.eval (.tmp 44) = (.bool true) := (hk ⟨27, .data⟩ (by simp) rfl).is rfl rfl
        exact step_value (BigFrame.run_move (.tmp 44) rfl w) (Below.refl _ _) e44
      · refine StepOKl.of ?_
        intro ac w hb hu hk
        refine ⟨wanted_some rfl (hk ⟨28, .guard⟩ (by simp) rfl) rfl rfl (fun _ h => h), ?_⟩
        have e4 : ac.eval (.tmp 4) = .pointer (some ⟨gb, 0, none⟩) := hu.is (t := 4) (by kernel_rfl)
        exact wp_load_row 28 (.tmp 4) rfl gb e4 28 CB (0, 0) _ (HBB.out w hb) Tryd.underlying28 rfl (by rw [HZCB.out]; kernel_rfl) ⟨_, rfl, rfl, Below.refl _ _⟩
      · refine StepOKl.of ?_
        intro ac w hb hu hk
        refine ⟨wanted_some rfl (hk ⟨28, .chain⟩ (by simp) rfl) rfl rfl (fun _ h => h), ?_⟩
        have e46 : ac.eval (.tmp 46) = (.agg CB) := (hk ⟨29, .data⟩ (by simp) rfl).is rfl rfl
        have ef : ac.eval (.func 12) = .func (.func 12) #[] #[] := rfl
        refine step_enter (f := 12) (args := #[.agg CB]) ?_ ?_
        · generalize ac.eval = ρ at e46 ef ⊢
          go_simp
        · exact (HMK.out w hb).mono fun e w' ⟨⟨v, he, hv⟩, hq⟩ => ⟨_, he, hv.low hb.size, hq⟩
      · refine StepOKl.of ?_
        intro ac w hb hu hk
        refine ⟨wanted_some rfl (hk ⟨28, .guard⟩ (by simp) rfl) rfl rfl (fun _ h => h), ?_⟩
        have e47 : CapV w w6.heap.size (ac.eval (.tmp 47)) M := (hk ⟨30, .data⟩ (by simp) rfl).is rfl rfl
        have ef : ac.eval (.func 25) = .func (.func 25) #[] #[] := rfl
        refine step_enter (f := 25) (args := #[ac.eval (.tmp 47)]) ?_ ?_
        · generalize ac.eval = ρ at ef ⊢
          go_simp
        · exact (cv_valid e47 HMO.out).mono fun e w' ⟨he, hq⟩ => ⟨_, he, rfl, hq⟩
      · refine StepOKl.of ?_
        intro ac w hb hu hk
        refine ⟨wanted_none rfl, ?_⟩
        have e45 : ac.eval (.tmp 45) = (.bool true) := (hk ⟨28, .data⟩ (by simp) rfl).is rfl rfl
        have e48 : ac.eval (.tmp 48) = (.bool true) := (hk ⟨31, .data⟩ (by simp) rfl).is rfl rfl
        exact step_value (run_pick_true e45 rfl w) (Below.refl _ _) e48
      · refine StepOKl.of ?_
        intro ac w hb hu hk
        refine ⟨wanted_none rfl, ?_⟩
        have e49 : ac.eval (.tmp 49) = (.bool true) := (hk ⟨32, .data⟩ (by simp) rfl).is rfl rfl
        exact step_value (BigFrame.run_move (.tmp 49) rfl w) (Below.refl _ _) e49
      · refine StepOKl.of ?_
        intro ac w hb hu hk
        refine ⟨wanted_some rfl (hk ⟨33, .chain⟩ (by simp) rfl) rfl rfl (fun _ h => h), ?_⟩
        have ef : ac.eval (.func 15) = .func (.func 15) #[] #[] := rfl
        refine step_enter (f := 15) (args := #[]) ?_ ?_
        · generalize ac.eval = ρ at  ef ⊢
          go_simp
        · exact (HWK.out w hb).mono fun e w' ⟨he, hq⟩ => ⟨_, he, rfl, hq⟩
      · refine StepOKl.of ?_
        intro ac w hb hu hk
        refine ⟨wanted_none rfl, ?_⟩
        have e50 : ac.eval (.tmp 50) = (.bool true) := (hk ⟨33, .data⟩ (by simp) rfl).is rfl rfl
        have e51 : ac.eval (.tmp 51) = (.bool true) := (hk ⟨34, .data⟩ (by simp) rfl).is rfl rfl
        exact step_value (run_pick_true e50 rfl w) (Below.refl _ _) e51
      · refine StepOKl.of ?_
        intro ac w hb hu hk
        refine ⟨wanted_none rfl, ?_⟩
        have e52 : ac.eval (.tmp 52) = (.bool true) := (hk ⟨35, .data⟩ (by simp) rfl).is rfl rfl
        exact step_value (BigFrame.run_assign (.tmp 52) rfl w) (Below.refl _ _) e52
      · intro ac w' hb hu hk hap
        obtain ⟨_, h6, rfl⟩ := (hk 36 (by decide)).put rfl rfl
        obtain ⟨_, h17, rfl⟩ := (hk 0 (by decide)).put rfl rfl
        obtain ⟨_, h18, rfl⟩ := (hk 1 (by decide)).put rfl rfl
        obtain ⟨_, h19, rfl⟩ := (hk 2 (by decide)).put rfl rfl
        obtain ⟨_, h20, rfl⟩ := (hk 3 (by decide)).put rfl rfl
        obtain ⟨_, h21, rfl⟩ := (hk 4 (by decide)).put rfl rfl
        obtain ⟨_, h22, rfl⟩ := (hk 5 (by decide)).put rfl rfl
        obtain ⟨_, h23, rfl⟩ := (hk 6 (by decide)).put rfl rfl
        obtain ⟨_, h24, rfl⟩ := (hk 7 (by decide)).put rfl rfl
        obtain ⟨_, h25, rfl⟩ := (hk 8 (by decide)).put rfl rfl
        obtain ⟨_, h26, rfl⟩ := (hk 9 (by decide)).put rfl rfl
        obtain ⟨_, h27, rfl⟩ := (hk 10 (by decide)).put rfl rfl
        obtain ⟨_, h28, rfl⟩ := (hk 11 (by decide)).put rfl rfl
        obtain ⟨_, h29, rfl⟩ := (hk 12 (by decide)).put rfl rfl
        obtain ⟨_, h30, rfl⟩ := (hk 13 (by decide)).put rfl rfl
        obtain ⟨_, h31, rfl⟩ := (hk 14 (by decide)).put rfl rfl
        obtain ⟨_, h32, rfl⟩ := (hk 15 (by decide)).put rfl rfl
        obtain ⟨_, h33, rfl⟩ := (hk 16 (by decide)).put rfl rfl
        obtain ⟨_, h34, rfl⟩ := (hk 17 (by decide)).put rfl rfl
        obtain ⟨_, h35, rfl⟩ := (hk 18 (by decide)).put rfl rfl
        obtain ⟨_, h36, rfl⟩ := (hk 19 (by decide)).put rfl rfl
        obtain ⟨_, h37, rfl⟩ := (hk 20 (by decide)).put rfl rfl
        obtain ⟨_, h38, rfl⟩ := (hk 21 (by decide)).put rfl rfl
        obtain ⟨_, h39, rfl⟩ := (hk 22 (by decide)).put rfl rfl
        obtain ⟨_, h40, rfl⟩ := (hk 23 (by decide)).put rfl rfl
        obtain ⟨_, h41, rfl⟩ := (hk 24 (by decide)).put rfl rfl
        obtain ⟨_, h42, rfl⟩ := (hk 25 (by decide)).put rfl rfl
        obtain ⟨_, h43, rfl⟩ := (hk 26 (by decide)).put rfl rfl
        obtain ⟨_, h44, rfl⟩ := (hk 27 (by decide)).put rfl rfl
        obtain ⟨_, h45, rfl⟩ := (hk 28 (by decide)).put rfl rfl
        obtain ⟨_, h46, rfl⟩ := (hk 29 (by decide)).put rfl rfl
        obtain ⟨_, h47, hcv47⟩ := (hk 30 (by decide)).put rfl rfl
        obtain ⟨_, h48, rfl⟩ := (hk 31 (by decide)).put rfl rfl
        obtain ⟨_, h49, rfl⟩ := (hk 32 (by decide)).put rfl rfl
        obtain ⟨_, h50, rfl⟩ := (hk 33 (by decide)).put rfl rfl
        obtain ⟨_, h51, rfl⟩ := (hk 34 (by decide)).put rfl rfl
        obtain ⟨_, h52, rfl⟩ := (hk 35 (by decide)).put rfl rfl
        clear hap
        have hF : AllPuts ac.tmps ((6, _) :: (17, _) :: (18, _) :: (19, _) :: (20, _) :: (21, _) :: (22, _) :: (23, _) :: (24, _) :: (25, _) :: (26, _) :: (27, _) :: (28, _) :: (29, _) :: (30, _) :: (31, _) :: (32, _) :: (33, _) :: (34, _) :: (35, _) :: (36, _) :: (37, _) :: (38, _) :: (39, _) :: (40, _) :: (41, _) :: (42, _) :: (43, _) :: (44, _) :: (45, _) :: (46, _) :: (47, _) :: (48, _) :: (49, _) :: (50, _) :: (51, _) :: (52, _) :: []) := ⟨h6, h17, h18, h19, h20, h21, h22, h23, h24, h25, h26, h27, h28, h29, h30, h31, h32, h33, h34, h35, h36, h37, h38, h39, h40, h41, h42, h43, h44, h45, h46, h47, h48, h49, h50, h51, h52, trivial⟩
        obtain rfl := frame_puts hu (by kernel_rfl) hF
        simp only [puts, Act.put, List.setIfInBounds_toArray, List.set_cons_zero, List.set_cons_succ, List.drop_succ_cons, List.drop_nil]
        clear hk hu hF h6 h17 h18 h19 h20 h21 h22 h23 h24 h25 h26 h27 h28 h29 h30 h31 h32 h33 h34 h35 h36 h37 h38 h39 h40 h41 h42 h43 h44 h45 h46 h47 h48 h49 h50 h51 h52
        have hfin := H6.out.2.2.2.2.2.2.1.trans (hb.mono H6.out.2.2.2.2.2.2.1.size)
        go_wp2_with fail
        go_ret
        exact ⟨rfl, hfin⟩

set_option maxRecDepth 100000 in
theorem contract (H : Type) (enc : TypeId × Value → H) (W : World) (base : Nat) (args : Array Value) (ds gs : List (DataW H)) (before : List MemPlace)
    (hval : ∀ (j : Nat) t v, Tryd.f5.params[j]? = some t → args[j]? = some v → Value.okWide Tryd.prog W .any base t v)
    (hW : DataW.Whole enc Tryd.prog Tryd.f5.params.toList Rows.capsValidsSpec.vars false W args.toList ds gs before) (hL : laidMetH Tryd.prog Rows.capsValidsRow.laid W) :
    Calls Tryd.prog 5 args W fun e W' => ∃ v, e = .returned v ∧ Rows.capsValidsSpec.post enc Tryd.prog Tryd.f5 false true false false W args v W' := by
  have hW' := hW
  obtain ⟨p, q, hA0, hV, rfl, hfz, hnd⟩ := hW
  have hA : DataW.TrodAll enc Tryd.prog W 0 (fun _ => true) true Tryd.f5.params.toList args.toList ds p := hA0
  rw [Tryd.params5] at hA hval
  obtain ⟨v0, v1, v2, d0, d1, d2, p0, p1, p2, rfl, rfl, rfl, h0, h1, h2⟩ := trodAll_three hA
  obtain ⟨rfl, rfl⟩ := trodVars_none hV
  obtain ⟨c0, A0, m0, k0, rfl, hw0, hb0, hl0, hc0, hm0, hr0⟩ := open_cap (hval 0 28 v0 rfl rfl) h0
  obtain ⟨c1, A1, m1, k1, rfl, hw1, hb1, hl1, hc1, hm1, hr1⟩ := open_cap (hval 1 28 v1 rfl rfl) h1
  obtain ⟨t2, rfl, rfl, rfl⟩ := open_bool Tryd.underlying4 (hval 2 4 v2 rfl rfl) h2
  clear hA0
  refine (walk c0 c1 A0 A1 m0 m1 k0 k1 t2 W hw0 hw1 hb0 hb1 hl0 hl1 hc0 hc1 hr0 hr1 (pow10 hL)).mono fun e W' ⟨he, hb⟩ => ?_
  exact ⟨_, he, law_post hW' rfl (by kernel_rfl) rfl (by kernel_rfl) hb⟩

theorem laid_met (os : Os) : laidMet Tryd.prog Rows.capsValidsRow.laid ((laidWorld os).forCall (fun _ _ => 0) ⟨#[], #[.agg (capA cap0 (.slice none 0 0)), .agg (capA cap0 (.slice none 0 0)), .bool false], []⟩).memory :=
  laidMet_of_run' 8 (by kernel_rfl) (by kernel_rfl)
theorem reads (os : Os) {H : Type} (enc : TypeId × Value → H) : ∃ places, DataW.whole enc Tryd.prog ((laidWorld os).forCall (fun _ _ => 0) ⟨#[], #[.agg (capA cap0 (.slice none 0 0)), .agg (capA cap0 (.slice none 0 0)), .bool false], []⟩).memory Tryd.f5.params.toList Rows.capsValidsSpec.vars false #[Value.agg (capA cap0 (.slice none 0 0)), Value.agg (capA cap0 (.slice none 0 0)), Value.bool false].toList 8 = some ([.agg [.lit (.int .i64 0), .agg [.lit (.int .u8 0), .lit (.int .u8 0), .lit (.int .u8 0), .lit (.int .u8 0), .lit (.int .u8 0), .lit (.int .u8 0), .lit (.int .u8 0), .lit (.int .u8 0), .lit (.int .u8 0), .lit (.int .u8 0), .lit (.int .u8 0), .lit (.int .u8 0), .lit (.int .u8 0), .lit (.int .u8 0), .lit (.int .u8 0), .lit (.int .u8 0)], .agg [.lit (.int .u8 0), .lit (.int .u8 0), .lit (.int .u8 0), .lit (.int .u8 0), .lit (.int .u8 0), .lit (.int .u8 0), .lit (.int .u8 0), .lit (.int .u8 0), .lit (.int .u8 0), .lit (.int .u8 0), .lit (.int .u8 0), .lit (.int .u8 0), .lit (.int .u8 0), .lit (.int .u8 0), .lit (.int .u8 0), .lit (.int .u8 0), .lit (.int .u8 0), .lit (.int .u8 0), .lit (.int .u8 0), .lit (.int .u8 0), .lit (.int .u8 0), .lit (.int .u8 0), .lit (.int .u8 0), .lit (.int .u8 0), .lit (.int .u8 0), .lit (.int .u8 0), .lit (.int .u8 0), .lit (.int .u8 0), .lit (.int .u8 0), .lit (.int .u8 0), .lit (.int .u8 0), .lit (.int .u8 0)], .lit (.int .i64 0), .lit (.int .i64 0), .lit (.int .i64 0), .nil], .agg [.lit (.int .i64 0), .agg [.lit (.int .u8 0), .lit (.int .u8 0), .lit (.int .u8 0), .lit (.int .u8 0), .lit (.int .u8 0), .lit (.int .u8 0), .lit (.int .u8 0), .lit (.int .u8 0), .lit (.int .u8 0), .lit (.int .u8 0), .lit (.int .u8 0), .lit (.int .u8 0), .lit (.int .u8 0), .lit (.int .u8 0), .lit (.int .u8 0), .lit (.int .u8 0)], .agg [.lit (.int .u8 0), .lit (.int .u8 0), .lit (.int .u8 0), .lit (.int .u8 0), .lit (.int .u8 0), .lit (.int .u8 0), .lit (.int .u8 0), .lit (.int .u8 0), .lit (.int .u8 0), .lit (.int .u8 0), .lit (.int .u8 0), .lit (.int .u8 0), .lit (.int .u8 0), .lit (.int .u8 0), .lit (.int .u8 0), .lit (.int .u8 0), .lit (.int .u8 0), .lit (.int .u8 0), .lit (.int .u8 0), .lit (.int .u8 0), .lit (.int .u8 0), .lit (.int .u8 0), .lit (.int .u8 0), .lit (.int .u8 0), .lit (.int .u8 0), .lit (.int .u8 0), .lit (.int .u8 0), .lit (.int .u8 0), .lit (.int .u8 0), .lit (.int .u8 0), .lit (.int .u8 0), .lit (.int .u8 0)], .lit (.int .i64 0), .lit (.int .i64 0), .lit (.int .i64 0), .nil], .lit (.bool false)], [], places) :=
  ⟨[], by kernel_rfl⟩

set_option maxRecDepth 100000 in
theorem lifted (os : Os) (started : os.Started) (H : Type) (enc : TypeId × Value → H) (F : Stop.Interp) :
    ReturnsInHanded {} Tryd.checked os 5 .any ((OpenSpec.ofChange Rows.capsValidsSpec).preRow enc Tryd.prog Tryd.f5 Rows.capsValidsRow.domain false Rows.capsValidsRow.laid) (((OpenSpec.ofChange Rows.capsValidsSpec).at F).post enc Tryd.prog Tryd.f5 false true false false) := by
  obtain ⟨places, hx⟩ := reads os enc
  refine returnsInHanded_of_row (C := Tryd.checked) (s := OpenSpec.ofChange Rows.capsValidsSpec) own started (by kernel_rfl) Tryd.func5
    (witness_row_at (enc := enc) (C := Tryd.checked) false (laidWorld os) #[.agg (capA cap0 (.slice none 0 0)), .agg (capA cap0 (.slice none 0 0)), .bool false] rfl (by kernel_rfl) (by kernel_rfl) (by kernel_rfl)
      (OpenSpec.preRow_of_cond 8 hx (by kernel_rfl) (fun k hk => by cases hk) (by kernel_rfl) (laid_met os))) ?_
  intro W base args ds gs before hval hW _ _ _ hL _ _
  exact contract H enc W base args ds gs before hval hW hL

theorem said : Rows.CapsValidsSaid :=
  OpenClaim.holds_of_cond 5 Tryd.f5 rfl rfl rfl rfl rfl rfl rfl ⟨rfl, rfl, rfl, rfl, rfl⟩ rfl rfl rfl rfl rfl (by kernel_rfl) Tryd.func5 (by kernel_rfl)
    (of_decide_eq_true (by kernel_rfl)) (by unfold Func.isWrapper; first | (rw [if_pos (by decide +kernel)]; kernel_rfl) | (rw [if_neg (by decide +kernel)]; exact ⟨rfl, rfl⟩))
    (fun os started H enc _ F => by rw [OpenClaim.pre_eq_preRow]; exact lifted os started H enc F)

theorem plain (f : FuncId) (fn : Func) (hf : Tryd.pinned.checked.prog.funcNamed "aumbry/aumbrylaw13.CapsValids" = some f) (hfn : Tryd.pinned.checked.prog.funcs[f]? = some fn) :
    true = Tryd.pinned.checked.prog.looks [] ∧ ∀ (j : Nat) t, fn.params[j]? = some t → Tryd.pinned.checked.prog.wantsStandIn t = false := by
  obtain rfl : f = 5 := Option.some.inj ((show Tryd.prog.funcNamed "aumbry/aumbrylaw13.CapsValids" = some 5 by kernel_rfl).symm.trans hf) |>.symm
  obtain rfl : fn = Tryd.f5 := (Option.some.inj (Tryd.func5.symm.trans hfn)).symm
  refine ⟨by kernel_rfl, fun j t ht => ?_⟩
  exact wants_none (by kernel_rfl) (Array.mem_of_getElem? ht)

/-- The card: the statement holds, its listed tables tied to the program's text. -/
theorem card : Rows.CapsValidsCardSaid :=
  Claim7.holds_tied_plain_at .later [] _ _ _ _ said (fun _ h => by cases h) (by kernel_rfl) (fun _ h => by cases h) capsValids_row_tie rfl ⟨rfl, rfl⟩ (by kernel_rfl) rfl plain (by kernel_rfl)
end Go.Proofs.YtkmbieljmippnaaDoor.capsValids
