/- WotsDigits: a message's digits, with their checksum. For all messages. -/
import Derived.Test.YtciflbkgfmbfdaaDoorLaw
import Derived.Test.YtciflbkgfmbfdaaDoorKeep
import Derived.Test.YtciflbkgfmbfdaaDoorWakes8
import Derived.Test.YtciflbkgfmbfdaaDoorWotsD
import Derived.Test.YtciflbkgfmbfdaaDoorHashD
namespace Go.Proofs.YtciflbkgfmbfdaaDoor.wotsDigits
open Go.ChangeShapes Go.WideShapes Go.ChangeAt Go.RowKit

set_option maxRecDepth 100000 in
set_option maxHeartbeats 16000000 in
theorem digH_sum {h : List UInt8} (hh : h.length = 32) : (digH h).getD 64 0 * 256 + (digH h).getD 65 0 * 16 + (digH h).getD 66 0 = wots.csum ((digH h).take 64) := by
  have hl : (wots.hexD h).length = 64 := by rw [wots.hexD_len, hh]
  have e : ∀ j, (digH h).getD (64 + j) 0 = (wots.chk (wots.hexD h)).getD j 0 := fun j => by
    unfold digH wots.allD
    rw [List.getD_eq_getElem?_getD, List.getElem?_append_right (by omega), hl, Nat.add_sub_cancel_left, ← List.getD_eq_getElem?_getD]
  have e0 := e 0
  have e1 := e 1
  have e2 := e 2
  have et : (digH h).take 64 = wots.hexD h := by
    unfold digH wots.allD
    rw [List.take_append_of_le_length (by omega), List.take_of_length_le (by omega)]
  rw [et, show (64 : Nat) = 64 + 0 from rfl, e0, e1, e2]
  exact wots.chk_sum _
set_option maxRecDepth 100000 in
set_option maxHeartbeats 16000000 in
theorem walk (A : Option Addr) (n c : Nat) (m : List UInt8) (w : World) (hn0 : m.length = n) (hc0 : n ≤ c) (hcm : c ≤ maxLen) (hr0 : Rd w w.heap.size A m) (htab : Pow10 w.heap.size w) :
    Calls Tryd.prog 4 #[.slice A n c] w fun e w' => e = .returned (.bool true) ∧ Below w.heap.size w w' := by
  obtain ⟨M0, hM0⟩ : ∃ M, min n 100 = M := ⟨_, rfl⟩
  have HCB0 := Lib.hid (fun W => (show Calls Tryd.prog 11 #[.slice A n c, .int .i64 100] W fun e W' => e = .returned (.slice A M0 c) ∧ W = W' from by
    rw [← hM0]
    exact cut_any A n c 100 W hc0))
  have hMk0 : M0 ≤ 100 := by omega
  have hMc0 : M0 ≤ c := by omega
  obtain ⟨bl0, hbl0⟩ : ∃ x, m.take 100 = x := ⟨_, rfl⟩
  have hbn0 : bl0.length = M0 := by rw [← hbl0, List.length_take, hn0]; omega
  have hbr0 : Rd w w.heap.size A bl0 := by rw [← hbl0]; exact hr0.take 100
  obtain ⟨Dg, hDg⟩ : ∃ D, digH (msgH bl0) = D := ⟨_, rfl⟩
  have HD1 := Lib.hid (fun W (hW : Below w.heap.size w W) => (show Calls Tryd.prog 14 #[.slice A M0 c] W fun e w' => ∃ X x, e = .returned (.slice X 67 x) ∧ DV w' (.slice X 67 x) Dg ∧ Below W.heap.size W w' from by
    rw [← hDg]
    refine (pdigits_any A M0 c bl0 W hbn0 (by omega) hMc0 hcm (hbr0.on hW) (tab_on htab hW hW.size)).mono ?_
    rintro e w' ⟨v, rfl, ho, hb⟩
    obtain ⟨X, x, rfl, _, _⟩ := ho.form (digH_len (msgH_len bl0))
    exact ⟨X, x, rfl, ho.dv, hb⟩))
  have HD2 := Lib.hid (fun W (hW : Below w.heap.size w W) => (show Calls Tryd.prog 19 #[.slice A M0 c] W fun e w' => ∃ X x, e = .returned (.slice X 67 x) ∧ DV w' (.slice X 67 x) Dg ∧ Below W.heap.size W w' from by
    rw [← hDg]
    refine (rdigits_any A M0 c bl0 W hbn0 (by omega) hMc0 hcm (hbr0.on hW)).mono ?_
    rintro e w' ⟨v, rfl, ho, hb⟩
    obtain ⟨X, x, rfl, _, _⟩ := ho.form (digH_len (msgH_len bl0))
    exact ⟨X, x, rfl, ho.dv, hb⟩))
  have HDL := Lib.hid (show Dg.length = 67 by rw [← hDg]; exact digH_len (msgH_len bl0))
  have HDS := Lib.hid (fun i => (show Dg.getD i 0 ≤ 15 by rw [← hDg]; exact digH_at (msgH_len bl0) i))
  have HSU := Lib.hid (show Dg.getD 64 0 * 256 + Dg.getD 65 0 * 16 + Dg.getD 66 0 = wots.csum (Dg.take 64) by rw [← hDg]; exact digH_sum (msgH_len bl0))
  have HTAB := Lib.hid htab
  clear htab hDg hM0 hbl0 hbn0 hbr0 hn0 hr0
  go_enter Tryd.func4, Tryd.ntmps4
  go_wp2_with fail
  with_reducible refine (HCB0.out _).mono ?_
  rintro e wx ⟨rfl, rfl⟩
  go_wp2_with fail
  with_reducible refine (HD1.out w (Below.refl _ _)).mono ?_
  rintro e w1 ⟨X1, x1, rfl, hd1, hb1⟩
  have HB1 := Lib.hid hb1
  have HV1 := Lib.hid hd1
  clear hd1 hb1
  go_wp2_with fail
  with_reducible refine (HD2.out w1 HB1.out).mono ?_
  rintro e w2 ⟨X2, x2, rfl, hd2, hb2⟩
  have hv2 := HV1.out.on hb2
  have HSA := Lib.hid (show Calls Tryd.prog 18 #[.slice X1 67 x1, .slice X2 67 x2] w2 fun e w' => e = .returned (.bool true) ∧ Below w2.heap.size w2 w' by
    have := ksameint_any hv2 hd2 (by rw [HDL.out]; omega)
    rwa [decide_eq_true rfl] at this)
  have HV2 := Lib.hid hv2
  have HB2 := Lib.hid (HB1.out.trans (hb2.mono HB1.out.size))
  clear hd2 hb2 hv2 HV1 HB1 HD1 HD2 HCB0
  go_wp2_with fail
  with_reducible refine (HSA.out).mono ?_
  rintro e w3 ⟨rfl, hb3⟩
  have hv3 := HV2.out.on hb3
  have HBZ := Lib.hid (HB2.out.trans (hb3.mono HB2.out.size))
  obtain ⟨b, off, rfl, hbw, _⟩ := hv3.at_ (i := 0) (by omega)
  have HCL := Lib.hid (fun i (hi : i < 67) W (hW : Below w3.heap.size w3 W) => (show W.cell? ⟨b, off + i, none⟩ = some (.int .i64 ((Dg.getD i 0 : Nat) : Int)) from (hW.cell (p := ⟨b, off + i, none⟩) hbw).trans (hv3.cells i hi)))
  clear hb3 hv3 hbw HV2 HB2 HSA
  go_wp2_with fail
  go_loopw [4, 5] (fun s t wq => ∃ i : Nat, i ≤ 64 ∧ t = .int .i64 (i : Int) ∧ s = .int .i64 ((wots.csum (Dg.take i) : Nat) : Int) ∧ w3 = wq) (fun _ t _ => 64 - (intOf t).toNat)
  case atStart => exact ⟨0, Nat.zero_le _, rfl, rfl, rfl⟩
  case round =>
    obtain ⟨i, hi, rfl, rfl, rfl⟩ := hrel
    by_cases hlt : i < 64
    · have hii : (i : Int) < 64 := by omega
      have hi67 : (i : Int) < 67 := by omega
      have hil : i < Dg.length := by rw [HDL.out]; omega
      have hct := csum_take Dg i hil
      have hg : Dg.getD i 0 = Dg[i] := by simp [List.getD_eq_getElem?_getD, hil]
      have hcell := HCL.out i (by omega) w3 (Below.refl _ _)
      have hd15 := HDS.out i
      have hmx := wots.csum_max (Dg.take i)
      rw [List.length_take] at hmx
      rw [← hg] at hct
      have HCT := Lib.hid hct
      clear hct hg
      generalize Dg.getD i 0 = d at *
      generalize wots.csum (Dg.take i) = s at *
      obtain ⟨d2, hd2⟩ : ∃ z, 15 - d = z := ⟨_, rfl⟩
      rw [hd2] at HCT
      have hsub : (15 : Int) - (d : Int) = (d2 : Int) := by omega
      have hsb : s ≤ 2000 := by omega
      have hdb : d2 ≤ 15 := by omega
      clear hmx hd2 hil
      go_wp2_with fail
      go_roundw
      case rel => exact ⟨i + 1, hlt, by go_num, by rw [HCT.out]; go_num, trivial⟩
      case measure => simp [intOf]; omega
    · obtain rfl : i = 64 := by omega
      have hsu := HSU.out
      have h1 := HDS.out 64
      have h2 := HDS.out 65
      have h3 := HDS.out 66
      have c1 := HCL.out 64 (by omega)
      have c2 := HCL.out 65 (by omega)
      have c3 := HCL.out 66 (by omega)
      generalize Dg.getD 64 0 = u1 at *
      generalize Dg.getD 65 0 = u2 at *
      generalize Dg.getD 66 0 = u3 at *
      generalize wots.csum (Dg.take 64) = s at *
      obtain ⟨v1, hv1⟩ : ∃ v, u1 * 256 = v := ⟨_, rfl⟩
      obtain ⟨v2, hv2⟩ : ∃ v, u2 * 16 = v := ⟨_, rfl⟩
      obtain ⟨v3, hv3⟩ : ∃ v, v1 + v2 = v := ⟨_, rfl⟩
      have HV1 := Lib.hid (show IntKind.i64.wrap ((u1 : Int) * 256) = (v1 : Int) by rw [IntWalk.i64_in _ (by omega)]; omega)
      have HV2 := Lib.hid (show IntKind.i64.wrap ((u2 : Int) * 16) = (v2 : Int) by rw [IntWalk.i64_in _ (by omega)]; omega)
      have HV3 := Lib.hid (show IntKind.i64.wrap ((v1 : Int) + (v2 : Int)) = (v3 : Int) by rw [IntWalk.i64_in _ (by omega)]; omega)
      have HV4 := Lib.hid (show IntKind.i64.wrap ((v3 : Int) + (u3 : Int)) = (s : Int) by rw [IntWalk.i64_in _ (by omega)]; omega)
      have HC1 := Lib.hid c1
      have HC2 := Lib.hid c2
      have HC3 := Lib.hid c3
      have HWK := Lib.hid (fun W (hW : Below w3.heap.size w3 W) => wakes8_any W (tab_on HTAB.out (HBZ.out.trans (hW.mono HBZ.out.size)) (HBZ.out.trans (hW.mono HBZ.out.size)).size))
      clear hsu h1 h2 h3 c1 c2 c3 hv1 hv2 hv3 HCL HSU hi hlt
      go_wp2_with fail
      refine wp_region_loose 18 1 (fun i => false) (promises [.is (.slice (some ⟨b, off, none⟩) 67 x1), .is (.pointer (some ⟨b, off + 64, none⟩)), .is (.int .i64 (u1 : Int)), .is (.int .i64 (v1 : Int)), .is (.slice (some ⟨b, off, none⟩) 67 x1), .is (.pointer (some ⟨b, off + 65, none⟩)), .is (.int .i64 (u2 : Int)), .is (.int .i64 (v2 : Int)), .is (.int .i64 (v3 : Int)), .is (.slice (some ⟨b, off, none⟩) 67 x1), .is (.pointer (some ⟨b, off + 66, none⟩)), .is (.int .i64 (u3 : Int)), .is (.int .i64 (s : Int)), .is (.int .i64 (s : Int)), .is (.bool true), .is (.bool true), .is (.bool true), .is (.bool true)]) (by kernel_rfl) rfl (by kernel_rfl) (fun i v w w' h hb => Spec.keep h hb) ⟨?_, ?_, ?_, ?_, ?_, ?_, ?_, ?_, ?_, ?_, ?_, ?_, ?_, ?_, ?_, ?_, ?_, ?_, trivial⟩ ?_
      · refine StepOKl.of ?_
        intro ac w hb hu hk
        refine ⟨wanted_none rfl, ?_⟩
        have e3 : ac.eval (.tmp 3) = .slice (some ⟨b, off, none⟩) 67 x1 := hu.is (t := 3) (by kernel_rfl)
        exact step_value (BigFrame.run_move (.tmp 3) rfl w) (Below.refl _ _) e3
      · refine StepOKl.of ?_
        intro ac w hb hu hk
        refine ⟨wanted_none rfl, ?_⟩
        have e26 : ac.eval (.tmp 26) = (.slice (some ⟨b, off, none⟩) 67 x1) := (hk ⟨0, .data⟩ (by simp) rfl).is rfl rfl
        refine step_value (w' := w) (v := (.pointer (some ⟨b, off + 64, none⟩))) ?_ (Below.refl _ _) rfl
        have ec0 : ac.eval (.const (Value.int IntKind.i64 64)) = Value.int IntKind.i64 64 := rfl
        generalize ac.eval = ρ at e26 ec0 ⊢
        go_simp
      · refine StepOKl.of ?_
        intro ac w hb hu hk
        refine ⟨wanted_none rfl, ?_⟩
        have e27 : ac.eval (.tmp 27) = (.pointer (some ⟨b, off + 64, none⟩)) := (hk ⟨1, .data⟩ (by simp) rfl).is rfl rfl
        have hc := HC1.out w hb
        refine step_value (w' := w) (v := .int .i64 (u1 : Int)) ?_ (Below.refl _ _) rfl
        generalize ac.eval = ρ at e27 ⊢
        go_simp
      · refine StepOKl.of ?_
        intro ac w hb hu hk
        refine ⟨wanted_none rfl, ?_⟩
        have e28 : ac.eval (.tmp 28) = (.int .i64 (u1 : Int)) := (hk ⟨2, .data⟩ (by simp) rfl).is rfl rfl
        have hw0 := HV1.out
        refine step_value (w' := w) (v := .int .i64 (v1 : Int)) ?_ (Below.refl _ _) rfl
        have ec : ac.eval (.const (.int .i64 256)) = .int .i64 256 := rfl
        generalize ac.eval = ρ at e28 ec ⊢
        go_simp
      · refine StepOKl.of ?_
        intro ac w hb hu hk
        refine ⟨wanted_none rfl, ?_⟩
        have e3 : ac.eval (.tmp 3) = .slice (some ⟨b, off, none⟩) 67 x1 := hu.is (t := 3) (by kernel_rfl)
        exact step_value (BigFrame.run_move (.tmp 3) rfl w) (Below.refl _ _) e3
      · refine StepOKl.of ?_
        intro ac w hb hu hk
        refine ⟨wanted_none rfl, ?_⟩
        have e30 : ac.eval (.tmp 30) = (.slice (some ⟨b, off, none⟩) 67 x1) := (hk ⟨4, .data⟩ (by simp) rfl).is rfl rfl
        refine step_value (w' := w) (v := (.pointer (some ⟨b, off + 65, none⟩))) ?_ (Below.refl _ _) rfl
        have ec0 : ac.eval (.const (Value.int IntKind.i64 65)) = Value.int IntKind.i64 65 := rfl
        generalize ac.eval = ρ at e30 ec0 ⊢
        go_simp
      · refine StepOKl.of ?_
        intro ac w hb hu hk
        refine ⟨wanted_none rfl, ?_⟩
        have e31 : ac.eval (.tmp 31) = (.pointer (some ⟨b, off + 65, none⟩)) := (hk ⟨5, .data⟩ (by simp) rfl).is rfl rfl
        have hc := HC2.out w hb
        refine step_value (w' := w) (v := .int .i64 (u2 : Int)) ?_ (Below.refl _ _) rfl
        generalize ac.eval = ρ at e31 ⊢
        go_simp
      · refine StepOKl.of ?_
        intro ac w hb hu hk
        refine ⟨wanted_none rfl, ?_⟩
        have e32 : ac.eval (.tmp 32) = (.int .i64 (u2 : Int)) := (hk ⟨6, .data⟩ (by simp) rfl).is rfl rfl
        have hw0 := HV2.out
        refine step_value (w' := w) (v := .int .i64 (v2 : Int)) ?_ (Below.refl _ _) rfl
        have ec : ac.eval (.const (.int .i64 16)) = .int .i64 16 := rfl
        generalize ac.eval = ρ at e32 ec ⊢
        go_simp
      · refine StepOKl.of ?_
        intro ac w hb hu hk
        refine ⟨wanted_none rfl, ?_⟩
        have e29 : ac.eval (.tmp 29) = (.int .i64 (v1 : Int)) := (hk ⟨3, .data⟩ (by simp) rfl).is rfl rfl
        have e33 : ac.eval (.tmp 33) = (.int .i64 (v2 : Int)) := (hk ⟨7, .data⟩ (by simp) rfl).is rfl rfl
        have hw0 := HV3.out
        refine step_value (w' := w) (v := .int .i64 (v3 : Int)) ?_ (Below.refl _ _) rfl
        generalize ac.eval = ρ at e29 e33 ⊢
        go_simp
      · refine StepOKl.of ?_
        intro ac w hb hu hk
        refine ⟨wanted_none rfl, ?_⟩
        have e3 : ac.eval (.tmp 3) = .slice (some ⟨b, off, none⟩) 67 x1 := hu.is (t := 3) (by kernel_rfl)
        exact step_value (BigFrame.run_move (.tmp 3) rfl w) (Below.refl _ _) e3
      · refine StepOKl.of ?_
        intro ac w hb hu hk
        refine ⟨wanted_none rfl, ?_⟩
        have e35 : ac.eval (.tmp 35) = (.slice (some ⟨b, off, none⟩) 67 x1) := (hk ⟨9, .data⟩ (by simp) rfl).is rfl rfl
        refine step_value (w' := w) (v := (.pointer (some ⟨b, off + 66, none⟩))) ?_ (Below.refl _ _) rfl
        have ec0 : ac.eval (.const (Value.int IntKind.i64 66)) = Value.int IntKind.i64 66 := rfl
        generalize ac.eval = ρ at e35 ec0 ⊢
        go_simp
      · refine StepOKl.of ?_
        intro ac w hb hu hk
        refine ⟨wanted_none rfl, ?_⟩
        have e36 : ac.eval (.tmp 36) = (.pointer (some ⟨b, off + 66, none⟩)) := (hk ⟨10, .data⟩ (by simp) rfl).is rfl rfl
        have hc := HC3.out w hb
        refine step_value (w' := w) (v := .int .i64 (u3 : Int)) ?_ (Below.refl _ _) rfl
        generalize ac.eval = ρ at e36 ⊢
        go_simp
      · refine StepOKl.of ?_
        intro ac w hb hu hk
        refine ⟨wanted_none rfl, ?_⟩
        have e34 : ac.eval (.tmp 34) = (.int .i64 (v3 : Int)) := (hk ⟨8, .data⟩ (by simp) rfl).is rfl rfl
        have e37 : ac.eval (.tmp 37) = (.int .i64 (u3 : Int)) := (hk ⟨11, .data⟩ (by simp) rfl).is rfl rfl
        have hw0 := HV4.out
        refine step_value (w' := w) (v := .int .i64 (s : Int)) ?_ (Below.refl _ _) rfl
        generalize ac.eval = ρ at e34 e37 ⊢
        go_simp
      · refine StepOKl.of ?_
        intro ac w hb hu hk
        refine ⟨wanted_none rfl, ?_⟩
        have e4 : ac.eval (.tmp 4) = .int .i64 (s : Int) := hu.is (t := 4) (by kernel_rfl)
        exact step_value (BigFrame.run_move (.tmp 4) rfl w) (Below.refl _ _) e4
      · refine StepOKl.of ?_
        intro ac w hb hu hk
        refine ⟨wanted_none rfl, ?_⟩
        have e38 : ac.eval (.tmp 38) = (.int .i64 (s : Int)) := (hk ⟨12, .data⟩ (by simp) rfl).is rfl rfl
        have e39 : ac.eval (.tmp 39) = (.int .i64 (s : Int)) := (hk ⟨13, .data⟩ (by simp) rfl).is rfl rfl
        refine step_value (w' := w) (v := (.bool true)) ?_ (Below.refl _ _) rfl
        generalize ac.eval = ρ at e38 e39 ⊢
        go_simp
      · refine StepOKl.of ?_
        intro ac w hb hu hk
        refine ⟨wanted_none rfl, ?_⟩
        have e40 : ac.eval (.tmp 40) = (.bool true) := (hk ⟨14, .data⟩ (by simp) rfl).is rfl rfl
        exact step_value (BigFrame.run_move (.tmp 40) rfl w) (Below.refl _ _) e40
      · refine StepOKl.of ?_
        intro ac w hb hu hk
        refine ⟨wanted_some rfl (hk ⟨15, .chain⟩ (by simp) rfl) rfl rfl (fun _ h => h), ?_⟩
        have ef : ac.eval (.func 17) = .func (.func 17) #[] #[] := rfl
        refine step_enter (f := 17) (args := #[]) ?_ ?_
        · generalize ac.eval = ρ at  ef ⊢
          go_simp
        · exact (HWK.out w hb).mono fun e w' ⟨he, hq⟩ => ⟨_, he, rfl, hq⟩
      · refine StepOKl.of ?_
        intro ac w hb hu hk
        refine ⟨wanted_none rfl, ?_⟩
        have e41 : ac.eval (.tmp 41) = (.bool true) := (hk ⟨15, .data⟩ (by simp) rfl).is rfl rfl
        have e42 : ac.eval (.tmp 42) = (.bool true) := (hk ⟨16, .data⟩ (by simp) rfl).is rfl rfl
        exact step_value (run_pick_true e41 rfl w) (Below.refl _ _) e42
      · intro ac w' hb hu hk hap
        obtain ⟨_, h26, rfl⟩ := (hk 0 (by decide)).put rfl rfl
        obtain ⟨_, h27, rfl⟩ := (hk 1 (by decide)).put rfl rfl
        obtain ⟨_, h28, rfl⟩ := (hk 2 (by decide)).put rfl rfl
        obtain ⟨_, h29, rfl⟩ := (hk 3 (by decide)).put rfl rfl
        obtain ⟨_, h30, rfl⟩ := (hk 4 (by decide)).put rfl rfl
        obtain ⟨_, h31, rfl⟩ := (hk 5 (by decide)).put rfl rfl
        obtain ⟨_, h32, rfl⟩ := (hk 6 (by decide)).put rfl rfl
        obtain ⟨_, h33, rfl⟩ := (hk 7 (by decide)).put rfl rfl
        obtain ⟨_, h34, rfl⟩ := (hk 8 (by decide)).put rfl rfl
        obtain ⟨_, h35, rfl⟩ := (hk 9 (by decide)).put rfl rfl
        obtain ⟨_, h36, rfl⟩ := (hk 10 (by decide)).put rfl rfl
        obtain ⟨_, h37, rfl⟩ := (hk 11 (by decide)).put rfl rfl
        obtain ⟨_, h38, rfl⟩ := (hk 12 (by decide)).put rfl rfl
        obtain ⟨_, h39, rfl⟩ := (hk 13 (by decide)).put rfl rfl
        obtain ⟨_, h40, rfl⟩ := (hk 14 (by decide)).put rfl rfl
        obtain ⟨_, h41, rfl⟩ := (hk 15 (by decide)).put rfl rfl
        obtain ⟨_, h42, rfl⟩ := (hk 16 (by decide)).put rfl rfl
        obtain ⟨_, h43, rfl⟩ := (hk 17 (by decide)).put rfl rfl
        clear hap
        have hF : AllPuts ac.tmps ((26, _) :: (27, _) :: (28, _) :: (29, _) :: (30, _) :: (31, _) :: (32, _) :: (33, _) :: (34, _) :: (35, _) :: (36, _) :: (37, _) :: (38, _) :: (39, _) :: (40, _) :: (41, _) :: (42, _) :: (43, _) :: []) := ⟨h26, h27, h28, h29, h30, h31, h32, h33, h34, h35, h36, h37, h38, h39, h40, h41, h42, h43, trivial⟩
        obtain rfl := frame_puts hu (by kernel_rfl) hF
        simp only [puts, Act.put, List.setIfInBounds_toArray, List.set_cons_zero, List.set_cons_succ, List.drop_succ_cons, List.drop_zero]
        clear hk hu hF h26 h27 h28 h29 h30 h31 h32 h33 h34 h35 h36 h37 h38 h39 h40 h41 h42 h43
        have HBE := Lib.hid (HBZ.out.trans (hb.mono HBZ.out.size))
        clear hb
        go_wp2_with fail
        go_ret
        exact ⟨rfl, HBE.out⟩

set_option maxRecDepth 100000 in
theorem contract (H : Type) (enc : TypeId × Value → H) (W : World) (base : Nat) (args : Array Value) (ds gs : List (DataW H)) (before : List MemPlace)
    (hval : ∀ (j : Nat) t v, Tryd.f4.params[j]? = some t → args[j]? = some v → Value.okWide Tryd.prog W .any base t v)
    (hW : DataW.Whole enc Tryd.prog Tryd.f4.params.toList Rows.wotsDigitsSpec.vars false W args.toList ds gs before) (hL : laidMetH Tryd.prog Rows.wotsDigitsRow.laid W) :
    Calls Tryd.prog 4 args W fun e W' => ∃ v, e = .returned v ∧ Rows.wotsDigitsSpec.post enc Tryd.prog Tryd.f4 false true false false W args v W' := by
  have hW' := hW
  obtain ⟨p, q, hA0, hV, rfl, hfz, hnd⟩ := hW
  have hA : DataW.TrodAll enc Tryd.prog W 0 (fun _ => true) true Tryd.f4.params.toList args.toList ds p := hA0
  rw [Tryd.params4] at hA hval
  obtain ⟨v0, d0, rfl, rfl, h0⟩ := trodAll_one hA
  obtain ⟨rfl, rfl⟩ := trodVars_none hV
  obtain ⟨A0, m0, c0, l0, rfl, hl0, hc0, hm0, hr0⟩ := open_bytes (hval 0 24 v0 rfl rfl) h0
  clear hA0
  refine (walk A0 m0 c0 l0 W hl0 hc0 hm0 hr0 (pow10 hL)).mono fun e W' ⟨he, hb⟩ => ?_
  exact ⟨_, he, law_post hW' rfl (by kernel_rfl) rfl (by kernel_rfl) hb⟩

theorem laid_met (os : Os) : laidMet Tryd.prog Rows.wotsDigitsRow.laid ((laidWorld os).forCall (fun _ _ => 0) ⟨#[], #[.slice none 0 0], []⟩).memory :=
  laidMet_of_run' 8 (by kernel_rfl) (by kernel_rfl)
theorem reads (os : Os) {H : Type} (enc : TypeId × Value → H) : ∃ places, DataW.whole enc Tryd.prog ((laidWorld os).forCall (fun _ _ => 0) ⟨#[], #[.slice none 0 0], []⟩).memory Tryd.f4.params.toList Rows.wotsDigitsSpec.vars false #[Value.slice none 0 0].toList 8 = some ([.nil], [], places) :=
  ⟨[], by kernel_rfl⟩

set_option maxRecDepth 100000 in
theorem lifted (os : Os) (started : os.Started) (H : Type) (enc : TypeId × Value → H) (F : Stop.Interp) :
    ReturnsInHanded {} Tryd.checked os 4 .any ((OpenSpec.ofChange Rows.wotsDigitsSpec).preRow enc Tryd.prog Tryd.f4 Rows.wotsDigitsRow.domain false Rows.wotsDigitsRow.laid) (((OpenSpec.ofChange Rows.wotsDigitsSpec).at F).post enc Tryd.prog Tryd.f4 false true false false) := by
  obtain ⟨places, hx⟩ := reads os enc
  refine returnsInHanded_of_row (C := Tryd.checked) (s := OpenSpec.ofChange Rows.wotsDigitsSpec) own started (by kernel_rfl) Tryd.func4
    (witness_row_at (enc := enc) (C := Tryd.checked) false (laidWorld os) #[.slice none 0 0] rfl (by kernel_rfl) (by kernel_rfl) (by kernel_rfl)
      (OpenSpec.preRow_of_cond 8 hx (by kernel_rfl) (fun k hk => by cases hk) (by kernel_rfl) (laid_met os))) ?_
  intro W base args ds gs before hval hW _ _ _ hL _ _
  exact contract H enc W base args ds gs before hval hW hL

theorem said : Rows.WotsDigitsSaid :=
  OpenClaim.holds_of_cond 4 Tryd.f4 rfl rfl rfl rfl rfl rfl rfl ⟨rfl, rfl, rfl, rfl, rfl⟩ rfl rfl rfl rfl rfl (by kernel_rfl) Tryd.func4 (by kernel_rfl)
    (of_decide_eq_true (by kernel_rfl)) (by unfold Func.isWrapper; first | (rw [if_pos (by decide +kernel)]; kernel_rfl) | (rw [if_neg (by decide +kernel)]; exact ⟨rfl, rfl⟩))
    (fun os started H enc _ F => by rw [OpenClaim.pre_eq_preRow]; exact lifted os started H enc F)

theorem plain (f : FuncId) (fn : Func) (hf : Tryd.pinned.checked.prog.funcNamed "aumbry/aumbrylaw08.WotsDigits" = some f) (hfn : Tryd.pinned.checked.prog.funcs[f]? = some fn) :
    false = Tryd.pinned.checked.prog.looks [] ∧ ∀ (j : Nat) t, fn.params[j]? = some t → Tryd.pinned.checked.prog.wantsStandIn t = false := by
  obtain rfl : f = 4 := Option.some.inj ((show Tryd.prog.funcNamed "aumbry/aumbrylaw08.WotsDigits" = some 4 by kernel_rfl).symm.trans hf) |>.symm
  obtain rfl : fn = Tryd.f4 := (Option.some.inj (Tryd.func4.symm.trans hfn)).symm
  refine ⟨by kernel_rfl, fun j t ht => ?_⟩
  exact wants_none (by kernel_rfl) (Array.mem_of_getElem? ht)

/-- The card: the statement holds, its listed tables tied to the program's text. -/
theorem card : Rows.WotsDigitsCardSaid :=
  Claim7.holds_tied_plain_at .later [] _ _ _ _ said (fun _ h => by cases h) (by kernel_rfl) (fun _ h => by cases h) wotsDigits_row_tie rfl ⟨rfl, rfl⟩ (by kernel_rfl) rfl plain (by kernel_rfl)
end Go.Proofs.YtciflbkgfmbfdaaDoor.wotsDigits
