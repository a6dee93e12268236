/- CapsPrints: a capability's text, or that there is none, is what the document says. For all capabilities. -/
import Derived.Test.YtkmbieljmippnaaDoorLaw
import Derived.Test.YtkmbieljmippnaaDoorCapY
import Derived.Test.YtkmbieljmippnaaDoorCapQ
import Derived.Deep.CutRange
namespace Go.Proofs.YtkmbieljmippnaaDoor.capsPrints
open Go.ChangeShapes Go.WideShapes Go.ChangeAt Go.RowKit

set_option maxRecDepth 100000 in
set_option maxHeartbeats 16000000 in
theorem walk (c0 : Cap13) (A0 : Option Addr) (m0 k0 : Nat) (t1 : Bool) (w : World) (hw0 : c0.wf) (hb0 : c0.bd) (hl0 : c0.lit.length = m0) (hc0 : m0 ≤ k0) (hr0 : Rd w w.heap.size A0 c0.lit) (htab : Pow10 w.heap.size w) :
    Calls Tryd.prog 8 #[.agg (capA c0 (.slice A0 m0 k0)), .bool t1] w fun e w' => e = .returned (.bool true) ∧ Below w.heap.size w w' := by
  have HT := Lib.hid htab
  obtain ⟨CX, hCX⟩ : ∃ x, capA c0 (.slice A0 m0 k0) = x := ⟨_, rfl⟩
  have HCX := Lib.hid hCX
  have hst := CapW.start hw0 hl0 hc0 hr0 hCX
  have HR0 := Lib.hid hr0
  obtain ⟨C1, hC1⟩ : ∃ x, capA (cut13 c0) (.slice A0 (min m0 80) k0) = x := ⟨_, rfl⟩
  have HC1 := Lib.hid hC1
  have HCUT := Lib.hid (fun (W : World) => (show Calls Tryd.prog 23 #[.agg CX] W fun e w' => e = .returned (.agg C1) ∧ Below W.heap.size W w' from by
    rw [← hCX, ← hC1]
    exact cut13_any hw0 hc0))
  have HS1 := Lib.hid (show C1.size = 53 ∧ CX.size = 53 ∧ C1.all (·.oneCell') = true by rw [← hC1, ← hCX]; exact ⟨capA_size (cut13_wf hw0) _, capA_size hw0 _, capA_one⟩)
  have HBD := Lib.hid (And.intro (cut13_wf hw0) (cut13_bd hb0))
  have HM0 := Lib.hid (show min m0 80 ≤ 1000000 by omega)
  rw [hCX]
  clear htab hCX hC1 hw0 hb0 hl0 hc0 hr0
  go_enter Tryd.func8, Tryd.ntmps8
  go_upto_region 1 with fail
  obtain ⟨g, hg⟩ : ∃ g, w.heap.size = g := ⟨_, rfl⟩
  have HG := Lib.hid hg
  rw [hg] at hst ⊢
  generalize w.alloc (.cells CX 28) = w1 at *
  have H1 := Lib.hid hst
  clear hst hg
  have hcut : ∀ w2, Below w1.heap.size w1 w2 → CapW w (w2.setRow g C1) g (cut13 c0) A0 (min m0 80) k0 ∧ Blk w2 g CX 28 := fun w2 hb => ⟨(H1.out.below hb).cut HR0.out HC1.out, HCX.out ▸ (H1.out.below hb).cap.blk⟩
  have HCT := Lib.hid hcut
  clear hcut
  go_upto_region 2 with (first
    | (refine wpList_load_capC ?_ (.tmp 2) rfl g rfl H1.out.cap HCX.out ?_; · rfl)
    | (with_reducible refine (HCUT.out _).mono ?_; rintro e w2 ⟨rfl, hb2⟩)
    | (with_reducible refine wpList_store_blkTo rfl 28 (.tmp 2) (.tmp 10) rfl rfl g C1 rfl rfl 28 CX (HCT.out _ (by assumption)).2 (by rw [HS1.out.1]; kernel_rfl) (by rw [HS1.out.1, HS1.out.2.1]) HS1.out.2.2 ?_))
  have H2 := Lib.hid (HCT.out _ hb2).1
  clear hb2 HCT HCUT H1
  generalize w2.setRow g C1 = w3 at *
  cases t1
  · have H3 := H2
    have HSM := HM0
    have HCD := HC1
    clear H2 HM0 HC1
    generalize cut13 c0 = d at *
    generalize min m0 80 = n' at *
    generalize A0 = A' at *
    generalize k0 = cc' at *
    generalize C1 = CD at *
    obtain ⟨T, E, hPV⟩ : ∃ T E, printV d = .tuple #[.string T, .int .i64 E] := by
      unfold printV
      split
      · exact ⟨_, _, rfl⟩
      · exact ⟨_, _, rfl⟩
    have HPV := Lib.hid hPV
    clear hPV
    go_upto_region 4 with fail

    have HPP := Lib.hid (fun (W : World) (hW : Below w3.heap.size w3 W) => (show Calls Tryd.prog 13 #[.agg CD] W fun e w' => e = .returned (.tuple #[.string T, .int .i64 E]) ∧ Below W.heap.size W w' from by
      have h := pprint_any (w := W) (A := A') (n := n') (cc := cc') H3.out.cap.wf H3.out.len HSM.out (H3.out.lit.on hW) (tab_on HT.out (H3.out.bel.trans (hW.mono H3.out.bel.size)) (Nat.le_trans H3.out.bel.size hW.size))
      rw [HCD.out, HPV.out] at h
      exact h))
    have HPR := Lib.hid (fun (W : World) (hW : Below w3.heap.size w3 W) => (show Calls Tryd.prog 40 #[.agg CD] W fun e w' => e = .returned (.tuple #[.string T, .int .i64 E]) ∧ Below W.heap.size W w' from by
      have h := rprint_any (w := W) (A := A') (n := n') (cc := cc') H3.out.cap.wf H3.out.len HSM.out (H3.out.lit.on hW)
      rw [HCD.out, HPV.out] at h
      exact h))
    have HWK := Lib.hid (fun (W : World) (hW : Below w3.heap.size w3 W) => wakes13_any W (tab_on HT.out (H3.out.bel.trans (hW.mono H3.out.bel.size)) (Nat.le_trans H3.out.bel.size hW.size)))
    go_upto_region 5 with (first
      | (refine wpList_load_capC ?_ (.tmp 2) rfl g rfl H3.out.cap HCD.out ?_; · rfl)
      | (with_reducible refine (HPP.out _ (Below.refl _ _)).mono ?_; rintro e w7 ⟨rfl, hb7⟩))
    have H7 := Lib.hid (show CapAt w7 g d (.slice A' n' cc') ∧ Below w3.heap.size w3 w7 from ⟨H3.out.cap.below hb7, hb7⟩)
    clear hb7
    go_upto_region 6 with (first
      | (refine wpList_load_capC ?_ (.tmp 2) rfl g rfl H7.out.1 HCD.out ?_; · rfl)
      | (with_reducible refine (HPR.out _ H7.out.2).mono ?_; rintro e w8 ⟨rfl, hb8⟩))
    have HB8 := Lib.hid (H7.out.2.trans (hb8.mono H7.out.2.size))
    clear hb8 H7 HPP HPR
    have e1 : (T.toList == T.toList) = true := beq_self_eq_true _
    have e2 : (E == E) = true := beq_self_eq_true _
    go_wp2_with (first | (with_reducible refine (HWK.out _ HB8.out).mono ?_; rintro e w10 ⟨rfl, hb10⟩))
    have hfin := H3.out.bel.trans ((HB8.out.trans (hb10.mono HB8.out.size)).mono H3.out.bel.size)
    clear hb10
    go_wp2_with fail
    go_ret
    exact ⟨rfl, by first | exact hfin | (rw [← HG.out]; exact hfin)⟩
  · obtain ⟨c1, hc1⟩ : ∃ x, cut13 c0 = x := ⟨_, rfl⟩
    obtain ⟨n1, hn1⟩ : ∃ x, min m0 80 = x := ⟨_, rfl⟩
    rw [hc1, hn1] at H2 HC1
    rw [hc1] at HBD
    clear hc1 hn1 HM0
    have HMK := Lib.hid (show Calls Tryd.prog 12 #[.agg C1] w3 fun e w' => (∃ v, e = .returned v ∧ CapV w' w3.heap.size v (mk13 c1)) ∧ Below w3.heap.size w3 w' from by
      rw [← HC1.out]
      exact mk13_any HBD.out.1 HBD.out.2 H2.out.len H2.out.room H2.out.lit)
    have HOK := Lib.hid (mk13_ok c1)
    generalize mk13 c1 = d at *
    go_upto_region 4 with (first
      | (refine wpList_load_capC ?_ (.tmp 2) rfl g rfl H2.out.cap HC1.out ?_; · rfl)
      | ((with_reducible refine HMK.out.mono ?_); rintro e w4 ⟨⟨v, rfl, hv⟩, hb4⟩; obtain ⟨hwf, A', n', cc', rfl, hln, hrm, hrd, hla⟩ := hv; obtain ⟨CD, hCD⟩ : ∃ x, capA d (.slice A' n' cc') = x := ⟨_, rfl⟩; rw [hCD]; have HCD := Lib.hid hCD; have HX4 := Lib.hid (show Blk w4 g C1 28 from HC1.out ▸ (H2.out.below hb4).cap.blk); have H3 := Lib.hid (H2.out.made hb4 hwf hln hrm hrd hla hCD); have HS4 := Lib.hid (show CD.size = 53 ∧ CD.all (·.oneCell') = true by rw [← hCD]; exact ⟨capA_size hwf _, capA_one⟩); have HSM := Lib.hid (ok_small HOK.out hln); clear hCD hwf hln hrm hrd hla hb4)
      | (with_reducible refine wpList_store_blkTo rfl 28 (.tmp 2) (.tmp 13) rfl rfl g CD rfl rfl 28 C1 HX4.out (by rw [HS4.out.1]; kernel_rfl) (by rw [HS4.out.1, HS1.out.1]) HS4.out.2 ?_))
    generalize w4.setRow g CD = w3 at *
    obtain ⟨T, E, hPV⟩ : ∃ T E, printV d = .tuple #[.string T, .int .i64 E] := by
      unfold printV
      split
      · exact ⟨_, _, rfl⟩
      · exact ⟨_, _, rfl⟩
    have HPV := Lib.hid hPV
    clear hPV

    have HPP := Lib.hid (fun (W : World) (hW : Below w3.heap.size w3 W) => (show Calls Tryd.prog 13 #[.agg CD] W fun e w' => e = .returned (.tuple #[.string T, .int .i64 E]) ∧ Below W.heap.size W w' from by
      have h := pprint_any (w := W) (A := A') (n := n') (cc := cc') H3.out.cap.wf H3.out.len HSM.out (H3.out.lit.on hW) (tab_on HT.out (H3.out.bel.trans (hW.mono H3.out.bel.size)) (Nat.le_trans H3.out.bel.size hW.size))
      rw [HCD.out, HPV.out] at h
      exact h))
    have HPR := Lib.hid (fun (W : World) (hW : Below w3.heap.size w3 W) => (show Calls Tryd.prog 40 #[.agg CD] W fun e w' => e = .returned (.tuple #[.string T, .int .i64 E]) ∧ Below W.heap.size W w' from by
      have h := rprint_any (w := W) (A := A') (n := n') (cc := cc') H3.out.cap.wf H3.out.len HSM.out (H3.out.lit.on hW)
      rw [HCD.out, HPV.out] at h
      exact h))
    have HWK := Lib.hid (fun (W : World) (hW : Below w3.heap.size w3 W) => wakes13_any W (tab_on HT.out (H3.out.bel.trans (hW.mono H3.out.bel.size)) (Nat.le_trans H3.out.bel.size hW.size)))
    go_upto_region 5 with (first
      | (refine wpList_load_capC ?_ (.tmp 2) rfl g rfl H3.out.cap HCD.out ?_; · rfl)
      | (with_reducible refine (HPP.out _ (Below.refl _ _)).mono ?_; rintro e w7 ⟨rfl, hb7⟩))
    have H7 := Lib.hid (show CapAt w7 g d (.slice A' n' cc') ∧ Below w3.heap.size w3 w7 from ⟨H3.out.cap.below hb7, hb7⟩)
    clear hb7
    go_upto_region 6 with (first
      | (refine wpList_load_capC ?_ (.tmp 2) rfl g rfl H7.out.1 HCD.out ?_; · rfl)
      | (with_reducible refine (HPR.out _ H7.out.2).mono ?_; rintro e w8 ⟨rfl, hb8⟩))
    have HB8 := Lib.hid (H7.out.2.trans (hb8.mono H7.out.2.size))
    clear hb8 H7 HPP HPR
    have e1 : (T.toList == T.toList) = true := beq_self_eq_true _
    have e2 : (E == E) = true := beq_self_eq_true _
    go_wp2_with (first | (with_reducible refine (HWK.out _ HB8.out).mono ?_; rintro e w10 ⟨rfl, hb10⟩))
    have hfin := H3.out.bel.trans ((HB8.out.trans (hb10.mono HB8.out.size)).mono H3.out.bel.size)
    clear hb10
    go_wp2_with fail
    go_ret
    exact ⟨rfl, by first | exact hfin | (rw [← HG.out]; exact hfin)⟩

set_option maxRecDepth 100000 in
theorem contract (H : Type) (enc : TypeId × Value → H) (W : World) (base : Nat) (args : Array Value) (ds gs : List (DataW H)) (before : List MemPlace)
    (hval : ∀ (j : Nat) t v, Tryd.f8.params[j]? = some t → args[j]? = some v → Value.okWide Tryd.prog W .any base t v)
    (hW : DataW.Whole enc Tryd.prog Tryd.f8.params.toList Rows.capsPrintsSpec.vars false W args.toList ds gs before) (hL : laidMetH Tryd.prog Rows.capsPrintsRow.laid W) :
    Calls Tryd.prog 8 args W fun e W' => ∃ v, e = .returned v ∧ Rows.capsPrintsSpec.post enc Tryd.prog Tryd.f8 false true false false W args v W' := by
  have hW' := hW
  obtain ⟨p, q, hA0, hV, rfl, hfz, hnd⟩ := hW
  have hA : DataW.TrodAll enc Tryd.prog W 0 (fun _ => true) true Tryd.f8.params.toList args.toList ds p := hA0
  rw [Tryd.params8] at hA hval
  obtain ⟨v0, v1, d0, d1, p0, p1, rfl, rfl, rfl, h0, h1⟩ := trodAll_two hA
  obtain ⟨rfl, rfl⟩ := trodVars_none hV
  obtain ⟨c0, A0, m0, k0, rfl, hw0, hb0, hl0, hc0, hm0, hr0⟩ := open_cap (hval 0 28 v0 rfl rfl) h0
  obtain ⟨t1, rfl, rfl, rfl⟩ := open_bool Tryd.underlying4 (hval 1 4 v1 rfl rfl) h1
  clear hA0
  refine (walk c0 A0 m0 k0 t1 W hw0 hb0 hl0 hc0 hr0 (pow10 hL)).mono fun e W' ⟨he, hb⟩ => ?_
  exact ⟨_, he, law_post hW' rfl (by kernel_rfl) rfl (by kernel_rfl) hb⟩

theorem laid_met (os : Os) : laidMet Tryd.prog Rows.capsPrintsRow.laid ((laidWorld os).forCall (fun _ _ => 0) ⟨#[], #[.agg (capA cap0 (.slice none 0 0)), .bool false], []⟩).memory :=
  laidMet_of_run' 8 (by kernel_rfl) (by kernel_rfl)
theorem reads (os : Os) {H : Type} (enc : TypeId × Value → H) : ∃ places, DataW.whole enc Tryd.prog ((laidWorld os).forCall (fun _ _ => 0) ⟨#[], #[.agg (capA cap0 (.slice none 0 0)), .bool false], []⟩).memory Tryd.f8.params.toList Rows.capsPrintsSpec.vars false #[Value.agg (capA cap0 (.slice none 0 0)), Value.bool false].toList 8 = some ([.agg [.lit (.int .i64 0), .agg [.lit (.int .u8 0), .lit (.int .u8 0), .lit (.int .u8 0), .lit (.int .u8 0), .lit (.int .u8 0), .lit (.int .u8 0), .lit (.int .u8 0), .lit (.int .u8 0), .lit (.int .u8 0), .lit (.int .u8 0), .lit (.int .u8 0), .lit (.int .u8 0), .lit (.int .u8 0), .lit (.int .u8 0), .lit (.int .u8 0), .lit (.int .u8 0)], .agg [.lit (.int .u8 0), .lit (.int .u8 0), .lit (.int .u8 0), .lit (.int .u8 0), .lit (.int .u8 0), .lit (.int .u8 0), .lit (.int .u8 0), .lit (.int .u8 0), .lit (.int .u8 0), .lit (.int .u8 0), .lit (.int .u8 0), .lit (.int .u8 0), .lit (.int .u8 0), .lit (.int .u8 0), .lit (.int .u8 0), .lit (.int .u8 0), .lit (.int .u8 0), .lit (.int .u8 0), .lit (.int .u8 0), .lit (.int .u8 0), .lit (.int .u8 0), .lit (.int .u8 0), .lit (.int .u8 0), .lit (.int .u8 0), .lit (.int .u8 0), .lit (.int .u8 0), .lit (.int .u8 0), .lit (.int .u8 0), .lit (.int .u8 0), .lit (.int .u8 0), .lit (.int .u8 0), .lit (.int .u8 0)], .lit (.int .i64 0), .lit (.int .i64 0), .lit (.int .i64 0), .nil], .lit (.bool false)], [], places) :=
  ⟨[], by kernel_rfl⟩

set_option maxRecDepth 100000 in
theorem lifted (os : Os) (started : os.Started) (H : Type) (enc : TypeId × Value → H) (F : Stop.Interp) :
    ReturnsInHanded {} Tryd.checked os 8 .any ((OpenSpec.ofChange Rows.capsPrintsSpec).preRow enc Tryd.prog Tryd.f8 Rows.capsPrintsRow.domain false Rows.capsPrintsRow.laid) (((OpenSpec.ofChange Rows.capsPrintsSpec).at F).post enc Tryd.prog Tryd.f8 false true false false) := by
  obtain ⟨places, hx⟩ := reads os enc
  refine returnsInHanded_of_row (C := Tryd.checked) (s := OpenSpec.ofChange Rows.capsPrintsSpec) own started (by kernel_rfl) Tryd.func8
    (witness_row_at (enc := enc) (C := Tryd.checked) false (laidWorld os) #[.agg (capA cap0 (.slice none 0 0)), .bool false] rfl (by kernel_rfl) (by kernel_rfl) (by kernel_rfl)
      (OpenSpec.preRow_of_cond 8 hx (by kernel_rfl) (fun k hk => by cases hk) (by kernel_rfl) (laid_met os))) ?_
  intro W base args ds gs before hval hW _ _ _ hL _ _
  exact contract H enc W base args ds gs before hval hW hL

theorem said : Rows.CapsPrintsSaid :=
  OpenClaim.holds_of_cond 8 Tryd.f8 rfl rfl rfl rfl rfl rfl rfl ⟨rfl, rfl, rfl, rfl, rfl⟩ rfl rfl rfl rfl rfl (by kernel_rfl) Tryd.func8 (by kernel_rfl)
    (of_decide_eq_true (by kernel_rfl)) (by unfold Func.isWrapper; first | (rw [if_pos (by decide +kernel)]; kernel_rfl) | (rw [if_neg (by decide +kernel)]; exact ⟨rfl, rfl⟩))
    (fun os started H enc _ F => by rw [OpenClaim.pre_eq_preRow]; exact lifted os started H enc F)

theorem plain (f : FuncId) (fn : Func) (hf : Tryd.pinned.checked.prog.funcNamed "aumbry/aumbrylaw13.CapsPrints" = some f) (hfn : Tryd.pinned.checked.prog.funcs[f]? = some fn) :
    true = Tryd.pinned.checked.prog.looks [] ∧ ∀ (j : Nat) t, fn.params[j]? = some t → Tryd.pinned.checked.prog.wantsStandIn t = false := by
  obtain rfl : f = 8 := Option.some.inj ((show Tryd.prog.funcNamed "aumbry/aumbrylaw13.CapsPrints" = some 8 by kernel_rfl).symm.trans hf) |>.symm
  obtain rfl : fn = Tryd.f8 := (Option.some.inj (Tryd.func8.symm.trans hfn)).symm
  refine ⟨by kernel_rfl, fun j t ht => ?_⟩
  exact wants_none (by kernel_rfl) (Array.mem_of_getElem? ht)

/-- The card: the statement holds, its listed tables tied to the program's text. -/
theorem card : Rows.CapsPrintsCardSaid :=
  Claim7.holds_tied_plain_at .later [] _ _ _ _ said (fun _ h => by cases h) (by kernel_rfl) (fun _ h => by cases h) capsPrints_row_tie rfl ⟨rfl, rfl⟩ (by kernel_rfl) rfl plain (by kernel_rfl)
end Go.Proofs.YtkmbieljmippnaaDoor.capsPrints
