/- TreeProofs: the hashes beside a leaf's way; of what is no leaf there are none. For all leaves and places. -/
import Derived.Test.YtpfhhbfjemmkaaaDoorLaw7
import Derived.Test.YtpfhhbfjemmkaaaDoorPTAll
namespace Go.Proofs.YtpfhhbfjemmkaaaDoor.treeProofs
open Go.ChangeShapes Go.WideShapes Go.ChangeAt Go.RowKit

set_option maxRecDepth 100000 in
set_option maxHeartbeats 8000000 in
theorem walk (A : Option Addr) (m c : Nat) (l : List (List UInt8)) (i : Int) (w : World) (hl : l.length = m) (hc : m ≤ c) (hz : ∀ r ∈ l, r.length = 32) (hr : RdH w w.heap.size A l) (hi0 : -9223372036854775808 ≤ i) (hi1 : i ≤ 9223372036854775807) (htab : Pow10 w.heap.size w) :
    Calls Tryd.prog 6 #[.slice A m c, .int .i64 i] w fun e w' => e = .returned (.bool true) ∧ Below w.heap.size w w' := by
  obtain ⟨z, ks, hcut, hkz, hz20, hzc, hkl, hkr⟩ := cut7 A m c 20 20 rfl l w hl hc hz hr
  have HCUT := Lib.hid hcut
  have HT := Lib.hid htab
  by_cases hno : i < 0 ∨ (z : Int) ≤ i
  · have HP := Lib.hid (pproof_no i A z c w hno)
    by_cases h0 : i < 0
    · clear hno hcut hl hc hz hr htab hkz hkl hkr
      go_enter Tryd.func6, Tryd.ntmps6
      go_wp2_with fail
      with_reducible refine (HCUT.out _).mono ?_
      rintro e wx ⟨rfl, rfl⟩
      go_wp2_with fail
      with_reducible refine (HP.out).mono ?_
      rintro e w1 ⟨rfl, hb1⟩
      have HB := Lib.hid hb1
      have HW := Lib.hid (wakes7_any w1 (tab_in HT.out hb1))
      clear hb1 HP
      go_wp2_with fail
      with_reducible refine (HW.out).mono ?_
      rintro e w2 ⟨rfl, hb2⟩
      have HB2 := Lib.hid (HB.out.trans (hb2.mono HB.out.size))
      clear hb2
      go_wp2_with fail
      go_ret
      exact ⟨rfl, HB2.out⟩
    · have h2 : (z : Int) ≤ i := by omega
      clear hno hcut hl hc hz hr htab hkz hkl hkr
      go_enter Tryd.func6, Tryd.ntmps6
      go_wp2_with fail
      with_reducible refine (HCUT.out _).mono ?_
      rintro e wx ⟨rfl, rfl⟩
      go_wp2_with fail
      with_reducible refine (HP.out).mono ?_
      rintro e w1 ⟨rfl, hb1⟩
      have HB := Lib.hid hb1
      have HW := Lib.hid (wakes7_any w1 (tab_in HT.out hb1))
      clear hb1 HP
      go_wp2_with fail
      with_reducible refine (HW.out).mono ?_
      rintro e w2 ⟨rfl, hb2⟩
      have HB2 := Lib.hid (HB.out.trans (hb2.mono HB.out.size))
      clear hb2
      go_wp2_with fail
      go_ret
      exact ⟨rfl, HB2.out⟩
  · obtain ⟨j, rfl⟩ : ∃ j : Nat, i = (j : Int) := ⟨i.toNat, by omega⟩
    have hjz : j < z := by omega
    have hj0 : ¬ (j : Int) < 0 := by omega
    have hji : ¬ (z : Int) ≤ (j : Int) := by omega
    have HP := Lib.hid (pproof_yes A z c j ks w hkz (by omega) hjz hkl hkr htab)
    have HR := Lib.hid (fun W (h : Below w.heap.size w W) => (show Calls Tryd.prog 29 #[.int .i64 (j : Int), .slice A z c] W fun e w' => ∃ v, e = .returned v ∧ OwnH w' W.heap.size v (proofV ks j) ∧ Below W.heap.size W w' from by
      have h := rproof7_any A z c j ks W hkz (by omega) hjz hkl (hkr.on h)
      unfold proofV
      rw [hkz]
      exact h))
    have HL := Lib.hid (show (proofV ks j).length ≤ 100000 by
      rw [proofV_len, hkz]
      have := tree.high_least 5 z (by omega)
      omega)
    clear hno hcut hl hc hz hr htab hkz hkl hkr
    generalize proofV ks j = ps at *
    obtain ⟨np, hnp⟩ : ∃ n, ps.length = n := ⟨_, rfl⟩
    go_enter Tryd.func6, Tryd.ntmps6
    go_wp2_with fail
    with_reducible refine (HCUT.out _).mono ?_
    rintro e wx ⟨rfl, rfl⟩
    go_wp2_with fail
    with_reducible refine (HP.out).mono ?_
    rintro e w1 ⟨v1, rfl, hown1, hb1⟩
    obtain ⟨A1, c1, rfl, _, _⟩ := hown1.form hnp
    have HV1 := Lib.hid hown1.hv
    have HB := Lib.hid hb1
    have HR1 := Lib.hid (HR.out w1 hb1)
    clear hb1 hown1 HP HR
    go_wp2_with fail
    with_reducible refine (HR1.out).mono ?_
    rintro e w2 ⟨v2, rfl, hown2, hb2⟩
    obtain ⟨A2, c2, rfl, _, _⟩ := hown2.form hnp
    have HS := Lib.hid (show Calls Tryd.prog 22 #[.slice A1 np c1, .slice A2 np c2] w2 fun e w' => e = .returned (.bool true) ∧ Below w2.heap.size w2 w' by
      have h := ksame7_any (HV1.out.on hb2) hown2.hv HL.out
      rw [decide_eq_true rfl] at h
      exact h)
    have HB2 := Lib.hid (HB.out.trans (hb2.mono HB.out.size))
    clear hb2 hown2 HB HR1 HV1
    go_wp2_with fail
    with_reducible refine (HS.out).mono ?_
    rintro e w3 ⟨rfl, hb3⟩
    have hb03 := HB2.out.trans (hb3.mono HB2.out.size)
    have HB3 := Lib.hid hb03
    have HW := Lib.hid (wakes7_any w3 (tab_in HT.out hb03))
    clear hb3 hb03 HB2 HS
    go_wp2_with fail
    with_reducible refine (HW.out).mono ?_
    rintro e w4 ⟨rfl, hb4⟩
    have HB4 := Lib.hid (HB3.out.trans (hb4.mono HB3.out.size))
    clear hb4 HB3
    go_wp2_with fail
    go_ret
    exact ⟨rfl, HB4.out⟩

set_option maxRecDepth 100000 in
theorem contract (H : Type) (enc : TypeId × Value → H) (W : World) (base : Nat) (args : Array Value) (ds gs : List (DataW H)) (before : List MemPlace)
    (hval : ∀ (j : Nat) t v, Tryd.f6.params[j]? = some t → args[j]? = some v → Value.okWide Tryd.prog W .any base t v)
    (hW : DataW.Whole enc Tryd.prog Tryd.f6.params.toList Rows.treeProofsSpec.vars false W args.toList ds gs before) (hL : laidMetH Tryd.prog Rows.treeProofsRow.laid W) :
    Calls Tryd.prog 6 args W fun e W' => ∃ v, e = .returned v ∧ Rows.treeProofsSpec.post enc Tryd.prog Tryd.f6 false true false false W args v W' := by
  have hW' := hW
  obtain ⟨p, q, hA0, hV, rfl, hfz, hnd⟩ := hW
  have hA : DataW.TrodAll enc Tryd.prog W 0 (fun _ => true) true Tryd.f6.params.toList args.toList ds p := hA0
  rw [Tryd.params6] at hA hval
  obtain ⟨v0, v1, d0, d1, p0, p1, rfl, rfl, rfl, h0, h1⟩ := trodAll_two hA
  obtain ⟨rfl, rfl⟩ := trodVars_none hV
  obtain ⟨A0, m0, c0, l0, rfl, hl0, hc0, hm0, hz0, hr0⟩ := open_hashes (hval 0 23 v0 rfl rfl) h0
  obtain ⟨n1, rfl, rfl, rfl, wf1⟩ := open_int Tryd.underlying3 (hval 1 3 v1 rfl rfl) h1
  have b1 := bounds_i64 wf1
  clear hA0
  refine (walk A0 m0 c0 l0 n1 W hl0 hc0 hz0 hr0 b1.1 b1.2 (pow10 hL)).mono fun e W' ⟨he, hb⟩ => ?_
  exact ⟨_, he, law_post hW' rfl (by kernel_rfl) rfl (by kernel_rfl) hb⟩

theorem laid_met (os : Os) : laidMet Tryd.prog Rows.treeProofsRow.laid ((laidWorld os).forCall (fun _ _ => 0) ⟨#[], #[.slice none 0 0, .int .i64 0], []⟩).memory :=
  laidMet_of_run' 8 (by kernel_rfl) (by kernel_rfl)
theorem reads (os : Os) {H : Type} (enc : TypeId × Value → H) : ∃ places, DataW.whole enc Tryd.prog ((laidWorld os).forCall (fun _ _ => 0) ⟨#[], #[.slice none 0 0, .int .i64 0], []⟩).memory Tryd.f6.params.toList Rows.treeProofsSpec.vars false #[Value.slice none 0 0, Value.int .i64 0].toList 8 = some ([.nil, .lit (.int .i64 0)], [], places) :=
  ⟨[], by kernel_rfl⟩

set_option maxRecDepth 100000 in
theorem lifted (os : Os) (started : os.Started) (H : Type) (enc : TypeId × Value → H) (F : Stop.Interp) :
    ReturnsInHanded {} Tryd.checked os 6 .any ((OpenSpec.ofChange Rows.treeProofsSpec).preRow enc Tryd.prog Tryd.f6 Rows.treeProofsRow.domain false Rows.treeProofsRow.laid) (((OpenSpec.ofChange Rows.treeProofsSpec).at F).post enc Tryd.prog Tryd.f6 false true false false) := by
  obtain ⟨places, hx⟩ := reads os enc
  refine returnsInHanded_of_row (C := Tryd.checked) (s := OpenSpec.ofChange Rows.treeProofsSpec) own started (by kernel_rfl) Tryd.func6
    (witness_row_at (enc := enc) (C := Tryd.checked) false (laidWorld os) #[.slice none 0 0, .int .i64 0] rfl (by kernel_rfl) (by kernel_rfl) (by kernel_rfl)
      (OpenSpec.preRow_of_cond 8 hx (by kernel_rfl) (fun k hk => by cases hk) (by kernel_rfl) (laid_met os))) ?_
  intro W base args ds gs before hval hW _ _ _ hL _ _
  exact contract H enc W base args ds gs before hval hW hL

theorem said : Rows.TreeProofsSaid :=
  OpenClaim.holds_of_cond 6 Tryd.f6 rfl rfl rfl rfl rfl rfl rfl ⟨rfl, rfl, rfl, rfl, rfl⟩ rfl rfl rfl rfl rfl (by kernel_rfl) Tryd.func6 (by kernel_rfl)
    (of_decide_eq_true (by kernel_rfl)) (by unfold Func.isWrapper; first | (rw [if_pos (by decide +kernel)]; kernel_rfl) | (rw [if_neg (by decide +kernel)]; exact ⟨rfl, rfl⟩))
    (fun os started H enc _ F => by rw [OpenClaim.pre_eq_preRow]; exact lifted os started H enc F)

theorem plain (f : FuncId) (fn : Func) (hf : Tryd.pinned.checked.prog.funcNamed "aumbry/aumbrylaw07.TreeProofs" = some f) (hfn : Tryd.pinned.checked.prog.funcs[f]? = some fn) :
    false = Tryd.pinned.checked.prog.looks [] ∧ ∀ (j : Nat) t, fn.params[j]? = some t → Tryd.pinned.checked.prog.wantsStandIn t = false := by
  obtain rfl : f = 6 := Option.some.inj ((show Tryd.prog.funcNamed "aumbry/aumbrylaw07.TreeProofs" = some 6 by kernel_rfl).symm.trans hf) |>.symm
  obtain rfl : fn = Tryd.f6 := (Option.some.inj (Tryd.func6.symm.trans hfn)).symm
  refine ⟨by kernel_rfl, fun j t ht => ?_⟩
  exact wants_none (by kernel_rfl) (Array.mem_of_getElem? ht)

/-- The card: the statement holds, its listed tables tied to the program's text. -/
theorem card : Rows.TreeProofsCardSaid :=
  Claim7.holds_tied_plain_at .later [] _ _ _ _ said (fun _ h => by cases h) (by kernel_rfl) (fun _ h => by cases h) treeProofs_row_tie rfl ⟨rfl, rfl⟩ (by kernel_rfl) rfl plain (by kernel_rfl)
end Go.Proofs.YtpfhhbfjemmkaaaDoor.treeProofs
