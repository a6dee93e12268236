/- CodeTakes: the row at the beginning of any bytes, and what is behind it, or that there is none; just so many rows. For all bytes. -/
import Derived.Test.YtoidkaeomgglcaaDoorLaw
import Derived.Test.YtoidkaeomgglcaaDoorOpen
import Derived.Test.YtoidkaeomgglcaaDoorKeep
import Derived.Test.YtoidkaeomgglcaaDoorWakes
import Derived.Test.YtoidkaeomgglcaaDoorRTakeNets
import Derived.Test.YtoidkaeomgglcaaDoorRowsCmp
namespace Go.Proofs.YtoidkaeomgglcaaDoor.codeTakes
open Go.ChangeShapes Go.WideShapes Go.ChangeAt Go.RowKit

theorem takesL_rows : ∀ (k : Nat) (b : List UInt8) (ls : List (List UInt8)), takesL k b = some ls → ls.length = k ∧ ∀ r ∈ ls, r.length ≤ b.length
  | 0, b, ls, h => by
    rw [takesL] at h
    split at h
    · injection h with h; subst h; simp
    · cases h
  | k + 1, b, ls, h => by
    rw [takesL] at h
    cases ht : takeL b with
    | none => rw [ht] at h; cases h
    | some y =>
      rw [ht] at h
      simp only at h
      obtain ⟨x, r⟩ := y
      have hl := takeL_less ht
      cases hk : takesL k r with
      | none => rw [hk] at h; cases h
      | some ms =>
        rw [hk] at h
        simp only [Option.map_some, Option.some.injEq] at h
        subst h
        obtain ⟨h1, h2⟩ := takesL_rows k r ms hk
        refine ⟨by simp [h1], fun q hq => ?_⟩
        rcases List.mem_cons.1 hq with rfl | hq
        · exact hl.1
        · exact Nat.le_trans (h2 q hq) hl.2

theorem rows_small (N : Int) (b : List UInt8) (hN : N ≤ 8) (hb : b.length ≤ 400) : (rowsOf (takesN N b)).length ≤ 8 ∧ ∀ r ∈ rowsOf (takesN N b), r.length ≤ 400 := by
  unfold takesN
  by_cases h : N < 0
  · rw [if_pos h]; simp [rowsOf]
  · rw [if_neg h]
    cases ht : takesL N.toNat b with
    | none => simp [rowsOf]
    | some ls =>
      obtain ⟨h1, h2⟩ := takesL_rows _ _ _ ht
      refine ⟨by simp [rowsOf]; omega, fun r hr => Nat.le_trans (h2 r (by simpa [rowsOf] using hr)) hb⟩

theorem parts_small (l : List UInt8) (h : l.length ≤ 400) : (tItem (takeL l)).length ≤ 400 ∧ (tRest (takeL l)).length ≤ 400 := by
  cases ht : takeL l with
  | none => simp [tItem, tRest]
  | some y =>
    obtain ⟨x, r⟩ := y
    have := takeL_less ht
    simp only [tItem, tRest]
    omega

theorem bool_eq (b : Bool) : (b == b) = true := by cases b <;> rfl

set_option maxHeartbeats 4000000 in
theorem walk (A : Option Addr) (n c : Nat) (l : List UInt8) (a : Int) (w : World) (hl : l.length = n) (hc : n ≤ c) (hcm : c ≤ maxLen) (ha : Rd w w.heap.size A l) (h0 : -9223372036854775808 ≤ a) (h1 : a ≤ 9223372036854775807) (htab : Pow10 w.heap.size w) :
    Calls Tryd.prog 8 #[.slice A n c, .int .i64 a] w fun e w' => e = .returned (.bool true) ∧ Below w.heap.size w w' := by
  have HT := Lib.hid htab
  have hcut := fun W => cut_any A n c 400 W hc
  have HCUT := Lib.hid hcut
  have hB := ha.take 400
  have hk : (l.take 400).length = min n 400 := by rw [List.length_take, hl, Nat.min_comm]
  have hk4 : min n 400 ≤ 400 := Nat.min_le_right _ _
  have hkc : min n 400 ≤ c := Nat.le_trans (Nat.min_le_left _ _) hc
  generalize l.take 400 = b at *
  generalize min n 400 = k at *
  have HK := Lib.hid hk
  have hps := parts_small b (by omega)
  have hrs := fun N hN => rows_small N b hN (by omega)
  clear htab hcut ha hl hk
  go_enter Tryd.func8, Tryd.ntmps8
  go_wp2_with fail
  refine (HCUT.out _).mono ?_
  rintro e w' ⟨rfl, rfl⟩
  clear HCUT
  go_wp2_with fail
  refine (within_any a 9 _ h0 h1 (by omega)).mono ?_
  rintro e w' ⟨rfl, rfl⟩
  obtain ⟨q1, q2⟩ := withinI_range a 9 (by omega)
  obtain ⟨M, hM⟩ : ∃ M : Nat, withinI a 9 = (M : Int) := ⟨(withinI a 9).toNat, by omega⟩
  rw [hM] at q1 q2 ⊢
  have hM9 : M < 9 := by omega
  clear hM q1 q2 h0 h1
  go_wp2_with fail
  refine (takeNet_any A k c b _ HK.out hkc (by omega) hB).mono ?_
  rintro e w1 ⟨A1, c1, A2, c2, rfl, _, _, hr1, hr2, hb1⟩
  have hB1 := hB.on hb1
  have HR1 := Lib.hid hr1
  have HR2 := Lib.hid hr2
  have hN8 : (M : Int) - 1 ≤ 8 := by omega
  have hrs1 := hrs ((M : Int) - 1) hN8
  have HTN := Lib.hid (fun W (r : Rd W W.heap.size A b) => takeNets_any A k c ((M : Int) - 1) b W HK.out hkc (by omega) (by omega) r)
  have HRTN := Lib.hid (fun W (r : Rd W W.heap.size A b) => rtakeNets_any A k c ((M : Int) - 1) b W HK.out hkc hcm (by omega) (by omega) r)
  have HRT := Lib.hid (fun W (r : Rd W W.heap.size A b) => rtake_any A k c W.heap.size b W HK.out hkc (by omega) r)
  generalize takesN ((M : Int) - 1) b = P at *
  generalize takeL b = O at *
  obtain ⟨i1, hi1⟩ : ∃ x, (tItem O).length = x := ⟨_, rfl⟩
  obtain ⟨i2, hi2⟩ : ∃ x, (tRest O).length = x := ⟨_, rfl⟩
  obtain ⟨s1, hs1⟩ : ∃ x, O.isSome = x := ⟨_, rfl⟩
  rw [hi1, hi2] at hps
  have HI1 := Lib.hid hi1
  have HI2 := Lib.hid hi2
  rw [hi1, hi2, hs1] at HRT
  rw [hi1, hi2, hs1]
  obtain ⟨i3, hi3⟩ : ∃ x, (rowsOf P).length = x := ⟨_, rfl⟩
  obtain ⟨s3, hs3⟩ : ∃ x, P.isSome = x := ⟨_, rfl⟩
  have HI3 := Lib.hid hi3
  rw [hi3] at hrs1
  rw [hi3, hs3] at HTN HRTN
  obtain ⟨hr8, hrr⟩ := hrs1
  have HRR := Lib.hid hrr
  have hbb1 := bool_eq s1
  have hbb3 := bool_eq s3
  clear hB hr1 hr2 hrs hi1 hi2 hs1 hi3 hs3 hrr
  go_wp2_with fail
  refine (HRT.out _ hB1).mono ?_
  rintro e w2 ⟨A3, c3, A4, c4, rfl, _, _, hr3, hr4, _, q, rfl⟩
  have HR3 := Lib.hid (show Rd (w1.drewN q) (w1.drewN q).heap.size A3 _ from hr3)
  have HR4 := Lib.hid (show Rd (w1.drewN q) (w1.drewN q).heap.size A4 _ from hr4)
  have HR1' := Lib.hid (show Rd (w1.drewN q) (w1.drewN q).heap.size A1 _ from HR1.out)
  have HR2' := Lib.hid (show Rd (w1.drewN q) (w1.drewN q).heap.size A2 _ from HR2.out)
  have hB2 : Rd (w1.drewN q) (w1.drewN q).heap.size A b := hB1
  have hb2 := below_drewN hb1 q
  generalize w1.drewN q = w2 at *
  clear hr3 hr4 hB1 hb1 HRT HR1 HR2
  go_wp2_with fail
  refine (HTN.out _ hB2).mono ?_
  rintro e w3 ⟨A5, c5, rfl, _, hr5, hb3⟩
  have HR1 := Lib.hid (HR1'.out.on hb3)
  have HR2 := Lib.hid (HR2'.out.on hb3)
  have HR3' := Lib.hid (HR3.out.on hb3)
  have HR4' := Lib.hid (HR4.out.on hb3)
  have HR5 := Lib.hid hr5
  have hB3 := hB2.on hb3
  have hbel3 := Below.then hb2 hb3
  clear hr5 hb3 hb2 hB2 HR1' HR2' HR3 HR4 HTN
  go_wp2_with fail
  refine (HRTN.out _ hB3).mono ?_
  rintro e w4 ⟨A6, c6, rfl, _, hr6, hb4⟩
  have HR1' := Lib.hid (HR1.out.on hb4)
  have HR2' := Lib.hid (HR2.out.on hb4)
  have HR3 := Lib.hid (HR3'.out.on hb4)
  have HR4 := Lib.hid (HR4'.out.on hb4)
  have HR5' := Lib.hid ((HR5.out.below hb4 (Nat.le_refl _)).more hb4.size)
  have HR6 := Lib.hid hr6
  have hbel4 := Below.then hbel3 hb4
  clear hr6 hb4 hbel3 hB3 HR1 HR2 HR3' HR4' HR5 HRTN
  have HS1 := Lib.hid (fun W (x : Rd W w4.heap.size A1 (tItem O)) (y : Rd W w4.heap.size A3 (tItem O)) => same_any A1 A3 i1 i1 c1 c3 _ _ (tItem O) (tItem O) W HI1.out HI1.out (by unfold maxLen; omega) x y)
  rw [decide_eq_true (show tItem O = tItem O from rfl)] at HS1
  have HS2 := Lib.hid (fun W (x : Rd W w4.heap.size A2 (tRest O)) (y : Rd W w4.heap.size A4 (tRest O)) => same_any A2 A4 i2 i2 c2 c4 _ _ (tRest O) (tRest O) W HI2.out HI2.out (by unfold maxLen; omega) x y)
  rw [decide_eq_true (show tRest O = tRest O from rfl)] at HS2
  have HS3 := Lib.hid (fun W (x : RdR W w4.heap.size A5 (rowsOf P)) (y : RdR W w4.heap.size A6 (rowsOf P)) => rows_any A5 A6 i3 i3 c5 c6 _ _ (rowsOf P) (rowsOf P) W HI3.out HI3.out (by unfold maxLen; omega) x y (fun r hr => by have := HRR.out r hr; unfold maxLen; omega))
  rw [decide_eq_true (show rowsOf P = rowsOf P from rfl)] at HS3
  have HTW := Lib.hid (tab_on HT.out hbel4 hbel4.size)
  clear HK HI1 HI2 HI3 HRR HT
  go_wp2_with fail
  refine (HS1.out _ HR1'.out HR3.out).mono ?_
  rintro e w5 ⟨rfl, q5, rfl⟩
  go_wp2_with fail
  refine (HS2.out _ (HR2'.out.drewN _) (HR4.out.drewN _)).mono ?_
  rintro e w6 ⟨rfl, q6, rfl⟩
  go_wp2_with fail
  refine (HS3.out _ (HR5'.out.drewN _) (HR6.out.drewN _)).mono ?_
  rintro e w7 ⟨rfl, q7, rfl⟩
  have hd := below_drewN (below_drewN (Below.refl w4.heap.size w4) (q5 + q6)) q7
  have hbel7 := below_drewN (below_drewN hbel4 (q5 + q6)) q7
  have HTW7 := Lib.hid (tab_on (B' := ((w4.drewN (q5 + q6)).drewN q7).heap.size) HTW.out hd (Nat.le_refl _))
  generalize (w4.drewN (q5 + q6)).drewN q7 = w7 at *
  clear hd hbel4 HTW HS1 HS2 HS3
  go_wp2_with fail
  refine (wakes_any _ HTW7.out).mono ?_
  rintro e w8 ⟨rfl, hb8⟩
  have hbel8 := Below.then hbel7 hb8
  clear hb8 hbel7
  go_wp2_with fail
  go_ret
  exact ⟨rfl, hbel8⟩

theorem contract (H : Type) (enc : TypeId × Value → H) (W : World) (base : Nat) (args : Array Value) (ds gs : List (DataW H)) (before : List MemPlace)
    (hval : ∀ (j : Nat) t v, Tryd.f8.params[j]? = some t → args[j]? = some v → Value.okWide Tryd.prog W .any base t v)
    (hW : DataW.Whole enc Tryd.prog Tryd.f8.params.toList Rows.codeTakesSpec.vars false W args.toList ds gs before) (hL : laidMetH Tryd.prog Rows.codeTakesRow.laid W) :
    Calls Tryd.prog 8 args W fun e W' => ∃ v, e = .returned v ∧ Rows.codeTakesSpec.post enc Tryd.prog Tryd.f8 false true false false W args v W' := by
  have hW' := hW
  obtain ⟨p, q, hA0, hV, rfl, hfz, hnd⟩ := hW
  have hA : DataW.TrodAll enc Tryd.prog W 0 (fun _ => true) true Tryd.f8.params.toList args.toList ds p := hA0
  rw [Tryd.params8] at hA hval
  obtain ⟨v0, v1, d0, d1, p0, p1, rfl, rfl, rfl, h0, h1⟩ := trodAll_two hA
  obtain ⟨rfl, rfl⟩ := trodVars_none hV
  obtain ⟨A0, m0, c0, l0, rfl, hl0, hc0, hm0, hr0⟩ := open_bytes (hval 0 23 v0 rfl rfl) h0
  obtain ⟨n1, rfl, rfl, rfl, wf1⟩ := open_int Tryd.underlying3 (hval 1 3 v1 rfl rfl) h1
  have b1 := bounds_i64 wf1
  clear hA0
  refine (walk A0 m0 c0 l0 n1 W hl0 hc0 hm0 hr0 b1.1 b1.2 (pow10 hL)).mono fun e W' ⟨he, hb⟩ => ?_
  exact ⟨_, he, law_post hW' rfl (by kernel_rfl) rfl (by kernel_rfl) hb⟩

theorem laid_met (os : Os) : laidMet Tryd.prog Rows.codeTakesRow.laid ((laidWorld os).forCall (fun _ _ => 0) ⟨#[], #[.slice none 0 0, .int .i64 0], []⟩).memory :=
  laidMet_of_run' 8 (by kernel_rfl) (by kernel_rfl)
theorem reads (os : Os) {H : Type} (enc : TypeId × Value → H) : ∃ places, DataW.whole enc Tryd.prog ((laidWorld os).forCall (fun _ _ => 0) ⟨#[], #[.slice none 0 0, .int .i64 0], []⟩).memory Tryd.f8.params.toList Rows.codeTakesSpec.vars false #[Value.slice none 0 0, Value.int .i64 0].toList 8 = some ([.nil, .lit (.int .i64 0)], [], places) :=
  ⟨[], by kernel_rfl⟩

set_option maxRecDepth 100000 in
theorem lifted (os : Os) (started : os.Started) (H : Type) (enc : TypeId × Value → H) (F : Stop.Interp) :
    ReturnsInHanded {} Tryd.checked os 8 .any ((OpenSpec.ofChange Rows.codeTakesSpec).preRow enc Tryd.prog Tryd.f8 Rows.codeTakesRow.domain false Rows.codeTakesRow.laid) (((OpenSpec.ofChange Rows.codeTakesSpec).at F).post enc Tryd.prog Tryd.f8 false true false false) := by
  obtain ⟨places, hx⟩ := reads os enc
  refine returnsInHanded_of_row (C := Tryd.checked) (s := OpenSpec.ofChange Rows.codeTakesSpec) own started (by kernel_rfl) Tryd.func8
    (witness_row_at (enc := enc) (C := Tryd.checked) false (laidWorld os) #[.slice none 0 0, .int .i64 0] rfl (by kernel_rfl) (by kernel_rfl) (by kernel_rfl)
      (OpenSpec.preRow_of_cond 8 hx (by kernel_rfl) (fun k hk => by cases hk) (by kernel_rfl) (laid_met os))) ?_
  intro W base args ds gs before hval hW _ _ _ hL _ _
  exact contract H enc W base args ds gs before hval hW hL

theorem said : Rows.CodeTakesSaid :=
  OpenClaim.holds_of_cond 8 Tryd.f8 rfl rfl rfl rfl rfl rfl rfl ⟨rfl, rfl, rfl, rfl, rfl⟩ rfl rfl rfl rfl rfl (by kernel_rfl) Tryd.func8 (by kernel_rfl)
    (of_decide_eq_true (by kernel_rfl)) (by unfold Func.isWrapper; first | (rw [if_pos (by decide +kernel)]; kernel_rfl) | (rw [if_neg (by decide +kernel)]; exact ⟨rfl, rfl⟩))
    (fun os started H enc _ F => by rw [OpenClaim.pre_eq_preRow]; exact lifted os started H enc F)

theorem plain (f : FuncId) (fn : Func) (hf : Tryd.pinned.checked.prog.funcNamed "aumbry/aumbrylaw01.CodeTakes" = some f) (hfn : Tryd.pinned.checked.prog.funcs[f]? = some fn) :
    false = Tryd.pinned.checked.prog.looks [] ∧ ∀ (j : Nat) t, fn.params[j]? = some t → Tryd.pinned.checked.prog.wantsStandIn t = false := by
  obtain rfl : f = 8 := Option.some.inj ((show Tryd.prog.funcNamed "aumbry/aumbrylaw01.CodeTakes" = some 8 by kernel_rfl).symm.trans hf) |>.symm
  obtain rfl : fn = Tryd.f8 := (Option.some.inj (Tryd.func8.symm.trans hfn)).symm
  refine ⟨by kernel_rfl, fun j t ht => ?_⟩
  exact wants_none (by kernel_rfl) (Array.mem_of_getElem? ht)

/-- The card: the statement holds, its listed tables tied to the program's text. -/
theorem card : Rows.CodeTakesCardSaid :=
  Claim7.holds_tied_plain_at .later [] _ _ _ _ said (fun _ h => by cases h) (by kernel_rfl) (fun _ h => by cases h) codeTakes_row_tie rfl ⟨rfl, rfl⟩ (by kernel_rfl) rfl plain (by kernel_rfl)
end Go.Proofs.YtoidkaeomgglcaaDoor.codeTakes
