/- RsAnew: shares that were lost come back as they were. For all bytes and numbers. -/
import Derived.Test.YtdaofffkbnkljaaLaw
import Derived.Test.YtdaofffkbnkljaaOpen
import Derived.Test.YtdaofffkbnkljaaWakes6
import Derived.Test.YtdaofffkbnkljaaPerm6
namespace Go.Proofs.Ytdaofffkbnkljaa.rsAnew
open Go.ChangeShapes Go.WideShapes Go.ChangeAt Go.RowKit

set_option maxRecDepth 100000 in
set_option maxHeartbeats 16000000 in
theorem walk (A : Option Addr) (z c : Nat) (l : List UInt8) (k0 n0 f0 : Int) (w : World) (hl : l.length = z) (hc : z ≤ c) (hr : Rd w w.heap.size A l) (hk0 : -9223372036854775808 ≤ k0) (hk1 : k0 ≤ 9223372036854775807) (hn0 : -9223372036854775808 ≤ n0) (hn1 : n0 ≤ 9223372036854775807) (hf0 : -9223372036854775808 ≤ f0) (hf1 : f0 ≤ 9223372036854775807) :
    Calls Try.prog 3 #[.slice A z c, .int .i64 k0, .int .i64 n0, .int .i64 f0] w fun e w' => e = .returned (.bool true) ∧ Below w.heap.size w w' := by
  obtain ⟨i1, hi, hz0, hz1, hz2⟩ := info_parts infoBlob
  have HCUT := Lib.hid (show Calls Try.prog 11 #[.slice A z c, .int .i64 60] w fun e w' => e = .returned (.slice A (min z 60) c) ∧ w = w' from cut_any A z c 60 w hc)
  obtain ⟨zb, hzb⟩ : ∃ zb, min z 60 = zb := ⟨_, rfl⟩
  obtain ⟨b, hbt⟩ : ∃ b, l.take 60 = b := ⟨_, rfl⟩
  have HBL := Lib.hid (show b.length = zb by rw [← hbt, List.length_take, hl, Nat.min_comm]; exact hzb)
  have HBV := Lib.hid (show BV w (.slice A zb c) b from BV.of HBL.out (by omega) (by rw [← hbt]; exact hr.take 60))
  have hzb1 : zb ≤ 60 := by omega
  rw [hzb] at HCUT
  clear hbt hzb hr hl hc
  have HWN := Lib.hid (show ∀ W, Calls Try.prog 12 #[.int .i64 n0, .int .i64 8] W fun e w' => e = .returned (.int .i64 (withinI n0 8)) ∧ W = w' from fun W => within_any n0 8 W hn0 hn1 (by omega))
  obtain ⟨q1, q2⟩ := withinI_range n0 8 (by omega)
  obtain ⟨M, hM⟩ : ∃ M : Nat, withinI n0 8 = (M : Int) := ⟨(withinI n0 8).toNat, by omega⟩
  rw [hM] at HWN
  obtain ⟨N, hN⟩ : ∃ N : Nat, 1 + M = N := ⟨_, rfl⟩
  have hNi : (1 : Int) + (M : Int) = (N : Int) := by omega
  have hN16 : N ≤ 8 := by omega
  have hN1 : 1 ≤ N := by omega
  have HWK := Lib.hid (fun W => within_any k0 (N : Int) W hk0 hk1 (by omega))
  obtain ⟨q3, q4⟩ := withinI_range k0 (N : Int) (by omega)
  obtain ⟨J, hJ⟩ : ∃ J : Nat, withinI k0 (N : Int) = (J : Int) := ⟨(withinI k0 (N : Int)).toNat, by omega⟩
  rw [hJ] at HWK
  obtain ⟨K, hK⟩ : ∃ K : Nat, 1 + J = K := ⟨_, rfl⟩
  have hKi : (1 : Int) + (J : Int) = (K : Int) := by omega
  have hK1 : 1 ≤ K := by omega
  have hKN : K ≤ N := by omega
  obtain ⟨G, hG⟩ := gen_is (k := K) (by omega)
  have HG := Lib.hid hG
  have HNEW := Lib.hid (fun W => cnew_yes K N W hK1 hKN (by omega))
  clear hG hM hN hJ hK q1 q2 q3 q4 hn0 hn1 hk0 hk1
  have HWF := Lib.hid (show ∀ W, Calls Try.prog 12 #[.int .i64 f0, .int .i64 ((N : Int) - (K : Int) + 1)] W fun e w' => e = .returned (.int .i64 (withinI f0 ((N : Int) - (K : Int) + 1))) ∧ W = w' from fun W => within_any f0 _ W hf0 hf1 (by omega))
  obtain ⟨q1, q2⟩ := withinI_range f0 ((N : Int) - (K : Int) + 1) (by omega)
  obtain ⟨F, hF⟩ : ∃ F : Nat, withinI f0 ((N : Int) - (K : Int) + 1) = (F : Int) := ⟨(withinI f0 ((N : Int) - (K : Int) + 1)).toNat, by omega⟩
  rw [hF] at HWF
  have hFN : F + K ≤ N := by omega
  clear q1 q2 hF
  have HSEG := Lib.hid (show segN b K ≤ 100 by
    have h4 := shN_lt b.length hK1
    have h5 := shL_len b K
    have h6 := seg_mul b hK1
    have h7 : segN b K ≤ K * segN b K := Nat.le_mul_of_pos_left _ hK1
    have := HBL.out
    omega)
  have HSM := Lib.hid (fun j => pick_small (G := G) (b := b) (k := K) (n := N) (j := j) (s := 100) (f := fun x => F + x))
  have HDEC := Lib.hid (fun er out => pick_dec (G := G) (b := b) (k := K) (n := N) (f := fun x => F + x) (er := er) (out := out) hK1 (fun i h => by show F + i < N; omega) (fun i j _ _ e => by have : F + i = F + j := e; omega))
  have HPAD := Lib.hid (encL_sh G b N hK1)
  have HPL := Lib.hid (show (shL b K).length ≤ 1000 by
    have h4 := shN_lt b.length hK1
    have h5 := shL_len b K
    have := HBL.out
    omega)
  go_enter Try.func3, Try.ntmps3
  go_wp2_with fail
  with_reducible refine (HCUT.out).mono ?_
  rintro e wx ⟨rfl, rfl⟩
  go_wp2_with fail
  with_reducible refine (HWN.out _).mono ?_
  rintro e wx ⟨rfl, rfl⟩
  go_wp2_with fail
  with_reducible refine (HWK.out _).mono ?_
  rintro e wx ⟨rfl, rfl⟩
  go_wp2_with fail
  clear HWN HWK HCUT
  with_reducible refine (HNEW.out w).mono ?_
  rintro e w1 ⟨g, rfl, hcd, hb⟩
  have LB1 := Lib.hid (HBV.out.on hb)
  have LC1 := Lib.hid hcd
  have HB1 := Lib.hid hb
  clear hb HBV hcd
  go_wp2_with fail
  with_reducible refine (cenc_any HG.out LC1.out LB1.out (by rw [HBL.out]; omega)).mono ?_
  rintro e w2 ⟨v, rfl, hv, hb⟩
  have LB2 := Lib.hid (LB1.out.on hb)
  have LC2 := Lib.hid (LC1.out.on hb)
  have HB2 := Lib.hid (HB1.out.trans (hb.mono HB1.out.size))
  have HVM := Lib.hid hv.mv
  clear hv
  obtain ⟨X, cX, rfl, hcX⟩ := HVM.out.form (encL_len G b K N)
  clear hb LB1 LC1 HB1
  clear LB2
  go_wp2_with fail
  with_reducible refine (HWF.out _).mono ?_
  rintro e wx ⟨rfl, rfl⟩
  clear HWF
  go_wp2_with fail
  go_loopw [12, 13] (fun v t wr => ∃ j i : Nat, j ≤ K ∧ t = .int .i64 i ∧ Hid (i = F + j) ∧ Hid (OwnBl wr w2.heap.size w2.heap.size v (pickB (encL G b K N) (fun x => F + x) j)) ∧ Below w2.heap.size w2 wr) (fun _ t _ => F + K - (intOf t).toNat)
  case atStart => exact ⟨0, F, Nat.zero_le _, rfl, Lib.hid rfl, Lib.hid (OwnBl.nil _ _ _), Below.refl _ _⟩
  case round =>
    obtain ⟨j, i, hjK, rfl, HIJ, HO, hbel⟩ := hrel
    have hij := HIJ.out
    by_cases hlt : j < K
    · have hki : (i : Int) < (F : Int) + (K : Int) := by omega
      have hni : (i : Int) < (N : Int) := by omega
      have hKF : i < F + K := by omega
      have hle := hbel.size
      obtain ⟨bb, oo, A1, c1, rfl, hbs, hcx, hlc, hcm, hrd⟩ := HVM.out.rowAt (i := i) (by omega)
      have hcy := (hbel.cell (p := ⟨bb, oo + i, none⟩) hbs).trans hcx
      have HSU := Lib.hid (pickB_succ (encL G b K N) (fun x => F + x) j)
      rw [← hij] at HSU
      clear hij
      obtain ⟨row, hrow⟩ : ∃ row, (encL G b K N).getD i [] = row := ⟨_, rfl⟩
      rw [hrow] at hcy hrd hlc HSU
      obtain ⟨rl, hrl⟩ : ∃ rl, row.length = rl := ⟨_, rfl⟩
      rw [hrl] at hcy hlc
      have HRL := Lib.hid hrl
      have HRD := Lib.hid (hrd.below hbel (Nat.le_refl _))
      clear hrow hrd hcx hrl
      obtain ⟨wo, rfl⟩ : ∃ y : World, y = wr := ⟨_, rfl⟩
      go_wp2_with (at_builtin; refine wpList_append_blob rfl _ _ 31 rfl w2.heap.size i1 Try.underlying31 hi hz0 hz1 hz2 _ w2.heap.size _ rfl wo (i : Int) A1 rl c1 row rfl HO.out rfl HRL.out hlc hcm HRD.out (by rw [pickB_len]; omega) hle (Nat.le_refl _) ?_)
      intro v3 w3 hown3 hb3
      have HO3 := Lib.hid (show OwnBl w3 w2.heap.size w2.heap.size v3 (pickB (encL G b K N) (fun x => F + x) (j + 1)) by rw [HSU.out]; exact hown3)
      have HB3 := Lib.hid (hbel.trans hb3)
      clear hown3 hb3 HO hbel HRD
      go_wp2_with fail
      go_roundw
      case rel => exact ⟨j + 1, i + 1, by omega, by go_num, Lib.hid (by have := HIJ.out; omega), HO3, HB3.out⟩
      case measure => simp [intOf]; omega
    · obtain rfl : j = K := by omega
      have hki : ¬ (i : Int) < (F : Int) + (j : Int) := by omega
      have hle := hbel.size
      have LL4 := Lib.hid (HO.out.blv hle)
      have LC4 := Lib.hid (LC2.out.on hbel)
      have LV4 := Lib.hid (HVM.out.on hbel)
      have HB4 := Lib.hid (HB2.out.trans (hbel.mono HB2.out.size))
      clear hij
      have HSB := Lib.hid (HSM.out j (fun x hx => by omega) HSEG.out)
      clear HO hbel HVM LC2 HB2 hlt HSM hle
      go_wp2_with fail
      with_reducible refine (cdec_any HG.out LC4.out LL4.out (fun i h => Nat.le_trans (HSB.out i h) (by omega))).mono ?_
      rintro e w5 ⟨xv, er, out, rfl, hde, hx, hb⟩
      have LL5 := Lib.hid (LL4.out.on hb)
      have LC5 := Lib.hid (LC4.out.on hb)
      have LV5 := Lib.hid (LV4.out.on hb)
      have LX5 := Lib.hid hx
      have HB5 := Lib.hid (HB4.out.trans (hb.mono HB4.out.size))
      obtain ⟨rfl, rfl⟩ := HDEC.out er out hde
      clear hde HDEC
      clear hb LL4 LC4 LV4 hx HB4
      clear LL5
      go_wp2_with fail
      with_reducible refine (cenc_any HG.out LC5.out LX5.out HPL.out).mono ?_
      rintro e w6 ⟨xe, rfl, hv, hb⟩
      have LC6 := Lib.hid (LC5.out.on hb)
      have LV6 := Lib.hid (LV5.out.on hb)
      have LX6 := Lib.hid (LX5.out.on hb)
      have HB6 := Lib.hid (HB5.out.trans (hb.mono HB5.out.size))
      have HVE := Lib.hid hv.mv
      rw [HPAD.out] at HVE
      clear hv
      clear hb LC5 LV5 LX5 HB5
      clear LC6
      clear LX6
      go_wp2_with fail
      with_reducible refine (mveq_yes HVE.out LV6.out (by rw [encL_len]; omega) (fun r hr => by rw [encL_rows _ _ _ _ r hr]; have := HSEG.out; omega)).mono ?_
      rintro e w7 ⟨rfl, hb⟩
      have LV7 := Lib.hid (LV6.out.on hb)
      have LE7 := Lib.hid (HVE.out.on hb)
      have HB7 := Lib.hid (HB6.out.trans (hb.mono HB6.out.size))
      clear hb LV6 HVE HB6
      go_wp2_with fail
      clear LE7
      clear LV7
      with_reducible refine (wakes6_any _).mono ?_
      rintro e w8 ⟨rfl, hb⟩
      have HB8 := Lib.hid (HB7.out.trans (hb.mono HB7.out.size))
      clear hb HB7
      go_wp2_with fail
      go_ret
      exact ⟨rfl, HB8.out⟩

set_option maxRecDepth 100000 in
theorem contract (H : Type) (enc : TypeId × Value → H) (W : World) (base : Nat) (args : Array Value) (ds gs : List (DataW H)) (before : List MemPlace)
    (hval : ∀ (j : Nat) t v, Try.f3.params[j]? = some t → args[j]? = some v → Value.okWide Try.prog W .any base t v)
    (hW : DataW.Whole enc Try.prog Try.f3.params.toList Rows.rsAnewSpec.vars false W args.toList ds gs before) :
    Calls Try.prog 3 args W fun e W' => ∃ v, e = .returned v ∧ Rows.rsAnewSpec.post enc Try.prog Try.f3 false true false false W args v W' := by
  have hW' := hW
  obtain ⟨p, q, hA0, hV, rfl, hfz, hnd⟩ := hW
  have hA : DataW.TrodAll enc Try.prog W 0 (fun _ => true) true Try.f3.params.toList args.toList ds p := hA0
  rw [Try.params3] at hA hval
  obtain ⟨v0, v1, v2, v3, d0, d1, d2, d3, p0, p1, p2, p3, rfl, rfl, rfl, h0, h1, h2, h3⟩ := trodAll_four hA
  obtain ⟨rfl, rfl⟩ := trodVars_none hV
  obtain ⟨A0, m0, c0, l0, rfl, hl0, hc0, hm0, hr0⟩ := open_bytes (hval 0 22 v0 rfl rfl) h0
  obtain ⟨n1, rfl, rfl, rfl, wf1⟩ := open_int Try.underlying3 (hval 1 3 v1 rfl rfl) h1
  have b1 := bounds_i64 wf1
  obtain ⟨n2, rfl, rfl, rfl, wf2⟩ := open_int Try.underlying3 (hval 2 3 v2 rfl rfl) h2
  have b2 := bounds_i64 wf2
  obtain ⟨n3, rfl, rfl, rfl, wf3⟩ := open_int Try.underlying3 (hval 3 3 v3 rfl rfl) h3
  have b3 := bounds_i64 wf3
  clear hA0
  refine (walk A0 m0 c0 l0 n1 n2 n3 W hl0 hc0 hr0 b1.1 b1.2 b2.1 b2.2 b3.1 b3.2).mono fun e W' ⟨he, hb⟩ => ?_
  exact ⟨_, he, law_post hW' rfl (by kernel_rfl) rfl (by kernel_rfl) hb⟩

set_option maxRecDepth 100000 in
theorem lifted (os : Os) (started : os.Started) (H : Type) (enc : TypeId × Value → H) :
    ReturnsInHanded {} Try.checked os 3 .any (Rows.rsAnewSpec.pre6 enc Try.prog Try.f3 Rows.rsAnewRow.domain false) (Rows.rsAnewSpec.post enc Try.prog Try.f3 false true false false) := by
  refine returnsInHanded_of_change (C := Try.checked) own started (by kernel_rfl) Try.func3
    (ChangeSpec.witness6 (enc := enc) (C := Try.checked) false ⟨#[], #[.slice none 0 0, .int .i64 0, .int .i64 0, .int .i64 0], []⟩ 8 (by kernel_rfl) (by kernel_rfl) (by kernel_rfl) (by kernel_rfl)) ?_
  intro W base args ds gs before hval0 hW _ _
  have hval : ∀ (j : Nat) t v, Try.f3.params[j]? = some t → args[j]? = some v → Value.okWide Try.prog W .any base t v := hval0
  exact contract H enc W base args ds gs before hval hW

/-- The statement. -/
theorem card : Rows.RsAnewSaid :=
  OpenClaim.holds_of_wide 3 Try.f3 rfl rfl rfl rfl rfl rfl rfl ⟨rfl, rfl, rfl, rfl, rfl⟩ rfl rfl rfl rfl rfl (by kernel_rfl) Try.func3 (by kernel_rfl)
    (of_decide_eq_true (by kernel_rfl)) (by unfold Func.isWrapper; first | (rw [if_pos (by decide +kernel)]; kernel_rfl) | (rw [if_neg (by decide +kernel)]; exact ⟨rfl, rfl⟩))
    (fun os started H enc _ => lifted os started H enc)
end Go.Proofs.Ytdaofffkbnkljaa.rsAnew
