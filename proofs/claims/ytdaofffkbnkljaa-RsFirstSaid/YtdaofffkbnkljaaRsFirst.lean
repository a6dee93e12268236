/- RsFirst: the first k shares are the bytes themselves, cut. For all bytes and numbers. -/
import Derived.Test.YtdaofffkbnkljaaLaw
import Derived.Test.YtdaofffkbnkljaaOpen
import Derived.Test.YtdaofffkbnkljaaWakes6
import Derived.Test.YtdaofffkbnkljaaFirst6
namespace Go.Proofs.Ytdaofffkbnkljaa.rsFirst
open Go.ChangeShapes Go.WideShapes Go.ChangeAt Go.RowKit

set_option maxRecDepth 100000 in
set_option maxHeartbeats 16000000 in
theorem walk (A : Option Addr) (z c : Nat) (l : List UInt8) (k0 n0 : Int) (w : World) (hl : l.length = z) (hc : z ≤ c) (hr : Rd w w.heap.size A l) (hk0 : -9223372036854775808 ≤ k0) (hk1 : k0 ≤ 9223372036854775807) (hn0 : -9223372036854775808 ≤ n0) (hn1 : n0 ≤ 9223372036854775807) :
    Calls Try.prog 9 #[.slice A z c, .int .i64 k0, .int .i64 n0] w fun e w' => e = .returned (.bool true) ∧ Below w.heap.size w w' := by
  obtain ⟨i0, hi, hz0, hz1, hz2⟩ := info_parts info5
  have HCUT := Lib.hid (show Calls Try.prog 11 #[.slice A z c, .int .i64 70] w fun e w' => e = .returned (.slice A (min z 70) c) ∧ w = w' from cut_any A z c 70 w hc)
  obtain ⟨zb, hzb⟩ : ∃ zb, min z 70 = zb := ⟨_, rfl⟩
  obtain ⟨b, hbt⟩ : ∃ b, l.take 70 = b := ⟨_, rfl⟩
  have HBL := Lib.hid (show b.length = zb by rw [← hbt, List.length_take, hl, Nat.min_comm]; exact hzb)
  have HBV := Lib.hid (show BV w (.slice A zb c) b from BV.of HBL.out (by omega) (by rw [← hbt]; exact hr.take 70))
  have hzb1 : zb ≤ 70 := by omega
  rw [hzb] at HCUT
  clear hbt hzb hr hl hc
  have HWN := Lib.hid (show ∀ W, Calls Try.prog 12 #[.int .i64 n0, .int .i64 10] W fun e w' => e = .returned (.int .i64 (withinI n0 10)) ∧ W = w' from fun W => within_any n0 10 W hn0 hn1 (by omega))
  obtain ⟨q1, q2⟩ := withinI_range n0 10 (by omega)
  obtain ⟨M, hM⟩ : ∃ M : Nat, withinI n0 10 = (M : Int) := ⟨(withinI n0 10).toNat, by omega⟩
  rw [hM] at HWN
  obtain ⟨N, hN⟩ : ∃ N : Nat, 1 + M = N := ⟨_, rfl⟩
  have hNi : (1 : Int) + (M : Int) = (N : Int) := by omega
  have hN16 : N ≤ 10 := by omega
  have hN1 : 1 ≤ N := by omega
  have HWK := Lib.hid (fun W => within_any k0 (N : Int) W hk0 hk1 (by omega))
  obtain ⟨q3, q4⟩ := withinI_range k0 (N : Int) (by omega)
  obtain ⟨J, hJ⟩ : ∃ J : Nat, withinI k0 (N : Int) = (J : Int) := ⟨(withinI k0 (N : Int)).toNat, by omega⟩
  rw [hJ] at HWK
  obtain ⟨K, hK⟩ : ∃ K : Nat, 1 + J = K := ⟨_, rfl⟩
  have hKi : (1 : Int) + (J : Int) = (K : Int) := by omega
  have hK1 : 1 ≤ K := by omega
  have hKN : K ≤ N := by omega
  obtain ⟨G, hG⟩ := gen_is (k := K) (by omega)
  have HG := Lib.hid hG
  have HNEW := Lib.hid (fun W => cnew_yes K N W hK1 hKN (by omega))
  clear hG hM hN hJ hK q1 q2 q3 q4 hn0 hn1 hk0 hk1
  obtain ⟨sg, hsg⟩ : ∃ sg, segN b K = sg := ⟨_, rfl⟩
  obtain ⟨p, hp⟩ : ∃ p, shL b K = p := ⟨_, rfl⟩
  have HPL := Lib.hid (show p.length = K * sg by rw [← hp, ← hsg]; exact seg_mul b hK1)
  have hpl : p.length ≤ 200 := by
    have h4 := shN_lt b.length hK1
    have h5 := shL_len b K
    have := HBL.out
    rw [← hp]
    omega
  have HSTEP := Lib.hid (show ∀ i, i < K → p.take ((i + 1) * sg) = p.take (i * sg) ++ (encL G b K N).getD i [] from fun i hi => by rw [← hp, ← hsg, encL_at G b K (show i < N by omega)]; exact first_step HG.out b hK1 hi)
  have HALL := Lib.hid (show p.take (K * sg) = p by rw [← hp, ← hsg]; exact first_all b hK1)
  have HROW := Lib.hid (show ∀ i, i < K → ((encL G b K N).getD i []).length = sg from fun i hi => by rw [encL_at G b K (show i < N by omega), sumRow_len, hsg])
  have HPAD := Lib.hid (show ∀ W, BV W (.slice A zb c) b → Calls Try.prog 19 #[.slice A zb c, .int .i64 (K : Int)] W fun e w' => ∃ x, e = .returned x ∧ BV w' x p ∧ Below W.heap.size W w' from fun W h => by
    have := cpad_any (K : Int) h (by rw [HBL.out]; omega) (by omega)
    rwa [show (max (K : Int) 1).toNat = K by omega, hp] at this)
  clear hsg hp
  go_enter Try.func9, Try.ntmps9
  go_wp2_with fail
  with_reducible refine (HCUT.out).mono ?_
  rintro e wx ⟨rfl, rfl⟩
  go_wp2_with fail
  with_reducible refine (HWN.out _).mono ?_
  rintro e wx ⟨rfl, rfl⟩
  go_wp2_with fail
  with_reducible refine (HWK.out _).mono ?_
  rintro e wx ⟨rfl, rfl⟩
  go_wp2_with fail
  clear HWN HWK HCUT
  with_reducible refine (HNEW.out w).mono ?_
  rintro e w1 ⟨g, rfl, hcd, hb⟩
  have LB1 := Lib.hid (HBV.out.on hb)
  have LC1 := Lib.hid hcd
  have HB1 := Lib.hid hb
  clear hb HBV hcd
  go_wp2_with fail
  with_reducible refine (cenc_any HG.out LC1.out LB1.out (by rw [HBL.out]; omega)).mono ?_
  rintro e w2 ⟨v, rfl, hv, hb⟩
  have LB2 := Lib.hid (LB1.out.on hb)
  have LC2 := Lib.hid (LC1.out.on hb)
  have HB2 := Lib.hid (HB1.out.trans (hb.mono HB1.out.size))
  have HVM := Lib.hid hv.mv
  clear hv
  clear hb LB1 LC1 HB1
  obtain ⟨X, cX, rfl, hcX⟩ := (HVM.out).form (encL_len G b K N)
  go_wp2_with fail
  go_loopw [10, 11] (fun v t wr => ∃ i m : Nat, i ≤ K ∧ t = .int .i64 i ∧ m ≤ 200 ∧ Hid (m = i * sg) ∧ Hid (wr.ownsRow w2.heap.size 5 1 v m (Lib.byteCells (p.take m))) ∧ Below w2.heap.size w2 wr) (fun _ t _ => K - (intOf t).toNat)
  case atStart => exact ⟨0, 0, Nat.zero_le _, rfl, Nat.zero_le _, Lib.hid (by simp), Lib.hid (World.ownsRow_nil _ _ _ _), Below.refl _ _⟩
  case round =>
    obtain ⟨i, m, hiK, rfl, hm, HM, HO, hbel⟩ := hrel
    by_cases hlt : i < K
    · have hki : (i : Int) < (K : Int) := by omega
      have hni : (i : Int) < (N : Int) := by omega
      have hle := hbel.size
      obtain ⟨bb, oo, A1, c1, rfl, hbs, hcx, _, _, hrd⟩ := (HVM.out.on hbel).rowAt (i := i) (by omega)
      rw [HROW.out i hlt] at hcx
      obtain ⟨row, hrow⟩ : ∃ row, (encL G b K N).getD i [] = row := ⟨_, rfl⟩
      have HRL := Lib.hid (show row.length = sg by rw [← hrow]; exact HROW.out i hlt)
      have HST := Lib.hid (show p.take (m + sg) = p.take m ++ row by
        have := HSTEP.out i hlt
        rwa [hrow, Nat.add_mul, Nat.one_mul, ← HM.out] at this)
      have HM2 := Lib.hid (show m + sg = (i + 1) * sg by rw [HM.out, Nat.add_mul, Nat.one_mul])
      have hms : m + sg ≤ 200 := by
        have h2 : (i + 1) * sg ≤ K * sg := Nat.mul_le_mul_right _ hlt
        have := HPL.out
        have := HM2.out
        omega
      rw [hrow] at hrd
      have HRD := Lib.hid hrd
      obtain ⟨wo, rfl⟩ : ∃ y : World, y = wr := ⟨_, rfl⟩
      clear hrow hrd hlt
      go_wp2_with (at_builtin; refine wpList_append_rd rfl _ _ 22 rfl w2.heap.size 5 i0 Try.underlying22 hi hz0 hz1 hz2 _ m _ rfl HO.out wo.heap.size A1 sg c1 row rfl HRL.out HRD.out (by omega) hle ?_)
      intro v3 w3 hown3 hg3
      have hb3 : Below w2.heap.size w2 w3 := hbel.grown hg3 hle (fun k hk => (HO.out.lt k hk).1)
      have HO3 := Lib.hid (show w3.ownsRow w2.heap.size 5 1 v3 (m + sg) (Lib.byteCells (p.take (m + sg))) by
        rw [HST.out, Lib.byteCells_append]
        exact hown3)
      clear hown3 hg3 HO hbel HRD
      go_wp2_with fail
      go_roundw
      case rel => exact ⟨i + 1, m + sg, by omega, by go_num, hms, HM2, HO3, hb3⟩
      case measure => simp [intOf]; omega
    · obtain rfl : i = K := by omega
      have hki : ¬ (i : Int) < (i : Int) := by omega
      obtain ⟨AF, cF, rfl, hcF, _⟩ := own_caps HO.out
      have LF3 := Lib.hid (show BV wr (.slice AF m cF) p from BV.of (by rw [HPL.out, HM.out]) hcF (by have := Rd.of_own HO.out; rwa [HM.out, HALL.out] at this))
      have LC3 := Lib.hid (LC2.out.on hbel)
      have LB3 := Lib.hid (LB2.out.on hbel)
      have HB3 := Lib.hid (HB2.out.trans (hbel.mono HB2.out.size))
      clear HO hbel HVM LC2 LB2 HB2 hlt
      go_wp2_with fail
      with_reducible refine (cmat_any (n := N) HG.out LC3.out).mono ?_
      rintro e w4 ⟨x, rfl, hx, hb⟩
      have LF4 := Lib.hid (LF3.out.on hb)
      have LC4 := Lib.hid (LC3.out.on hb)
      have LB4 := Lib.hid (LB3.out.on hb)
      have LM4 := Lib.hid hx
      have HB4 := Lib.hid (HB3.out.trans (hb.mono HB3.out.size))
      clear hb LF3 LC3 LB3 hx HB3
      obtain ⟨X2, c2, rfl, hc2⟩ := (LM4.out).form (rowsL_len G 0 i N)
      go_wp2_with fail
      with_reducible refine (HPAD.out _ LB4.out).mono ?_
      rintro e w5 ⟨x, rfl, hx, hb⟩
      have LF5 := Lib.hid (LF4.out.on hb)
      have LC5 := Lib.hid (LC4.out.on hb)
      have LB5 := Lib.hid (LB4.out.on hb)
      have LM5 := Lib.hid (LM4.out.on hb)
      have LP5 := Lib.hid hx
      have HB5 := Lib.hid (HB4.out.trans (hb.mono HB4.out.size))
      clear hb LF4 LC4 LB4 LM4 hx HB4
      go_wp2_with fail
      with_reducible refine (bveq_yes LF5.out LP5.out (by omega)).mono ?_
      rintro e w6 ⟨rfl, hb⟩
      have LF6 := Lib.hid (LF5.out.on hb)
      have LC6 := Lib.hid (LC5.out.on hb)
      have LB6 := Lib.hid (LB5.out.on hb)
      have LM6 := Lib.hid (LM5.out.on hb)
      have LP6 := Lib.hid (LP5.out.on hb)
      have HB6 := Lib.hid (HB5.out.trans (hb.mono HB5.out.size))
      clear hb LF5 LC5 LB5 LM5 LP5 HB5
      go_wp2_with fail
      clear LF6
      clear LP6
      clear LB6
      clear LC6
      obtain ⟨K, hKK⟩ : ∃ K, K = i := ⟨_, rfl⟩
      subst hKK
      go_loop [13] (fun t => ∃ j : Nat, j ≤ K ∧ t = .int .i64 j) (fun t => K - (intOf t).toNat)
      case atStart => exact ⟨0, Nat.zero_le _, rfl⟩
      case round =>
        obtain ⟨r, hrK, rfl⟩ := hrel
        by_cases hlt : r < K
        · have hki : (r : Int) < (K : Int) := by omega
          obtain ⟨bb, oo, A1, c1, rfl, hbs, hcx, _, _, hrd⟩ := (LM6.out).rowAt (i := r) (by omega)
          have hg : (rowsL G 0 K N).getD r [] = rowL G 0 K r := by simp [rowsL, List.getD_eq_getElem?_getD, show r < N by omega]
          rw [hg, rowL_len] at hcx
          rw [hg] at hrd
          have HRW := Lib.hid hrd
          clear hg hrd
          go_wp2_with fail
          go_loop [80] (fun t => ∃ j : Nat, j ≤ K ∧ t = .int .i64 j) (fun t => K - (intOf t).toNat)
          case atStart => exact ⟨0, Nat.zero_le _, rfl⟩
          case round =>
            obtain ⟨j, hjK, rfl⟩ := hrel
            by_cases hjlt : j < K
            · have hji : (j : Int) < (K : Int) := by omega
              have hjr : j < (rowL G 0 K r).length := by rw [rowL_len]; exact hjlt
              obtain ⟨b2, o2, rfl, hb2, hcb⟩ := HRW.out.at_ j hjr
              rw [show (rowL G 0 K r)[j] = unitM r j by rw [← HG.out.first hlt hjlt]; simp [rowL]] at hcb
              by_cases e : r = j
              · subst e
                rw [unitM_same, show (((1 : UInt8).toNat : Nat) : Int) = 1 from rfl] at hcb
                go_wp2_with fail
                go_round
                case rel => exact ⟨r + 1, by omega, by go_num⟩
                case measure => simp [intOf]; omega
              · rw [unitM_else e, show (((0 : UInt8).toNat : Nat) : Int) = 0 from rfl] at hcb
                have hne : ¬ (r : Int) = (j : Int) := by omega
                go_wp2_with fail
                go_round
                case rel => exact ⟨j + 1, by omega, by go_num⟩
                case measure => simp [intOf]; omega
            · have hji : ¬ (j : Int) < (K : Int) := by omega
              go_wp2_with fail
              go_round
              case rel => exact ⟨r + 1, by omega, by go_num⟩
              case measure => simp [intOf]; omega
        · have hki : ¬ (r : Int) < (K : Int) := by omega
          clear hlt
          go_wp2_with fail
          clear LM6
          with_reducible refine (wakes6_any _).mono ?_
          rintro e w7 ⟨rfl, hb⟩
          have HB7 := Lib.hid (HB6.out.trans (hb.mono HB6.out.size))
          clear hb HB6
          go_wp2_with fail
          go_ret
          exact ⟨rfl, HB7.out⟩

set_option maxRecDepth 100000 in
theorem contract (H : Type) (enc : TypeId × Value → H) (W : World) (base : Nat) (args : Array Value) (ds gs : List (DataW H)) (before : List MemPlace)
    (hval : ∀ (j : Nat) t v, Try.f9.params[j]? = some t → args[j]? = some v → Value.okWide Try.prog W .any base t v)
    (hW : DataW.Whole enc Try.prog Try.f9.params.toList Rows.rsFirstSpec.vars false W args.toList ds gs before) :
    Calls Try.prog 9 args W fun e W' => ∃ v, e = .returned v ∧ Rows.rsFirstSpec.post enc Try.prog Try.f9 false true false false W args v W' := by
  have hW' := hW
  obtain ⟨p, q, hA0, hV, rfl, hfz, hnd⟩ := hW
  have hA : DataW.TrodAll enc Try.prog W 0 (fun _ => true) true Try.f9.params.toList args.toList ds p := hA0
  rw [Try.params9] at hA hval
  obtain ⟨v0, v1, v2, d0, d1, d2, p0, p1, p2, rfl, rfl, rfl, h0, h1, h2⟩ := trodAll_three hA
  obtain ⟨rfl, rfl⟩ := trodVars_none hV
  obtain ⟨A0, m0, c0, l0, rfl, hl0, hc0, hm0, hr0⟩ := open_bytes (hval 0 22 v0 rfl rfl) h0
  obtain ⟨n1, rfl, rfl, rfl, wf1⟩ := open_int Try.underlying3 (hval 1 3 v1 rfl rfl) h1
  have b1 := bounds_i64 wf1
  obtain ⟨n2, rfl, rfl, rfl, wf2⟩ := open_int Try.underlying3 (hval 2 3 v2 rfl rfl) h2
  have b2 := bounds_i64 wf2
  clear hA0
  refine (walk A0 m0 c0 l0 n1 n2 W hl0 hc0 hr0 b1.1 b1.2 b2.1 b2.2).mono fun e W' ⟨he, hb⟩ => ?_
  exact ⟨_, he, law_post hW' rfl (by kernel_rfl) rfl (by kernel_rfl) hb⟩

set_option maxRecDepth 100000 in
theorem lifted (os : Os) (started : os.Started) (H : Type) (enc : TypeId × Value → H) :
    ReturnsInHanded {} Try.checked os 9 .any (Rows.rsFirstSpec.pre6 enc Try.prog Try.f9 Rows.rsFirstRow.domain false) (Rows.rsFirstSpec.post enc Try.prog Try.f9 false true false false) := by
  refine returnsInHanded_of_change (C := Try.checked) own started (by kernel_rfl) Try.func9
    (ChangeSpec.witness6 (enc := enc) (C := Try.checked) false ⟨#[], #[.slice none 0 0, .int .i64 0, .int .i64 0], []⟩ 8 (by kernel_rfl) (by kernel_rfl) (by kernel_rfl) (by kernel_rfl)) ?_
  intro W base args ds gs before hval0 hW _ _
  have hval : ∀ (j : Nat) t v, Try.f9.params[j]? = some t → args[j]? = some v → Value.okWide Try.prog W .any base t v := hval0
  exact contract H enc W base args ds gs before hval hW

/-- The statement. -/
theorem card : Rows.RsFirstSaid :=
  OpenClaim.holds_of_wide 9 Try.f9 rfl rfl rfl rfl rfl rfl rfl ⟨rfl, rfl, rfl, rfl, rfl⟩ rfl rfl rfl rfl rfl (by kernel_rfl) Try.func9 (by kernel_rfl)
    (of_decide_eq_true (by kernel_rfl)) (by unfold Func.isWrapper; first | (rw [if_pos (by decide +kernel)]; kernel_rfl) | (rw [if_neg (by decide +kernel)]; exact ⟨rfl, rfl⟩))
    (fun os started H enc _ => lifted os started H enc)
end Go.Proofs.Ytdaofffkbnkljaa.rsFirst
