/- RsSums: the shares of a sum are the sums of shares. For all bytes and numbers. -/
import Derived.Test.YtdaofffkbnkljaaLaw
import Derived.Test.YtdaofffkbnkljaaOpen
import Derived.Test.YtdaofffkbnkljaaWakes6
import Derived.Test.YtdaofffkbnkljaaSums6
import Derived.Test.YtdaofffkbnkljaaMakeB
import Derived.Test.YtdaofffkbnkljaaAesB
import Derived.Test.YtdaofffkbnkljaaGfD
import Derived.Deep.CutRange
namespace Go.Proofs.Ytdaofffkbnkljaa.rsSums
open Go.ChangeShapes Go.WideShapes Go.ChangeAt Go.RowKit

set_option maxRecDepth 100000 in
set_option maxHeartbeats 16000000 in
theorem walk (A B : Option Addr) (z c y d : Nat) (l m : List UInt8) (k0 n0 : Int) (w : World) (hl : l.length = z) (hc : z ≤ c) (hm : m.length = y) (hd : y ≤ d) (hr : Rd w w.heap.size A l) (hs : Rd w w.heap.size B m) (hk0 : -9223372036854775808 ≤ k0) (hk1 : k0 ≤ 9223372036854775807) (hn0 : -9223372036854775808 ≤ n0) (hn1 : n0 ≤ 9223372036854775807) :
    Calls Try.prog 10 #[.slice A z c, .slice B y d, .int .i64 k0, .int .i64 n0] w fun e w' => e = .returned (.bool true) ∧ Below w.heap.size w w' := by
  obtain ⟨i0, hi, hz0, hz1, hz2⟩ := info_parts info5
  have HWN := Lib.hid (show ∀ W, Calls Try.prog 12 #[.int .i64 n0, .int .i64 8] W fun e w' => e = .returned (.int .i64 (withinI n0 8)) ∧ W = w' from fun W => within_any n0 8 W hn0 hn1 (by omega))
  obtain ⟨q1, q2⟩ := withinI_range n0 8 (by omega)
  obtain ⟨M, hM⟩ : ∃ M : Nat, withinI n0 8 = (M : Int) := ⟨(withinI n0 8).toNat, by omega⟩
  rw [hM] at HWN
  obtain ⟨N, hN⟩ : ∃ N : Nat, 1 + M = N := ⟨_, rfl⟩
  have hNi : (1 : Int) + (M : Int) = (N : Int) := by omega
  have hN16 : N ≤ 8 := by omega
  have hN1 : 1 ≤ N := by omega
  have HWK := Lib.hid (fun W => within_any k0 (N : Int) W hk0 hk1 (by omega))
  obtain ⟨q3, q4⟩ := withinI_range k0 (N : Int) (by omega)
  obtain ⟨J, hJ⟩ : ∃ J : Nat, withinI k0 (N : Int) = (J : Int) := ⟨(withinI k0 (N : Int)).toNat, by omega⟩
  rw [hJ] at HWK
  obtain ⟨K, hK⟩ : ∃ K : Nat, 1 + J = K := ⟨_, rfl⟩
  have hKi : (1 : Int) + (J : Int) = (K : Int) := by omega
  have hK1 : 1 ≤ K := by omega
  have hKN : K ≤ N := by omega
  obtain ⟨G, hG⟩ := gen_is (k := K) (by omega)
  have HG := Lib.hid hG
  have HNEW := Lib.hid (fun W => cnew_yes K N W hK1 hKN (by omega))
  clear hG hM hN hJ hK q1 q2 q3 q4 hn0 hn1 hk0 hk1
  obtain ⟨S, hS⟩ : ∃ S : Nat, min (min z y) 50 = S := ⟨_, rfl⟩
  have HMIN := Lib.hid (show min (min (z : Int) (y : Int)) 50 = (S : Int) by omega)
  have hSz : S ≤ z := by omega
  have hSy : S ≤ y := by omega
  have hS50 : S ≤ 50 := by omega
  obtain ⟨la, hla⟩ : ∃ a, l.take S = a := ⟨_, rfl⟩
  obtain ⟨lb, hlb⟩ : ∃ a, m.take S = a := ⟨_, rfl⟩
  have HAL := Lib.hid (show la.length = S by rw [← hla, List.length_take]; omega)
  have HBL := Lib.hid (show lb.length = S by rw [← hlb, List.length_take]; omega)
  have HA := Lib.hid (show Rd w w.heap.size A la by rw [← hla]; exact hr.take S)
  have HB := Lib.hid (show Rd w w.heap.size B lb by rw [← hlb]; exact hs.take S)
  clear hla hlb hr hs
  go_enter Try.func10, Try.ntmps10
  go_wp2_with fail
  with_reducible refine (HWN.out _).mono ?_
  rintro e wx ⟨rfl, rfl⟩
  go_wp2_with fail
  with_reducible refine (HWK.out _).mono ?_
  rintro e wx ⟨rfl, rfl⟩
  go_upto_region 3 with fail
  clear HWN HWK
  clear hl hm
  go_cut [9] from 26 to 30 (fun s wx => s = .int .i64 (S : Int) ∧ w = wx)
  case first =>
    go_wp2_with fail
    all_goals go_meet
    all_goals (case rel => exact ⟨by congr 1; omega, rfl⟩)
  case rest =>
    obtain ⟨rfl, rfl⟩ := hcut
    go_wp2_with fail
    go_quiet (fail)
    go_wp2_with (at_make; refine wpList_make_full _ rfl _ _ 22 rfl w.heap.size 5 i0 (.int .u8 0) 1 Try.underlying22 hi hz0 hz1 _ _ _ _ S rfl rfl rfl rfl (by rw [hz2]; omega) (by unfold maxLen; omega) (Nat.le_refl _) ?_; intro w3 hown3 hg3)
    obtain ⟨hblk3, _⟩ := blk_of_made hown3
    have hbel3 : Below w.heap.size w w3 := (below_drewN (Below.refl _ _) nq).grown hg3 (Nat.le_refl _) (fun k hk => by cases hk)
    have G1 := Lib.hid (show Blk w3 w.heap.size (u8A (xorP la lb S 0)) 5 by rw [xorP_none]; exact hblk3)
    clear hown3 hg3 hblk3 hi hz0 hz1 hz2
    go_wp2_with fail
    go_loopw [41] (fun t wr => ∃ x : Nat, x ≤ S ∧ t = .int .i64 x ∧ Below w.heap.size w wr ∧ Hid (Blk wr w.heap.size (u8A (xorP la lb S x)) 5)) (fun t _ => S - (intOf t).toNat)
    case atStart => exact ⟨0, Nat.zero_le _, rfl, hbel3, G1⟩
    case round =>
      clear hbel3 G1
      obtain ⟨x, hx, rfl, hbel, G1⟩ := hrel
      by_cases hlt : x < S
      · have hii : (x : Int) < (S : Int) := by omega
        obtain ⟨ab, ao, rfl, hab, ca⟩ := (HA.out.below hbel (Nat.le_refl _)).at_ x (by rw [HAL.out]; exact hlt)
        obtain ⟨bb, bo, rfl, hbb, cb⟩ := (HB.out.below hbel (Nat.le_refl _)).at_ x (by rw [HBL.out]; exact hlt)
        have hf := G1.out.frozen x
        obtain ⟨o, ho⟩ : ∃ old, wr.cell? ⟨w.heap.size, x, none⟩ = some old := ⟨_, G1.out.byteAt (i := x) (by rw [xorP_len]; exact hlt)⟩
        have HV := Lib.hid (xor_byte8 (la.getD x 0) (lb.getD x 0))
        have HST := Lib.hid (xorP_step la lb S x)
        rw [show la[x]'(by rw [HAL.out]; exact hlt) = la.getD x 0 by simp [List.getD_eq_getElem?_getD, HAL.out, hlt]] at ca
        rw [show lb[x]'(by rw [HBL.out]; exact hlt) = lb.getD x 0 by simp [List.getD_eq_getElem?_getD, HBL.out, hlt]] at cb
        generalize la.getD x 0 = ai at *
        generalize lb.getD x 0 = bi at *
        go_wp2_with fail
        refine wp_region_noPanic ?_
        go_region
        refine NoPanic.normal ?_
        go_wp2_with fail
        go_roundw
        case rel =>
          refine ⟨x + 1, by omega, by go_num, (hbel.setCell (Nat.le_refl _) _).drew, Lib.hid ?_⟩
          rw [← HST.out]
          exact G1.out.put _ HV.out
        case measure => simp [intOf]; omega
      · obtain rfl : x = S := by omega
        have hge : ¬ (x : Int) < (x : Int) := by omega
        have LA0 := Lib.hid (show BV wr (.slice A x c) la from BV.of HAL.out (by omega) ((HA.out.below hbel (Nat.le_refl _)).more hbel.size))
        have LB0 := Lib.hid (show BV wr (.slice B x d) lb from BV.of HBL.out (by omega) ((HB.out.below hbel (Nat.le_refl _)).more hbel.size))
        have LS0 := Lib.hid (blk_bv G1.out (xorP_len la lb x x))
        have HB0 := Lib.hid hbel
        clear hbel G1 HA HB
        go_wp2_with fail
        obtain ⟨sg, hsg⟩ : ∃ sg, segN la K = sg := ⟨_, rfl⟩
        have hsg2 : sg ≤ 100 := by
          have h4 := shN_lt la.length hK1
          have h5 := shL_len la K
          have h6 := seg_mul la hK1
          have h7 : segN la K ≤ K * segN la K := Nat.le_mul_of_pos_left _ hK1
          have := HAL.out
          omega
        have HX := Lib.hid (show ∀ i, i < N → ((encL G la K N).getD i []).length = sg from fun i hi => by rw [encL_at _ _ _ hi, sumRow_len, hsg])
        have HY := Lib.hid (show ∀ i, i < N → ((encL G lb K N).getD i []).length = sg from fun i hi => by rw [encL_at _ _ _ hi, sumRow_len, ← hsg, segN_like (a := lb) (b := la) (by rw [HAL.out, HBL.out])])
        have HZ := Lib.hid (show ∀ i, i < N → ((encL G (xorP la lb x x) K N).getD i []).length = sg from fun i hi => by rw [encL_at _ _ _ hi, sumRow_len, ← hsg, segN_like (a := xorP la lb x x) (b := la) (by rw [xorP_len, HAL.out])])
        have HSUM := Lib.hid (show ∀ i q, i < N → q < sg → ((encL G (xorP la lb x x) K N).getD i []).getD q 0 = ((encL G la K N).getD i []).getD q 0 ^^^ ((encL G lb K N).getD i []).getD q 0 from fun i q hi hq => share_sum HAL.out HBL.out hi (by rw [hsg]; exact hq))
        have HX0 := Lib.hid (encL_len G la K N)
        have HY0 := Lib.hid (encL_len G lb K N)
        have HZ0 := Lib.hid (encL_len G (xorP la lb x x) K N)
        have HC := Lib.hid (show la.length ≤ 1000 ∧ lb.length ≤ 1000 ∧ (xorP la lb x x).length ≤ 1000 by rw [xorP_len, HAL.out, HBL.out]; omega)
        clear hsg
        with_reducible refine (HNEW.out wr).mono ?_
        rintro e w1 ⟨g, rfl, hcd, hb⟩
        have LA1 := Lib.hid (LA0.out.on hb)
        have LB1 := Lib.hid (LB0.out.on hb)
        have LS1 := Lib.hid (LS0.out.on hb)
        have LC1 := Lib.hid hcd
        have HB1 := Lib.hid (HB0.out.trans (hb.mono HB0.out.size))
        clear hb LA0 LB0 LS0 hcd HB0
        go_wp2_with fail
        with_reducible refine (cenc_any HG.out LC1.out LA1.out HC.out.1).mono ?_
        rintro e w2 ⟨v, rfl, hv, hb⟩
        have LA2 := Lib.hid (LA1.out.on hb)
        have LB2 := Lib.hid (LB1.out.on hb)
        have LS2 := Lib.hid (LS1.out.on hb)
        have LC2 := Lib.hid (LC1.out.on hb)
        have HB2 := Lib.hid (HB1.out.trans (hb.mono HB1.out.size))
        have HVMX := Lib.hid hv.mv
        obtain ⟨X, cX, rfl, hcX⟩ := HVMX.out.form HX0.out
        clear hv
        clear hb LA1 LB1 LS1 LC1 HB1
        clear LA2
        go_wp2_with fail
        with_reducible refine (cenc_any HG.out LC2.out LB2.out HC.out.2.1).mono ?_
        rintro e w3 ⟨v, rfl, hv, hb⟩
        have LB3 := Lib.hid (LB2.out.on hb)
        have LS3 := Lib.hid (LS2.out.on hb)
        have LC3 := Lib.hid (LC2.out.on hb)
        have LX3 := Lib.hid (HVMX.out.on hb)
        have HB3 := Lib.hid (HB2.out.trans (hb.mono HB2.out.size))
        have HVMY := Lib.hid hv.mv
        obtain ⟨Y, cY, rfl, hcY⟩ := HVMY.out.form HY0.out
        clear hv
        clear hb LB2 LS2 LC2 HVMX HB2
        clear LB3
        go_wp2_with fail
        with_reducible refine (cenc_any HG.out LC3.out LS3.out HC.out.2.2).mono ?_
        rintro e w4 ⟨v, rfl, hv, hb⟩
        have LS4 := Lib.hid (LS3.out.on hb)
        have LC4 := Lib.hid (LC3.out.on hb)
        have LX4 := Lib.hid (LX3.out.on hb)
        have LY4 := Lib.hid (HVMY.out.on hb)
        have HB4 := Lib.hid (HB3.out.trans (hb.mono HB3.out.size))
        have HVMZ := Lib.hid hv.mv
        obtain ⟨Z, cZ, rfl, hcZ⟩ := HVMZ.out.form HZ0.out
        clear hv
        clear hb LS3 LC3 LX3 HVMY HB3
        clear LS4
        go_wp2_with fail
        clear LC4
        go_loopw [96] (fun t wq => ∃ i : Nat, i ≤ N ∧ t = .int .i64 i ∧ Below w4.heap.size w4 wq) (fun t _ => N - (intOf t).toNat)
        case atStart => exact ⟨0, Nat.zero_le _, rfl, Below.refl _ _⟩
        case round =>
          obtain ⟨i, hiN, rfl, hbel⟩ := hrel
          by_cases hlt : i < N
          · have hii : (i : Int) < (N : Int) := by omega
            obtain ⟨wm, rfl⟩ : ∃ y : World, y = wr := ⟨_, rfl⟩
            obtain ⟨bx, ox, A1, c1, rfl, hbx, hcx, _, _, hrx⟩ := (LX4.out.on hbel).rowAt (i := i) hlt
            obtain ⟨by', oy, A2, c2, rfl, hby, hcy, _, _, hry⟩ := (LY4.out.on hbel).rowAt (i := i) hlt
            obtain ⟨bz, oz, A3, c3, rfl, hbz, hcz, _, _, hrz⟩ := (HVMZ.out.on hbel).rowAt (i := i) hlt
            have HSM := Lib.hid (fun q hq => HSUM.out i q hlt hq)
            have HXL := Lib.hid (HX.out i hlt)
            have HYL := Lib.hid (HY.out i hlt)
            have HZL := Lib.hid (HZ.out i hlt)
            rw [HXL.out] at hcx
            rw [HYL.out] at hcy
            rw [HZL.out] at hcz
            generalize (encL G la K N).getD i [] = xr at *
            generalize (encL G lb K N).getD i [] = yr at *
            generalize (encL G (xorP la lb x x) K N).getD i [] = zr at *
            have HRX := Lib.hid hrx
            have HRY := Lib.hid hry
            have HRZ := Lib.hid hrz
            clear hrx hry hrz
            go_wp2_with fail
            go_quiet (fail)
            go_wp2_with fail
            go_loopw [128] (fun t wq => ∃ q : Nat, q ≤ sg ∧ t = .int .i64 q ∧ Below wm.heap.size wm wq) (fun t _ => sg - (intOf t).toNat)
            case atStart => exact ⟨0, Nat.zero_le _, rfl, below_drewN (Below.refl _ _) nq⟩
            case round =>
              obtain ⟨q, hqs, rfl, hb2⟩ := hrel
              have hcx2 := (hb2.cell (p := ⟨bx, ox + i, none⟩) hbx).trans hcx
              have hcy2 := (hb2.cell (p := ⟨by', oy + i, none⟩) hby).trans hcy
              have hcz2 := (hb2.cell (p := ⟨bz, oz + i, none⟩) hbz).trans hcz
              by_cases hql : q < sg
              · have hqi : (q : Int) < (sg : Int) := by omega
                obtain ⟨ax, px, rfl, hax, dx⟩ := (HRX.out.below hb2 (Nat.le_refl _)).at_ q (by rw [HXL.out]; exact hql)
                obtain ⟨ay, py, rfl, hay, dy⟩ := (HRY.out.below hb2 (Nat.le_refl _)).at_ q (by rw [HYL.out]; exact hql)
                obtain ⟨az, pz, rfl, haz, dz⟩ := (HRZ.out.below hb2 (Nat.le_refl _)).at_ q (by rw [HZL.out]; exact hql)
                rw [show xr[q]'(by rw [HXL.out]; exact hql) = xr.getD q 0 by simp [List.getD_eq_getElem?_getD, HXL.out, hql]] at dx
                rw [show yr[q]'(by rw [HYL.out]; exact hql) = yr.getD q 0 by simp [List.getD_eq_getElem?_getD, HYL.out, hql]] at dy
                rw [show zr[q]'(by rw [HZL.out]; exact hql) = zr.getD q 0 by simp [List.getD_eq_getElem?_getD, HZL.out, hql], HSM.out q hql, ← xor_byte8] at dz
                generalize xr.getD q 0 = xi at *
                generalize yr.getD q 0 = yi at *
                go_wp2_with fail
                go_quiet (fail)
                go_wp2_with fail
                go_roundw
                case rel => exact ⟨q + 1, by omega, by go_num, below_drewN hb2 _⟩
                case measure => simp [intOf]; omega
              · have hqi : ¬ (q : Int) < (sg : Int) := by omega
                go_wp2_with fail
                go_roundw
                case rel => exact ⟨i + 1, by omega, by go_num, hbel.trans (hb2.mono hbel.size)⟩
                case measure => simp [intOf]; omega
          · have hii : ¬ (i : Int) < (N : Int) := by omega
            have HBW := Lib.hid (HB4.out.trans (hbel.mono HB4.out.size))
            go_wp2_with fail
            with_reducible refine (wakes6_any _).mono ?_
            rintro e wx ⟨rfl, hb⟩
            have HBX := Lib.hid (HBW.out.trans (hb.mono HBW.out.size))
            clear hb
            go_wp2_with fail
            go_ret
            exact ⟨rfl, HBX.out⟩

set_option maxRecDepth 100000 in
theorem contract (H : Type) (enc : TypeId × Value → H) (W : World) (base : Nat) (args : Array Value) (ds gs : List (DataW H)) (before : List MemPlace)
    (hval : ∀ (j : Nat) t v, Try.f10.params[j]? = some t → args[j]? = some v → Value.okWide Try.prog W .any base t v)
    (hW : DataW.Whole enc Try.prog Try.f10.params.toList Rows.rsSumsSpec.vars false W args.toList ds gs before) :
    Calls Try.prog 10 args W fun e W' => ∃ v, e = .returned v ∧ Rows.rsSumsSpec.post enc Try.prog Try.f10 false true false false W args v W' := by
  have hW' := hW
  obtain ⟨p, q, hA0, hV, rfl, hfz, hnd⟩ := hW
  have hA : DataW.TrodAll enc Try.prog W 0 (fun _ => true) true Try.f10.params.toList args.toList ds p := hA0
  rw [Try.params10] at hA hval
  obtain ⟨v0, v1, v2, v3, d0, d1, d2, d3, p0, p1, p2, p3, rfl, rfl, rfl, h0, h1, h2, h3⟩ := trodAll_four hA
  obtain ⟨rfl, rfl⟩ := trodVars_none hV
  obtain ⟨A0, m0, c0, l0, rfl, hl0, hc0, hm0, hr0⟩ := open_bytes (hval 0 22 v0 rfl rfl) h0
  obtain ⟨A1, m1, c1, l1, rfl, hl1, hc1, hm1, hr1⟩ := open_bytes (hval 1 22 v1 rfl rfl) h1
  obtain ⟨n2, rfl, rfl, rfl, wf2⟩ := open_int Try.underlying3 (hval 2 3 v2 rfl rfl) h2
  have b2 := bounds_i64 wf2
  obtain ⟨n3, rfl, rfl, rfl, wf3⟩ := open_int Try.underlying3 (hval 3 3 v3 rfl rfl) h3
  have b3 := bounds_i64 wf3
  clear hA0
  refine (walk A0 A1 m0 c0 m1 c1 l0 l1 n2 n3 W hl0 hc0 hl1 hc1 hr0 hr1 b2.1 b2.2 b3.1 b3.2).mono fun e W' ⟨he, hb⟩ => ?_
  exact ⟨_, he, law_post hW' rfl (by kernel_rfl) rfl (by kernel_rfl) hb⟩

set_option maxRecDepth 100000 in
theorem lifted (os : Os) (started : os.Started) (H : Type) (enc : TypeId × Value → H) :
    ReturnsInHanded {} Try.checked os 10 .any (Rows.rsSumsSpec.pre6 enc Try.prog Try.f10 Rows.rsSumsRow.domain false) (Rows.rsSumsSpec.post enc Try.prog Try.f10 false true false false) := by
  refine returnsInHanded_of_change (C := Try.checked) own started (by kernel_rfl) Try.func10
    (ChangeSpec.witness6 (enc := enc) (C := Try.checked) false ⟨#[], #[.slice none 0 0, .slice none 0 0, .int .i64 0, .int .i64 0], []⟩ 8 (by kernel_rfl) (by kernel_rfl) (by kernel_rfl) (by kernel_rfl)) ?_
  intro W base args ds gs before hval0 hW _ _
  have hval : ∀ (j : Nat) t v, Try.f10.params[j]? = some t → args[j]? = some v → Value.okWide Try.prog W .any base t v := hval0
  exact contract H enc W base args ds gs before hval hW

/-- The statement. -/
theorem card : Rows.RsSumsSaid :=
  OpenClaim.holds_of_wide 10 Try.f10 rfl rfl rfl rfl rfl rfl rfl ⟨rfl, rfl, rfl, rfl, rfl⟩ rfl rfl rfl rfl rfl (by kernel_rfl) Try.func10 (by kernel_rfl)
    (of_decide_eq_true (by kernel_rfl)) (by unfold Func.isWrapper; first | (rw [if_pos (by decide +kernel)]; kernel_rfl) | (rw [if_neg (by decide +kernel)]; exact ⟨rfl, rfl⟩))
    (fun os started H enc _ => lifted os started H enc)
end Go.Proofs.Ytdaofffkbnkljaa.rsSums
