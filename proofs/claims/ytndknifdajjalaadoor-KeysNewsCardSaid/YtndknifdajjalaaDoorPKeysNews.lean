/- KeysNews: which keystores there are; one without room signs nothing, and uses no leaf. For all seeds and heights. -/
import Derived.Deep.CutRange
import Derived.Test.YtndknifdajjalaaDoorPLaw
import Derived.Test.YtndknifdajjalaaDoorPKeyN
import Derived.Test.YtndknifdajjalaaDoorPKeep
namespace Go.Proofs.YtndknifdajjalaaDoor.keysNews
open Go.ChangeShapes Go.WideShapes Go.ChangeAt Go.RowKit

set_option maxRecDepth 100000 in
set_option maxHeartbeats 16000000 in
theorem walk (sd : List UInt8) (height : Int) (w : World) (hs : sd.length = 16) (h0 : -9223372036854775808 ≤ height) (h1 : height ≤ 9223372036854775807) (htab : Pow10 w.heap.size w) :
    Calls Tryd.prog 3 #[.agg (u8A sd), .int .i64 height] w fun e w' => e = .returned (.bool true) ∧ Below w.heap.size w w' := by
  have HT := Lib.hid htab
  have hr9 := withinI_range height 9 (by omega)
  obtain ⟨u, hu⟩ : ∃ u, withinI height 9 = u := ⟨_, rfl⟩
  rw [hu] at hr9
  have HWN := Lib.hid (fun W => (show Calls Tryd.prog 4 #[.int .i64 height, .int .i64 9] W fun e w' => e = .returned (.int .i64 u) ∧ W = w' from by rw [← hu]; exact within_any height 9 W (by omega) (by omega) (by omega)))
  obtain ⟨X, hX⟩ : ∃ x, u8A sd = x := ⟨_, rfl⟩
  have HX := Lib.hid hX
  have HZX := Lib.hid (show X.size = 16 by rw [← hX, u8A_size]; exact hs)
  have HSD := Lib.hid hs
  have hwr : IntKind.i64.wrap (u - 2) = u - 2 := IntWalk.i64_in _ (by omega)
  rw [hX]
  clear htab hu h0 h1 hX hs
  go_enter Tryd.func3, Tryd.ntmps3
  go_upto_region 1 with fail
  have hB := Blk.new w X 23
  have hal : Below w.heap.size w (w.alloc (.cells X 23)) := (Below.refl _ _).alloc (Nat.le_refl _) _
  generalize w.alloc (.cells X 23) = w3 at *
  have HB2 := Lib.hid hB
  have HAL := Lib.hid hal
  clear hB hal
  go_wp2_with fail
  with_reducible refine (HWN.out _).mono ?_
  rintro e w' ⟨rfl, rfl⟩
  clear HWN
  go_wp2_with fail
  with_reducible refine (pmade_any w3).mono ?_
  rintro e w1 ⟨q, p, g, b, rfl, hge, S1, L1, hb1⟩
  have HS1 := Lib.hid S1
  have HL1 := Lib.hid L1
  have HB1 := Lib.hid (HAL.out.trans (hb1.mono HAL.out.size))
  have HGE := Lib.hid (fun j hj => Nat.le_trans HAL.out.size (hge j hj))
  replace HB2 := Lib.hid (HB2.out.below hb1 HB2.out.lt)
  have H4 := Lib.hid S1.four_lt
  clear S1 L1 hb1 hge HAL
  have hg1 : Sto.get ⟨[], false⟩ [107, 101, 121] = none := rfl
  by_cases hbad : u - 2 < 0 ∨ 4 < u - 2
  · have HO := Lib.hid (popenk_bad (some ⟨q, 0, none⟩) ⟨#[107, 101, 121]⟩ sd (u - 2) w1 hbad)
    rw [HX.out] at HO
    go_wp2_with (with_reducible refine wpList_load_blk rfl 23 (.tmp 2) rfl w.heap.size rfl 23 X _ HB2.out Tryd.underlying23 rfl (by rw [HZX.out]; kernel_rfl) ?_)
    with_reducible refine HO.out.mono ?_
    rintro e w2 ⟨rfl, hb2⟩
    have HBB := Lib.hid (HB1.out.trans (hb2.mono HB1.out.size))
    clear HO hb2
    have HWK := Lib.hid (wakes12_any w2 (tab_on HT.out HBB.out HBB.out.size))
    rcases hbad with hb | hb
    all_goals
      go_wp2_with fail
      with_reducible refine HWK.out.mono ?_
      rintro e w4 ⟨rfl, hb4⟩
      have HB4 := Lib.hid (HBB.out.trans (hb4.mono HBB.out.size))
      clear hb4
      go_wp2_with fail
      go_ret
      exact ⟨rfl, HB4.out⟩
  · obtain ⟨h, hh⟩ : ∃ h : Nat, u - 2 = (h : Int) := ⟨(u - 2).toNat, by omega⟩
    have hh4 : h ≤ 4 := by omega
    have HO := Lib.hid (popenk_any (name := [107, 101, 121]) (sd := sd) (h := h) HS1.out (short_none hg1) HSD.out hh4 (by simp) (i := u - 2) hh (nb := ⟨#[107, 101, 121]⟩) rfl)
    rw [HX.out, next_none hg1, hh] at HO
    rw [hh]
    clear hbad hh hwr hr9
    go_wp2_with (with_reducible refine wpList_load_blk rfl 23 (.tmp 2) rfl w.heap.size rfl 23 X _ HB2.out Tryd.underlying23 rfl (by rw [HZX.out]; kernel_rfl) ?_)
    with_reducible refine HO.out.mono ?_
    rintro e w2 ⟨k, rfl, hk, K2, hb2⟩
    have HK2 := Lib.hid K2
    have HS2 := Lib.hid (HS1.out.below hb2)
    have HBB := Lib.hid (HB1.out.trans (hb2.mono HB1.out.size))
    have HAP := Lib.hid (Apart5.of_lt (k := k) fun j hj => Nat.lt_of_lt_of_le (H4.out j hj) hk)
    have HG5 := Lib.hid (fiveS_ge (Nat.le_trans HB1.out.size hk) HGE.out)
    clear K2 hb2 HO HS1 HB1 HB2 H4 hk
    obtain ⟨N, hN⟩ : ∃ N, 2 ^ h = N := ⟨_, rfl⟩
    have hN16 : N ≤ 16 := by rw [← hN]; exact Nat.pow_le_pow_right (n := 2) (by omega) (by omega)
    have hN1 : 1 ≤ N := by rw [← hN]; exact Nat.pos_of_ne_zero (by simp)
    have hp1 : (2 : Int) ^ h = (N : Int) := by rw [← hN]; simp
    have HN := Lib.hid hN
    have hn0 : ¬ (h : Int) < 0 := by omega
    have hn4 : ¬ (4 : Int) < (h : Int) := by omega
    have HLF := Lib.hid (pleft_any HK2.out HS2.out (short_none hg1) (by rw [next_none hg1]; omega))
    rw [next_none hg1, hN, Nat.sub_zero] at HLF
    clear hN
    go_wp2_with fail
    with_reducible refine HLF.out.mono ?_
    rintro e w5 ⟨rfl, K5, C5⟩
    have HK5 := Lib.hid K5
    have HS5 := Lib.hid (HS2.out.apart5 C5 HAP.out)
    have HB5 := Lib.hid (HBB.out.trans ((C5.more one_five).below HBB.out.size HG5.out))
    clear K5 C5 HLF HK2 HS2 HBB
    go_wp2_with fail
    go_loopw [8] (fun t wr => ∃ (j : Nat) (s : Dsk) (L : List (Rec11 × Nat)), j ≤ 4 ∧ t = .int .i64 j ∧ Hid (KS wr k q ⟨#[107, 101, 121]⟩ sd h 0) ∧ Hid (ST wr q p g b 16 s 3 4 j ⟨L, false⟩) ∧ Hid (Live ⟨L, false⟩ s 3 4 j) ∧ Hid (Nms L j) ∧ Hid (Below w.heap.size w wr)) (fun t _ => 4 - (intOf t).toNat)
    case atStart => exact ⟨0, _, [], by omega, rfl, HK5, HS5, HL1, Lib.hid Nms.nil, HB5⟩
    case round =>
      obtain ⟨j, s, L, hj, rfl, HK, HS, HL, HE, HB⟩ := hrel
      clear HK5 HS5 HL1 HB5
      by_cases hlt : j < 4
      · have hlt1 : (j : Int) < 4 := by omega
        have hw8 : IntKind.u8.wrap (97 + (j : Int)) = ((UInt8.ofNat (97 + j)).toNat : Int) := by
          match j, hlt with
          | 0, _ => rfl
          | 1, _ => rfl
          | 2, _ => rfl
          | 3, _ => rfl
        have hb := (Below.refl wr.heap.size wr).alloc (Nat.le_refl _) (.cells #[.int .u8 ((UInt8.ofNat (97 + j)).toNat : Int)] 5)
        have hk := Rd.of_blk (bs := nmK j) (Blk.new wr #[.int .u8 ((UInt8.ofNat (97 + j)).toNat : Int)] 5)
        have KST := str_rd _ 1 1 (nmK j) _ rfl hk
        have hba := HB.out.trans (hb.mono HB.out.size)
        have HP := Lib.hid (lput (HS.out.below hb) HL.out (by omega) (nmK j) [] rfl none 0 0 rfl (by omega) (by unfold maxLen; omega) (Rd.nil _ _ _) (tab_on HT.out hba hba.size) (by simp [nmK]) (by omega) (by simp [nmK]) (by show L.length < 4; rw [HE.out.len]; omega))
        have HKA := Lib.hid (HK.out.below hb)
        have HBA := Lib.hid hba
        have HE5 := Lib.hid (fun j5 => HE.out.put (by omega) j5)
        obtain ⟨x, hx⟩ : ∃ x : Int, ((UInt8.ofNat (97 + j)).toNat : Int) = x := ⟨_, rfl⟩
        rw [hx] at hw8 KST HP HKA HBA
        clear hb hk hx hba HK HS HL HE HB
        go_wp2_with fail
        with_reducible refine HP.out.mono ?_
        rintro e w7 ⟨s7, j7, _, rfl, S7, L7, C7⟩
        have HS7 := Lib.hid S7
        have HL7 := Lib.hid L7
        have HK7 := Lib.hid (HKA.out.chg C7 HAP.out.four)
        have HB7 := Lib.hid (HBA.out.trans ((C7.more four_five).below HBA.out.size HG5.out))
        replace HE5 := Lib.hid (HE5.out j7)
        clear S7 L7 C7 HP HKA HBA
        go_wp2_with fail
        go_roundw
        case rel => exact ⟨j + 1, _, _, by omega, by go_num, HK7, HS7, HL7, HE5, HB7⟩
        case measure => simp [intOf]; omega
      · have hge : ¬ (j : Int) < 4 := by omega
        obtain rfl : j = 4 := by omega
        clear hlt hj
        go_wp2_with fail
        have hgk := get_of_none HE.out.key
        have hal := (Below.refl wr.heap.size wr).alloc (Nat.le_refl _) (.cells #[.int .u8 1] 5)
        have hN5 : ¬ fiveS k q p g b wr.heap.size := not_five (fun e => by have := HK.out.lt; omega) HS.out.four_lt
        have hba := HB.out.trans (hal.mono HB.out.size)
        with_reducible refine (ksign_full (X := 0) (HK.out.below hal) (HS.out.below hal) HL.out (short_none hgk) (next_none hgk 0) (by rw [HN.out]; omega) (by omega) (by simp) HAP.out (by simp) HE.out.len (some ⟨wr.heap.size, 0, none⟩) 1 1 [1] rfl (by omega) (by omega) (by unfold maxLen; omega) (rd_five (l := [1]) (Blk.new wr _ 5) hN5) (tab_five HT.out hba HG5.out)).mono ?_
        rintro e w6 ⟨rfl, K6, S6, C6⟩
        have HK6 := Lib.hid K6
        have HS6 := Lib.hid S6
        have HL6 := Lib.hid (HL.out.more (Nat.le_succ 4))
        have HB6 := Lib.hid (hba.trans (C6.below hba.size HG5.out))
        clear K6 S6 C6 hal hN5 hba HK HS HL HB
        obtain ⟨SZ, hSZ⟩ : ∃ x, sig0 = x := ⟨_, rfl⟩
        have HZS := Lib.hid (show SZ.size = 4 by rw [← hSZ]; rfl)
        have HOS := Lib.hid (show SZ.all (·.oneCell') = true by rw [← hSZ]; exact sigA_one _ _ _ _ _ _ _ _)
        rw [hSZ]
        clear hSZ
        go_upto_region 16 with (with_reducible refine wpList_store_blk rfl 38 (.tmp 9) (.tmp 71) rfl w6.heap.size SZ rfl rfl 38 _ (Blk.new _ _ _) (by rw [HZS.out]; kernel_rfl) (by rw [HZS.out]; kernel_rfl) HOS.out ?_)
        generalize hwn : World.setRow _ _ _ = w7
        have hal7 : Below w6.heap.size w6 w7 := by
          rw [← hwn]
          exact below_row ((Below.refl _ _).alloc (Nat.le_refl _) _) (by simp) (Nat.le_refl _) _
        have HK7 := Lib.hid (HK6.out.below hal7)
        have HS7 := Lib.hid (HS6.out.below hal7)
        have HB7 := Lib.hid (HB6.out.trans (hal7.mono HB6.out.size))
        generalize w6.heap.size = g9
        clear hal7 hwn HK6 HS6 HB6 HZS HOS
        have HLF := Lib.hid (pleft_any HK7.out HS7.out (short_none hgk) (by rw [next_none hgk]; omega))
        rw [next_none hgk, HN.out, Nat.sub_zero] at HLF
        go_wp2_with fail
        with_reducible refine HLF.out.mono ?_
        rintro e w8 ⟨rfl, K8, C8⟩
        have HK8 := Lib.hid K8
        have HS8 := Lib.hid (HS7.out.apart5 C8 HAP.out)
        have HB8 := Lib.hid (HB7.out.trans ((C8.more one_five).below HB7.out.size HG5.out))
        clear K8 C8 HLF HK7 HS7 HB7
        have HD := Lib.hid (nms_drop (nb := ⟨#[97]⟩) HS8.out HL6.out HE.out rfl)
        go_wp2_with fail
        with_reducible refine HD.out.mono ?_
        rintro e w9 ⟨s9, L9, rfl, S9, LL9, hl9, hk9, C9⟩
        have HS9 := Lib.hid S9
        have HL9 := Lib.hid LL9
        have HK9 := Lib.hid (HK8.out.chg C9 HAP.out.four)
        have HB9 := Lib.hid (HB8.out.trans ((C9.more four_five).below HB8.out.size HG5.out))
        have hgk9 := get_of_none hk9
        clear S9 LL9 C9 hk9 hgk HD HK8 HS8 HB8 HL6 HE
        go_wp2_with fail
        have hal := (Below.refl w9.heap.size w9).alloc (Nat.le_refl _) (.cells #[.int .u8 2] 5)
        have hN5 : ¬ fiveS k q p g b w9.heap.size := not_five (fun e => by have := HK9.out.lt; omega) HS9.out.four_lt
        have hba := HB9.out.trans (hal.mono HB9.out.size)
        with_reducible refine (ksign_live (X := 0) (HK9.out.below hal) (HS9.out.below hal) HL9.out (short_none hgk9) (next_none hgk9 0) (by rw [HN.out]; omega) (by omega) (by simp) HAP.out (by simp) (by show L9.length < 4; omega) (some ⟨w9.heap.size, 0, none⟩) 1 1 [2] rfl (by omega) (by omega) (by unfold maxLen; omega) (rd_five (l := [2]) (Blk.new w9 _ 5) hN5) (tab_five HT.out hba HG5.out)).mono ?_
        rintro e w10 ⟨s10, j10, V, cv, P, cp, rfl, _, _, K10, S10, L10, C10⟩
        have HK10 := Lib.hid K10
        have HS10 := Lib.hid S10
        have HB10 := Lib.hid (hba.trans (C10.below hba.size HG5.out))
        have HGN := Lib.hid (get_new HL9.out [107, 101, 121] (putL (0 + 1) 4) j10)
        obtain ⟨SG, hSG⟩ : ∃ x, sigA (h : Int) ((0 : Nat) : Int) V P 67 cv (proofV (pubsL sd (2 ^ h)) 0).length cp = x := ⟨_, rfl⟩
        have HZS := Lib.hid (show SG.size = 4 by rw [← hSG]; rfl)
        have HOS := Lib.hid (show SG.all (·.oneCell') = true by rw [← hSG]; exact sigA_one _ _ _ _ _ _ _ _)
        have HLS := Lib.hid (show SG[1]? = some (.int .i64 0) by rw [← hSG]; rfl)
        rw [hSG]
        clear K10 S10 L10 C10 hSG hal hN5 hba HS9 HB9 HK9
        go_upto_region 19 with (with_reducible refine wpList_store_blk rfl 38 (.tmp 11) (.tmp 92) rfl w10.heap.size SG rfl rfl 38 _ (Blk.new _ _ _) (by rw [HZS.out]; kernel_rfl) (by rw [HZS.out]; kernel_rfl) HOS.out ?_)
        generalize hwn : World.setRow _ _ _ = w11
        have hal11 : Below w10.heap.size w10 w11 := by
          rw [← hwn]
          exact below_row ((Below.refl _ _).alloc (Nat.le_refl _) _) (by simp) (Nat.le_refl _) _
        have HBG := Lib.hid (show Blk w11 w10.heap.size SG 38 by
          rw [← hwn]
          exact (Blk.new _ _ _).row _)
        have HK11 := Lib.hid (HK10.out.below hal11)
        have HS11 := Lib.hid (HS10.out.below hal11)
        have HB11 := Lib.hid (HB10.out.trans (hal11.mono HB10.out.size))
        obtain ⟨g11, hg11⟩ : ∃ g, w10.heap.size = g := ⟨_, rfl⟩
        rw [hg11] at HBG ⊢
        have e1 : w11.cell? ⟨g11, 1, none⟩ = some (.int .i64 0) := (HBG.out.cell 1).trans HLS.out
        clear hal11 hwn hg11 HK10 HS10 HB10 HZS HOS HBG HLS
        have hnx := next_four (x := 0 + 1) (by omega) HGN.out (0 + 1)
        rw [show max (0 + 1) (0 + 1) = 1 from rfl] at hnx
        have HLF := Lib.hid (pleft_any HK11.out HS11.out (short_four HGN.out) (by rw [hnx]; omega))
        rw [hnx, HN.out] at HLF
        have hw1 : IntKind.i64.wrap ((N : Int) - 1) = ((N - 1 : Nat) : Int) := by rw [IntWalk.i64_in _ (by omega)]; omega
        have hw2 : (N : Int) - 1 = ((N - 1 : Nat) : Int) := by omega
        clear hnx
        go_wp2_with fail
        with_reducible refine HLF.out.mono ?_
        rintro e w12 ⟨rfl, _, C12⟩
        have HB12 := Lib.hid (HB11.out.trans ((C12.more one_five).below HB11.out.size HG5.out))
        clear C12 HLF HK11 HS11 HB11 e1
        have HWK := Lib.hid (wakes12_any w12 (tab_on HT.out HB12.out HB12.out.size))
        go_wp2_with fail
        with_reducible refine HWK.out.mono ?_
        rintro e w13 ⟨rfl, hb13⟩
        have HB13 := Lib.hid (HB12.out.trans (hb13.mono HB12.out.size))
        clear hb13
        go_wp2_with fail
        go_ret
        exact ⟨rfl, HB13.out⟩

set_option maxRecDepth 100000 in
theorem contract (H : Type) (enc : TypeId × Value → H) (W : World) (base : Nat) (args : Array Value) (ds gs : List (DataW H)) (before : List MemPlace)
    (hval : ∀ (j : Nat) t v, Tryd.f3.params[j]? = some t → args[j]? = some v → Value.okWide Tryd.prog W .any base t v)
    (hW : DataW.Whole enc Tryd.prog Tryd.f3.params.toList Rows.keysNewsSpec.vars false W args.toList ds gs before) (hL : laidMetH Tryd.prog Rows.keysNewsRow.laid W) :
    Calls Tryd.prog 3 args W fun e W' => ∃ v, e = .returned v ∧ Rows.keysNewsSpec.post enc Tryd.prog Tryd.f3 false true false false W args v W' := by
  have hW' := hW
  obtain ⟨p, q, hA0, hV, rfl, hfz, hnd⟩ := hW
  have hA : DataW.TrodAll enc Tryd.prog W 0 (fun _ => true) true Tryd.f3.params.toList args.toList ds p := hA0
  rw [Tryd.params3] at hA hval
  obtain ⟨v0, v1, d0, d1, p0, p1, rfl, rfl, rfl, h0, h1⟩ := trodAll_two hA
  obtain ⟨rfl, rfl⟩ := trodVars_none hV
  obtain ⟨k0, rfl, hk0⟩ := open_array Tryd.underlying23 (by kernel_rfl) (hval 0 23 v0 rfl rfl) h0
  obtain ⟨n1, rfl, rfl, rfl, wf1⟩ := open_int Tryd.underlying3 (hval 1 3 v1 rfl rfl) h1
  have b1 := bounds_i64 wf1
  clear hA0
  refine (walk k0 n1 W hk0 b1.1 b1.2 (pow10 hL)).mono fun e W' ⟨he, hb⟩ => ?_
  exact ⟨_, he, law_post hW' rfl (by kernel_rfl) rfl (by kernel_rfl) hb⟩

theorem laid_met (os : Os) : laidMet Tryd.prog Rows.keysNewsRow.laid ((laidWorld os).forCall (fun _ _ => 0) ⟨#[], #[.agg #[.int .u8 0, .int .u8 0, .int .u8 0, .int .u8 0, .int .u8 0, .int .u8 0, .int .u8 0, .int .u8 0, .int .u8 0, .int .u8 0, .int .u8 0, .int .u8 0, .int .u8 0, .int .u8 0, .int .u8 0, .int .u8 0], .int .i64 0], []⟩).memory :=
  laidMet_of_run' 8 (by kernel_rfl) (by kernel_rfl)
theorem reads (os : Os) {H : Type} (enc : TypeId × Value → H) : ∃ places, DataW.whole enc Tryd.prog ((laidWorld os).forCall (fun _ _ => 0) ⟨#[], #[.agg #[.int .u8 0, .int .u8 0, .int .u8 0, .int .u8 0, .int .u8 0, .int .u8 0, .int .u8 0, .int .u8 0, .int .u8 0, .int .u8 0, .int .u8 0, .int .u8 0, .int .u8 0, .int .u8 0, .int .u8 0, .int .u8 0], .int .i64 0], []⟩).memory Tryd.f3.params.toList Rows.keysNewsSpec.vars false #[Value.agg #[.int .u8 0, .int .u8 0, .int .u8 0, .int .u8 0, .int .u8 0, .int .u8 0, .int .u8 0, .int .u8 0, .int .u8 0, .int .u8 0, .int .u8 0, .int .u8 0, .int .u8 0, .int .u8 0, .int .u8 0, .int .u8 0], Value.int .i64 0].toList 8 = some ([.agg [.lit (.int .u8 0), .lit (.int .u8 0), .lit (.int .u8 0), .lit (.int .u8 0), .lit (.int .u8 0), .lit (.int .u8 0), .lit (.int .u8 0), .lit (.int .u8 0), .lit (.int .u8 0), .lit (.int .u8 0), .lit (.int .u8 0), .lit (.int .u8 0), .lit (.int .u8 0), .lit (.int .u8 0), .lit (.int .u8 0), .lit (.int .u8 0)], .lit (.int .i64 0)], [], places) :=
  ⟨[], by kernel_rfl⟩

set_option maxRecDepth 100000 in
theorem lifted (os : Os) (started : os.Started) (H : Type) (enc : TypeId × Value → H) (F : Stop.Interp) :
    ReturnsInHanded {} Tryd.checked os 3 .any ((OpenSpec.ofChange Rows.keysNewsSpec).preRow enc Tryd.prog Tryd.f3 Rows.keysNewsRow.domain false Rows.keysNewsRow.laid) (((OpenSpec.ofChange Rows.keysNewsSpec).at F).post enc Tryd.prog Tryd.f3 false true false false) := by
  obtain ⟨places, hx⟩ := reads os enc
  refine returnsInHanded_of_row (C := Tryd.checked) (s := OpenSpec.ofChange Rows.keysNewsSpec) own started (by kernel_rfl) Tryd.func3
    (witness_row_at (enc := enc) (C := Tryd.checked) false (laidWorld os) #[.agg #[.int .u8 0, .int .u8 0, .int .u8 0, .int .u8 0, .int .u8 0, .int .u8 0, .int .u8 0, .int .u8 0, .int .u8 0, .int .u8 0, .int .u8 0, .int .u8 0, .int .u8 0, .int .u8 0, .int .u8 0, .int .u8 0], .int .i64 0] rfl (by kernel_rfl) (by kernel_rfl) (by kernel_rfl)
      (OpenSpec.preRow_of_cond 8 hx (by kernel_rfl) (fun k hk => by cases hk) (by kernel_rfl) (laid_met os))) ?_
  intro W base args ds gs before hval hW _ _ _ hL _ _
  exact contract H enc W base args ds gs before hval hW hL

theorem said : Rows.KeysNewsSaid :=
  OpenClaim.holds_of_cond 3 Tryd.f3 rfl rfl rfl rfl rfl rfl rfl ⟨rfl, rfl, rfl, rfl, rfl⟩ rfl rfl rfl rfl rfl (by kernel_rfl) Tryd.func3 (by kernel_rfl)
    (of_decide_eq_true (by kernel_rfl)) (by unfold Func.isWrapper; first | (rw [if_pos (by decide +kernel)]; kernel_rfl) | (rw [if_neg (by decide +kernel)]; exact ⟨rfl, rfl⟩))
    (fun os started H enc _ F => by rw [OpenClaim.pre_eq_preRow]; exact lifted os started H enc F)

theorem plain (f : FuncId) (fn : Func) (hf : Tryd.pinned.checked.prog.funcNamed "aumbry/aumbrylaw12.KeysNews" = some f) (hfn : Tryd.pinned.checked.prog.funcs[f]? = some fn) :
    false = Tryd.pinned.checked.prog.looks [] ∧ ∀ (j : Nat) t, fn.params[j]? = some t → Tryd.pinned.checked.prog.wantsStandIn t = false := by
  obtain rfl : f = 3 := Option.some.inj ((show Tryd.prog.funcNamed "aumbry/aumbrylaw12.KeysNews" = some 3 by kernel_rfl).symm.trans hf) |>.symm
  obtain rfl : fn = Tryd.f3 := (Option.some.inj (Tryd.func3.symm.trans hfn)).symm
  refine ⟨by kernel_rfl, fun j t ht => ?_⟩
  exact wants_none (by kernel_rfl) (Array.mem_of_getElem? ht)

/-- The card: the statement holds, its listed tables tied to the program's text. -/
theorem card : Rows.KeysNewsCardSaid :=
  Claim7.holds_tied_plain_at .later [] _ _ _ _ said (fun _ h => by cases h) (by kernel_rfl) (fun _ h => by cases h) keysNews_row_tie rfl ⟨rfl, rfl⟩ (by kernel_rfl) rfl plain (by kernel_rfl)
end Go.Proofs.YtndknifdajjalaaDoor.keysNews
