/- MssPacks: a signature's bytes are read as it was; one byte fewer or more is none. For all seeds, heights, leaves and messages. -/
import Derived.Test.YtfgieebccjoboaaDoorLaw
import Derived.Test.YtfgieebccjoboaaDoorSix
import Derived.Test.YtfgieebccjoboaaDoorLaw9
import Derived.Test.YtfgieebccjoboaaDoorUnpPk
import Derived.Test.YtfgieebccjoboaaDoorCopyB
import Derived.Test.YtfgieebccjoboaaDoorMssS
import Derived.Test.YtfgieebccjoboaaDoorHashD
namespace Go.Proofs.YtfgieebccjoboaaDoor.mssPacks
open Go.ChangeShapes Go.WideShapes Go.ChangeAt Go.RowKit

set_option maxRecDepth 100000 in
set_option maxHeartbeats 16000000 in
theorem walk (sd : List UInt8) (height leaf : Int) (A3 : Option Addr) (n3 c3 : Nat) (m3 : List UInt8) (w : World) (hs : sd.length = 16) (heightl : -9223372036854775808 ≤ height) (heighth : height ≤ 9223372036854775807) (leafl : -9223372036854775808 ≤ leaf) (leafh : leaf ≤ 9223372036854775807) (hn3 : m3.length = n3) (hc3 : n3 ≤ c3) (hcm3 : c3 ≤ maxLen) (hr3 : Rd w w.heap.size A3 m3) (htab : Pow10 w.heap.size w) :
    Calls Tryd.prog 9 #[.agg (u8A sd), .int .i64 height, .int .i64 leaf, .slice A3 n3 c3] w fun e w' => e = .returned (.bool true) ∧ Below w.heap.size w w' := by
  obtain ⟨p, hp, hpn⟩ : ∃ p : Nat, withinI height 3 = (p : Int) ∧ (p : Int) < 3 := by
    have := withinI_range height 3 (by omega)
    exact ⟨(withinI height 3).toNat, by omega, by omega⟩
  have HWI := Lib.hid (fun W => (show Calls Tryd.prog 11 #[.int .i64 height, .int .i64 3] W fun e w' => e = .returned (.int .i64 (p : Int)) ∧ W = w' from by rw [← hp]; exact within_any height 3 W (by omega) (by omega) (by omega)))
  obtain ⟨M, hM⟩ : ∃ M, min n3 40 = M := ⟨_, rfl⟩
  have HC3 := Lib.hid (fun W => (show Calls Tryd.prog 12 #[.slice A3 n3 c3, .int .i64 40] W fun e W' => e = .returned (.slice A3 M c3) ∧ W = W' from by
    rw [← hM]
    exact cut_any A3 n3 c3 40 W hc3))
  have hMk : M ≤ 40 := by omega
  have hMc : M ≤ c3 := by omega
  obtain ⟨bl, hbl⟩ : ∃ x, m3.take 40 = x := ⟨_, rfl⟩
  have hbln : bl.length = M := by rw [← hbl, List.length_take, hn3]; omega
  have hblr : Rd w w.heap.size A3 bl := by rw [← hbl]; exact hr3.take 40
  have HTAB := Lib.hid htab
  obtain ⟨X, hX⟩ : ∃ x, u8A sd = x := ⟨_, rfl⟩
  have HEX := Lib.hid hX
  have HZX := Lib.hid (show X.size = 16 by rw [← hX, u8A_size]; exact hs)
  have HOX := Lib.hid (show X.all (·.oneCell') = true by rw [← hX]; exact u8A_one _)
  have hp4 : p ≤ 4 := by omega
  obtain ⟨N, hN⟩ : ∃ N, 2 ^ p = N := ⟨_, rfl⟩
  have hN16 : N ≤ 16 := by rw [← hN]; exact Nat.pow_le_pow_right (n := 2) (by omega) (by omega)
  have hN1 : 1 ≤ N := by rw [← hN]; exact Nat.pos_of_ne_zero (by simp)
  have hp1 : (2 : Int) ^ p = (N : Int) := by rw [← hN]; simp
  obtain ⟨i, hi, hin⟩ : ∃ i : Nat, withinI leaf (N : Int) = (i : Int) ∧ (i : Int) < (N : Int) := by
    have := withinI_range leaf (N : Int) (by omega)
    exact ⟨(withinI leaf (N : Int)).toNat, by omega, by omega⟩
  have HWL := Lib.hid (fun W => (show Calls Tryd.prog 11 #[.int .i64 leaf, .int .i64 (N : Int)] W fun e w' => e = .returned (.int .i64 (i : Int)) ∧ W = w' from by rw [← hi]; exact within_any leaf (N : Int) W (by omega) (by omega) (by omega)))
  have hiN : i < N := by omega
  have hcn : cntN (p : Int) = N := by rw [cntN_nat hp4, hN]
  obtain ⟨sg, hsg⟩ : ∃ x, atL (signF sd (i : Int) (digH (msgH bl))) 67 = x := ⟨_, rfl⟩
  obtain ⟨pv, hpv⟩ : ∃ x, proofV (pubsL sd N) i = x := ⟨_, rfl⟩
  have hpl : pv.length = p := by rw [← hpv, ← hN]; exact proofV_len9 sd p i
  have hsl : sg.length = 67 := by rw [← hsg]; exact atL_len _ _
  have HSI := Lib.hid (fun C W (hC : C ≤ W.heap.size) (hW : Below w.heap.size w W) => (show Calls Tryd.prog 14 #[.agg X, .int .i64 (p : Int), .int .i64 (i : Int), .slice A3 M c3] W fun e w' => ∃ V cv P cp, e = .returned (.tuple #[.agg (sigA (p : Int) (i : Int) V P 67 cv p cp), .int .i64 0]) ∧ OwnH w' C (.slice V 67 cv) sg ∧ OwnH w' C (.slice P p cp) pv ∧ Below W.heap.size W w' from by
    have h := psig9_yes sd (p : Int) i A3 M c3 bl W (by rw [hcn]; exact hiN) hs hbln (by omega) hMc hcm3 (hblr.on hW) (tab_on htab hW hW.size)
    rw [hcn, hpv, hsg, hpl, hX] at h
    refine h.mono ?_
    rintro e w' ⟨V, cv, P, cp, he, h1, h2, hb⟩
    exact ⟨V, cv, P, cp, he, own_from h1 hC, own_from h2 hC, hb⟩))
  obtain ⟨L, hL⟩ : ∃ L, 3 + 32 * (67 + p) = L := ⟨_, rfl⟩
  have hLi : 3 + 32 * (67 + (p : Int)) = (L : Int) := by omega
  obtain ⟨L1, hL1⟩ : ∃ L1, L - 1 = L1 := ⟨_, rfl⟩
  have hL1i : (L : Int) - 1 = (L1 : Int) := by omega
  have hLb : L ≤ 2400 := by omega
  have hLL : L1 < L := by omega
  obtain ⟨bs, hbs⟩ : ∃ x, packL ⟨(p : Int), (i : Int), sg, pv⟩ = x := ⟨_, rfl⟩
  have HBS0 := Lib.hid hbs
  have HN16 := Lib.hid hN16
  have HLF := Lib.hid (show sg.length = 67 ∧ pv.length = p by omega)
  have HLI := Lib.hid hL
  obtain ⟨ZS, hZS⟩ : ∃ x, sig0 = x := ⟨_, rfl⟩
  have HZZS := Lib.hid (show ZS.size = 4 by rw [← hZS]; rfl)
  have HZV := Lib.hid (fun W => (zero_sig9 W).trans (by rw [hZS]))
  rw [hX]
  clear hX hZS htab hp hN hsg hpv hpl hsl hcn hbl hM hn3 hr3 hblr hL hL1
  go_enter Tryd.func9, Tryd.ntmps9
  go_upto_region 1 with fail
  generalize hw1 : World.alloc _ _ = w3
  obtain ⟨g4, hg4⟩ : ∃ g, w.heap.size = g := ⟨_, rfl⟩
  have hf : Blk w3 g4 X 23 ∧ Below w.heap.size w w3 := by
    have hw : w3 = (w.alloc (.cells X 23)) := hw1.symm
    rw [hw, ← hg4]
    exact ⟨by exact Blk.new _ _ _, ((Below.refl _ _).alloc (Nat.le_refl _) _)⟩
  have HB4 := Lib.hid hf.1
  have HBW := Lib.hid hf.2
  have HG4 := Lib.hid (show w.heap.size ≤ g4 by omega)
  clear hf hw1
  rw [hg4]
  clear hg4
  go_wp2_with fail
  with_reducible refine (HWI.out _).mono ?_
  rintro e wx ⟨rfl, rfl⟩
  go_wp2_with fail
  with_reducible refine (HWL.out _).mono ?_
  rintro e wx ⟨rfl, rfl⟩
  have HBX := Lib.hid (fun W (hW : Below w3.heap.size w3 W) => HB4.out.below hW HB4.out.lt)
  clear HWI HWL
  go_wp2_with fail
  go_cut [9, 10] from 25 to 33 (fun r k wx => ∃ g V cv P cp, r = .pointer (some ⟨g, 0, none⟩) ∧ k = .int .i64 0 ∧ Hid (Blk wx g (sigA (p : Int) (i : Int) V P 67 cv p cp) 35) ∧ Hid (HV wx (.slice V 67 cv) sg) ∧ Hid (HV wx (.slice P p cp) pv) ∧ Below w3.heap.size w3 wx)
  case first =>
    refine wp_region_held_drew (S := fun W => Below w3.heap.size w3 W) (by kernel_rfl) ((Below.refl _ _).drew) (fun hHeld => ?_)
    generalize w3.drew = WW at *
    refine wpAnyH_takeL (i := 1) (v := .int .i64 (p : Int)) rfl (by kernel_rfl) (by kernel_rfl) (by kernel_rfl) (fun _ _ _ h => h) (Or.inl ⟨by rfl, fun W hW => by go_simp⟩) hHeld ?_
    try simp only [Act.put, List.setIfInBounds_toArray, List.set_cons_zero, List.set_cons_succ]
    refine wpAnyH_takeL (i := 2) (v := .int .i64 (i : Int)) rfl (by kernel_rfl) (by kernel_rfl) (by kernel_rfl) (fun _ _ _ h => h) (Or.inl ⟨by rfl, fun W hW => by go_simp⟩) hHeld ?_
    try simp only [Act.put, List.setIfInBounds_toArray, List.set_cons_zero, List.set_cons_succ]
    refine wpAnyH_takeL (i := 3) (v := .slice A3 n3 c3) rfl (by kernel_rfl) (by kernel_rfl) (by kernel_rfl) (fun _ _ _ h => h) (Or.inl ⟨by rfl, fun W hW => by go_simp⟩) hHeld ?_
    try simp only [Act.put, List.setIfInBounds_toArray, List.set_cons_zero, List.set_cons_succ]
    refine wpAnyH_takeL (i := 0) (v := .agg X) rfl (by kernel_rfl) (by kernel_rfl) (by kernel_rfl) (fun _ _ _ h => h) (yieldsIf_load_key (by rfl) (.tmp 4) rfl g4 (by kernel_rfl) X HZX.out (fun W hW => HBX.out W hW)) hHeld ?_
    try simp only [Act.put, List.setIfInBounds_toArray, List.set_cons_zero, List.set_cons_succ]
    refine wpAnyH_ready (rs := [4, 9]) (by kernel_rfl) (by simp) ?_
    refine allReadyH_two rfl rfl (fun KK hK => ?_) (fun KK hK => ?_)
    · rw [if_pos (by rfl)]
      go_simp
      with_reducible refine (HC3.out _).mono ?_
      rintro e w4 ⟨rfl, rfl⟩
      go_wp2_with fail
      refine hK.out _ _ hHeld (fun hHeld => ?_)
      clear hK KK
      try simp only [Act.put, List.setIfInBounds_toArray, List.set_cons_zero, List.set_cons_succ]
      refine wpAnyH_ready (rs := [5, 9]) (by kernel_rfl) (by simp) ?_
      refine allReadyH_two rfl rfl (fun KK hK => ?_) (fun KK hK => ?_)
      · rw [if_pos (by rfl)]
        go_simp
        with_reducible refine (HSI.out w3.heap.size WW hHeld.size (HBW.out.trans (hHeld.mono HBW.out.size))).mono ?_
        rintro e w4 ⟨V, cv, P, cp, rfl, hv1, hv2, hb⟩
        have HO1 := Lib.hid hv1
        have HO2 := Lib.hid hv2
        have HW4 := Lib.hid (show Below w3.heap.size w3 w4 from hHeld.trans (hb.mono hHeld.size))
        try replace HBB := Lib.hid (HBB.out.below hb HBB.out.lt)
        clear hv1 hv2 hb
        go_wp2_with fail
        refine hK.out _ _ (HW4.out) (fun hHeld => ?_)
        clear hK KK
        try simp only [Act.put, List.setIfInBounds_toArray, List.set_cons_zero, List.set_cons_succ]
        refine wpAnyH_takeL (i := 6) (v := .tuple #[.agg (sigA (p : Int) (i : Int) V P 67 cv p cp), .int .i64 0]) rfl (by kernel_rfl) (by kernel_rfl) (by kernel_rfl) (fun _ _ _ h => h) (Or.inl ⟨by rfl, fun W hW => by go_simp⟩) hHeld ?_
        try simp only [Act.put, List.setIfInBounds_toArray, List.set_cons_zero, List.set_cons_succ]
        refine wpAnyH_takeL (i := 7) (v := .agg (sigA (p : Int) (i : Int) V P 67 cv p cp)) rfl (by kernel_rfl) (by kernel_rfl) (by kernel_rfl) (fun _ _ _ h => h) (Or.inl ⟨by rfl, fun W hW => by go_simp⟩) hHeld ?_
        try simp only [Act.put, List.setIfInBounds_toArray, List.set_cons_zero, List.set_cons_succ]
        refine wpAnyH_takeL (i := 8) (v := .int .i64 0) rfl (by kernel_rfl) (by kernel_rfl) (by kernel_rfl) (fun _ _ _ h => h) (Or.inl ⟨by rfl, fun W hW => by go_simp⟩) hHeld ?_
        try simp only [Act.put, List.setIfInBounds_toArray, List.set_cons_zero, List.set_cons_succ]
        refine wpAnyH_ready (rs := [9]) (by kernel_rfl) (by simp) ?_
        refine allReadyH_consL rfl fun KK hK => ?_
        rw [if_pos (by rfl)]
        go_simp
        have hal := (Below.refl w4.heap.size w4).alloc (Nat.le_refl _) (.cells #[.int .i64 0, .int .i64 0, .slice none 0 0, .slice none 0 0] 35)
        have HAL := Lib.hid (show Below w3.heap.size w3 (w4.alloc (.cells #[.int .i64 0, .int .i64 0, .slice none 0 0, .slice none 0 0] 35)) from hHeld.trans (hal.mono hHeld.size))
        have HBB := Lib.hid (show Blk (w4.alloc (.cells #[.int .i64 0, .int .i64 0, .slice none 0 0, .slice none 0 0] 35)) w4.heap.size #[.int .i64 0, .int .i64 0, .slice none 0 0, .slice none 0 0] 35 from Blk.new _ _ _)
        have HGB := Lib.hid (show w3.heap.size ≤ w4.heap.size from hHeld.size)
        replace HO1 := Lib.hid (HO1.out.on hal)
        replace HO2 := Lib.hid (HO2.out.on hal)
        refine hK.out _ _ (HAL.out) (fun hHeld => ?_)
        clear hK KK
        try simp only [Act.put, List.setIfInBounds_toArray, List.set_cons_zero, List.set_cons_succ]
        obtain ⟨gk, hgk⟩ : ∃ g, w4.heap.size = g := ⟨_, rfl⟩
        rw [hgk] at HBB HGB ⊢
        clear hgk hal HAL
        refine wpAnyH_ready (rs := [10]) (by kernel_rfl) (by simp) ?_
        refine allReadyH_consL rfl fun KK hK => ?_
        rw [if_pos (by rfl)]
        refine wp_store_rowTo 35 (.tmp 9) (.tmp 32) rfl rfl gk (sigA (p : Int) (i : Int) V P 67 cv p cp) rfl rfl 35 _ HBB.out (by kernel_rfl) rfl (sigA_one _ _ _ _ _ _ _ _) ?_
        refine hK.out _ _ (below_row hHeld hHeld.size HGB.out _) (fun hHeld => ?_)
        clear hK KK
        have HF1 := Lib.hid (HO1.out.row_off HBB.out (by decide) (sigA (p : Int) (i : Int) V P 67 cv p cp)).hv
        have HF2 := Lib.hid (HO2.out.row_off HBB.out (by decide) (sigA (p : Int) (i : Int) V P 67 cv p cp)).hv
        have HF3 := Lib.hid (HBB.out.row (sigA (p : Int) (i : Int) V P 67 cv p cp))
        refine wpAnyH_ready (rs := [11]) (by kernel_rfl) (by simp) ?_
        refine allReadyH_consL rfl fun KK hK => ?_
        rw [if_pos (by rfl)]
        go_simp
        refine hK.out _ _ hHeld (fun hHeld => ?_)
        clear hK KK
        try simp only [Act.put, List.setIfInBounds_toArray, List.set_cons_zero, List.set_cons_succ]
        refine wpAnyH_done (by kernel_rfl) ?_ _
        go_wp2_with fail
        go_meet
        case rel => exact ⟨gk, V, cv, P, cp, rfl, rfl, HF3, HF1, HF2, hHeld⟩
      · rw [if_pos (by rfl)]
        go_simp
        have hal := (Below.refl WW.heap.size WW).alloc (Nat.le_refl _) (.cells #[.int .i64 0, .int .i64 0, .slice none 0 0, .slice none 0 0] 35)
        have HAL := Lib.hid (show Below w3.heap.size w3 (WW.alloc (.cells #[.int .i64 0, .int .i64 0, .slice none 0 0, .slice none 0 0] 35)) from hHeld.trans (hal.mono hHeld.size))
        have HBB := Lib.hid (show Blk (WW.alloc (.cells #[.int .i64 0, .int .i64 0, .slice none 0 0, .slice none 0 0] 35)) WW.heap.size #[.int .i64 0, .int .i64 0, .slice none 0 0, .slice none 0 0] 35 from Blk.new _ _ _)
        have HGB := Lib.hid (show w3.heap.size ≤ WW.heap.size from hHeld.size)
        refine hK.out _ _ (HAL.out) (fun hHeld => ?_)
        clear hK KK
        try simp only [Act.put, List.setIfInBounds_toArray, List.set_cons_zero, List.set_cons_succ]
        obtain ⟨gk, hgk⟩ : ∃ g, WW.heap.size = g := ⟨_, rfl⟩
        rw [hgk] at HBB HGB ⊢
        clear hgk hal HAL
        refine wpAnyH_ready (rs := [5]) (by kernel_rfl) (by simp) ?_
        refine allReadyH_consL rfl fun KK hK => ?_
        rw [if_pos (by rfl)]
        go_simp
        with_reducible refine (HSI.out w3.heap.size (WW.alloc (.cells #[.int .i64 0, .int .i64 0, .slice none 0 0, .slice none 0 0] 35)) hHeld.size (HBW.out.trans (hHeld.mono HBW.out.size))).mono ?_
        rintro e w4 ⟨V, cv, P, cp, rfl, hv1, hv2, hb⟩
        have HO1 := Lib.hid hv1
        have HO2 := Lib.hid hv2
        have HW4 := Lib.hid (show Below w3.heap.size w3 w4 from hHeld.trans (hb.mono hHeld.size))
        try replace HBB := Lib.hid (HBB.out.below hb HBB.out.lt)
        clear hv1 hv2 hb
        go_wp2_with fail
        refine hK.out _ _ (HW4.out) (fun hHeld => ?_)
        clear hK KK
        try simp only [Act.put, List.setIfInBounds_toArray, List.set_cons_zero, List.set_cons_succ]
        refine wpAnyH_takeL (i := 6) (v := .tuple #[.agg (sigA (p : Int) (i : Int) V P 67 cv p cp), .int .i64 0]) rfl (by kernel_rfl) (by kernel_rfl) (by kernel_rfl) (fun _ _ _ h => h) (Or.inl ⟨by rfl, fun W hW => by go_simp⟩) hHeld ?_
        try simp only [Act.put, List.setIfInBounds_toArray, List.set_cons_zero, List.set_cons_succ]
        refine wpAnyH_takeL (i := 7) (v := .agg (sigA (p : Int) (i : Int) V P 67 cv p cp)) rfl (by kernel_rfl) (by kernel_rfl) (by kernel_rfl) (fun _ _ _ h => h) (Or.inl ⟨by rfl, fun W hW => by go_simp⟩) hHeld ?_
        try simp only [Act.put, List.setIfInBounds_toArray, List.set_cons_zero, List.set_cons_succ]
        refine wpAnyH_takeL (i := 8) (v := .int .i64 0) rfl (by kernel_rfl) (by kernel_rfl) (by kernel_rfl) (fun _ _ _ h => h) (Or.inl ⟨by rfl, fun W hW => by go_simp⟩) hHeld ?_
        try simp only [Act.put, List.setIfInBounds_toArray, List.set_cons_zero, List.set_cons_succ]
        refine wpAnyH_ready (rs := [10]) (by kernel_rfl) (by simp) ?_
        refine allReadyH_consL rfl fun KK hK => ?_
        rw [if_pos (by rfl)]
        refine wp_store_rowTo 35 (.tmp 9) (.tmp 32) rfl rfl gk (sigA (p : Int) (i : Int) V P 67 cv p cp) rfl rfl 35 _ HBB.out (by kernel_rfl) rfl (sigA_one _ _ _ _ _ _ _ _) ?_
        refine hK.out _ _ (below_row hHeld hHeld.size HGB.out _) (fun hHeld => ?_)
        clear hK KK
        have HF1 := Lib.hid (HO1.out.row_off HBB.out (by decide) (sigA (p : Int) (i : Int) V P 67 cv p cp)).hv
        have HF2 := Lib.hid (HO2.out.row_off HBB.out (by decide) (sigA (p : Int) (i : Int) V P 67 cv p cp)).hv
        have HF3 := Lib.hid (HBB.out.row (sigA (p : Int) (i : Int) V P 67 cv p cp))
        refine wpAnyH_ready (rs := [11]) (by kernel_rfl) (by simp) ?_
        refine allReadyH_consL rfl fun KK hK => ?_
        rw [if_pos (by rfl)]
        go_simp
        refine hK.out _ _ hHeld (fun hHeld => ?_)
        clear hK KK
        try simp only [Act.put, List.setIfInBounds_toArray, List.set_cons_zero, List.set_cons_succ]
        refine wpAnyH_done (by kernel_rfl) ?_ _
        go_wp2_with fail
        go_meet
        case rel => exact ⟨gk, V, cv, P, cp, rfl, rfl, HF3, HF1, HF2, hHeld⟩
    · rw [if_pos (by rfl)]
      go_simp
      have hal := (Below.refl WW.heap.size WW).alloc (Nat.le_refl _) (.cells #[.int .i64 0, .int .i64 0, .slice none 0 0, .slice none 0 0] 35)
      have HAL := Lib.hid (show Below w3.heap.size w3 (WW.alloc (.cells #[.int .i64 0, .int .i64 0, .slice none 0 0, .slice none 0 0] 35)) from hHeld.trans (hal.mono hHeld.size))
      have HBB := Lib.hid (show Blk (WW.alloc (.cells #[.int .i64 0, .int .i64 0, .slice none 0 0, .slice none 0 0] 35)) WW.heap.size #[.int .i64 0, .int .i64 0, .slice none 0 0, .slice none 0 0] 35 from Blk.new _ _ _)
      have HGB := Lib.hid (show w3.heap.size ≤ WW.heap.size from hHeld.size)
      refine hK.out _ _ (HAL.out) (fun hHeld => ?_)
      clear hK KK
      try simp only [Act.put, List.setIfInBounds_toArray, List.set_cons_zero, List.set_cons_succ]
      obtain ⟨gk, hgk⟩ : ∃ g, WW.heap.size = g := ⟨_, rfl⟩
      rw [hgk] at HBB HGB ⊢
      clear hgk hal HAL
      refine wpAnyH_ready (rs := [4]) (by kernel_rfl) (by simp) ?_
      refine allReadyH_consL rfl fun KK hK => ?_
      rw [if_pos (by rfl)]
      go_simp
      with_reducible refine (HC3.out _).mono ?_
      rintro e w4 ⟨rfl, rfl⟩
      go_wp2_with fail
      refine hK.out _ _ hHeld (fun hHeld => ?_)
      clear hK KK
      try simp only [Act.put, List.setIfInBounds_toArray, List.set_cons_zero, List.set_cons_succ]
      refine wpAnyH_ready (rs := [5]) (by kernel_rfl) (by simp) ?_
      refine allReadyH_consL rfl fun KK hK => ?_
      rw [if_pos (by rfl)]
      go_simp
      with_reducible refine (HSI.out w3.heap.size (WW.alloc (.cells #[.int .i64 0, .int .i64 0, .slice none 0 0, .slice none 0 0] 35)) hHeld.size (HBW.out.trans (hHeld.mono HBW.out.size))).mono ?_
      rintro e w4 ⟨V, cv, P, cp, rfl, hv1, hv2, hb⟩
      have HO1 := Lib.hid hv1
      have HO2 := Lib.hid hv2
      have HW4 := Lib.hid (show Below w3.heap.size w3 w4 from hHeld.trans (hb.mono hHeld.size))
      try replace HBB := Lib.hid (HBB.out.below hb HBB.out.lt)
      clear hv1 hv2 hb
      go_wp2_with fail
      refine hK.out _ _ (HW4.out) (fun hHeld => ?_)
      clear hK KK
      try simp only [Act.put, List.setIfInBounds_toArray, List.set_cons_zero, List.set_cons_succ]
      refine wpAnyH_takeL (i := 6) (v := .tuple #[.agg (sigA (p : Int) (i : Int) V P 67 cv p cp), .int .i64 0]) rfl (by kernel_rfl) (by kernel_rfl) (by kernel_rfl) (fun _ _ _ h => h) (Or.inl ⟨by rfl, fun W hW => by go_simp⟩) hHeld ?_
      try simp only [Act.put, List.setIfInBounds_toArray, List.set_cons_zero, List.set_cons_succ]
      refine wpAnyH_takeL (i := 7) (v := .agg (sigA (p : Int) (i : Int) V P 67 cv p cp)) rfl (by kernel_rfl) (by kernel_rfl) (by kernel_rfl) (fun _ _ _ h => h) (Or.inl ⟨by rfl, fun W hW => by go_simp⟩) hHeld ?_
      try simp only [Act.put, List.setIfInBounds_toArray, List.set_cons_zero, List.set_cons_succ]
      refine wpAnyH_takeL (i := 8) (v := .int .i64 0) rfl (by kernel_rfl) (by kernel_rfl) (by kernel_rfl) (fun _ _ _ h => h) (Or.inl ⟨by rfl, fun W hW => by go_simp⟩) hHeld ?_
      try simp only [Act.put, List.setIfInBounds_toArray, List.set_cons_zero, List.set_cons_succ]
      refine wpAnyH_ready (rs := [10]) (by kernel_rfl) (by simp) ?_
      refine allReadyH_consL rfl fun KK hK => ?_
      rw [if_pos (by rfl)]
      refine wp_store_rowTo 35 (.tmp 9) (.tmp 32) rfl rfl gk (sigA (p : Int) (i : Int) V P 67 cv p cp) rfl rfl 35 _ HBB.out (by kernel_rfl) rfl (sigA_one _ _ _ _ _ _ _ _) ?_
      refine hK.out _ _ (below_row hHeld hHeld.size HGB.out _) (fun hHeld => ?_)
      clear hK KK
      have HF1 := Lib.hid (HO1.out.row_off HBB.out (by decide) (sigA (p : Int) (i : Int) V P 67 cv p cp)).hv
      have HF2 := Lib.hid (HO2.out.row_off HBB.out (by decide) (sigA (p : Int) (i : Int) V P 67 cv p cp)).hv
      have HF3 := Lib.hid (HBB.out.row (sigA (p : Int) (i : Int) V P 67 cv p cp))
      refine wpAnyH_ready (rs := [11]) (by kernel_rfl) (by simp) ?_
      refine allReadyH_consL rfl fun KK hK => ?_
      rw [if_pos (by rfl)]
      go_simp
      refine hK.out _ _ hHeld (fun hHeld => ?_)
      clear hK KK
      try simp only [Act.put, List.setIfInBounds_toArray, List.set_cons_zero, List.set_cons_succ]
      refine wpAnyH_done (by kernel_rfl) ?_ _
      go_wp2_with fail
      go_meet
      case rel => exact ⟨gk, V, cv, P, cp, rfl, rfl, HF3, HF1, HF2, hHeld⟩
  case rest =>
    obtain ⟨g9, V32, cv32, P32, cp32, rfl, rfl, HG9, HV1, HV2, hal⟩ := hcut
    obtain ⟨w5, rfl⟩ : ∃ y : World, y = wc := ⟨_, rfl⟩
    obtain ⟨SA, hSA⟩ : ∃ x, sigA (p : Int) (i : Int) V32 P32 67 cv32 p cp32 = x := ⟨_, rfl⟩
    have HESA := Lib.hid hSA
    have HZSA := Lib.hid (show SA.size = 4 by rw [← hSA]; rfl)
    have HOSA := Lib.hid (show SA.all (·.oneCell') = true by rw [← hSA]; exact sigA_one _ _ _ _ _ _ _ _)
    rw [hSA] at HG9
    have HB9 := HG9
    replace HBW := Lib.hid (HBW.out.trans (hal.mono HBW.out.size))
    clear hal HG9 hSA HSI HB4 HBX
    have HPK := Lib.hid (show Calls Tryd.prog 33 #[.agg SA] w5 fun e w' => ∃ A c, e = .returned (.slice A L c) ∧ w'.ownsRow w5.heap.size 5 1 (.slice A L c) L (Lib.byteCells bs) ∧ Below w5.heap.size w5 w' from by
      have := ppack9_any (p : Int) (i : Int) sg pv V32 P32 67 cv32 p cp32 w5 (by omega) (by omega) HV1.out HLF.out.1 HV2.out HLF.out.2 (by omega) (by omega)
      rw [HLI.out, HBS0.out, HESA.out] at this
      exact this)
    have h32 := Lib.hid (And.intro HV1.out.1 HV2.out.1)
    have HUN := Lib.hid (show unpOK bs ∧ unpV bs = ⟨(p : Int), (i : Int), sg, pv⟩ by rw [← HBS0.out]; exact unp_pack p i sg pv (by omega) (by have := HN16.out; omega) h32.out.1 h32.out.2 HLF.out.1 HLF.out.2)
    have HFI := Lib.hid (show (bs.getD 0 0).toNat = p by rw [← HBS0.out]; exact pack_first p i sg pv (by omega))
    have HBL := Lib.hid (show bs.length = L by rw [← HBS0.out, ← HLI.out]; exact pack_len p i sg pv h32.out.1 h32.out.2 HLF.out.1 HLF.out.2)
    clear h32
    go_wp2_with (with_reducible refine wpList_load_blk rfl 35 (.tmp 9) rfl g9 rfl 35 SA _ HB9.out Tryd.underlying35 rfl (by rw [HZSA.out]; kernel_rfl) ?_)
    with_reducible refine (HPK.out).mono ?_
    rintro e w6 ⟨A5, c5, rfl, ho5, hb⟩
    obtain ⟨hc5, hcm5⟩ : L ≤ c5 ∧ c5 ≤ maxLen := by
      obtain ⟨A', c', e1, h1, h2⟩ := own_caps ho5
      injection e1 with _ _ e4
      subst e4
      exact ⟨h1, h2⟩
    have HR5 := Lib.hid (Rd.of_own ho5)
    replace HV1 := Lib.hid (HV1.out.on hb)
    replace HV2 := Lib.hid (HV2.out.on hb)
    replace HB9 := Lib.hid (HB9.out.below hb HB9.out.lt)
    replace HBW := Lib.hid (HBW.out.trans (hb.mono HBW.out.size))
    clear hb ho5 HPK
    have HUP := Lib.hid (show Calls Tryd.prog 30 #[.slice A5 L c5] w6 fun e w' => ∃ V cv P cp, e = .returned (.tuple #[.agg (sigA (p : Int) (i : Int) V P 67 cv p cp), .bool true]) ∧ HV w' (.slice V 67 cv) sg ∧ HV w' (.slice P p cp) pv ∧ Below w6.heap.size w6 w' from by
      have h := punpack9_yes A5 L c5 bs w6 HBL.out hc5 HR5.out HUN.out.1
      rw [HUN.out.2, HFI.out] at h
      refine h.mono ?_
      rintro e w' ⟨V, cv, P, cp, he, h1, h2, hb⟩
      exact ⟨V, cv, P, cp, he, h1.hv, h2.hv, hb⟩)
    go_wp2_with fail
    with_reducible refine (HUP.out).mono ?_
    rintro e w7 ⟨V7, cv7, P7, cp7, rfl, hv7, hp7, hb⟩
    have HV7 := Lib.hid hv7
    have HP7 := Lib.hid hp7
    replace HR5 := Lib.hid (HR5.out.on hb)
    replace HV1 := Lib.hid (HV1.out.on hb)
    replace HV2 := Lib.hid (HV2.out.on hb)
    obtain ⟨SB, hSB⟩ : ∃ x, sigA (p : Int) (i : Int) V7 P7 67 cv7 p cp7 = x := ⟨_, rfl⟩
    have HESB := Lib.hid hSB
    have HZSB := Lib.hid (show SB.size = 4 by rw [← hSB]; rfl)
    have HOSB := Lib.hid (show SB.all (·.oneCell') = true by rw [← hSB]; exact sigA_one _ _ _ _ _ _ _ _)
    replace HB9 := Lib.hid (HB9.out.below hb HB9.out.lt)
    replace HBW := Lib.hid (HBW.out.trans (hb.mono HBW.out.size))
    rw [hSB]
    clear hb hv7 hp7 hSB HUP
    go_upto_region 6 with (with_reducible refine wpList_store_blk rfl 35 (.tmp 12) (.tmp 39) rfl w7.heap.size SB rfl rfl 35 _ (Blk.new _ _ _) (by rw [HZSB.out]; kernel_rfl) (by rw [HZSB.out]; kernel_rfl) HOSB.out ?_)
    generalize hwn : World.setRow _ _ _ = w8
    have hal : Below w7.heap.size w7 w8 := by
      rw [← hwn]
      exact below_row ((Below.refl _ _).alloc (Nat.le_refl _) _) (by simp) (Nat.le_refl _) _
    have HB12 := Lib.hid (show Blk w8 w7.heap.size SB 35 by
      rw [← hwn]
      exact (Blk.new _ _ _).row _)
    obtain ⟨g12, hgn⟩ : ∃ g, w7.heap.size = g := ⟨_, rfl⟩
    replace HV1 := Lib.hid (HV1.out.on hal)
    replace HV2 := Lib.hid (HV2.out.on hal)
    replace HV7 := Lib.hid (HV7.out.on hal)
    replace HP7 := Lib.hid (HP7.out.on hal)
    replace HR5 := Lib.hid (HR5.out.on hal)
    replace HB9 := Lib.hid (HB9.out.below hal HB9.out.lt)
    replace HBW := Lib.hid (HBW.out.trans (hal.mono HBW.out.size))
    rw [hgn] at HB12 ⊢
    clear hal hwn hgn
    have HSG := Lib.hid (show Calls Tryd.prog 25 #[.agg SB, .agg SA] w8 fun e w' => e = .returned (.bool true) ∧ Below w8.heap.size w8 w' from by
      rw [← HESA.out, ← HESB.out]
      exact ksig9_true (p : Int) (i : Int) V7 P7 V32 P32 67 cv7 cv32 p cp7 cp32 sg pv w8 HV7.out HV1.out HP7.out HV2.out (by rw [HLF.out.1]; omega) (by rw [HLF.out.2]; omega))
    go_wp2_with (first
      | (refine wpList_load_sw9 (.tmp 12) rfl g12 rfl SB HB12.out HZSB.out ?_ ?_; · rfl)
      | (refine wpList_load_sw9 (.tmp 9) rfl g9 rfl SA HB9.out HZSA.out ?_ ?_; · rfl))
    with_reducible refine (HSG.out).mono ?_
    rintro e w9 ⟨rfl, hb⟩
    replace HR5 := Lib.hid (HR5.out.on hb)
    replace HBW := Lib.hid (HBW.out.trans (hb.mono HBW.out.size))
    clear hb HSG HV1 HV2 HV7 HP7 HB9 HB12
    have HLS := Lib.hid (fun W => run_part_h A5 L c5 L1 W (by omega))
    have HNO := Lib.hid (show Calls Tryd.prog 30 #[.slice A5 L1 c5] w9 fun e w' => e = .returned (.tuple #[.agg sig0, .bool false]) ∧ Below w9.heap.size w9 w' from by
      have hl1 : (bs.take L1).length = L1 := by rw [List.length_take, HBL.out]; omega
      refine punpack9_no A5 L1 c5 (bs.take L1) w9 hl1 (by omega) (by omega) (HR5.out.take L1) ?_
      have := unp_less HUN.out.1
      rwa [HBL.out, show L - 1 = L1 by omega] at this)
    have hls := HLS.out
    go_wp2_with fail
    with_reducible refine (HNO.out).mono ?_
    rintro e w10 ⟨rfl, hb⟩
    replace HR5 := Lib.hid (HR5.out.on hb)
    replace HBW := Lib.hid (HBW.out.trans (hb.mono HBW.out.size))
    clear hb HNO hls HLS
    obtain ⟨SC, hSC⟩ : ∃ x, sig0 = x := ⟨_, rfl⟩
    have HESC := Lib.hid hSC
    have HZSC := Lib.hid (show SC.size = 4 by rw [← hSC]; rfl)
    have HOSC := Lib.hid (show SC.all (·.oneCell') = true by rw [← hSC]; exact sigA_one _ _ _ _ _ _ _ _)
    rw [hSC]
    clear hSC
    go_upto_region 9 with (with_reducible refine wpList_store_blk rfl 35 (.tmp 14) (.tmp 69) rfl w10.heap.size SC rfl rfl 35 _ (Blk.new _ _ _) (by rw [HZSC.out]; kernel_rfl) (by rw [HZSC.out]; kernel_rfl) HOSC.out ?_)
    generalize hwn : World.setRow _ _ _ = w11
    have hal : Below w10.heap.size w10 w11 := by
      rw [← hwn]
      exact below_row ((Below.refl _ _).alloc (Nat.le_refl _) _) (by simp) (Nat.le_refl _) _
    have HB14 := Lib.hid (show Blk w11 w10.heap.size SC 35 by
      rw [← hwn]
      exact (Blk.new _ _ _).row _)
    obtain ⟨g14, hgn⟩ : ∃ g, w10.heap.size = g := ⟨_, rfl⟩
    replace HR5 := Lib.hid (HR5.out.on hal)
    replace HBW := Lib.hid (HBW.out.trans (hal.mono HBW.out.size))
    rw [hgn] at HB14 ⊢
    clear hal hwn hgn
    have HB11 := Lib.hid HBW.out
    have HCP := Lib.hid (copyB_any A5 L c5 _ bs w11 HBL.out (by omega) HR5.out)
    obtain ⟨i0, hi0, hi1, hi2, hi3⟩ := info_parts info5
    go_wp2_with fail
    with_reducible refine (HCP.out).mono ?_
    rintro e w12 ⟨A6, c6, rfl, hc6, ho6, hb⟩
    have HO6 := Lib.hid ((ho6.alloc (.cells #[.int .u8 0] 5)).own)
    have HB12 := Lib.hid hb
    replace HBW := Lib.hid (HBW.out.trans (hb.mono HBW.out.size))
    have HSZ := Lib.hid hb.size
    have HRZ := Lib.hid (show Rd (w12.alloc (.cells #[.int .u8 0] 5)) (w12.heap.size + 1) (some ⟨w12.heap.size, 0, none⟩) [0] from .inr ⟨w12.heap.size, 0, rfl, by omega, fun j hj => by
      have h0 : j = 0 := by simp at hj; exact hj
      subst h0
      exact (Blk.new w12 #[.int .u8 0] 5).cell 0⟩)
    clear hb ho6 HCP
    go_wp2_with (at_builtin; refine wpList_append_rd rfl _ _ 24 rfl w11.heap.size 5 i0 Tryd.underlying24 hi0 hi1 hi2 hi3 _ L _ rfl HO6.out (w12.heap.size + 1) (some ⟨w12.heap.size, 0, none⟩) 1 1 [0] rfl rfl HRZ.out (by omega) (by have := HSZ.out; simp; omega) ?_)
    intro v13 w13 ho13 hg
    obtain ⟨A7, c7, rfl, hc7, hcm7⟩ := own_caps ho13
    have hb : Below w11.heap.size w11 w13 := (HB12.out.alloc HB12.out.size _).grown hg (by have := HSZ.out; simp; omega) (fun k hk => (HO6.out.lt k hk).1)
    have HR7 := Lib.hid (Rd.of_own (l := bs ++ [0]) (by rw [Lib.byteCells_append]; exact ho13))
    replace HBW := Lib.hid (HB11.out.trans (hb.mono HB11.out.size))
    have HNO := Lib.hid (show Calls Tryd.prog 30 #[.slice A7 (L + 1) c7] w13 fun e w' => e = .returned (.tuple #[.agg sig0, .bool false]) ∧ Below w13.heap.size w13 w' from
      punpack9_no A7 (L + 1) c7 (bs ++ [0]) w13 (by rw [List.length_append, HBL.out]; rfl) (by omega) (by omega) HR7.out (unp_more HUN.out.1 0))
    clear ho13 hg hb HB11 HB12 HO6 HRZ HR5
    go_wp2_with fail
    with_reducible refine (HNO.out).mono ?_
    rintro e w14 ⟨rfl, hb⟩
    replace HBW := Lib.hid (HBW.out.trans (hb.mono HBW.out.size))
    clear hb HNO
    obtain ⟨SD, hSD⟩ : ∃ x, sig0 = x := ⟨_, rfl⟩
    have HESD := Lib.hid hSD
    have HZSD := Lib.hid (show SD.size = 4 by rw [← hSD]; rfl)
    have HOSD := Lib.hid (show SD.all (·.oneCell') = true by rw [← hSD]; exact sigA_one _ _ _ _ _ _ _ _)
    rw [hSD]
    clear hSD
    go_upto_region 10 with (with_reducible refine wpList_store_blk rfl 35 (.tmp 16) (.tmp 77) rfl w14.heap.size SD rfl rfl 35 _ (Blk.new _ _ _) (by rw [HZSD.out]; kernel_rfl) (by rw [HZSD.out]; kernel_rfl) HOSD.out ?_)
    generalize hwn : World.setRow _ _ _ = w15
    have hal : Below w14.heap.size w14 w15 := by
      rw [← hwn]
      exact below_row ((Below.refl _ _).alloc (Nat.le_refl _) _) (by simp) (Nat.le_refl _) _
    have HB16 := Lib.hid (show Blk w15 w14.heap.size SD 35 by
      rw [← hwn]
      exact (Blk.new _ _ _).row _)
    obtain ⟨g16, hgn⟩ : ∃ g, w14.heap.size = g := ⟨_, rfl⟩
    replace HBW := Lib.hid (HBW.out.trans (hal.mono HBW.out.size))
    rw [hgn] at HB16 ⊢
    clear hal hwn hgn
    have HWK := Lib.hid (fun W (hW : Below w15.heap.size w15 W) => wakes9_any W (tab_on HTAB.out (HBW.out.trans (hW.mono HBW.out.size)) (HBW.out.trans (hW.mono HBW.out.size)).size))
    go_wp2_with fail
    with_reducible refine (HWK.out w15 (Below.refl _ _)).mono ?_
    rintro e w16 ⟨rfl, hb⟩
    replace HBW := Lib.hid (HBW.out.trans (hb.mono HBW.out.size))
    clear hb HWK
    go_wp2_with fail
    go_ret
    exact ⟨by first | rfl | kernel_rfl, HBW.out⟩

set_option maxRecDepth 100000 in
theorem contract (H : Type) (enc : TypeId × Value → H) (W : World) (base : Nat) (args : Array Value) (ds gs : List (DataW H)) (before : List MemPlace)
    (hval : ∀ (j : Nat) t v, Tryd.f9.params[j]? = some t → args[j]? = some v → Value.okWide Tryd.prog W .any base t v)
    (hW : DataW.Whole enc Tryd.prog Tryd.f9.params.toList Rows.mssPacksSpec.vars false W args.toList ds gs before) (hL : laidMetH Tryd.prog Rows.mssPacksRow.laid W) :
    Calls Tryd.prog 9 args W fun e W' => ∃ v, e = .returned v ∧ Rows.mssPacksSpec.post enc Tryd.prog Tryd.f9 false true false false W args v W' := by
  have hW' := hW
  obtain ⟨p, q, hA0, hV, rfl, hfz, hnd⟩ := hW
  have hA : DataW.TrodAll enc Tryd.prog W 0 (fun _ => true) true Tryd.f9.params.toList args.toList ds p := hA0
  rw [Tryd.params9] at hA hval
  obtain ⟨v0, v1, v2, v3, d0, d1, d2, d3, p0, p1, p2, p3, rfl, rfl, rfl, h0, h1, h2, h3⟩ := trodAll_four hA
  obtain ⟨rfl, rfl⟩ := trodVars_none hV
  obtain ⟨k0, rfl, hk0⟩ := open_array Tryd.underlying23 (by kernel_rfl) (hval 0 23 v0 rfl rfl) h0
  obtain ⟨n1, rfl, rfl, rfl, wf1⟩ := open_int Tryd.underlying3 (hval 1 3 v1 rfl rfl) h1
  have b1 := bounds_i64 wf1
  obtain ⟨n2, rfl, rfl, rfl, wf2⟩ := open_int Tryd.underlying3 (hval 2 3 v2 rfl rfl) h2
  have b2 := bounds_i64 wf2
  obtain ⟨A3, m3, c3, l3, rfl, hl3, hc3, hm3, hr3⟩ := open_bytes (hval 3 24 v3 rfl rfl) h3
  clear hA0
  refine (walk k0 n1 n2 A3 m3 c3 l3 W hk0 b1.1 b1.2 b2.1 b2.2 hl3 hc3 hm3 hr3 (pow10 hL)).mono fun e W' ⟨he, hb⟩ => ?_
  exact ⟨_, he, law_post hW' rfl (by kernel_rfl) rfl (by kernel_rfl) hb⟩

theorem laid_met (os : Os) : laidMet Tryd.prog Rows.mssPacksRow.laid ((laidWorld os).forCall (fun _ _ => 0) ⟨#[], #[.agg #[.int .u8 0, .int .u8 0, .int .u8 0, .int .u8 0, .int .u8 0, .int .u8 0, .int .u8 0, .int .u8 0, .int .u8 0, .int .u8 0, .int .u8 0, .int .u8 0, .int .u8 0, .int .u8 0, .int .u8 0, .int .u8 0], .int .i64 0, .int .i64 0, .slice none 0 0], []⟩).memory :=
  laidMet_of_run' 8 (by kernel_rfl) (by kernel_rfl)
theorem reads (os : Os) {H : Type} (enc : TypeId × Value → H) : ∃ places, DataW.whole enc Tryd.prog ((laidWorld os).forCall (fun _ _ => 0) ⟨#[], #[.agg #[.int .u8 0, .int .u8 0, .int .u8 0, .int .u8 0, .int .u8 0, .int .u8 0, .int .u8 0, .int .u8 0, .int .u8 0, .int .u8 0, .int .u8 0, .int .u8 0, .int .u8 0, .int .u8 0, .int .u8 0, .int .u8 0], .int .i64 0, .int .i64 0, .slice none 0 0], []⟩).memory Tryd.f9.params.toList Rows.mssPacksSpec.vars false #[Value.agg #[.int .u8 0, .int .u8 0, .int .u8 0, .int .u8 0, .int .u8 0, .int .u8 0, .int .u8 0, .int .u8 0, .int .u8 0, .int .u8 0, .int .u8 0, .int .u8 0, .int .u8 0, .int .u8 0, .int .u8 0, .int .u8 0], Value.int .i64 0, Value.int .i64 0, Value.slice none 0 0].toList 8 = some ([.agg [.lit (.int .u8 0), .lit (.int .u8 0), .lit (.int .u8 0), .lit (.int .u8 0), .lit (.int .u8 0), .lit (.int .u8 0), .lit (.int .u8 0), .lit (.int .u8 0), .lit (.int .u8 0), .lit (.int .u8 0), .lit (.int .u8 0), .lit (.int .u8 0), .lit (.int .u8 0), .lit (.int .u8 0), .lit (.int .u8 0), .lit (.int .u8 0)], .lit (.int .i64 0), .lit (.int .i64 0), .nil], [], places) :=
  ⟨[], by kernel_rfl⟩

set_option maxRecDepth 100000 in
theorem lifted (os : Os) (started : os.Started) (H : Type) (enc : TypeId × Value → H) (F : Stop.Interp) :
    ReturnsInHanded {} Tryd.checked os 9 .any ((OpenSpec.ofChange Rows.mssPacksSpec).preRow enc Tryd.prog Tryd.f9 Rows.mssPacksRow.domain false Rows.mssPacksRow.laid) (((OpenSpec.ofChange Rows.mssPacksSpec).at F).post enc Tryd.prog Tryd.f9 false true false false) := by
  obtain ⟨places, hx⟩ := reads os enc
  refine returnsInHanded_of_row (C := Tryd.checked) (s := OpenSpec.ofChange Rows.mssPacksSpec) own started (by kernel_rfl) Tryd.func9
    (witness_row_at (enc := enc) (C := Tryd.checked) false (laidWorld os) #[.agg #[.int .u8 0, .int .u8 0, .int .u8 0, .int .u8 0, .int .u8 0, .int .u8 0, .int .u8 0, .int .u8 0, .int .u8 0, .int .u8 0, .int .u8 0, .int .u8 0, .int .u8 0, .int .u8 0, .int .u8 0, .int .u8 0], .int .i64 0, .int .i64 0, .slice none 0 0] rfl (by kernel_rfl) (by kernel_rfl) (by kernel_rfl)
      (OpenSpec.preRow_of_cond 8 hx (by kernel_rfl) (fun k hk => by cases hk) (by kernel_rfl) (laid_met os))) ?_
  intro W base args ds gs before hval hW _ _ _ hL _ _
  exact contract H enc W base args ds gs before hval hW hL

theorem said : Rows.MssPacksSaid :=
  OpenClaim.holds_of_cond 9 Tryd.f9 rfl rfl rfl rfl rfl rfl rfl ⟨rfl, rfl, rfl, rfl, rfl⟩ rfl rfl rfl rfl rfl (by kernel_rfl) Tryd.func9 (by kernel_rfl)
    (of_decide_eq_true (by kernel_rfl)) (by unfold Func.isWrapper; first | (rw [if_pos (by decide +kernel)]; kernel_rfl) | (rw [if_neg (by decide +kernel)]; exact ⟨rfl, rfl⟩))
    (fun os started H enc _ F => by rw [OpenClaim.pre_eq_preRow]; exact lifted os started H enc F)

theorem plain (f : FuncId) (fn : Func) (hf : Tryd.pinned.checked.prog.funcNamed "aumbry/aumbrylaw09.MssPacks" = some f) (hfn : Tryd.pinned.checked.prog.funcs[f]? = some fn) :
    false = Tryd.pinned.checked.prog.looks [] ∧ ∀ (j : Nat) t, fn.params[j]? = some t → Tryd.pinned.checked.prog.wantsStandIn t = false := by
  obtain rfl : f = 9 := Option.some.inj ((show Tryd.prog.funcNamed "aumbry/aumbrylaw09.MssPacks" = some 9 by kernel_rfl).symm.trans hf) |>.symm
  obtain rfl : fn = Tryd.f9 := (Option.some.inj (Tryd.func9.symm.trans hfn)).symm
  refine ⟨by kernel_rfl, fun j t ht => ?_⟩
  exact wants_none (by kernel_rfl) (Array.mem_of_getElem? ht)

/-- The card: the statement holds, its listed tables tied to the program's text. -/
theorem card : Rows.MssPacksCardSaid :=
  Claim7.holds_tied_plain_at .later [] _ _ _ _ said (fun _ h => by cases h) (by kernel_rfl) (fun _ h => by cases h) mssPacks_row_tie rfl ⟨rfl, rfl⟩ (by kernel_rfl) rfl plain (by kernel_rfl)
end Go.Proofs.YtfgieebccjoboaaDoor.mssPacks
