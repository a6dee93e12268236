/- MssLeak: a secret that was not given out is a leak; one that was is none; nor is what is no secret. For all seeds, leaves, chains, places, messages and hashes. -/
import Derived.Test.YtfgieebccjoboaaDoorLaw
import Derived.Test.YtfgieebccjoboaaDoorSix
import Derived.Test.YtfgieebccjoboaaDoorKeep
import Derived.Test.YtfgieebccjoboaaDoorSub
import Derived.Test.YtfgieebccjoboaaDoorFreeS
import Derived.Test.YtfgieebccjoboaaDoorMssLk
import Derived.Test.YtfgieebccjoboaaDoorMssH
import Derived.Test.YtfgieebccjoboaaDoorHashD
namespace Go.Proofs.YtfgieebccjoboaaDoor.mssLeak
open Go.ChangeShapes Go.WideShapes Go.ChangeAt Go.RowKit

set_option maxRecDepth 100000 in
set_option maxHeartbeats 16000000 in
theorem walk (sd : List UInt8) (leaf chain place : Int) (A4 : Option Addr) (n4 c4 : Nat) (m4 : List UInt8) (v0 : List UInt8) (w : World) (hs : sd.length = 16) (leafl : -9223372036854775808 ≤ leaf) (leafh : leaf ≤ 9223372036854775807) (chainl : -9223372036854775808 ≤ chain) (chainh : chain ≤ 9223372036854775807) (placel : -9223372036854775808 ≤ place) (placeh : place ≤ 9223372036854775807) (hn4 : m4.length = n4) (hc4 : n4 ≤ c4) (_hcm4 : c4 ≤ maxLen) (hr4 : Rd w w.heap.size A4 m4) (hv0 : v0.length = 32) (htab : Pow10 w.heap.size w) :
    Calls Tryd.prog 4 #[.agg (u8A sd), .int .i64 leaf, .int .i64 chain, .int .i64 place, .slice A4 n4 c4, .agg (u8A v0)] w fun e w' => e = .returned (.bool true) ∧ Below w.heap.size w w' := by
  obtain ⟨l, hl, hln⟩ : ∃ l : Nat, withinI leaf 2 = (l : Int) ∧ (l : Int) < 2 := by
    have := withinI_range leaf 2 (by omega)
    exact ⟨(withinI leaf 2).toNat, by omega, by omega⟩
  have HWI := Lib.hid (fun W => (show Calls Tryd.prog 11 #[.int .i64 leaf, .int .i64 2] W fun e w' => e = .returned (.int .i64 (l : Int)) ∧ W = w' from by rw [← hl]; exact within_any leaf 2 W (by omega) (by omega) (by omega)))
  obtain ⟨ch, hch, hchn⟩ : ∃ ch : Nat, withinI chain 67 = (ch : Int) ∧ (ch : Int) < 67 := by
    have := withinI_range chain 67 (by omega)
    exact ⟨(withinI chain 67).toNat, by omega, by omega⟩
  have HWC := Lib.hid (fun W => (show Calls Tryd.prog 11 #[.int .i64 chain, .int .i64 67] W fun e w' => e = .returned (.int .i64 (ch : Int)) ∧ W = w' from by rw [← hch]; exact within_any chain 67 W (by omega) (by omega) (by omega)))
  obtain ⟨pl, hpl, hpln⟩ : ∃ pl : Nat, withinI place 16 = (pl : Int) ∧ (pl : Int) < 16 := by
    have := withinI_range place 16 (by omega)
    exact ⟨(withinI place 16).toNat, by omega, by omega⟩
  have HWP := Lib.hid (fun W => (show Calls Tryd.prog 11 #[.int .i64 place, .int .i64 16] W fun e w' => e = .returned (.int .i64 (pl : Int)) ∧ W = w' from by rw [← hpl]; exact within_any place 16 W (by omega) (by omega) (by omega)))
  obtain ⟨M, hM⟩ : ∃ M, min n4 30 = M := ⟨_, rfl⟩
  have HC4 := Lib.hid (fun W => (show Calls Tryd.prog 12 #[.slice A4 n4 c4, .int .i64 30] W fun e W' => e = .returned (.slice A4 M c4) ∧ W = W' from by
    rw [← hM]
    exact cut_any A4 n4 c4 30 W hc4))
  have hMk : M ≤ 30 := by omega
  have hMc : M ≤ c4 := by omega
  obtain ⟨bl, hbl⟩ : ∃ x, m4.take 30 = x := ⟨_, rfl⟩
  have hbln : bl.length = M := by rw [← hbl, List.length_take, hn4]; omega
  have hblr : Rd w w.heap.size A4 bl := by rw [← hbl]; exact hr4.take 30
  have HTAB := Lib.hid htab
  obtain ⟨X, hX⟩ : ∃ x, u8A sd = x := ⟨_, rfl⟩
  have HEX := Lib.hid hX
  have HZX := Lib.hid (show X.size = 16 by rw [← hX, u8A_size]; exact hs)
  have HOX := Lib.hid (show X.all (·.oneCell') = true by rw [← hX]; exact u8A_one _)
  obtain ⟨V0, hV0⟩ : ∃ x, u8A v0 = x := ⟨_, rfl⟩
  have HEV0 := Lib.hid hV0
  have HZV0 := Lib.hid (show V0.size = 32 by rw [← hV0, u8A_size]; exact hv0)
  have HOV0 := Lib.hid (show V0.all (·.oneCell') = true by rw [← hV0]; exact u8A_one _)
  obtain ⟨FZ, hFZ⟩ : ∃ x, forge0 = x := ⟨_, rfl⟩
  have HEFZ := Lib.hid hFZ
  have HZFZ := Lib.hid (show FZ.size = 38 by rw [← hFZ]; exact forge0_size)
  have HOFZ := Lib.hid (show FZ.all (·.oneCell') = true by rw [← hFZ]; exact forgeA_one _ _ _ _ _ _ _ _ _ _ _)
  have HLFZ := Lib.hid (show FZ[2]? = some (.bool false) by rw [← hFZ]; rfl)
  obtain ⟨q, hq⟩ : ∃ q, 1 + M = q := ⟨_, rfl⟩
  have hq1 : 1 ≤ q := by omega
  have hq2 : q ≤ 31 := by omega
  obtain ⟨l2, hl2⟩ : ∃ l2, 1 - l = l2 := ⟨_, rfl⟩
  have hl2i : (1 : Int) - (l : Int) = (l2 : Int) := by omega
  have hlb : l < 2 := by omega
  have hl2b : l2 < 2 := by omega
  have hll : l ≠ l2 := by omega
  have hchb : ch < 67 := by omega
  obtain ⟨bm, hbm⟩ : ∃ x, (1 : UInt8) :: bl = x := ⟨_, rfl⟩
  have HBM := Lib.hid hbm
  have HML := Lib.hid (show bm.length = q by rw [← hbm, List.length_cons, hbln]; omega)
  have HMN := Lib.hid (show bm ≠ [] by rw [← hbm]; simp)
  obtain ⟨D, hD⟩ : ∃ x, digH (msgH bm) = x := ⟨_, rfl⟩
  have HDL := Lib.hid (show D.length = 67 by rw [← hD]; exact digH_len (msgH_len _))
  obtain ⟨d, hd⟩ : ∃ x, D.getD ch 0 = x := ⟨_, rfl⟩
  have hd15 : d ≤ 15 := by rw [← hd, ← hD]; exact digH_at (msgH_len _) _
  obtain ⟨sgA, hsgA⟩ : ∃ x, atL (signF sd (l : Int) D) 67 = x := ⟨_, rfl⟩
  obtain ⟨sgB, hsgB⟩ : ∃ x, atL (signF sd (l2 : Int) D) 67 = x := ⟨_, rfl⟩
  obtain ⟨vA, hvA⟩ : ∃ x, alongH d (startH sd (l : Int) (ch : Int)) = x := ⟨_, rfl⟩
  obtain ⟨vB, hvB⟩ : ∃ x, alongH d (startH sd (l2 : Int) (ch : Int)) = x := ⟨_, rfl⟩
  have HGA := Lib.hid (show sgA.getD ch [] = vA by rw [← hsgA, atL_get _ hchb, ← hvA, ← hd]; rfl)
  have HGB := Lib.hid (show sgB.getD ch [] = vB by rw [← hsgB, atL_get _ hchb, ← hvB, ← hd]; rfl)
  have hpA : (proofV (pubsL sd 2) l).length = 1 := proofV_len9 sd 1 l
  have hpB : (proofV (pubsL sd 2) l2).length = 1 := proofV_len9 sd 1 l2
  have hvA32 : vA.length = 32 := by rw [← hvA]; exact alongH_len (startH_len _ _ _) _
  have hvB32 : vB.length = 32 := by rw [← hvB]; exact alongH_len (startH_len _ _ _) _
  have HLN := Lib.hid (And.intro hvA32 (And.intro hvB32 hv0))
  obtain ⟨VA, hVA⟩ : ∃ x, u8A vA = x := ⟨_, rfl⟩
  have HEVA := Lib.hid hVA
  have HZVA := Lib.hid (show VA.size = 32 by rw [← hVA, u8A_size]; exact hvA32)
  have HOVA := Lib.hid (show VA.all (·.oneCell') = true by rw [← hVA]; exact u8A_one _)
  obtain ⟨VB, hVB⟩ : ∃ x, u8A vB = x := ⟨_, rfl⟩
  have HEVB := Lib.hid hVB
  have HZVB := Lib.hid (show VB.size = 32 by rw [← hVB, u8A_size]; exact hvB32)
  have HOVB := Lib.hid (show VB.all (·.oneCell') = true by rw [← hVB]; exact u8A_one _)
  obtain ⟨FA, hFA⟩ : ∃ x, leakA (l : Int) (ch : Int) (d : Int) vA = x := ⟨_, rfl⟩
  have HEFA := Lib.hid hFA
  have HZFA := Lib.hid (show FA.size = 38 by rw [← hFA]; exact leakA_size hvA32)
  have HOFA := Lib.hid (show FA.all (·.oneCell') = true by rw [← hFA]; exact forgeA_one _ _ _ _ _ _ _ _ _ _ _)
  clear hFA
  obtain ⟨FB, hFB⟩ : ∃ x, leakA (l2 : Int) (ch : Int) (d : Int) vB = x := ⟨_, rfl⟩
  have HEFB := Lib.hid hFB
  have HZFB := Lib.hid (show FB.size = 38 by rw [← hFB]; exact leakA_size hvB32)
  have HOFB := Lib.hid (show FB.all (·.oneCell') = true by rw [← hFB]; exact forgeA_one _ _ _ _ _ _ _ _ _ _ _)
  clear hFB
  obtain ⟨FC, hFC⟩ : ∃ x, leakA (l : Int) (ch : Int) (pl : Int) v0 = x := ⟨_, rfl⟩
  have HEFC := Lib.hid hFC
  have HZFC := Lib.hid (show FC.size = 38 by rw [← hFC]; exact leakA_size hv0)
  have HOFC := Lib.hid (show FC.all (·.oneCell') = true by rw [← hFC]; exact forgeA_one _ _ _ _ _ _ _ _ _ _ _)
  clear hFC
  obtain ⟨FE, hFE⟩ : ∃ x, leakA 2 0 0 v0 = x := ⟨_, rfl⟩
  have HEFE := Lib.hid hFE
  have HZFE := Lib.hid (show FE.size = 38 by rw [← hFE]; exact leakA_size hv0)
  have HOFE := Lib.hid (show FE.all (·.oneCell') = true by rw [← hFE]; exact forgeA_one _ _ _ _ _ _ _ _ _ _ _)
  clear hFE
  have HPC := Lib.hid (show FC[5]? = some (.int .i64 (pl : Int)) by rw [← HEFC.out]; exact (forge_cells none none 0 0 0 0 true (l : Int) (ch : Int) (pl : Int) hv0).2.2.2.2.2.2.1)
  have HZV := Lib.hid (fun W => (zero_forge9 W).trans (by rw [HEFZ.out]))
  have HSA := Lib.hid (fun A c W (hW : Below w.heap.size w W) (hc : q ≤ c) (hcm : c ≤ maxLen) (hr : Rd W W.heap.size A bm) => (show Calls Tryd.prog 14 #[.agg X, .int .i64 1, .int .i64 (l : Int), .slice A q c] W fun e w' => ∃ V cv P cp, e = .returned (.tuple #[.agg (sigA 1 (l : Int) V P 67 cv 1 cp), .int .i64 0]) ∧ OwnH w' W.heap.size (.slice V 67 cv) sgA ∧ Below W.heap.size W w' from by
    have h := psig9_yes sd 1 l A q c bm W (by show l < 2; omega) hs HML.out (by omega) hc hcm hr (tab_on htab hW hW.size)
    rw [show cntN 1 = 2 from rfl, hD, hsgA, hpA, hX] at h
    refine h.mono ?_
    rintro e w' ⟨V, cv, P, cp, he, h1, _, hb⟩
    exact ⟨V, cv, P, cp, he, h1, hb⟩))
  have HSB := Lib.hid (fun A c W (hW : Below w.heap.size w W) (hc : q ≤ c) (hcm : c ≤ maxLen) (hr : Rd W W.heap.size A bm) => (show Calls Tryd.prog 14 #[.agg X, .int .i64 1, .int .i64 (l2 : Int), .slice A q c] W fun e w' => ∃ V cv P cp, e = .returned (.tuple #[.agg (sigA 1 (l2 : Int) V P 67 cv 1 cp), .int .i64 0]) ∧ OwnH w' W.heap.size (.slice V 67 cv) sgB ∧ Below W.heap.size W w' from by
    have h := psig9_yes sd 1 l2 A q c bm W (by show l2 < 2; omega) hs HML.out (by omega) hc hcm hr (tab_on htab hW hW.size)
    rw [show cntN 1 = 2 from rfl, hD, hsgB, hpB, hX] at h
    refine h.mono ?_
    rintro e w' ⟨V, cv, P, cp, he, h1, _, hb⟩
    exact ⟨V, cv, P, cp, he, h1, hb⟩))
  have HDG := Lib.hid (fun A c W (hc : q ≤ c) (hcm : c ≤ maxLen) (hr : Rd W W.heap.size A bm) => (show Calls Tryd.prog 18 #[.slice A q c] W fun e w' => ∃ v, e = .returned v ∧ DV w' v D ∧ Below W.heap.size W w' from by
    have h := rdigits_any A q c bm W HML.out (by omega) hc hcm hr
    rw [hD] at h
    exact h.mono fun e w' ⟨v, he, ho, hb⟩ => ⟨v, he, ho.dv, hb⟩))
  have HHG := Lib.hid (fun R FA (lf chh pll : Int) (vv : List UInt8) W (hW : Below w.heap.size w W) (hrr : RdR W W.heap.size R (oneL 2 l bm)) (hF : leakA lf chh pll vv = FA) (hv : vv.length = 32) (hlf : lf ≤ 9223372036854775807) => (show Calls Tryd.prog 19 #[.agg X, .int .i64 1, .slice R 2 2, .agg FA] W fun e w' => e = .returned (.bool (decide (holdsX sd 1 (oneL 2 l bm) true lf chh pll vv [] []))) ∧ Below W.heap.size W w' from by
    rw [← hX, ← hF]
    exact pholds9_any sd 1 R 2 2 (oneL 2 l bm) _ none none 0 0 0 0 true lf chh pll vv [] [] W hs (oneL_len _ _ _) (oneL_short (by rw [HML.out]; omega)) hrr (forge_cells none none 0 0 0 0 true lf chh pll hv) hv rfl rfl (Nat.le_refl _) (Nat.le_refl _) (by omega) (by omega) (.inl rfl) (.inl rfl) hlf (tab_on htab hW hW.size)))
  have HRG := Lib.hid (fun R W (hrr : RdR W W.heap.size R (oneL 2 l bm)) => (show Calls Tryd.prog 20 #[.agg X, .int .i64 1, .slice R 2 2, .agg FC] W fun e w' => e = .returned (.bool (decide (holdsX sd 1 (oneL 2 l bm) true (l : Int) (ch : Int) (pl : Int) v0 [] []))) ∧ Below W.heap.size W w' from by
    rw [← hX, ← HEFC.out, leak_both]
    exact rholds9_any sd 1 R 2 2 (oneL 2 l bm) none none 0 0 0 0 true (l : Int) (ch : Int) (pl : Int) v0 [] [] W hs (by omega) (oneL_len _ _ _) (oneL_short (by rw [HML.out]; omega)) hrr hv0 rfl rfl (by omega) (by omega) (.inl rfl) (.inl rfl) (by omega) (by omega)))
  have HWA := Lib.hid (show decide (holdsX sd 1 (oneL 2 l bm) true (l : Int) (ch : Int) (d : Int) vA [] []) = false by rw [← hd, ← hD]; exact leak_was sd hlb HMN.out vA)
  have HWB := Lib.hid (show decide (holdsX sd 1 (oneL 2 l bm) true (l2 : Int) (ch : Int) (d : Int) vB [] []) = true by rw [← hvB]; exact leak_is sd hl2b hll hchb hd15)
  have HWE := Lib.hid (leak_out sd (oneL 2 l bm) v0)
  obtain ⟨bz, hbz⟩ : ∃ b, decide (holdsX sd 1 (oneL 2 l bm) true (l : Int) (ch : Int) (pl : Int) v0 [] []) = b := ⟨_, rfl⟩
  have HWV := Lib.hid hbz
  rw [hbz] at HRG
  rw [hX, hV0]
  have HDD := Lib.hid hd
  clear hX hV0 hFZ htab hl hch hpl hbl hM hn4 hr4 hbm hD hd hsgA hsgB hvA hvB hVA hVB hpA hpB hbz hl2
  go_enter Tryd.func4, Tryd.ntmps4
  go_upto_region 1 with fail
  generalize hw1 : World.alloc _ _ = w3
  obtain ⟨g6, hg6⟩ : ∃ g, w.heap.size = g := ⟨_, rfl⟩
  obtain ⟨g11, hg11⟩ : ∃ g, w.heap.size + 1 = g := ⟨_, rfl⟩
  have hf : Blk w3 g6 X 23 ∧ Blk w3 g11 V0 29 ∧ Below w.heap.size w w3 := by
    have hw : w3 = ((w.alloc (.cells X 23)).alloc (.cells V0 29)) := hw1.symm
    have e1 : (w.alloc (.cells X 23)).heap.size = w.heap.size + 1 := by simp
    rw [hw, ← hg6, ← hg11]
    exact ⟨by exact (Blk.new _ _ _).alloc _, by rw [← e1]; exact Blk.new _ _ _, (((Below.refl _ _).alloc (Nat.le_refl _) _).alloc (by simp) _)⟩
  have HB6 := Lib.hid hf.1
  have HB11 := Lib.hid hf.2.1
  have HBW := Lib.hid hf.2.2
  have HG6 := Lib.hid (show w.heap.size ≤ g6 by omega)
  have HG11 := Lib.hid (show w.heap.size ≤ g11 by omega)
  clear hf hw1
  rw [hg11, hg6]
  clear hg6 hg11
  go_wp2_with fail
  with_reducible refine (HWI.out _).mono ?_
  rintro e wx ⟨rfl, rfl⟩
  go_wp2_with fail
  with_reducible refine (HWC.out _).mono ?_
  rintro e wx ⟨rfl, rfl⟩
  clear HWI HWC
  obtain ⟨i0, hi0, hi1, hi2, hi3⟩ := info_parts info5
  have HO1 := Lib.hid (⟨rfl, .inr ⟨w3.heap.size, 1, #[.int .u8 1], rfl, Nat.le_refl _, heap_alloc_new _ _, Nat.le_refl _, by decide, rfl, rfl⟩⟩ : (w3.alloc (.cells #[.int .u8 1] 5)).ownsRow w3.heap.size 5 1 (.slice (some ⟨w3.heap.size, 0, none⟩) 1 1) 1 [.int .u8 1])
  have hal : Below w3.heap.size w3 (w3.alloc (.cells #[.int .u8 1] 5)) := (Below.refl _ _).alloc (Nat.le_refl _) _
  have HCR := Lib.hid (((hblr.on HBW.out).below hal (Nat.le_refl _)))
  go_wp2_with fail
  with_reducible refine (HC4.out _).mono ?_
  rintro e wx ⟨rfl, rfl⟩
  go_wp2_with (at_builtin; refine wpList_append_rd rfl _ _ 24 rfl w3.heap.size 5 i0 Tryd.underlying24 hi0 hi1 hi2 hi3 _ 1 [.int .u8 1] rfl HO1.out w3.heap.size A4 M c4 bl rfl hbln HCR.out (by omega) (by simp) ?_)
  intro vq w4 ho hg
  have hb : Below w3.heap.size w3 w4 := hal.grown hg (by simp) (fun k hk => by simp [Value.ownBlock] at hk; omega)
  obtain ⟨AQ, cQ, rfl, hcq, hcmq⟩ := own_caps ho
  have HRM := Lib.hid (show Rd w4 w4.heap.size AQ bm by
    rw [← HBM.out]
    exact Rd.of_own (l := 1 :: bl) ho)
  replace HB6 := Lib.hid (HB6.out.below hb HB6.out.lt)
  replace HB11 := Lib.hid (HB11.out.below hb HB11.out.lt)
  replace HBW := Lib.hid (HBW.out.trans (hb.mono HBW.out.size))
  try rw [hq] at hcq
  try rw [hq]
  clear hb ho hg hal HCR HO1 hi0 hi1 hi2 hi3 HC4
  go_wp2_with (with_reducible refine wpList_make_nils rfl _ _ rfl 2 (by omega) rfl rfl ?_)
  intro w5 cs hbk hcz hcs hb
  obtain ⟨g13, hg13⟩ : ∃ g, w4.heap.size = g := ⟨_, rfl⟩
  rw [hg13] at hbk ⊢
  have HB13 := Lib.hid hbk
  have HCS := Lib.hid (And.intro hcz hcs)
  have HNL := Lib.hid (show g6 < g13 ∧ g11 < g13 by have h1 := HB6.out.lt; have h2 := HB11.out.lt; omega)
  have HGL := Lib.hid (show w.heap.size ≤ g13 by have := HBW.out.size; omega)
  have HRM0 := Lib.hid (show Rd w5 g13 AQ bm by rw [← hg13]; exact HRM.out.below hb (Nat.le_refl _))
  replace HRM := Lib.hid (HRM.out.on hb)
  replace HB6 := Lib.hid (HB6.out.below hb HB6.out.lt)
  replace HB11 := Lib.hid (HB11.out.below hb HB11.out.lt)
  replace HBW := Lib.hid (HBW.out.trans (hb.mono HBW.out.size))
  clear hb hbk hcz hcs hg13
  go_wp2_with (with_reducible refine wpList_load_blk rfl 23 (.tmp 6) rfl g6 rfl 23 X _ HB6.out Tryd.underlying23 rfl (by rw [HZX.out]; kernel_rfl) ?_)
  with_reducible refine (HSA.out AQ cQ w5 HBW.out hcq hcmq HRM.out).mono ?_
  rintro e w6 ⟨V, cv, P, cp, rfl, hv1, hb⟩
  have HV1 := Lib.hid hv1
  replace HRM0 := Lib.hid (HRM0.out.below hb (by have := HB13.out.lt; omega))
  replace HRM := Lib.hid (HRM.out.on hb)
  obtain ⟨SA, hSA⟩ : ∃ x, sigA 1 (l : Int) V P 67 cv 1 cp = x := ⟨_, rfl⟩
  have HESA := Lib.hid hSA
  have HZSA := Lib.hid (show SA.size = 4 by rw [← hSA]; rfl)
  have HOSA := Lib.hid (show SA.all (·.oneCell') = true by rw [← hSA]; exact sigA_one _ _ _ _ _ _ _ _)
  have HCA2 := Lib.hid (show SA[2]? = some (.slice V 67 cv) by rw [← hSA]; rfl)
  replace HB6 := Lib.hid (HB6.out.below hb HB6.out.lt)
  replace HB11 := Lib.hid (HB11.out.below hb HB11.out.lt)
  replace HB13 := Lib.hid (HB13.out.below hb HB13.out.lt)
  replace HBW := Lib.hid (HBW.out.trans (hb.mono HBW.out.size))
  rw [hSA]
  clear hb hv1 hSA HSA
  go_upto_region 5 with (with_reducible refine wpList_store_blk rfl 35 (.tmp 14) (.tmp 37) rfl w6.heap.size SA rfl rfl 35 _ (Blk.new _ _ _) (by rw [HZSA.out]; kernel_rfl) (by rw [HZSA.out]; kernel_rfl) HOSA.out ?_)
  generalize hwn : World.setRow _ _ _ = w7
  have hal : Below w6.heap.size w6 w7 := by
    rw [← hwn]
    exact below_row ((Below.refl _ _).alloc (Nat.le_refl _) _) (by simp) (Nat.le_refl _) _
  have HB14 := Lib.hid (show Blk w7 w6.heap.size SA 35 by
    rw [← hwn]
    exact (Blk.new _ _ _).row _)
  obtain ⟨g14, hgn⟩ : ∃ g, w6.heap.size = g := ⟨_, rfl⟩
  have HN14 := Lib.hid (show g13 < g14 by have := HB13.out.lt; omega)
  replace HRM0 := Lib.hid (HRM0.out.below hal (by have := HB13.out.lt; omega))
  replace HRM := Lib.hid (HRM.out.on hal)
  replace HV1 := Lib.hid (HV1.out.on hal)
  replace HB6 := Lib.hid (HB6.out.below hal HB6.out.lt)
  replace HB11 := Lib.hid (HB11.out.below hal HB11.out.lt)
  replace HB13 := Lib.hid (HB13.out.below hal HB13.out.lt)
  replace HBW := Lib.hid (HBW.out.trans (hal.mono HBW.out.size))
  rw [hgn] at HB14 ⊢
  clear hal hwn hgn
  go_wp2_with (with_reducible refine wpList_load_blk rfl 23 (.tmp 6) rfl g6 rfl 23 X _ HB6.out Tryd.underlying23 rfl (by rw [HZX.out]; kernel_rfl) ?_)
  with_reducible refine (HSB.out AQ cQ w7 HBW.out hcq hcmq HRM.out).mono ?_
  rintro e w8 ⟨V2, cv2, P2, cp2, rfl, hv2, hb⟩
  have HV2 := Lib.hid hv2
  replace HRM0 := Lib.hid (HRM0.out.below hb (by have := HB13.out.lt; omega))
  replace HRM := Lib.hid (HRM.out.on hb)
  replace HV1 := Lib.hid (HV1.out.on hb)
  obtain ⟨SB, hSB⟩ : ∃ x, sigA 1 (l2 : Int) V2 P2 67 cv2 1 cp2 = x := ⟨_, rfl⟩
  have HESB := Lib.hid hSB
  have HZSB := Lib.hid (show SB.size = 4 by rw [← hSB]; rfl)
  have HOSB := Lib.hid (show SB.all (·.oneCell') = true by rw [← hSB]; exact sigA_one _ _ _ _ _ _ _ _)
  have HCB2 := Lib.hid (show SB[2]? = some (.slice V2 67 cv2) by rw [← hSB]; rfl)
  replace HB6 := Lib.hid (HB6.out.below hb HB6.out.lt)
  replace HB11 := Lib.hid (HB11.out.below hb HB11.out.lt)
  replace HB13 := Lib.hid (HB13.out.below hb HB13.out.lt)
  replace HB14 := Lib.hid (HB14.out.below hb HB14.out.lt)
  replace HBW := Lib.hid (HBW.out.trans (hb.mono HBW.out.size))
  rw [hSB]
  clear hb hv2 hSB HSB
  go_upto_region 6 with (with_reducible refine wpList_store_blk rfl 35 (.tmp 16) (.tmp 45) rfl w8.heap.size SB rfl rfl 35 _ (Blk.new _ _ _) (by rw [HZSB.out]; kernel_rfl) (by rw [HZSB.out]; kernel_rfl) HOSB.out ?_)
  generalize hwn : World.setRow _ _ _ = w9
  have hal : Below w8.heap.size w8 w9 := by
    rw [← hwn]
    exact below_row ((Below.refl _ _).alloc (Nat.le_refl _) _) (by simp) (Nat.le_refl _) _
  have HB16 := Lib.hid (show Blk w9 w8.heap.size SB 35 by
    rw [← hwn]
    exact (Blk.new _ _ _).row _)
  obtain ⟨g16, hgn⟩ : ∃ g, w8.heap.size = g := ⟨_, rfl⟩
  have HN16 := Lib.hid (show g13 < g16 by have := HB13.out.lt; omega)
  replace HRM0 := Lib.hid (HRM0.out.below hal (by have := HB13.out.lt; omega))
  replace HRM := Lib.hid (HRM.out.on hal)
  replace HV1 := Lib.hid (HV1.out.on hal)
  replace HV2 := Lib.hid (HV2.out.on hal)
  replace HB6 := Lib.hid (HB6.out.below hal HB6.out.lt)
  replace HB11 := Lib.hid (HB11.out.below hal HB11.out.lt)
  replace HB13 := Lib.hid (HB13.out.below hal HB13.out.lt)
  replace HB14 := Lib.hid (HB14.out.below hal HB14.out.lt)
  replace HBW := Lib.hid (HBW.out.trans (hal.mono HBW.out.size))
  rw [hgn] at HB16 ⊢
  clear hal hwn hgn
  have hcA := (HB14.out.cell 2).trans HCA2.out
  have hcB := (HB16.out.cell 2).trans HCB2.out
  obtain ⟨o1, ho1⟩ : ∃ old, w9.cell? ⟨g13, l, none⟩ = some old := ⟨_, by rw [HB13.out.cell l]; exact Array.getElem?_eq_getElem (by have := HCS.out.1; omega)⟩
  have hf1 := HB13.out.frozen l
  have hgl := HB13.out.lt
  go_upto_region 9 with fail
  generalize hwn : World.setCell _ _ _ = w10
  have hal : Below g13 w9 w10 := by
    rw [← hwn]
    exact (Below.refl g13 w9).setCell (p := ⟨g13, l, none⟩) (Nat.le_refl _) _
  have HRR := Lib.hid (show RdR w10 w10.heap.size (some ⟨g13, 0, none⟩) (oneL 2 l bm) by
    have h := oneL_read (A := AQ) (c := cQ) (m := bm) (n := 2) HB13.out HCS.out.1 HCS.out.2 hlb (by rw [HML.out]; exact hcq) hcmq (fun w' hw => (HRM0.out.below hw (Nat.le_refl _)).more (by have := hw.size; omega))
    rw [HML.out] at h
    rw [← hwn]
    exact h)
  replace HRM := Lib.hid ((HRM0.out.below hal (Nat.le_refl _)).more (show g13 ≤ w10.heap.size by have := hal.size; omega))
  replace HV1 := Lib.hid (show HV w10 (.slice V 67 cv) sgA by rw [← hwn]; exact (HV1.out.cell_off HB13.out (by decide) _ _).hv)
  replace HV2 := Lib.hid (show HV w10 (.slice V2 67 cv2) sgB by rw [← hwn]; exact (HV2.out.cell_off HB13.out (by decide) _ _).hv)
  replace HB6 := Lib.hid (HB6.out.below hal HNL.out.1)
  replace HB11 := Lib.hid (HB11.out.below hal HNL.out.2)
  replace HB14 := Lib.hid (show Blk w10 g14 SA 35 by rw [← hwn]; exact HB14.out.other (by have := HN14.out; simp; omega) _)
  replace HB16 := Lib.hid (show Blk w10 g16 SB 35 by rw [← hwn]; exact HB16.out.other (by have := HN16.out; simp; omega) _)
  replace HBW := Lib.hid (HBW.out.trans (hal.mono HGL.out))
  clear hal hwn hcA hcB ho1 o1 hf1 hgl HB13 HRM0 HCS
  go_wp2_with fail
  with_reducible refine (HDG.out AQ cQ w10 hcq hcmq HRM.out).mono ?_
  rintro e w11 ⟨v, rfl, hdv, hb⟩
  obtain ⟨DA, dc, rfl, hdc⟩ := hdv.form HDL.out
  obtain ⟨bd, od, rfl, hbd, hcd⟩ := hdv.at_ (i := ch) hchb
  rw [HDD.out] at hcd
  replace HRR := Lib.hid ((HRR.out.below hb (Nat.le_refl _)).more hb.size)
  replace HV1 := Lib.hid (HV1.out.on hb)
  replace HV2 := Lib.hid (HV2.out.on hb)
  replace HB6 := Lib.hid (HB6.out.below hb HB6.out.lt)
  replace HB11 := Lib.hid (HB11.out.below hb HB11.out.lt)
  replace HB14 := Lib.hid (HB14.out.below hb HB14.out.lt)
  replace HB16 := Lib.hid (HB16.out.below hb HB16.out.lt)
  replace HBW := Lib.hid (HBW.out.trans (hb.mono HBW.out.size))
  clear hb hdv HDG HRM
  have hcA := (HB14.out.cell 2).trans HCA2.out
  obtain ⟨bA, oA, rfl, hbA, hrA, _⟩ := HV1.out.at_ (i := ch) hchb
  rw [HGA.out] at hrA
  have HCA := Lib.hid hrA
  clear hrA HV1
  go_upto_region 11 with (first
    | (with_reducible refine wpList_load_hash rfl (.tmp 80) rfl bA (oA + ch * 32) rfl vA HLN.out.1 HCA.out VA HEVA.out ?_)
    | (with_reducible refine wpList_build_leak_p rfl _ _ _ _ rfl (l : Int) (ch : Int) (d : Int) vA HLN.out.1 VA HEVA.out rfl rfl rfl rfl FA HEFA.out ?_)
    | (with_reducible refine wpList_store_blk rfl 43 (.tmp 19) (.tmp 82) rfl w11.heap.size FA rfl rfl 43 _ (Blk.new _ _ _) (by rw [HZFA.out]; kernel_rfl) (by rw [HZFA.out]; kernel_rfl) HOFA.out ?_))
  generalize hwn : World.setRow _ _ _ = w12
  have hal : Below w11.heap.size w11 w12 := by
    rw [← hwn]
    exact below_row ((Below.refl _ _).alloc (Nat.le_refl _) _) (by simp) (Nat.le_refl _) _
  have HB19 := Lib.hid (show Blk w12 w11.heap.size FA 43 by
    rw [← hwn]
    exact (Blk.new _ _ _).row _)
  obtain ⟨g19, hgn⟩ : ∃ g, w11.heap.size = g := ⟨_, rfl⟩
  replace HRR := Lib.hid ((HRR.out.below hal (Nat.le_refl _)).more hal.size)
  replace HV2 := Lib.hid (HV2.out.on hal)
  replace HB6 := Lib.hid (HB6.out.below hal HB6.out.lt)
  replace HB11 := Lib.hid (HB11.out.below hal HB11.out.lt)
  replace HB14 := Lib.hid (HB14.out.below hal HB14.out.lt)
  replace HB16 := Lib.hid (HB16.out.below hal HB16.out.lt)
  replace HBW := Lib.hid (HBW.out.trans (hal.mono HBW.out.size))
  rw [hgn] at HB19 ⊢
  clear hal hwn hgn
  clear hcA hcd HCA
  have hcB := (HB16.out.cell 2).trans HCB2.out
  obtain ⟨bB, oB, rfl, hbB, hrB, _⟩ := HV2.out.at_ (i := ch) hchb
  rw [HGB.out] at hrB
  have HCB := Lib.hid hrB
  clear hrB HV2
  go_upto_region 12 with (first
    | (with_reducible refine wpList_load_hash rfl (.tmp 90) rfl bB (oB + ch * 32) rfl vB HLN.out.2.1 HCB.out VB HEVB.out ?_)
    | (with_reducible refine wpList_build_leak_p rfl _ _ _ _ rfl (l2 : Int) (ch : Int) (d : Int) vB HLN.out.2.1 VB HEVB.out rfl rfl rfl rfl FB HEFB.out ?_)
    | (with_reducible refine wpList_store_blk rfl 43 (.tmp 20) (.tmp 92) rfl w12.heap.size FB rfl rfl 43 _ (Blk.new _ _ _) (by rw [HZFB.out]; kernel_rfl) (by rw [HZFB.out]; kernel_rfl) HOFB.out ?_))
  generalize hwn : World.setRow _ _ _ = w13
  have hal : Below w12.heap.size w12 w13 := by
    rw [← hwn]
    exact below_row ((Below.refl _ _).alloc (Nat.le_refl _) _) (by simp) (Nat.le_refl _) _
  have HB20 := Lib.hid (show Blk w13 w12.heap.size FB 43 by
    rw [← hwn]
    exact (Blk.new _ _ _).row _)
  obtain ⟨g20, hgn⟩ : ∃ g, w12.heap.size = g := ⟨_, rfl⟩
  replace HRR := Lib.hid ((HRR.out.below hal (Nat.le_refl _)).more hal.size)
  replace HB6 := Lib.hid (HB6.out.below hal HB6.out.lt)
  replace HB11 := Lib.hid (HB11.out.below hal HB11.out.lt)
  replace HB19 := Lib.hid (HB19.out.below hal HB19.out.lt)
  replace HBW := Lib.hid (HBW.out.trans (hal.mono HBW.out.size))
  rw [hgn] at HB20 ⊢
  clear hal hwn hgn
  clear hcB HCB HB14 HB16
  have HBV := Lib.hid (fun W (hW : Below w13.heap.size w13 W) => HB11.out.below hW HB11.out.lt)
  go_wp2_with fail
  refine wp_region_loose 7 1 (fun i => Nat.beq i 6) (promises [.is (.int .i64 (l : Int)), .is (.int .i64 (ch : Int)), .is (.int .i64 place), .is (.int .i64 (pl : Int)), .is (.agg V0), .is (.agg FC), .blk w13.heap.size FZ 43]) (by kernel_rfl) rfl (by kernel_rfl) (fun i v w w' h hb => Spec.keep h hb) ⟨?_, ?_, ?_, ?_, ?_, ?_, ?_, trivial⟩ ?_
  · refine StepOKl.of ?_
    intro ac w hb hu hk
    refine ⟨wanted_none rfl, ?_⟩
    have e1 : ac.eval (.tmp 1) = .int .i64 (l : Int) := hu.is (t := 1) (by kernel_rfl)
    exact step_value (BigFrame.run_move (.tmp 1) rfl w) (Below.refl _ _) e1
  · refine StepOKl.of ?_
    intro ac w hb hu hk
    refine ⟨wanted_none rfl, ?_⟩
    have e2 : ac.eval (.tmp 2) = .int .i64 (ch : Int) := hu.is (t := 2) (by kernel_rfl)
    exact step_value (BigFrame.run_move (.tmp 2) rfl w) (Below.refl _ _) e2
  · refine StepOKl.of ?_
    intro ac w hb hu hk
    refine ⟨wanted_none rfl, ?_⟩
    have e3 : ac.eval (.tmp 3) = .int .i64 place := hu.is (t := 3) (by kernel_rfl)
    exact step_value (BigFrame.run_move (.tmp 3) rfl w) (Below.refl _ _) e3
  · refine StepOKl.of ?_
    intro ac w hb hu hk
    refine ⟨wanted_none rfl, ?_⟩
    have e95 : ac.eval (.tmp 95) = (.int .i64 place) := (hk ⟨2, .data⟩ (by simp) rfl).is rfl rfl
    have ec0 : ac.eval (.const (Value.int IntKind.i64 16)) = Value.int IntKind.i64 16 := rfl
    have ef : ac.eval (.func 11) = .func (.func 11) #[] #[] := rfl
    refine step_enter (f := 11) (args := #[.int .i64 place, .int .i64 16]) ?_ ?_
    · generalize ac.eval = ρ at e95 ec0 ef ⊢
      go_simp
    · exact (HWP.out w).mono fun e w' ⟨he, hq⟩ => ⟨_, he, rfl, hq ▸ Below.refl _ _⟩
  · refine StepOKl.of ?_
    intro ac w hb hu hk
    refine ⟨wanted_none rfl, ?_⟩
    have e11 : ac.eval (.tmp 11) = .pointer (some ⟨g11, 0, none⟩) := hu.is (t := 11) (by kernel_rfl)
    exact wp_load_row 29 (.tmp 11) rfl g11 e11 29 V0 (0, 0) _ (HBV.out w hb) Tryd.underlying29 rfl (by rw [HZV0.out]; kernel_rfl) ⟨_, rfl, rfl, Below.refl _ _⟩
  · refine StepOKl.of ?_
    intro ac w hb hu hk
    refine ⟨wanted_none rfl, ?_⟩
    have e93 : ac.eval (.tmp 93) = (.int .i64 (l : Int)) := (hk ⟨0, .data⟩ (by simp) rfl).is rfl rfl
    have e94 : ac.eval (.tmp 94) = (.int .i64 (ch : Int)) := (hk ⟨1, .data⟩ (by simp) rfl).is rfl rfl
    have e96 : ac.eval (.tmp 96) = (.int .i64 (pl : Int)) := (hk ⟨3, .data⟩ (by simp) rfl).is rfl rfl
    have e97 : ac.eval (.tmp 97) = (.agg V0) := (hk ⟨4, .data⟩ (by simp) rfl).is rfl rfl
    exact wp_build_leak_p (.tmp 93) (.tmp 94) (.tmp 96) (.tmp 97) rfl (l : Int) (ch : Int) (pl : Int) v0 HLN.out.2.2 V0 HEV0.out e93 e94 e96 e97 FC HEFC.out ⟨_, rfl, rfl, Below.refl _ _⟩
  · intro ac w hb hu hk
    refine ⟨wanted_none rfl, ?_⟩
    exact step_alloc_new rfl (HZV.out w) ⟨w.heap.size, rfl, hb.size, Blk.new w FZ _⟩
  · intro ac w' hb hu hk hap
    obtain ⟨_, h21, ⟨g21, rfl, hg21, hG21⟩⟩ := (hk 6 (by decide)).put rfl rfl
    obtain ⟨_, h93, rfl⟩ := (hk 0 (by decide)).put rfl rfl
    obtain ⟨_, h94, rfl⟩ := (hk 1 (by decide)).put rfl rfl
    obtain ⟨_, h95, rfl⟩ := (hk 2 (by decide)).put rfl rfl
    obtain ⟨_, h96, rfl⟩ := (hk 3 (by decide)).put rfl rfl
    obtain ⟨_, h97, rfl⟩ := (hk 4 (by decide)).put rfl rfl
    obtain ⟨_, h98, rfl⟩ := (hk 5 (by decide)).put rfl rfl
    clear hap
    have hF : AllPuts ac.tmps ((21, _) :: (93, _) :: (94, _) :: (95, _) :: (96, _) :: (97, _) :: (98, _) :: []) := ⟨h21, h93, h94, h95, h96, h97, h98, trivial⟩
    obtain rfl := frame_puts hu (by kernel_rfl) hF
    simp only [puts, Act.put, List.setIfInBounds_toArray, List.set_cons_zero, List.set_cons_succ, List.drop_succ_cons, List.drop_zero]
    clear hk hu hF h21 h93 h94 h95 h96 h97 h98
    have hG21 : Blk w' g21 FZ 43 := hG21
    have hs13 := hb.size
    go_upto_region 13 with (with_reducible refine wpList_store_blk rfl 43 (.tmp 21) (.tmp 98) rfl g21 FC rfl rfl 43 FZ hG21 (by rw [HZFC.out]; kernel_rfl) (by rw [HZFC.out, HZFZ.out]) HOFC.out ?_)
    generalize hwn : World.setRow _ _ _ = w14
    have hal : Below w13.heap.size w13 w14 := by
      rw [← hwn]
      exact below_row hb hs13 hg21 _
    have HB21 := Lib.hid (show Blk w14 g21 FC 43 by
      rw [← hwn]
      exact hG21.row _)
    replace HRR := Lib.hid ((HRR.out.below hal (Nat.le_refl _)).more hal.size)
    replace HB6 := Lib.hid (HB6.out.below hal HB6.out.lt)
    replace HB11 := Lib.hid (HB11.out.below hal HB11.out.lt)
    replace HB19 := Lib.hid (HB19.out.below hal HB19.out.lt)
    replace HB20 := Lib.hid (HB20.out.below hal HB20.out.lt)
    replace HBW := Lib.hid (HBW.out.trans (hal.mono HBW.out.size))
    clear hal hwn hb hg21 hG21 hs13 HBV
    have hc21 := (HB21.out.cell 5).trans HPC.out
    go_upto_region 14 with (first
      | (with_reducible refine wpList_load_blk rfl 29 (.tmp 11) rfl g11 rfl 29 V0 _ HB11.out Tryd.underlying29 rfl (by rw [HZV0.out]; kernel_rfl) ?_)
      | (with_reducible refine wpList_build_leak_r rfl _ _ _ _ rfl (l : Int) (ch : Int) (pl : Int) v0 HLN.out.2.2 V0 HEV0.out rfl rfl rfl rfl FC HEFC.out ?_)
      | (with_reducible refine wpList_store_blk rfl 50 (.tmp 22) (.tmp 104) rfl w14.heap.size FC rfl rfl 50 _ (Blk.new _ _ _) (by rw [HZFC.out]; kernel_rfl) (by rw [HZFC.out]; kernel_rfl) HOFC.out ?_))
    generalize hwn : World.setRow _ _ _ = w15
    have hal : Below w14.heap.size w14 w15 := by
      rw [← hwn]
      exact below_row ((Below.refl _ _).alloc (Nat.le_refl _) _) (by simp) (Nat.le_refl _) _
    have HB22 := Lib.hid (show Blk w15 w14.heap.size FC 50 by
      rw [← hwn]
      exact (Blk.new _ _ _).row _)
    obtain ⟨g22, hgn⟩ : ∃ g, w14.heap.size = g := ⟨_, rfl⟩
    replace HRR := Lib.hid ((HRR.out.below hal (Nat.le_refl _)).more hal.size)
    replace HB6 := Lib.hid (HB6.out.below hal HB6.out.lt)
    replace HB11 := Lib.hid (HB11.out.below hal HB11.out.lt)
    replace HB19 := Lib.hid (HB19.out.below hal HB19.out.lt)
    replace HB20 := Lib.hid (HB20.out.below hal HB20.out.lt)
    replace HB21 := Lib.hid (HB21.out.below hal HB21.out.lt)
    replace HBW := Lib.hid (HBW.out.trans (hal.mono HBW.out.size))
    rw [hgn] at HB22 ⊢
    clear hal hwn hgn
    clear hc21
    have HWK := Lib.hid (fun W (hW : Below w15.heap.size w15 W) => wakes9_any W (tab_on HTAB.out (HBW.out.trans (hW.mono HBW.out.size)) (HBW.out.trans (hW.mono HBW.out.size)).size))
    have HBX := Lib.hid (fun W (hW : Below w15.heap.size w15 W) => HB6.out.below hW HB6.out.lt)
    have HBV := Lib.hid (fun W (hW : Below w15.heap.size w15 W) => HB11.out.below hW HB11.out.lt)
    have HBA := Lib.hid (fun W (hW : Below w15.heap.size w15 W) => HB19.out.below hW HB19.out.lt)
    have HBB := Lib.hid (fun W (hW : Below w15.heap.size w15 W) => HB20.out.below hW HB20.out.lt)
    have HBC := Lib.hid (fun W (hW : Below w15.heap.size w15 W) => HB21.out.below hW HB21.out.lt)
    have HBD := Lib.hid (fun W (hW : Below w15.heap.size w15 W) => HB22.out.below hW HB22.out.lt)
    have HHA := Lib.hid (fun W (hW : Below w15.heap.size w15 W) => (show Calls Tryd.prog 19 #[.agg X, .int .i64 1, .slice (some ⟨g13, 0, none⟩) 2 2, .agg FA] W fun e w' => e = .returned (.bool false) ∧ Below W.heap.size W w' from by
      have h := HHG.out (some ⟨g13, 0, none⟩) FA (l : Int) (ch : Int) (d : Int) vA W (HBW.out.trans (hW.mono HBW.out.size)) ((HRR.out.below hW (Nat.le_refl _)).more hW.size) HEFA.out HLN.out.1 (by omega)
      rwa [HWA.out] at h))
    have HHB := Lib.hid (fun W (hW : Below w15.heap.size w15 W) => (show Calls Tryd.prog 19 #[.agg X, .int .i64 1, .slice (some ⟨g13, 0, none⟩) 2 2, .agg FB] W fun e w' => e = .returned (.bool true) ∧ Below W.heap.size W w' from by
      have h := HHG.out (some ⟨g13, 0, none⟩) FB (l2 : Int) (ch : Int) (d : Int) vB W (HBW.out.trans (hW.mono HBW.out.size)) ((HRR.out.below hW (Nat.le_refl _)).more hW.size) HEFB.out HLN.out.2.1 (by omega)
      rwa [HWB.out] at h))
    have HHE := Lib.hid (fun W (hW : Below w15.heap.size w15 W) => (show Calls Tryd.prog 19 #[.agg X, .int .i64 1, .slice (some ⟨g13, 0, none⟩) 2 2, .agg FE] W fun e w' => e = .returned (.bool false) ∧ Below W.heap.size W w' from by
      have h := HHG.out (some ⟨g13, 0, none⟩) FE 2 0 0 v0 W (HBW.out.trans (hW.mono HBW.out.size)) ((HRR.out.below hW (Nat.le_refl _)).more hW.size) HEFE.out HLN.out.2.2 (by omega)
      rwa [HWE.out] at h))
    have HHC := Lib.hid (fun W (hW : Below w15.heap.size w15 W) => (show Calls Tryd.prog 19 #[.agg X, .int .i64 1, .slice (some ⟨g13, 0, none⟩) 2 2, .agg FC] W fun e w' => e = .returned (.bool bz) ∧ Below W.heap.size W w' from by
      have h := HHG.out (some ⟨g13, 0, none⟩) FC (l : Int) (ch : Int) (pl : Int) v0 W (HBW.out.trans (hW.mono HBW.out.size)) ((HRR.out.below hW (Nat.le_refl _)).more hW.size) HEFC.out HLN.out.2.2 (by omega)
      rwa [HWV.out] at h))
    have HRC := Lib.hid (fun W (hW : Below w15.heap.size w15 W) => HRG.out (some ⟨g13, 0, none⟩) W ((HRR.out.below hW (Nat.le_refl _)).more hW.size))
    clear HHG HRG HRR HB6 HB11 HB19 HB20 HB21 HB22
    go_wp2_with fail
    refine wp_region_loose 33 1 (fun i => false) (promises [.is (.agg X), .is (.slice (some ⟨g13, 0, none⟩) 2 2), .is (.agg FA), .is (.bool false), .is (.bool true), .is (.bool true), .is (.agg X), .is (.slice (some ⟨g13, 0, none⟩) 2 2), .is (.agg FB), .is (.bool true), .is (.bool true), .is (.bool true), .is (.agg X), .is (.slice (some ⟨g13, 0, none⟩) 2 2), .is (.agg V0), .is (.agg FE), .is (.bool false), .is (.bool true), .is (.bool true), .is (.bool true), .is (.agg X), .is (.slice (some ⟨g13, 0, none⟩) 2 2), .is (.agg FC), .is (.bool bz), .is (.agg X), .is (.slice (some ⟨g13, 0, none⟩) 2 2), .is (.agg FC), .is (.bool bz), .is (.bool true), .is (.bool true), .is (.bool true), .is (.bool true), .is (.bool true)]) (by kernel_rfl) rfl (by kernel_rfl) (fun i v w w' h hb => Spec.keep h hb) ⟨?_, ?_, ?_, ?_, ?_, ?_, ?_, ?_, ?_, ?_, ?_, ?_, ?_, ?_, ?_, ?_, ?_, ?_, ?_, ?_, ?_, ?_, ?_, ?_, ?_, ?_, ?_, ?_, ?_, ?_, ?_, ?_, ?_, trivial⟩ ?_
    · refine StepOKl.of ?_
      intro ac w hb hu hk
      refine ⟨wanted_none rfl, ?_⟩
      have e6 : ac.eval (.tmp 6) = .pointer (some ⟨g6, 0, none⟩) := hu.is (t := 6) (by kernel_rfl)
      exact wp_load_row 23 (.tmp 6) rfl g6 e6 23 X (0, 0) _ (HBX.out w hb) Tryd.underlying23 rfl (by rw [HZX.out]; kernel_rfl) ⟨_, rfl, rfl, Below.refl _ _⟩
    · refine StepOKl.of ?_
      intro ac w hb hu hk
      refine ⟨wanted_none rfl, ?_⟩
      have e13 : ac.eval (.tmp 13) = .slice (some ⟨g13, 0, none⟩) 2 2 := hu.is (t := 13) (by kernel_rfl)
      exact step_value (BigFrame.run_move (.tmp 13) rfl w) (Below.refl _ _) e13
    · refine StepOKl.of ?_
      intro ac w hb hu hk
      refine ⟨wanted_none rfl, ?_⟩
      have e19 : ac.eval (.tmp 19) = .pointer (some ⟨g19, 0, none⟩) := hu.is (t := 19) (by kernel_rfl)
      exact wp_load_row 43 (.tmp 19) rfl g19 e19 43 FA (0, 0) _ (HBA.out w hb) Tryd.underlying43 rfl (by rw [HZFA.out]; kernel_rfl) ⟨_, rfl, rfl, Below.refl _ _⟩
    · refine StepOKl.of ?_
      intro ac w hb hu hk
      refine ⟨wanted_none rfl, ?_⟩
      have e105 : ac.eval (.tmp 105) = (.agg X) := (hk ⟨0, .data⟩ (by simp) rfl).is rfl rfl
      have e106 : ac.eval (.tmp 106) = (.slice (some ⟨g13, 0, none⟩) 2 2) := (hk ⟨1, .data⟩ (by simp) rfl).is rfl rfl
      have e107 : ac.eval (.tmp 107) = (.agg FA) := (hk ⟨2, .data⟩ (by simp) rfl).is rfl rfl
      have ec0 : ac.eval (.const (Value.int IntKind.i64 1)) = Value.int IntKind.i64 1 := rfl
      have ef : ac.eval (.func 19) = .func (.func 19) #[] #[] := rfl
      refine step_enter (f := 19) (args := #[.agg X, .int .i64 1, .slice (some ⟨g13, 0, none⟩) 2 2, .agg FA]) ?_ ?_
      · generalize ac.eval = ρ at e105 e106 e107 ec0 ef ⊢
        go_simp
      · exact (HHA.out w hb).mono fun e w' ⟨he, hq⟩ => ⟨_, he, rfl, hq⟩
    · refine StepOKl.of ?_
      intro ac w hb hu hk
      refine ⟨wanted_none rfl, ?_⟩
      have e108 : ac.eval (.tmp 108) = (.bool false) := (hk ⟨3, .data⟩ (by simp) rfl).is rfl rfl
      exact step_value (run_not e108 rfl w) (Below.refl _ _) rfl
    · refine StepOKl.of ?_
      intro ac w hb hu hk
      refine ⟨wanted_none rfl, ?_⟩
      have e109 : ac.eval (.tmp 109) = (.bool true) := (hk ⟨4, .data⟩ (by simp) rfl).is rfl rfl
      exact step_value (BigFrame.run_move (.tmp 109) rfl w) (Below.refl _ _) e109
    · refine StepOKl.of ?_
      intro ac w hb hu hk
      refine ⟨wanted_some rfl (hk ⟨5, .guard⟩ (by simp) rfl) rfl rfl (fun _ h => h), ?_⟩
      have e6 : ac.eval (.tmp 6) = .pointer (some ⟨g6, 0, none⟩) := hu.is (t := 6) (by kernel_rfl)
      exact wp_load_row 23 (.tmp 6) rfl g6 e6 23 X (0, 0) _ (HBX.out w hb) Tryd.underlying23 rfl (by rw [HZX.out]; kernel_rfl) ⟨_, rfl, rfl, Below.refl _ _⟩
    · refine StepOKl.of ?_
      intro ac w hb hu hk
      refine ⟨wanted_some rfl (hk ⟨5, .guard⟩ (by simp) rfl) rfl rfl (fun _ h => h), ?_⟩
      have e13 : ac.eval (.tmp 13) = .slice (some ⟨g13, 0, none⟩) 2 2 := hu.is (t := 13) (by kernel_rfl)
      exact step_value (BigFrame.run_move (.tmp 13) rfl w) (Below.refl _ _) e13
    · refine StepOKl.of ?_
      intro ac w hb hu hk
      refine ⟨wanted_some rfl (hk ⟨5, .guard⟩ (by simp) rfl) rfl rfl (fun _ h => h), ?_⟩
      have e20 : ac.eval (.tmp 20) = .pointer (some ⟨g20, 0, none⟩) := hu.is (t := 20) (by kernel_rfl)
      exact wp_load_row 43 (.tmp 20) rfl g20 e20 43 FB (0, 0) _ (HBB.out w hb) Tryd.underlying43 rfl (by rw [HZFB.out]; kernel_rfl) ⟨_, rfl, rfl, Below.refl _ _⟩
    · refine StepOKl.of ?_
      intro ac w hb hu hk
      refine ⟨wanted_some rfl (hk ⟨5, .chain⟩ (by simp) rfl) rfl rfl (fun _ h => h), ?_⟩
      have e111 : ac.eval (.tmp 111) = (.agg X) := (hk ⟨6, .data⟩ (by simp) rfl).is rfl rfl
      have e112 : ac.eval (.tmp 112) = (.slice (some ⟨g13, 0, none⟩) 2 2) := (hk ⟨7, .data⟩ (by simp) rfl).is rfl rfl
      have e113 : ac.eval (.tmp 113) = (.agg FB) := (hk ⟨8, .data⟩ (by simp) rfl).is rfl rfl
      have ec0 : ac.eval (.const (Value.int IntKind.i64 1)) = Value.int IntKind.i64 1 := rfl
      have ef : ac.eval (.func 19) = .func (.func 19) #[] #[] := rfl
      refine step_enter (f := 19) (args := #[.agg X, .int .i64 1, .slice (some ⟨g13, 0, none⟩) 2 2, .agg FB]) ?_ ?_
      · generalize ac.eval = ρ at e111 e112 e113 ec0 ef ⊢
        go_simp
      · exact (HHB.out w hb).mono fun e w' ⟨he, hq⟩ => ⟨_, he, rfl, hq⟩
    · refine StepOKl.of ?_
      intro ac w hb hu hk
      refine ⟨wanted_none rfl, ?_⟩
      have e110 : ac.eval (.tmp 110) = (.bool true) := (hk ⟨5, .data⟩ (by simp) rfl).is rfl rfl
      have e114 : ac.eval (.tmp 114) = (.bool true) := (hk ⟨9, .data⟩ (by simp) rfl).is rfl rfl
      exact step_value (run_pick_true e110 rfl w) (Below.refl _ _) e114
    · refine StepOKl.of ?_
      intro ac w hb hu hk
      refine ⟨wanted_none rfl, ?_⟩
      have e115 : ac.eval (.tmp 115) = (.bool true) := (hk ⟨10, .data⟩ (by simp) rfl).is rfl rfl
      exact step_value (BigFrame.run_move (.tmp 115) rfl w) (Below.refl _ _) e115
    · refine StepOKl.of ?_
      intro ac w hb hu hk
      refine ⟨wanted_some rfl (hk ⟨11, .guard⟩ (by simp) rfl) rfl rfl (fun _ h => h), ?_⟩
      have e6 : ac.eval (.tmp 6) = .pointer (some ⟨g6, 0, none⟩) := hu.is (t := 6) (by kernel_rfl)
      exact wp_load_row 23 (.tmp 6) rfl g6 e6 23 X (0, 0) _ (HBX.out w hb) Tryd.underlying23 rfl (by rw [HZX.out]; kernel_rfl) ⟨_, rfl, rfl, Below.refl _ _⟩
    · refine StepOKl.of ?_
      intro ac w hb hu hk
      refine ⟨wanted_some rfl (hk ⟨11, .guard⟩ (by simp) rfl) rfl rfl (fun _ h => h), ?_⟩
      have e13 : ac.eval (.tmp 13) = .slice (some ⟨g13, 0, none⟩) 2 2 := hu.is (t := 13) (by kernel_rfl)
      exact step_value (BigFrame.run_move (.tmp 13) rfl w) (Below.refl _ _) e13
    · refine StepOKl.of ?_
      intro ac w hb hu hk
      refine ⟨wanted_some rfl (hk ⟨11, .guard⟩ (by simp) rfl) rfl rfl (fun _ h => h), ?_⟩
      have e11 : ac.eval (.tmp 11) = .pointer (some ⟨g11, 0, none⟩) := hu.is (t := 11) (by kernel_rfl)
      exact wp_load_row 29 (.tmp 11) rfl g11 e11 29 V0 (0, 0) _ (HBV.out w hb) Tryd.underlying29 rfl (by rw [HZV0.out]; kernel_rfl) ⟨_, rfl, rfl, Below.refl _ _⟩
    · refine StepOKl.of ?_
      intro ac w hb hu hk
      refine ⟨wanted_some rfl (hk ⟨11, .guard⟩ (by simp) rfl) rfl rfl (fun _ h => h), ?_⟩
      have e119 : ac.eval (.tmp 119) = (.agg V0) := (hk ⟨14, .data⟩ (by simp) rfl).is rfl rfl
      exact wp_build_leak2 (.tmp 119) rfl v0 HLN.out.2.2 V0 HEV0.out e119 FE HEFE.out ⟨_, rfl, rfl, Below.refl _ _⟩
    · refine StepOKl.of ?_
      intro ac w hb hu hk
      refine ⟨wanted_some rfl (hk ⟨11, .chain⟩ (by simp) rfl) rfl rfl (fun _ h => h), ?_⟩
      have e117 : ac.eval (.tmp 117) = (.agg X) := (hk ⟨12, .data⟩ (by simp) rfl).is rfl rfl
      have e118 : ac.eval (.tmp 118) = (.slice (some ⟨g13, 0, none⟩) 2 2) := (hk ⟨13, .data⟩ (by simp) rfl).is rfl rfl
      have e120 : ac.eval (.tmp 120) = (.agg FE) := (hk ⟨15, .data⟩ (by simp) rfl).is rfl rfl
      have ec0 : ac.eval (.const (Value.int IntKind.i64 1)) = Value.int IntKind.i64 1 := rfl
      have ef : ac.eval (.func 19) = .func (.func 19) #[] #[] := rfl
      refine step_enter (f := 19) (args := #[.agg X, .int .i64 1, .slice (some ⟨g13, 0, none⟩) 2 2, .agg FE]) ?_ ?_
      · generalize ac.eval = ρ at e117 e118 e120 ec0 ef ⊢
        go_simp
      · exact (HHE.out w hb).mono fun e w' ⟨he, hq⟩ => ⟨_, he, rfl, hq⟩
    · refine StepOKl.of ?_
      intro ac w hb hu hk
      refine ⟨wanted_some rfl (hk ⟨11, .guard⟩ (by simp) rfl) rfl rfl (fun _ h => h), ?_⟩
      have e121 : ac.eval (.tmp 121) = (.bool false) := (hk ⟨16, .data⟩ (by simp) rfl).is rfl rfl
      exact step_value (run_not e121 rfl w) (Below.refl _ _) rfl
    · refine StepOKl.of ?_
      intro ac w hb hu hk
      refine ⟨wanted_none rfl, ?_⟩
      have e116 : ac.eval (.tmp 116) = (.bool true) := (hk ⟨11, .data⟩ (by simp) rfl).is rfl rfl
      have e122 : ac.eval (.tmp 122) = (.bool true) := (hk ⟨17, .data⟩ (by simp) rfl).is rfl rfl
      exact step_value (run_pick_true e116 rfl w) (Below.refl _ _) e122
    · refine StepOKl.of ?_
      intro ac w hb hu hk
      refine ⟨wanted_none rfl, ?_⟩
      have e123 : ac.eval (.tmp 123) = (.bool true) := (hk ⟨18, .data⟩ (by simp) rfl).is rfl rfl
      exact step_value (BigFrame.run_move (.tmp 123) rfl w) (Below.refl _ _) e123
    · refine StepOKl.of ?_
      intro ac w hb hu hk
      refine ⟨wanted_some rfl (hk ⟨19, .guard⟩ (by simp) rfl) rfl rfl (fun _ h => h), ?_⟩
      have e6 : ac.eval (.tmp 6) = .pointer (some ⟨g6, 0, none⟩) := hu.is (t := 6) (by kernel_rfl)
      exact wp_load_row 23 (.tmp 6) rfl g6 e6 23 X (0, 0) _ (HBX.out w hb) Tryd.underlying23 rfl (by rw [HZX.out]; kernel_rfl) ⟨_, rfl, rfl, Below.refl _ _⟩
    · refine StepOKl.of ?_
      intro ac w hb hu hk
      refine ⟨wanted_some rfl (hk ⟨19, .guard⟩ (by simp) rfl) rfl rfl (fun _ h => h), ?_⟩
      have e13 : ac.eval (.tmp 13) = .slice (some ⟨g13, 0, none⟩) 2 2 := hu.is (t := 13) (by kernel_rfl)
      exact step_value (BigFrame.run_move (.tmp 13) rfl w) (Below.refl _ _) e13
    · refine StepOKl.of ?_
      intro ac w hb hu hk
      refine ⟨wanted_some rfl (hk ⟨19, .guard⟩ (by simp) rfl) rfl rfl (fun _ h => h), ?_⟩
      have e21 : ac.eval (.tmp 21) = .pointer (some ⟨g21, 0, none⟩) := hu.is (t := 21) (by kernel_rfl)
      exact wp_load_row 43 (.tmp 21) rfl g21 e21 43 FC (0, 0) _ (HBC.out w hb) Tryd.underlying43 rfl (by rw [HZFC.out]; kernel_rfl) ⟨_, rfl, rfl, Below.refl _ _⟩
    · refine StepOKl.of ?_
      intro ac w hb hu hk
      refine ⟨wanted_some rfl (hk ⟨19, .chain⟩ (by simp) rfl) rfl rfl (fun _ h => h), ?_⟩
      have e125 : ac.eval (.tmp 125) = (.agg X) := (hk ⟨20, .data⟩ (by simp) rfl).is rfl rfl
      have e126 : ac.eval (.tmp 126) = (.slice (some ⟨g13, 0, none⟩) 2 2) := (hk ⟨21, .data⟩ (by simp) rfl).is rfl rfl
      have e127 : ac.eval (.tmp 127) = (.agg FC) := (hk ⟨22, .data⟩ (by simp) rfl).is rfl rfl
      have ec0 : ac.eval (.const (Value.int IntKind.i64 1)) = Value.int IntKind.i64 1 := rfl
      have ef : ac.eval (.func 19) = .func (.func 19) #[] #[] := rfl
      refine step_enter (f := 19) (args := #[.agg X, .int .i64 1, .slice (some ⟨g13, 0, none⟩) 2 2, .agg FC]) ?_ ?_
      · generalize ac.eval = ρ at e125 e126 e127 ec0 ef ⊢
        go_simp
      · exact (HHC.out w hb).mono fun e w' ⟨he, hq⟩ => ⟨_, he, rfl, hq⟩
    · refine StepOKl.of ?_
      intro ac w hb hu hk
      refine ⟨wanted_some rfl (hk ⟨19, .guard⟩ (by simp) rfl) rfl rfl (fun _ h => h), ?_⟩
      have e6 : ac.eval (.tmp 6) = .pointer (some ⟨g6, 0, none⟩) := hu.is (t := 6) (by kernel_rfl)
      exact wp_load_row 23 (.tmp 6) rfl g6 e6 23 X (0, 0) _ (HBX.out w hb) Tryd.underlying23 rfl (by rw [HZX.out]; kernel_rfl) ⟨_, rfl, rfl, Below.refl _ _⟩
    · refine StepOKl.of ?_
      intro ac w hb hu hk
      refine ⟨wanted_some rfl (hk ⟨19, .guard⟩ (by simp) rfl) rfl rfl (fun _ h => h), ?_⟩
      have e13 : ac.eval (.tmp 13) = .slice (some ⟨g13, 0, none⟩) 2 2 := hu.is (t := 13) (by kernel_rfl)
      exact step_value (BigFrame.run_move (.tmp 13) rfl w) (Below.refl _ _) e13
    · refine StepOKl.of ?_
      intro ac w hb hu hk
      refine ⟨wanted_some rfl (hk ⟨19, .guard⟩ (by simp) rfl) rfl rfl (fun _ h => h), ?_⟩
      have e22 : ac.eval (.tmp 22) = .pointer (some ⟨g22, 0, none⟩) := hu.is (t := 22) (by kernel_rfl)
      exact wp_load_row 50 (.tmp 22) rfl g22 e22 50 FC (0, 0) _ (HBD.out w hb) Tryd.underlying50 rfl (by rw [HZFC.out]; kernel_rfl) ⟨_, rfl, rfl, Below.refl _ _⟩
    · refine StepOKl.of ?_
      intro ac w hb hu hk
      refine ⟨wanted_some rfl (hk ⟨19, .guard⟩ (by simp) rfl) rfl rfl (fun _ h => h), ?_⟩
      have e129 : ac.eval (.tmp 129) = (.agg X) := (hk ⟨24, .data⟩ (by simp) rfl).is rfl rfl
      have e130 : ac.eval (.tmp 130) = (.slice (some ⟨g13, 0, none⟩) 2 2) := (hk ⟨25, .data⟩ (by simp) rfl).is rfl rfl
      have e131 : ac.eval (.tmp 131) = (.agg FC) := (hk ⟨26, .data⟩ (by simp) rfl).is rfl rfl
      have ec0 : ac.eval (.const (Value.int IntKind.i64 1)) = Value.int IntKind.i64 1 := rfl
      have ef : ac.eval (.func 20) = .func (.func 20) #[] #[] := rfl
      refine step_enter (f := 20) (args := #[.agg X, .int .i64 1, .slice (some ⟨g13, 0, none⟩) 2 2, .agg FC]) ?_ ?_
      · generalize ac.eval = ρ at e129 e130 e131 ec0 ef ⊢
        go_simp
      · exact (HRC.out w hb).mono fun e w' ⟨he, hq⟩ => ⟨_, he, rfl, hq⟩
    · refine StepOKl.of ?_
      intro ac w hb hu hk
      refine ⟨wanted_some rfl (hk ⟨19, .guard⟩ (by simp) rfl) rfl rfl (fun _ h => h), ?_⟩
      have e128 : ac.eval (.tmp 128) = (.bool bz) := (hk ⟨23, .data⟩ (by simp) rfl).is rfl rfl
      have e132 : ac.eval (.tmp 132) = (.bool bz) := (hk ⟨27, .data⟩ (by simp) rfl).is rfl rfl
      refine step_value (w' := w) (v := (.bool true)) ?_ (Below.refl _ _) rfl
      generalize ac.eval = ρ at e128 e132 ⊢
      go_simp
    · refine StepOKl.of ?_
      intro ac w hb hu hk
      refine ⟨wanted_none rfl, ?_⟩
      have e124 : ac.eval (.tmp 124) = (.bool true) := (hk ⟨19, .data⟩ (by simp) rfl).is rfl rfl
      have e133 : ac.eval (.tmp 133) = (.bool true) := (hk ⟨28, .data⟩ (by simp) rfl).is rfl rfl
      exact step_value (run_pick_true e124 rfl w) (Below.refl _ _) e133
    · refine StepOKl.of ?_
      intro ac w hb hu hk
      refine ⟨wanted_none rfl, ?_⟩
      have e134 : ac.eval (.tmp 134) = (.bool true) := (hk ⟨29, .data⟩ (by simp) rfl).is rfl rfl
      exact step_value (BigFrame.run_move (.tmp 134) rfl w) (Below.refl _ _) e134
    · refine StepOKl.of ?_
      intro ac w hb hu hk
      refine ⟨wanted_some rfl (hk ⟨30, .chain⟩ (by simp) rfl) rfl rfl (fun _ h => h), ?_⟩
      have ef : ac.eval (.func 17) = .func (.func 17) #[] #[] := rfl
      refine step_enter (f := 17) (args := #[]) ?_ ?_
      · generalize ac.eval = ρ at  ef ⊢
        go_simp
      · exact (HWK.out w hb).mono fun e w' ⟨he, hq⟩ => ⟨_, he, rfl, hq⟩
    · refine StepOKl.of ?_
      intro ac w hb hu hk
      refine ⟨wanted_none rfl, ?_⟩
      have e135 : ac.eval (.tmp 135) = (.bool true) := (hk ⟨30, .data⟩ (by simp) rfl).is rfl rfl
      have e136 : ac.eval (.tmp 136) = (.bool true) := (hk ⟨31, .data⟩ (by simp) rfl).is rfl rfl
      exact step_value (run_pick_true e135 rfl w) (Below.refl _ _) e136
    · intro ac w' hb hu hk hap
      obtain ⟨_, h105, rfl⟩ := (hk 0 (by decide)).put rfl rfl
      obtain ⟨_, h106, rfl⟩ := (hk 1 (by decide)).put rfl rfl
      obtain ⟨_, h107, rfl⟩ := (hk 2 (by decide)).put rfl rfl
      obtain ⟨_, h108, rfl⟩ := (hk 3 (by decide)).put rfl rfl
      obtain ⟨_, h109, rfl⟩ := (hk 4 (by decide)).put rfl rfl
      obtain ⟨_, h110, rfl⟩ := (hk 5 (by decide)).put rfl rfl
      obtain ⟨_, h111, rfl⟩ := (hk 6 (by decide)).put rfl rfl
      obtain ⟨_, h112, rfl⟩ := (hk 7 (by decide)).put rfl rfl
      obtain ⟨_, h113, rfl⟩ := (hk 8 (by decide)).put rfl rfl
      obtain ⟨_, h114, rfl⟩ := (hk 9 (by decide)).put rfl rfl
      obtain ⟨_, h115, rfl⟩ := (hk 10 (by decide)).put rfl rfl
      obtain ⟨_, h116, rfl⟩ := (hk 11 (by decide)).put rfl rfl
      obtain ⟨_, h117, rfl⟩ := (hk 12 (by decide)).put rfl rfl
      obtain ⟨_, h118, rfl⟩ := (hk 13 (by decide)).put rfl rfl
      obtain ⟨_, h119, rfl⟩ := (hk 14 (by decide)).put rfl rfl
      obtain ⟨_, h120, rfl⟩ := (hk 15 (by decide)).put rfl rfl
      obtain ⟨_, h121, rfl⟩ := (hk 16 (by decide)).put rfl rfl
      obtain ⟨_, h122, rfl⟩ := (hk 17 (by decide)).put rfl rfl
      obtain ⟨_, h123, rfl⟩ := (hk 18 (by decide)).put rfl rfl
      obtain ⟨_, h124, rfl⟩ := (hk 19 (by decide)).put rfl rfl
      obtain ⟨_, h125, rfl⟩ := (hk 20 (by decide)).put rfl rfl
      obtain ⟨_, h126, rfl⟩ := (hk 21 (by decide)).put rfl rfl
      obtain ⟨_, h127, rfl⟩ := (hk 22 (by decide)).put rfl rfl
      obtain ⟨_, h128, rfl⟩ := (hk 23 (by decide)).put rfl rfl
      obtain ⟨_, h129, rfl⟩ := (hk 24 (by decide)).put rfl rfl
      obtain ⟨_, h130, rfl⟩ := (hk 25 (by decide)).put rfl rfl
      obtain ⟨_, h131, rfl⟩ := (hk 26 (by decide)).put rfl rfl
      obtain ⟨_, h132, rfl⟩ := (hk 27 (by decide)).put rfl rfl
      obtain ⟨_, h133, rfl⟩ := (hk 28 (by decide)).put rfl rfl
      obtain ⟨_, h134, rfl⟩ := (hk 29 (by decide)).put rfl rfl
      obtain ⟨_, h135, rfl⟩ := (hk 30 (by decide)).put rfl rfl
      obtain ⟨_, h136, rfl⟩ := (hk 31 (by decide)).put rfl rfl
      obtain ⟨_, h137, rfl⟩ := (hk 32 (by decide)).put rfl rfl
      clear hap
      have hF : AllPuts ac.tmps ((105, _) :: (106, _) :: (107, _) :: (108, _) :: (109, _) :: (110, _) :: (111, _) :: (112, _) :: (113, _) :: (114, _) :: (115, _) :: (116, _) :: (117, _) :: (118, _) :: (119, _) :: (120, _) :: (121, _) :: (122, _) :: (123, _) :: (124, _) :: (125, _) :: (126, _) :: (127, _) :: (128, _) :: (129, _) :: (130, _) :: (131, _) :: (132, _) :: (133, _) :: (134, _) :: (135, _) :: (136, _) :: (137, _) :: []) := ⟨h105, h106, h107, h108, h109, h110, h111, h112, h113, h114, h115, h116, h117, h118, h119, h120, h121, h122, h123, h124, h125, h126, h127, h128, h129, h130, h131, h132, h133, h134, h135, h136, h137, trivial⟩
      obtain rfl := frame_puts hu (by kernel_rfl) hF
      simp only [puts, Act.put, List.setIfInBounds_toArray, List.set_cons_zero, List.set_cons_succ, List.drop_succ_cons, List.drop_zero]
      clear hk hu hF h105 h106 h107 h108 h109 h110 h111 h112 h113 h114 h115 h116 h117 h118 h119 h120 h121 h122 h123 h124 h125 h126 h127 h128 h129 h130 h131 h132 h133 h134 h135 h136 h137
      have HBE := Lib.hid (HBW.out.trans (hb.mono HBW.out.size))
      clear hb
      go_wp2_with fail
      go_ret
      exact ⟨by first | rfl | kernel_rfl, HBE.out⟩

set_option maxRecDepth 100000 in
theorem contract (H : Type) (enc : TypeId × Value → H) (W : World) (base : Nat) (args : Array Value) (ds gs : List (DataW H)) (before : List MemPlace)
    (hval : ∀ (j : Nat) t v, Tryd.f4.params[j]? = some t → args[j]? = some v → Value.okWide Tryd.prog W .any base t v)
    (hW : DataW.Whole enc Tryd.prog Tryd.f4.params.toList Rows.mssLeakSpec.vars false W args.toList ds gs before) (hL : laidMetH Tryd.prog Rows.mssLeakRow.laid W) :
    Calls Tryd.prog 4 args W fun e W' => ∃ v, e = .returned v ∧ Rows.mssLeakSpec.post enc Tryd.prog Tryd.f4 false true false false W args v W' := by
  have hW' := hW
  obtain ⟨p, q, hA0, hV, rfl, hfz, hnd⟩ := hW
  have hA : DataW.TrodAll enc Tryd.prog W 0 (fun _ => true) true Tryd.f4.params.toList args.toList ds p := hA0
  rw [Tryd.params4] at hA hval
  obtain ⟨v0, v1, v2, v3, v4, v5, d0, d1, d2, d3, d4, d5, p0, p1, p2, p3, p4, p5, rfl, rfl, rfl, h0, h1, h2, h3, h4, h5⟩ := trodAll_six hA
  obtain ⟨rfl, rfl⟩ := trodVars_none hV
  obtain ⟨k0, rfl, hk0⟩ := open_array Tryd.underlying23 (by kernel_rfl) (hval 0 23 v0 rfl rfl) h0
  obtain ⟨n1, rfl, rfl, rfl, wf1⟩ := open_int Tryd.underlying3 (hval 1 3 v1 rfl rfl) h1
  have b1 := bounds_i64 wf1
  obtain ⟨n2, rfl, rfl, rfl, wf2⟩ := open_int Tryd.underlying3 (hval 2 3 v2 rfl rfl) h2
  have b2 := bounds_i64 wf2
  obtain ⟨n3, rfl, rfl, rfl, wf3⟩ := open_int Tryd.underlying3 (hval 3 3 v3 rfl rfl) h3
  have b3 := bounds_i64 wf3
  obtain ⟨A4, m4, c4, l4, rfl, hl4, hc4, hm4, hr4⟩ := open_bytes (hval 4 24 v4 rfl rfl) h4
  obtain ⟨k5, rfl, hk5⟩ := open_array Tryd.underlying29 (by kernel_rfl) (hval 5 29 v5 rfl rfl) h5
  clear hA0
  refine (walk k0 n1 n2 n3 A4 m4 c4 l4 k5 W hk0 b1.1 b1.2 b2.1 b2.2 b3.1 b3.2 hl4 hc4 hm4 hr4 hk5 (pow10 hL)).mono fun e W' ⟨he, hb⟩ => ?_
  exact ⟨_, he, law_post hW' rfl (by kernel_rfl) rfl (by kernel_rfl) hb⟩

theorem laid_met (os : Os) : laidMet Tryd.prog Rows.mssLeakRow.laid ((laidWorld os).forCall (fun _ _ => 0) ⟨#[], #[.agg #[.int .u8 0, .int .u8 0, .int .u8 0, .int .u8 0, .int .u8 0, .int .u8 0, .int .u8 0, .int .u8 0, .int .u8 0, .int .u8 0, .int .u8 0, .int .u8 0, .int .u8 0, .int .u8 0, .int .u8 0, .int .u8 0], .int .i64 0, .int .i64 0, .int .i64 0, .slice none 0 0, .agg #[.int .u8 0, .int .u8 0, .int .u8 0, .int .u8 0, .int .u8 0, .int .u8 0, .int .u8 0, .int .u8 0, .int .u8 0, .int .u8 0, .int .u8 0, .int .u8 0, .int .u8 0, .int .u8 0, .int .u8 0, .int .u8 0, .int .u8 0, .int .u8 0, .int .u8 0, .int .u8 0, .int .u8 0, .int .u8 0, .int .u8 0, .int .u8 0, .int .u8 0, .int .u8 0, .int .u8 0, .int .u8 0, .int .u8 0, .int .u8 0, .int .u8 0, .int .u8 0]], []⟩).memory :=
  laidMet_of_run' 8 (by kernel_rfl) (by kernel_rfl)
theorem reads (os : Os) {H : Type} (enc : TypeId × Value → H) : ∃ places, DataW.whole enc Tryd.prog ((laidWorld os).forCall (fun _ _ => 0) ⟨#[], #[.agg #[.int .u8 0, .int .u8 0, .int .u8 0, .int .u8 0, .int .u8 0, .int .u8 0, .int .u8 0, .int .u8 0, .int .u8 0, .int .u8 0, .int .u8 0, .int .u8 0, .int .u8 0, .int .u8 0, .int .u8 0, .int .u8 0], .int .i64 0, .int .i64 0, .int .i64 0, .slice none 0 0, .agg #[.int .u8 0, .int .u8 0, .int .u8 0, .int .u8 0, .int .u8 0, .int .u8 0, .int .u8 0, .int .u8 0, .int .u8 0, .int .u8 0, .int .u8 0, .int .u8 0, .int .u8 0, .int .u8 0, .int .u8 0, .int .u8 0, .int .u8 0, .int .u8 0, .int .u8 0, .int .u8 0, .int .u8 0, .int .u8 0, .int .u8 0, .int .u8 0, .int .u8 0, .int .u8 0, .int .u8 0, .int .u8 0, .int .u8 0, .int .u8 0, .int .u8 0, .int .u8 0]], []⟩).memory Tryd.f4.params.toList Rows.mssLeakSpec.vars false #[Value.agg #[.int .u8 0, .int .u8 0, .int .u8 0, .int .u8 0, .int .u8 0, .int .u8 0, .int .u8 0, .int .u8 0, .int .u8 0, .int .u8 0, .int .u8 0, .int .u8 0, .int .u8 0, .int .u8 0, .int .u8 0, .int .u8 0], Value.int .i64 0, Value.int .i64 0, Value.int .i64 0, Value.slice none 0 0, Value.agg #[.int .u8 0, .int .u8 0, .int .u8 0, .int .u8 0, .int .u8 0, .int .u8 0, .int .u8 0, .int .u8 0, .int .u8 0, .int .u8 0, .int .u8 0, .int .u8 0, .int .u8 0, .int .u8 0, .int .u8 0, .int .u8 0, .int .u8 0, .int .u8 0, .int .u8 0, .int .u8 0, .int .u8 0, .int .u8 0, .int .u8 0, .int .u8 0, .int .u8 0, .int .u8 0, .int .u8 0, .int .u8 0, .int .u8 0, .int .u8 0, .int .u8 0, .int .u8 0]].toList 8 = some ([.agg [.lit (.int .u8 0), .lit (.int .u8 0), .lit (.int .u8 0), .lit (.int .u8 0), .lit (.int .u8 0), .lit (.int .u8 0), .lit (.int .u8 0), .lit (.int .u8 0), .lit (.int .u8 0), .lit (.int .u8 0), .lit (.int .u8 0), .lit (.int .u8 0), .lit (.int .u8 0), .lit (.int .u8 0), .lit (.int .u8 0), .lit (.int .u8 0)], .lit (.int .i64 0), .lit (.int .i64 0), .lit (.int .i64 0), .nil, .agg [.lit (.int .u8 0), .lit (.int .u8 0), .lit (.int .u8 0), .lit (.int .u8 0), .lit (.int .u8 0), .lit (.int .u8 0), .lit (.int .u8 0), .lit (.int .u8 0), .lit (.int .u8 0), .lit (.int .u8 0), .lit (.int .u8 0), .lit (.int .u8 0), .lit (.int .u8 0), .lit (.int .u8 0), .lit (.int .u8 0), .lit (.int .u8 0), .lit (.int .u8 0), .lit (.int .u8 0), .lit (.int .u8 0), .lit (.int .u8 0), .lit (.int .u8 0), .lit (.int .u8 0), .lit (.int .u8 0), .lit (.int .u8 0), .lit (.int .u8 0), .lit (.int .u8 0), .lit (.int .u8 0), .lit (.int .u8 0), .lit (.int .u8 0), .lit (.int .u8 0), .lit (.int .u8 0), .lit (.int .u8 0)]], [], places) :=
  ⟨[], by kernel_rfl⟩

set_option maxRecDepth 100000 in
theorem lifted (os : Os) (started : os.Started) (H : Type) (enc : TypeId × Value → H) (F : Stop.Interp) :
    ReturnsInHanded {} Tryd.checked os 4 .any ((OpenSpec.ofChange Rows.mssLeakSpec).preRow enc Tryd.prog Tryd.f4 Rows.mssLeakRow.domain false Rows.mssLeakRow.laid) (((OpenSpec.ofChange Rows.mssLeakSpec).at F).post enc Tryd.prog Tryd.f4 false true false false) := by
  obtain ⟨places, hx⟩ := reads os enc
  refine returnsInHanded_of_row (C := Tryd.checked) (s := OpenSpec.ofChange Rows.mssLeakSpec) own started (by kernel_rfl) Tryd.func4
    (witness_row_at (enc := enc) (C := Tryd.checked) false (laidWorld os) #[.agg #[.int .u8 0, .int .u8 0, .int .u8 0, .int .u8 0, .int .u8 0, .int .u8 0, .int .u8 0, .int .u8 0, .int .u8 0, .int .u8 0, .int .u8 0, .int .u8 0, .int .u8 0, .int .u8 0, .int .u8 0, .int .u8 0], .int .i64 0, .int .i64 0, .int .i64 0, .slice none 0 0, .agg #[.int .u8 0, .int .u8 0, .int .u8 0, .int .u8 0, .int .u8 0, .int .u8 0, .int .u8 0, .int .u8 0, .int .u8 0, .int .u8 0, .int .u8 0, .int .u8 0, .int .u8 0, .int .u8 0, .int .u8 0, .int .u8 0, .int .u8 0, .int .u8 0, .int .u8 0, .int .u8 0, .int .u8 0, .int .u8 0, .int .u8 0, .int .u8 0, .int .u8 0, .int .u8 0, .int .u8 0, .int .u8 0, .int .u8 0, .int .u8 0, .int .u8 0, .int .u8 0]] rfl (by kernel_rfl) (by kernel_rfl) (by kernel_rfl)
      (OpenSpec.preRow_of_cond 8 hx (by kernel_rfl) (fun k hk => by cases hk) (by kernel_rfl) (laid_met os))) ?_
  intro W base args ds gs before hval hW _ _ _ hL _ _
  exact contract H enc W base args ds gs before hval hW hL

theorem said : Rows.MssLeakSaid :=
  OpenClaim.holds_of_cond 4 Tryd.f4 rfl rfl rfl rfl rfl rfl rfl ⟨rfl, rfl, rfl, rfl, rfl⟩ rfl rfl rfl rfl rfl (by kernel_rfl) Tryd.func4 (by kernel_rfl)
    (of_decide_eq_true (by kernel_rfl)) (by unfold Func.isWrapper; first | (rw [if_pos (by decide +kernel)]; kernel_rfl) | (rw [if_neg (by decide +kernel)]; exact ⟨rfl, rfl⟩))
    (fun os started H enc _ F => by rw [OpenClaim.pre_eq_preRow]; exact lifted os started H enc F)

theorem plain (f : FuncId) (fn : Func) (hf : Tryd.pinned.checked.prog.funcNamed "aumbry/aumbrylaw09.MssLeak" = some f) (hfn : Tryd.pinned.checked.prog.funcs[f]? = some fn) :
    false = Tryd.pinned.checked.prog.looks [] ∧ ∀ (j : Nat) t, fn.params[j]? = some t → Tryd.pinned.checked.prog.wantsStandIn t = false := by
  obtain rfl : f = 4 := Option.some.inj ((show Tryd.prog.funcNamed "aumbry/aumbrylaw09.MssLeak" = some 4 by kernel_rfl).symm.trans hf) |>.symm
  obtain rfl : fn = Tryd.f4 := (Option.some.inj (Tryd.func4.symm.trans hfn)).symm
  refine ⟨by kernel_rfl, fun j t ht => ?_⟩
  exact wants_none (by kernel_rfl) (Array.mem_of_getElem? ht)

/-- The card: the statement holds, its listed tables tied to the program's text. -/
theorem card : Rows.MssLeakCardSaid :=
  Claim7.holds_tied_plain_at .later [] _ _ _ _ said (fun _ h => by cases h) (by kernel_rfl) (fun _ h => by cases h) mssLeak_row_tie rfl ⟨rfl, rfl⟩ (by kernel_rfl) rfl plain (by kernel_rfl)
end Go.Proofs.YtfgieebccjoboaaDoor.mssLeak
