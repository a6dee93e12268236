/- WotsEnds: all ends of a signature are the chains' own; a value taken further along leads to its chain's end; of one value fewer there are none. For all seeds, leaves, chains and messages. -/
import Derived.Test.YtciflbkgfmbfdaaDoorLaw
import Derived.Test.YtciflbkgfmbfdaaDoorKeep
import Derived.Test.YtciflbkgfmbfdaaDoorSix
import Derived.Test.YtciflbkgfmbfdaaDoorWakes8
import Derived.Test.YtciflbkgfmbfdaaDoorWotsD
import Derived.Test.YtciflbkgfmbfdaaDoorHashD
namespace Go.Proofs.YtciflbkgfmbfdaaDoor.wotsEnds
open Go.ChangeShapes Go.WideShapes Go.ChangeAt Go.RowKit

set_option maxRecDepth 100000 in
set_option maxHeartbeats 16000000 in
theorem run_sub_hash (b o n c : Nat) (W : World) (h1 : 1 ≤ n) (_h2 : n ≤ c) :
    (Instr.slice 27 (.slice (some ⟨b, o, none⟩) n c) (some (.int .i64 1)) none none).run Tryd.prog W = .ok (.slice (if c = 1 then some ⟨b, o, none⟩ else some ⟨b, o + 32, none⟩) (n - 1) (c - 1)) W := by
  obtain ⟨j, z, hj, _, _, hsz, _⟩ := hash_parts
  rw [run_slice_l W 27 (some ⟨b, o, none⟩) n c Tryd.underlying27 .i64 1 (by omega) (by omega)]
  rw [show Tryd.prog.elem 27 = 34 from by kernel_rfl]
  simp [sizeOf, typeInfo, hj, hsz, sliced, Addr.add]
set_option maxRecDepth 100000 in
set_option maxHeartbeats 16000000 in
theorem walk (sd : List UInt8) (leaf chain : Int) (A : Option Addr) (n c : Nat) (m : List UInt8) (w : World) (hs : sd.length = 16) (hp0 : -9223372036854775808 ≤ leaf) (hp1 : leaf ≤ 9223372036854775807) (hk0 : -9223372036854775808 ≤ chain) (hk1 : chain ≤ 9223372036854775807) (hn0 : m.length = n) (hc0 : n ≤ c) (hcm : c ≤ maxLen) (hr0 : Rd w w.heap.size A m) (htab : Pow10 w.heap.size w) :
    Calls Tryd.prog 3 #[.agg (u8A sd), .int .i64 leaf, .int .i64 chain, .slice A n c] w fun e w' => e = .returned (.bool true) ∧ Below w.heap.size w w' := by
  obtain ⟨p, hp, hpl⟩ : ∃ p : Nat, withinI leaf 100 = (p : Int) ∧ p < 100 := by
    have := withinI_range leaf 100 (by omega)
    exact ⟨(withinI leaf 100).toNat, by omega, by omega⟩
  obtain ⟨k, hk, hkl⟩ : ∃ p : Nat, withinI chain 67 = (p : Int) ∧ p < 67 := by
    have := withinI_range chain 67 (by omega)
    exact ⟨(withinI chain 67).toNat, by omega, by omega⟩
  have HW1 := Lib.hid (fun W => (show Calls Tryd.prog 10 #[.int .i64 leaf, .int .i64 100] W fun e w' => e = .returned (.int .i64 (p : Int)) ∧ W = w' by rw [← hp]; exact within_any leaf 100 W hp0 hp1 (by omega)))
  have HW2 := Lib.hid (fun W => (show Calls Tryd.prog 10 #[.int .i64 chain, .int .i64 67] W fun e w' => e = .returned (.int .i64 (k : Int)) ∧ W = w' by rw [← hk]; exact within_any chain 67 W hk0 hk1 (by omega)))
  obtain ⟨M0, hM0⟩ : ∃ M, min n 40 = M := ⟨_, rfl⟩
  have HCB0 := Lib.hid (fun W => (show Calls Tryd.prog 11 #[.slice A n c, .int .i64 40] W fun e W' => e = .returned (.slice A M0 c) ∧ W = W' from by
    rw [← hM0]
    exact cut_any A n c 40 W hc0))
  have hMk0 : M0 ≤ 40 := by omega
  have hMc0 : M0 ≤ c := by omega
  obtain ⟨bl0, hbl0⟩ : ∃ x, m.take 40 = x := ⟨_, rfl⟩
  have hbn0 : bl0.length = M0 := by rw [← hbl0, List.length_take, hn0]; omega
  have hbr0 : Rd w w.heap.size A bl0 := by rw [← hbl0]; exact hr0.take 40
  obtain ⟨X, hX⟩ : ∃ X, u8A sd = X := ⟨_, rfl⟩
  have HEX := Lib.hid hX
  have HXS := Lib.hid (show X.size = 16 by rw [← hX, u8A_size]; exact hs)
  obtain ⟨Dg, hDg⟩ : ∃ D, digH (msgH bl0) = D := ⟨_, rfl⟩
  have HDL := Lib.hid (show Dg.length = 67 by rw [← hDg]; exact digH_len (msgH_len bl0))
  have hds := (show Dg.getD k 0 ≤ 15 by rw [← hDg]; exact digH_at (msgH_len bl0) k)
  obtain ⟨sg, hsg⟩ : ∃ E, atL (signF sd (p : Int) Dg) 67 = E := ⟨_, rfl⟩
  have HSL := Lib.hid (show sg.length = 67 by rw [← hsg]; exact atL_len _ _)
  obtain ⟨en, hen⟩ : ∃ E, atL (endF Dg sg) 67 = E := ⟨_, rfl⟩
  have HEL := Lib.hid (show en.length = 67 by rw [← hen]; exact atL_len _ _)
  obtain ⟨v, hv⟩ : ∃ v, sg.getD k [] = v := ⟨_, rfl⟩
  obtain ⟨e, he⟩ : ∃ e, en.getD k [] = e := ⟨_, rfl⟩
  obtain ⟨s, hsx⟩ : ∃ s, startH sd (p : Int) (k : Int) = s := ⟨_, rfl⟩
  obtain ⟨d, hd⟩ : ∃ d, Dg.getD k 0 = d := ⟨_, rfl⟩
  rw [hd] at hds
  have hv2 : alongH d s = v := by rw [← hv, ← hsg, atL_get _ hkl]; unfold signF; rw [hd, hsx]
  have he2 : alongH (15 - d) v = e := by rw [← he, ← hen, atL_get _ hkl]; unfold endF; rw [hd, hv]
  have he3 : alongH 15 s = e := by rw [← he2, ← hv2]; exact (wots.along_rest stepH hds s).symm
  have hsl : s.length = 32 := by rw [← hsx]; exact startH_len _ _ _
  have hvl : v.length = 32 := by rw [← hv2]; exact alongH_len hsl _
  have hel : e.length = 32 := by rw [← he3]; exact alongH_len hsl _
  have HLV := Lib.hid hvl
  have HLE := Lib.hid hel
  obtain ⟨d2, hd2⟩ : ∃ d2, 15 - d = d2 := ⟨_, rfl⟩
  rw [hd2] at he2
  have hd2l : d2 ≤ 15 := by omega
  have HSW := Lib.hid (show IntKind.i64.wrap ((15 : Int) - (d : Int)) = (d2 : Int) by rw [IntWalk.i64_in _ (by omega)]; omega)
  obtain ⟨S, hS⟩ : ∃ X, u8A s = X := ⟨_, rfl⟩
  have HES := Lib.hid hS
  obtain ⟨V, hV⟩ : ∃ X, u8A v = X := ⟨_, rfl⟩
  have HEV := Lib.hid hV
  obtain ⟨E, hE⟩ : ∃ X, u8A e = X := ⟨_, rfl⟩
  have HEE := Lib.hid hE
  have HES := Lib.hid (show E.size = 32 by rw [← hE, u8A_size]; exact hel)
  have HEO := Lib.hid (show E.all (·.oneCell') = true by rw [← hE]; exact u8A_one _)
  have HQE := Lib.hid (fun W => (show (Op.equalIn 10000 34 (.agg E) (.agg E)).run Tryd.prog W = .ok true W by rw [← hE, run_hash_eq W _ _ (hel) (hel), decide_eq_true rfl]))
  have HQV := Lib.hid (fun W => (show (Op.equalIn 10000 34 (.agg V) (.agg V)).run Tryd.prog W = .ok true W by rw [← hV, run_hash_eq W _ _ (hvl) (hvl), decide_eq_true rfl]))
  have HTAB := Lib.hid htab
  have HVK := Lib.hid hv
  have HEK := Lib.hid he
  have HDK := Lib.hid hd
  rw [hX]
  go_enter Tryd.func3, Tryd.ntmps3
  go_upto_region 1 with fail
  generalize hw3 : World.alloc _ _ = w3
  obtain ⟨g1, hg1⟩ : ∃ g, w.heap.size = g := ⟨_, rfl⟩
  have hf : Blk w3 g1 X 23 ∧ Below w.heap.size w w3 := by
    rw [← hw3, ← hg1]
    exact ⟨Blk.new w _ _, (Below.refl _ _).alloc (Nat.le_refl _) _⟩
  have HB1 := Lib.hid hf.1
  have HB3 := Lib.hid hf.2
  clear hf hw3
  rw [hg1]
  clear hg1
  have HBX0 := Lib.hid (fun W (hW : Below w3.heap.size w3 W) => HB1.out.below hW HB1.out.lt)
  have HSG := Lib.hid (fun W (hW : Below w3.heap.size w3 W) => (show Calls Tryd.prog 12 #[.agg X, .int .i64 (p : Int), .slice A M0 c] W fun e w' => ∃ X x, e = .returned (.slice X 67 x) ∧ 67 ≤ x ∧ HV w' (.slice X 67 x) sg ∧ Below W.heap.size W w' from by
    have hb2 := HB3.out.trans (hW.mono HB3.out.size)
    rw [← hX, ← hsg, ← hDg]
    refine (psign_any sd (p : Int) A M0 c bl0 W hs (by omega) hbn0 (by omega) hMc0 hcm (hbr0.on hb2) (tab_on HTAB.out hb2 hb2.size)).mono ?_
    rintro e w' ⟨v, rfl, ho, hb⟩
    obtain ⟨X, x, rfl, hx, _⟩ := ho.form (atL_len _ _)
    exact ⟨X, x, rfl, hx, ho.hv, hb⟩))
  have HEN := Lib.hid (fun V x W (hW : Below w3.heap.size w3 W) (hv : HV W (.slice V 67 x) sg) => (show Calls Tryd.prog 13 #[.slice A M0 c, .slice V 67 x] W fun e w' => ∃ Y y, e = .returned (.tuple #[.slice Y 67 y, .bool true]) ∧ 67 ≤ y ∧ HV w' (.slice Y 67 y) en ∧ Below W.heap.size W w' from by
    have hb2 := HB3.out.trans (hW.mono HB3.out.size)
    rw [← hen, ← hDg]
    refine (pends_yes A M0 c bl0 V x sg W hbn0 (by omega) hMc0 hcm (hbr0.on hb2) hv (tab_on HTAB.out hb2 hb2.size)).mono ?_
    rintro e w' ⟨v, rfl, ho, hb⟩
    obtain ⟨Y, y, rfl, hy, _⟩ := ho.form (atL_len _ _)
    exact ⟨Y, y, rfl, hy, ho.hv, hb⟩))
  have HNO := Lib.hid (fun V x W => pends_no A M0 c V 66 x W (by omega))
  have HDG := Lib.hid (fun W (hW : Below w3.heap.size w3 W) => (show Calls Tryd.prog 14 #[.slice A M0 c] W fun e w' => ∃ X x, e = .returned (.slice X 67 x) ∧ DV w' (.slice X 67 x) Dg ∧ Below W.heap.size W w' from by
    have hb2 := HB3.out.trans (hW.mono HB3.out.size)
    rw [← hDg]
    refine (pdigits_any A M0 c bl0 W hbn0 (by omega) hMc0 hcm (hbr0.on hb2) (tab_on HTAB.out hb2 hb2.size)).mono ?_
    rintro e w' ⟨v, rfl, ho, hb⟩
    obtain ⟨X, x, rfl, _, _⟩ := ho.form (digH_len (msgH_len bl0))
    exact ⟨X, x, rfl, ho.dv, hb⟩))
  have HST0 := Lib.hid (fun W (hW : Below w3.heap.size w3 W) => (show Calls Tryd.prog 16 #[.agg X, .int .i64 (p : Int), .int .i64 (k : Int)] W fun e w' => e = .returned (.agg S) ∧ Below W.heap.size W w' from by
    rw [← hX, ← hS, ← hsx]
    have hb2 := HB3.out.trans (hW.mono HB3.out.size)
    exact pstart_any sd (p : Int) (k : Int) W hs (by omega) (by omega) (tab_on HTAB.out hb2 hb2.size)))
  have HA0 := Lib.hid (fun W (hW : Below w3.heap.size w3 W) => (show Calls Tryd.prog 15 #[.agg S, .int .i64 15] W fun e w' => e = .returned (.agg E) ∧ Below W.heap.size W w' from by
    rw [← hS, ← hE, ← he3]
    have hb2 := HB3.out.trans (hW.mono HB3.out.size)
    exact by have := palong_any s 15 W hsl (tab_on HTAB.out hb2 hb2.size); rwa [show wots.clampS 15 = 15 from rfl] at this))
  have HA10 := Lib.hid (fun W (hW : Below w3.heap.size w3 W) => (show Calls Tryd.prog 15 #[.agg V, .int .i64 (d2 : Int)] W fun e w' => e = .returned (.agg E) ∧ Below W.heap.size W w' from by
    rw [← hV, ← hE, ← he2]
    have hb2 := HB3.out.trans (hW.mono HB3.out.size)
    exact by have := palong_any v (d2 : Int) W hvl (tab_on HTAB.out hb2 hb2.size); rwa [clampS_nat hd2l] at this))
  have HA20 := Lib.hid (fun W (hW : Below w3.heap.size w3 W) => (show Calls Tryd.prog 15 #[.agg S, .int .i64 (d : Int)] W fun e w' => e = .returned (.agg V) ∧ Below W.heap.size W w' from by
    rw [← hS, ← hV, ← hv2]
    have hb2 := HB3.out.trans (hW.mono HB3.out.size)
    exact by have := palong_any s (d : Int) W hsl (tab_on HTAB.out hb2 hb2.size); rwa [clampS_nat hds] at this))
  have hkl2 := hkl
  clear hX hS hV hE hv he hd hd2 hv2 he2 he3 hsx hsg hen hDg hM0 hbl0 hbn0 hbr0 hn0 hr0 htab hsl hvl hel hp hk
  go_wp2_with fail
  with_reducible refine (HW1.out _).mono ?_
  rintro e wx ⟨rfl, rfl⟩
  go_wp2_with fail
  with_reducible refine (HW2.out _).mono ?_
  rintro e wx ⟨rfl, rfl⟩
  go_wp2_with fail
  with_reducible refine (HCB0.out _).mono ?_
  rintro e wx ⟨rfl, rfl⟩
  clear HW1 HW2 HCB0
  go_wp2_with (with_reducible refine wpList_load_blk rfl 23 (.tmp 4) rfl g1 rfl 23 X _ HB1.out Tryd.underlying23 rfl (by rw [HXS.out]; kernel_rfl) ?_)
  with_reducible refine (HSG.out _ (Below.refl _ _)).mono ?_
  rintro e w4 ⟨Xs, x1, rfl, hx1, hvs, hb4⟩
  have HVS := Lib.hid hvs
  have HB4 := Lib.hid hb4
  clear hvs hb4 HSG
  go_wp2_with fail
  with_reducible refine (HEN.out Xs x1 w4 HB4.out HVS.out).mono ?_
  rintro e w5 ⟨Xl, x2, rfl, hx2, hvl5, hb5⟩
  replace HVS := Lib.hid (HVS.out.on hb5)
  replace HB4 := Lib.hid (HB4.out.trans (hb5.mono HB4.out.size))
  have HVL := Lib.hid hvl5
  clear hvl5 hb5 HEN
  go_wp2_with fail
  with_reducible refine (HDG.out w5 HB4.out).mono ?_
  rintro e w6 ⟨Xd, x3, rfl, hdv, hb6⟩
  replace HVS := Lib.hid (HVS.out.on hb6)
  replace HVL := Lib.hid (HVL.out.on hb6)
  replace HB4 := Lib.hid (HB4.out.trans (hb6.mono HB4.out.size))
  have HDV := Lib.hid hdv
  clear hdv hb6 HDG
  have HBX6 := Lib.hid (HBX0.out w6 HB4.out)
  go_wp2_with (with_reducible refine wpList_load_blk rfl 23 (.tmp 4) rfl g1 rfl 23 X _ HBX6.out Tryd.underlying23 rfl (by rw [HXS.out]; kernel_rfl) ?_)
  with_reducible refine (HST0.out w6 HB4.out).mono ?_
  rintro e w7 ⟨rfl, hb7⟩
  replace HVS := Lib.hid (HVS.out.on hb7)
  replace HVL := Lib.hid (HVL.out.on hb7)
  replace HDV := Lib.hid (HDV.out.on hb7)
  replace HB4 := Lib.hid (HB4.out.trans (hb7.mono HB4.out.size))
  clear hb7 HBX6
  go_wp2_with fail
  with_reducible refine (HA0.out w7 HB4.out).mono ?_
  rintro e w8 ⟨rfl, hb8⟩
  replace HVS := Lib.hid (HVS.out.on hb8)
  replace HVL := Lib.hid (HVL.out.on hb8)
  replace HDV := Lib.hid (HDV.out.on hb8)
  replace HB4 := Lib.hid (HB4.out.trans (hb8.mono HB4.out.size))
  clear hb8
  go_upto_region 9 with (with_reducible refine wpList_store_blk rfl 34 (.tmp 13) (.tmp 55) rfl w8.heap.size E rfl rfl 34 _ (Blk.new _ _ _) (by rw [HES.out]; kernel_rfl) (by rw [HES.out]; kernel_rfl) HEO.out ?_)
  generalize hw9 : World.setRow _ _ _ = w9
  have hal : Below w8.heap.size w8 w9 := by
    rw [← hw9]
    exact below_row ((Below.refl _ _).alloc (Nat.le_refl _) _) (by simp) (Nat.le_refl _) _
  have HB13 := Lib.hid (show Blk w9 w8.heap.size E 34 by
    rw [← hw9]
    exact (Blk.new _ _ _).row _)
  obtain ⟨g13, hg13⟩ : ∃ g, w8.heap.size = g := ⟨_, rfl⟩
  replace HVS := Lib.hid (HVS.out.on hal)
  replace HVL := Lib.hid (HVL.out.on hal)
  replace HDV := Lib.hid (HDV.out.on hal)
  replace HB4 := Lib.hid (HB4.out.trans (hal.mono HB4.out.size))
  rw [hg13] at HB13 ⊢
  clear hal hw9 hg13
  obtain ⟨bs, os, rfl, hbs, _, _⟩ := HVS.out.at_ (i := 0) (by omega)
  have HSLI := Lib.hid (fun W => run_sub_hash bs os 67 x1 W)
  have hsli := fun W => run_sub_hash bs os 67 x1 W (by omega) (by omega)
  go_wp2_with fail
  with_reducible refine (HNO.out _ _ _).mono ?_
  rintro e wz ⟨rfl, hb10⟩
  replace HVS := Lib.hid (HVS.out.on hb10)
  replace HVL := Lib.hid (HVL.out.on hb10)
  replace HDV := Lib.hid (HDV.out.on hb10)
  replace HB13 := Lib.hid (HB13.out.below hb10 HB13.out.lt)
  replace HB4 := Lib.hid (HB4.out.trans (hb10.mono HB4.out.size))
  clear hb10 HNO hsli HSLI hbs
  have HBZ := Lib.hid (HB3.out.trans (HB4.out.mono HB3.out.size))
  obtain ⟨bl, ol, rfl, hbl, hrl, _⟩ := HVL.out.at_ (i := k) hkl2
  obtain ⟨bs', os', e1, hbs, hrs, _⟩ := HVS.out.at_ (i := k) hkl2
  injection e1 with e1
  injection e1 with e1 e2
  subst e1 e2
  obtain ⟨bd, od, rfl, hbd, hcd⟩ := HDV.out.at_ (i := k) hkl2
  rw [HVK.out] at hrs
  rw [HEK.out] at hrl
  rw [HDK.out] at hcd
  have HRS := Lib.hid (fun W (hW : Below wz.heap.size wz W) => (rangeAt_keep hrs fun j => hW.cell (p := ⟨bs, _, none⟩) hbs : W.rangeAt bs (os + k * 32) (Lib.byteCells v)))
  have HRL := Lib.hid (fun W (hW : Below wz.heap.size wz W) => (rangeAt_keep hrl fun j => hW.cell (p := ⟨bl, _, none⟩) hbl : W.rangeAt bl (ol + k * 32) (Lib.byteCells e)))
  have HCD := Lib.hid (fun W (hW : Below wz.heap.size wz W) => (hW.cell (p := ⟨bd, od + k, none⟩) hbd).trans hcd)
  have HBE := Lib.hid (fun W (hW : Below wz.heap.size wz W) => HB13.out.below hW HB13.out.lt)
  have HBX := Lib.hid (fun W (hW : Below wz.heap.size wz W) => HBX0.out W (HB4.out.trans (hW.mono HB4.out.size)))
  have HST := Lib.hid (fun W (hW : Below wz.heap.size wz W) => HST0.out W (HB4.out.trans (hW.mono HB4.out.size)))
  have HA1 := Lib.hid (fun W (hW : Below wz.heap.size wz W) => HA10.out W (HB4.out.trans (hW.mono HB4.out.size)))
  have HA2 := Lib.hid (fun W (hW : Below wz.heap.size wz W) => HA20.out W (HB4.out.trans (hW.mono HB4.out.size)))
  have HWK := Lib.hid (fun W (hW : Below wz.heap.size wz W) => wakes8_any W (tab_on HTAB.out (HBZ.out.trans (hW.mono HBZ.out.size)) (HBZ.out.trans (hW.mono HBZ.out.size)).size))
  have hki : (k : Int) < 67 := by omega
  clear hrs hrl hcd hbs hbl hbd HVS HVL HDV HB13 HBX0 HST0 HA0 HA10 HA20 HB1
  go_wp2_with fail
  refine wp_region_loose 43 1 (fun i => false) (promises [.is (.slice (some ⟨bl, ol, none⟩) 67 x2), .is (.int .i64 (k : Int)), .is (.pointer (some ⟨bl, ol + k * 32, none⟩)), .is (.agg E), .is (.agg E), .is (.bool true), .is (.bool true), .is (.slice (some ⟨bs, os, none⟩) 67 x1), .is (.int .i64 (k : Int)), .is (.pointer (some ⟨bs, os + k * 32, none⟩)), .is (.agg V), .is (.slice (some ⟨bd, od, none⟩) 67 x3), .is (.int .i64 (k : Int)), .is (.pointer (some ⟨bd, od + k, none⟩)), .is (.int .i64 (d : Int)), .is (.int .i64 (d2 : Int)), .is (.agg E), .is (.agg E), .is (.bool true), .is (.bool true), .is (.bool true), .is (.slice (some ⟨bs, os, none⟩) 67 x1), .is (.int .i64 (k : Int)), .is (.pointer (some ⟨bs, os + k * 32, none⟩)), .is (.agg V), .is (.agg X), .is (.int .i64 (p : Int)), .is (.int .i64 (k : Int)), .is (.agg S), .is (.slice (some ⟨bd, od, none⟩) 67 x3), .is (.int .i64 (k : Int)), .is (.pointer (some ⟨bd, od + k, none⟩)), .is (.int .i64 (d : Int)), .is (.agg V), .is (.bool true), .is (.bool true), .is (.bool true), .is (.bool false), .is (.bool true), .is (.bool true), .is (.bool true), .is (.bool true), .is (.bool true)]) (by kernel_rfl) rfl (by kernel_rfl) (fun i v w w' h hb => Spec.keep h hb) ⟨?_, ?_, ?_, ?_, ?_, ?_, ?_, ?_, ?_, ?_, ?_, ?_, ?_, ?_, ?_, ?_, ?_, ?_, ?_, ?_, ?_, ?_, ?_, ?_, ?_, ?_, ?_, ?_, ?_, ?_, ?_, ?_, ?_, ?_, ?_, ?_, ?_, ?_, ?_, ?_, ?_, ?_, ?_, trivial⟩ ?_
  · refine StepOKl.of ?_
    intro ac w hb hu hk
    refine ⟨wanted_none rfl, ?_⟩
    have e10 : ac.eval (.tmp 10) = .slice (some ⟨bl, ol, none⟩) 67 x2 := hu.is (t := 10) (by kernel_rfl)
    exact step_value (BigFrame.run_move (.tmp 10) rfl w) (Below.refl _ _) e10
  · refine StepOKl.of ?_
    intro ac w hb hu hk
    refine ⟨wanted_none rfl, ?_⟩
    have e2 : ac.eval (.tmp 2) = .int .i64 (k : Int) := hu.is (t := 2) (by kernel_rfl)
    exact step_value (BigFrame.run_move (.tmp 2) rfl w) (Below.refl _ _) e2
  · refine StepOKl.of ?_
    intro ac w hb hu hk
    refine ⟨wanted_none rfl, ?_⟩
    have e63 : ac.eval (.tmp 63) = (.slice (some ⟨bl, ol, none⟩) 67 x2) := (hk ⟨0, .data⟩ (by simp) rfl).is rfl rfl
    have e64 : ac.eval (.tmp 64) = (.int .i64 (k : Int)) := (hk ⟨1, .data⟩ (by simp) rfl).is rfl rfl
    refine step_value (w' := w) (v := (.pointer (some ⟨bl, ol + k * 32, none⟩))) ?_ (Below.refl _ _) rfl
    generalize ac.eval = ρ at e63 e64 ⊢
    go_simp
  · refine StepOKl.of ?_
    intro ac w hb hu hk
    refine ⟨wanted_none rfl, ?_⟩
    have e65 : ac.eval (.tmp 65) = (.pointer (some ⟨bl, ol + k * 32, none⟩)) := (hk ⟨2, .data⟩ (by simp) rfl).is rfl rfl
    exact step_value (run_load_hash (.tmp 65) rfl bl (ol + k * 32) e65 e HLE.out (HRL.out w hb) HEE.out) (Below.refl _ _) rfl
  · refine StepOKl.of ?_
    intro ac w hb hu hk
    refine ⟨wanted_none rfl, ?_⟩
    have e13 : ac.eval (.tmp 13) = .pointer (some ⟨g13, 0, none⟩) := hu.is (t := 13) (by kernel_rfl)
    exact wp_load_row 34 (.tmp 13) rfl g13 e13 34 E (0, 0) _ (HBE.out w hb) Tryd.underlying34 rfl (by rw [HES.out]; kernel_rfl) ⟨_, rfl, rfl, Below.refl _ _⟩
  · refine StepOKl.of ?_
    intro ac w hb hu hk
    refine ⟨wanted_none rfl, ?_⟩
    have e66 : ac.eval (.tmp 66) = (.agg E) := (hk ⟨3, .data⟩ (by simp) rfl).is rfl rfl
    have e67 : ac.eval (.tmp 67) = (.agg E) := (hk ⟨4, .data⟩ (by simp) rfl).is rfl rfl
    refine step_value (w' := w) (v := .bool true) ?_ (Below.refl _ _) rfl
    have hq := HQE.out w
    generalize ac.eval = ρ at e66 e67 ⊢
    go_simp
  · refine StepOKl.of ?_
    intro ac w hb hu hk
    refine ⟨wanted_none rfl, ?_⟩
    have e68 : ac.eval (.tmp 68) = (.bool true) := (hk ⟨5, .data⟩ (by simp) rfl).is rfl rfl
    exact step_value (BigFrame.run_move (.tmp 68) rfl w) (Below.refl _ _) e68
  · refine StepOKl.of ?_
    intro ac w hb hu hk
    refine ⟨wanted_some rfl (hk ⟨6, .guard⟩ (by simp) rfl) rfl rfl (fun _ h => h), ?_⟩
    have e9 : ac.eval (.tmp 9) = .slice (some ⟨bs, os, none⟩) 67 x1 := hu.is (t := 9) (by kernel_rfl)
    exact step_value (BigFrame.run_move (.tmp 9) rfl w) (Below.refl _ _) e9
  · refine StepOKl.of ?_
    intro ac w hb hu hk
    refine ⟨wanted_some rfl (hk ⟨6, .guard⟩ (by simp) rfl) rfl rfl (fun _ h => h), ?_⟩
    have e2 : ac.eval (.tmp 2) = .int .i64 (k : Int) := hu.is (t := 2) (by kernel_rfl)
    exact step_value (BigFrame.run_move (.tmp 2) rfl w) (Below.refl _ _) e2
  · refine StepOKl.of ?_
    intro ac w hb hu hk
    refine ⟨wanted_some rfl (hk ⟨6, .guard⟩ (by simp) rfl) rfl rfl (fun _ h => h), ?_⟩
    have e70 : ac.eval (.tmp 70) = (.slice (some ⟨bs, os, none⟩) 67 x1) := (hk ⟨7, .data⟩ (by simp) rfl).is rfl rfl
    have e71 : ac.eval (.tmp 71) = (.int .i64 (k : Int)) := (hk ⟨8, .data⟩ (by simp) rfl).is rfl rfl
    refine step_value (w' := w) (v := (.pointer (some ⟨bs, os + k * 32, none⟩))) ?_ (Below.refl _ _) rfl
    generalize ac.eval = ρ at e70 e71 ⊢
    go_simp
  · refine StepOKl.of ?_
    intro ac w hb hu hk
    refine ⟨wanted_some rfl (hk ⟨6, .guard⟩ (by simp) rfl) rfl rfl (fun _ h => h), ?_⟩
    have e72 : ac.eval (.tmp 72) = (.pointer (some ⟨bs, os + k * 32, none⟩)) := (hk ⟨9, .data⟩ (by simp) rfl).is rfl rfl
    exact step_value (run_load_hash (.tmp 72) rfl bs (os + k * 32) e72 v HLV.out (HRS.out w hb) HEV.out) (Below.refl _ _) rfl
  · refine StepOKl.of ?_
    intro ac w hb hu hk
    refine ⟨wanted_some rfl (hk ⟨6, .guard⟩ (by simp) rfl) rfl rfl (fun _ h => h), ?_⟩
    have e12 : ac.eval (.tmp 12) = .slice (some ⟨bd, od, none⟩) 67 x3 := hu.is (t := 12) (by kernel_rfl)
    exact step_value (BigFrame.run_move (.tmp 12) rfl w) (Below.refl _ _) e12
  · refine StepOKl.of ?_
    intro ac w hb hu hk
    refine ⟨wanted_some rfl (hk ⟨6, .guard⟩ (by simp) rfl) rfl rfl (fun _ h => h), ?_⟩
    have e2 : ac.eval (.tmp 2) = .int .i64 (k : Int) := hu.is (t := 2) (by kernel_rfl)
    exact step_value (BigFrame.run_move (.tmp 2) rfl w) (Below.refl _ _) e2
  · refine StepOKl.of ?_
    intro ac w hb hu hk
    refine ⟨wanted_some rfl (hk ⟨6, .guard⟩ (by simp) rfl) rfl rfl (fun _ h => h), ?_⟩
    have e74 : ac.eval (.tmp 74) = (.slice (some ⟨bd, od, none⟩) 67 x3) := (hk ⟨11, .data⟩ (by simp) rfl).is rfl rfl
    have e75 : ac.eval (.tmp 75) = (.int .i64 (k : Int)) := (hk ⟨12, .data⟩ (by simp) rfl).is rfl rfl
    refine step_value (w' := w) (v := (.pointer (some ⟨bd, od + k, none⟩))) ?_ (Below.refl _ _) rfl
    generalize ac.eval = ρ at e74 e75 ⊢
    go_simp
  · refine StepOKl.of ?_
    intro ac w hb hu hk
    refine ⟨wanted_some rfl (hk ⟨6, .guard⟩ (by simp) rfl) rfl rfl (fun _ h => h), ?_⟩
    have e76 : ac.eval (.tmp 76) = (.pointer (some ⟨bd, od + k, none⟩)) := (hk ⟨13, .data⟩ (by simp) rfl).is rfl rfl
    have hc := HCD.out w hb
    refine step_value (w' := w) (v := .int .i64 (d : Int)) ?_ (Below.refl _ _) rfl
    generalize ac.eval = ρ at e76 ⊢
    go_simp
  · refine StepOKl.of ?_
    intro ac w hb hu hk
    refine ⟨wanted_some rfl (hk ⟨6, .guard⟩ (by simp) rfl) rfl rfl (fun _ h => h), ?_⟩
    have e77 : ac.eval (.tmp 77) = (.int .i64 (d : Int)) := (hk ⟨14, .data⟩ (by simp) rfl).is rfl rfl
    have hsw := HSW.out
    refine step_value (w' := w) (v := .int .i64 (d2 : Int)) ?_ (Below.refl _ _) rfl
    have ec : ac.eval (.const (.int .i64 15)) = .int .i64 15 := rfl
    generalize ac.eval = ρ at e77 ec ⊢
    go_simp
  · refine StepOKl.of ?_
    intro ac w hb hu hk
    refine ⟨wanted_some rfl (hk ⟨6, .chain⟩ (by simp) rfl) rfl rfl (fun _ h => h), ?_⟩
    have e73 : ac.eval (.tmp 73) = (.agg V) := (hk ⟨10, .data⟩ (by simp) rfl).is rfl rfl
    have e78 : ac.eval (.tmp 78) = (.int .i64 (d2 : Int)) := (hk ⟨15, .data⟩ (by simp) rfl).is rfl rfl
    have ef : ac.eval (.func 15) = .func (.func 15) #[] #[] := rfl
    refine step_enter (f := 15) (args := #[.agg V, .int .i64 (d2 : Int)]) ?_ ?_
    · generalize ac.eval = ρ at e73 e78 ef ⊢
      go_simp
    · exact (HA1.out w hb).mono fun e w' ⟨he, hq⟩ => ⟨_, he, rfl, hq⟩
  · refine StepOKl.of ?_
    intro ac w hb hu hk
    refine ⟨wanted_some rfl (hk ⟨6, .guard⟩ (by simp) rfl) rfl rfl (fun _ h => h), ?_⟩
    have e13 : ac.eval (.tmp 13) = .pointer (some ⟨g13, 0, none⟩) := hu.is (t := 13) (by kernel_rfl)
    exact wp_load_row 34 (.tmp 13) rfl g13 e13 34 E (0, 0) _ (HBE.out w hb) Tryd.underlying34 rfl (by rw [HES.out]; kernel_rfl) ⟨_, rfl, rfl, Below.refl _ _⟩
  · refine StepOKl.of ?_
    intro ac w hb hu hk
    refine ⟨wanted_some rfl (hk ⟨6, .guard⟩ (by simp) rfl) rfl rfl (fun _ h => h), ?_⟩
    have e79 : ac.eval (.tmp 79) = (.agg E) := (hk ⟨16, .data⟩ (by simp) rfl).is rfl rfl
    have e80 : ac.eval (.tmp 80) = (.agg E) := (hk ⟨17, .data⟩ (by simp) rfl).is rfl rfl
    refine step_value (w' := w) (v := .bool true) ?_ (Below.refl _ _) rfl
    have hq := HQE.out w
    generalize ac.eval = ρ at e79 e80 ⊢
    go_simp
  · refine StepOKl.of ?_
    intro ac w hb hu hk
    refine ⟨wanted_none rfl, ?_⟩
    have e69 : ac.eval (.tmp 69) = (.bool true) := (hk ⟨6, .data⟩ (by simp) rfl).is rfl rfl
    have e81 : ac.eval (.tmp 81) = (.bool true) := (hk ⟨18, .data⟩ (by simp) rfl).is rfl rfl
    exact step_value (run_pick_true e69 rfl w) (Below.refl _ _) e81
  · refine StepOKl.of ?_
    intro ac w hb hu hk
    refine ⟨wanted_none rfl, ?_⟩
    have e82 : ac.eval (.tmp 82) = (.bool true) := (hk ⟨19, .data⟩ (by simp) rfl).is rfl rfl
    exact step_value (BigFrame.run_move (.tmp 82) rfl w) (Below.refl _ _) e82
  · refine StepOKl.of ?_
    intro ac w hb hu hk
    refine ⟨wanted_some rfl (hk ⟨20, .guard⟩ (by simp) rfl) rfl rfl (fun _ h => h), ?_⟩
    have e9 : ac.eval (.tmp 9) = .slice (some ⟨bs, os, none⟩) 67 x1 := hu.is (t := 9) (by kernel_rfl)
    exact step_value (BigFrame.run_move (.tmp 9) rfl w) (Below.refl _ _) e9
  · refine StepOKl.of ?_
    intro ac w hb hu hk
    refine ⟨wanted_some rfl (hk ⟨20, .guard⟩ (by simp) rfl) rfl rfl (fun _ h => h), ?_⟩
    have e2 : ac.eval (.tmp 2) = .int .i64 (k : Int) := hu.is (t := 2) (by kernel_rfl)
    exact step_value (BigFrame.run_move (.tmp 2) rfl w) (Below.refl _ _) e2
  · refine StepOKl.of ?_
    intro ac w hb hu hk
    refine ⟨wanted_some rfl (hk ⟨20, .guard⟩ (by simp) rfl) rfl rfl (fun _ h => h), ?_⟩
    have e84 : ac.eval (.tmp 84) = (.slice (some ⟨bs, os, none⟩) 67 x1) := (hk ⟨21, .data⟩ (by simp) rfl).is rfl rfl
    have e85 : ac.eval (.tmp 85) = (.int .i64 (k : Int)) := (hk ⟨22, .data⟩ (by simp) rfl).is rfl rfl
    refine step_value (w' := w) (v := (.pointer (some ⟨bs, os + k * 32, none⟩))) ?_ (Below.refl _ _) rfl
    generalize ac.eval = ρ at e84 e85 ⊢
    go_simp
  · refine StepOKl.of ?_
    intro ac w hb hu hk
    refine ⟨wanted_some rfl (hk ⟨20, .guard⟩ (by simp) rfl) rfl rfl (fun _ h => h), ?_⟩
    have e86 : ac.eval (.tmp 86) = (.pointer (some ⟨bs, os + k * 32, none⟩)) := (hk ⟨23, .data⟩ (by simp) rfl).is rfl rfl
    exact step_value (run_load_hash (.tmp 86) rfl bs (os + k * 32) e86 v HLV.out (HRS.out w hb) HEV.out) (Below.refl _ _) rfl
  · refine StepOKl.of ?_
    intro ac w hb hu hk
    refine ⟨wanted_some rfl (hk ⟨20, .guard⟩ (by simp) rfl) rfl rfl (fun _ h => h), ?_⟩
    have e4 : ac.eval (.tmp 4) = .pointer (some ⟨g1, 0, none⟩) := hu.is (t := 4) (by kernel_rfl)
    exact wp_load_row 23 (.tmp 4) rfl g1 e4 23 X (0, 0) _ (HBX.out w hb) Tryd.underlying23 rfl (by rw [HXS.out]; kernel_rfl) ⟨_, rfl, rfl, Below.refl _ _⟩
  · refine StepOKl.of ?_
    intro ac w hb hu hk
    refine ⟨wanted_some rfl (hk ⟨20, .guard⟩ (by simp) rfl) rfl rfl (fun _ h => h), ?_⟩
    have e1 : ac.eval (.tmp 1) = .int .i64 (p : Int) := hu.is (t := 1) (by kernel_rfl)
    exact step_value (BigFrame.run_move (.tmp 1) rfl w) (Below.refl _ _) e1
  · refine StepOKl.of ?_
    intro ac w hb hu hk
    refine ⟨wanted_some rfl (hk ⟨20, .guard⟩ (by simp) rfl) rfl rfl (fun _ h => h), ?_⟩
    have e2 : ac.eval (.tmp 2) = .int .i64 (k : Int) := hu.is (t := 2) (by kernel_rfl)
    exact step_value (BigFrame.run_move (.tmp 2) rfl w) (Below.refl _ _) e2
  · refine StepOKl.of ?_
    intro ac w hb hu hk
    refine ⟨wanted_some rfl (hk ⟨20, .chain⟩ (by simp) rfl) rfl rfl (fun _ h => h), ?_⟩
    have e88 : ac.eval (.tmp 88) = (.agg X) := (hk ⟨25, .data⟩ (by simp) rfl).is rfl rfl
    have e89 : ac.eval (.tmp 89) = (.int .i64 (p : Int)) := (hk ⟨26, .data⟩ (by simp) rfl).is rfl rfl
    have e90 : ac.eval (.tmp 90) = (.int .i64 (k : Int)) := (hk ⟨27, .data⟩ (by simp) rfl).is rfl rfl
    have ef : ac.eval (.func 16) = .func (.func 16) #[] #[] := rfl
    refine step_enter (f := 16) (args := #[.agg X, .int .i64 (p : Int), .int .i64 (k : Int)]) ?_ ?_
    · generalize ac.eval = ρ at e88 e89 e90 ef ⊢
      go_simp
    · exact (HST.out w hb).mono fun e w' ⟨he, hq⟩ => ⟨_, he, rfl, hq⟩
  · refine StepOKl.of ?_
    intro ac w hb hu hk
    refine ⟨wanted_some rfl (hk ⟨20, .guard⟩ (by simp) rfl) rfl rfl (fun _ h => h), ?_⟩
    have e12 : ac.eval (.tmp 12) = .slice (some ⟨bd, od, none⟩) 67 x3 := hu.is (t := 12) (by kernel_rfl)
    exact step_value (BigFrame.run_move (.tmp 12) rfl w) (Below.refl _ _) e12
  · refine StepOKl.of ?_
    intro ac w hb hu hk
    refine ⟨wanted_some rfl (hk ⟨20, .guard⟩ (by simp) rfl) rfl rfl (fun _ h => h), ?_⟩
    have e2 : ac.eval (.tmp 2) = .int .i64 (k : Int) := hu.is (t := 2) (by kernel_rfl)
    exact step_value (BigFrame.run_move (.tmp 2) rfl w) (Below.refl _ _) e2
  · refine StepOKl.of ?_
    intro ac w hb hu hk
    refine ⟨wanted_some rfl (hk ⟨20, .guard⟩ (by simp) rfl) rfl rfl (fun _ h => h), ?_⟩
    have e92 : ac.eval (.tmp 92) = (.slice (some ⟨bd, od, none⟩) 67 x3) := (hk ⟨29, .data⟩ (by simp) rfl).is rfl rfl
    have e93 : ac.eval (.tmp 93) = (.int .i64 (k : Int)) := (hk ⟨30, .data⟩ (by simp) rfl).is rfl rfl
    refine step_value (w' := w) (v := (.pointer (some ⟨bd, od + k, none⟩))) ?_ (Below.refl _ _) rfl
    generalize ac.eval = ρ at e92 e93 ⊢
    go_simp
  · refine StepOKl.of ?_
    intro ac w hb hu hk
    refine ⟨wanted_some rfl (hk ⟨20, .guard⟩ (by simp) rfl) rfl rfl (fun _ h => h), ?_⟩
    have e94 : ac.eval (.tmp 94) = (.pointer (some ⟨bd, od + k, none⟩)) := (hk ⟨31, .data⟩ (by simp) rfl).is rfl rfl
    have hc := HCD.out w hb
    refine step_value (w' := w) (v := .int .i64 (d : Int)) ?_ (Below.refl _ _) rfl
    generalize ac.eval = ρ at e94 ⊢
    go_simp
  · refine StepOKl.of ?_
    intro ac w hb hu hk
    refine ⟨wanted_some rfl (hk ⟨20, .guard⟩ (by simp) rfl) rfl rfl (fun _ h => h), ?_⟩
    have e91 : ac.eval (.tmp 91) = (.agg S) := (hk ⟨28, .data⟩ (by simp) rfl).is rfl rfl
    have e95 : ac.eval (.tmp 95) = (.int .i64 (d : Int)) := (hk ⟨32, .data⟩ (by simp) rfl).is rfl rfl
    have ef : ac.eval (.func 15) = .func (.func 15) #[] #[] := rfl
    refine step_enter (f := 15) (args := #[.agg S, .int .i64 (d : Int)]) ?_ ?_
    · generalize ac.eval = ρ at e91 e95 ef ⊢
      go_simp
    · exact (HA2.out w hb).mono fun e w' ⟨he, hq⟩ => ⟨_, he, rfl, hq⟩
  · refine StepOKl.of ?_
    intro ac w hb hu hk
    refine ⟨wanted_some rfl (hk ⟨20, .guard⟩ (by simp) rfl) rfl rfl (fun _ h => h), ?_⟩
    have e87 : ac.eval (.tmp 87) = (.agg V) := (hk ⟨24, .data⟩ (by simp) rfl).is rfl rfl
    have e96 : ac.eval (.tmp 96) = (.agg V) := (hk ⟨33, .data⟩ (by simp) rfl).is rfl rfl
    refine step_value (w' := w) (v := .bool true) ?_ (Below.refl _ _) rfl
    have hq := HQV.out w
    generalize ac.eval = ρ at e87 e96 ⊢
    go_simp
  · refine StepOKl.of ?_
    intro ac w hb hu hk
    refine ⟨wanted_none rfl, ?_⟩
    have e83 : ac.eval (.tmp 83) = (.bool true) := (hk ⟨20, .data⟩ (by simp) rfl).is rfl rfl
    have e97 : ac.eval (.tmp 97) = (.bool true) := (hk ⟨34, .data⟩ (by simp) rfl).is rfl rfl
    exact step_value (run_pick_true e83 rfl w) (Below.refl _ _) e97
  · refine StepOKl.of ?_
    intro ac w hb hu hk
    refine ⟨wanted_none rfl, ?_⟩
    have e98 : ac.eval (.tmp 98) = (.bool true) := (hk ⟨35, .data⟩ (by simp) rfl).is rfl rfl
    exact step_value (BigFrame.run_move (.tmp 98) rfl w) (Below.refl _ _) e98
  · refine StepOKl.of ?_
    intro ac w hb hu hk
    refine ⟨wanted_some rfl (hk ⟨36, .guard⟩ (by simp) rfl) rfl rfl (fun _ h => h), ?_⟩
    have e15 : ac.eval (.tmp 15) = .bool false := hu.is (t := 15) (by kernel_rfl)
    exact step_value (BigFrame.run_move (.tmp 15) rfl w) (Below.refl _ _) e15
  · refine StepOKl.of ?_
    intro ac w hb hu hk
    refine ⟨wanted_some rfl (hk ⟨36, .guard⟩ (by simp) rfl) rfl rfl (fun _ h => h), ?_⟩
    have e100 : ac.eval (.tmp 100) = (.bool false) := (hk ⟨37, .data⟩ (by simp) rfl).is rfl rfl
    exact step_value (run_not e100 rfl w) (Below.refl _ _) rfl
  · refine StepOKl.of ?_
    intro ac w hb hu hk
    refine ⟨wanted_none rfl, ?_⟩
    have e99 : ac.eval (.tmp 99) = (.bool true) := (hk ⟨36, .data⟩ (by simp) rfl).is rfl rfl
    have e101 : ac.eval (.tmp 101) = (.bool true) := (hk ⟨38, .data⟩ (by simp) rfl).is rfl rfl
    exact step_value (run_pick_true e99 rfl w) (Below.refl _ _) e101
  · refine StepOKl.of ?_
    intro ac w hb hu hk
    refine ⟨wanted_none rfl, ?_⟩
    have e102 : ac.eval (.tmp 102) = (.bool true) := (hk ⟨39, .data⟩ (by simp) rfl).is rfl rfl
    exact step_value (BigFrame.run_move (.tmp 102) rfl w) (Below.refl _ _) e102
  · refine StepOKl.of ?_
    intro ac w hb hu hk
    refine ⟨wanted_some rfl (hk ⟨40, .chain⟩ (by simp) rfl) rfl rfl (fun _ h => h), ?_⟩
    have ef : ac.eval (.func 17) = .func (.func 17) #[] #[] := rfl
    refine step_enter (f := 17) (args := #[]) ?_ ?_
    · generalize ac.eval = ρ at  ef ⊢
      go_simp
    · exact (HWK.out w hb).mono fun e w' ⟨he, hq⟩ => ⟨_, he, rfl, hq⟩
  · refine StepOKl.of ?_
    intro ac w hb hu hk
    refine ⟨wanted_none rfl, ?_⟩
    have e103 : ac.eval (.tmp 103) = (.bool true) := (hk ⟨40, .data⟩ (by simp) rfl).is rfl rfl
    have e104 : ac.eval (.tmp 104) = (.bool true) := (hk ⟨41, .data⟩ (by simp) rfl).is rfl rfl
    exact step_value (run_pick_true e103 rfl w) (Below.refl _ _) e104
  · intro ac w' hb hu hk hap
    obtain ⟨_, h63, rfl⟩ := (hk 0 (by decide)).put rfl rfl
    obtain ⟨_, h64, rfl⟩ := (hk 1 (by decide)).put rfl rfl
    obtain ⟨_, h65, rfl⟩ := (hk 2 (by decide)).put rfl rfl
    obtain ⟨_, h66, rfl⟩ := (hk 3 (by decide)).put rfl rfl
    obtain ⟨_, h67, rfl⟩ := (hk 4 (by decide)).put rfl rfl
    obtain ⟨_, h68, rfl⟩ := (hk 5 (by decide)).put rfl rfl
    obtain ⟨_, h69, rfl⟩ := (hk 6 (by decide)).put rfl rfl
    obtain ⟨_, h70, rfl⟩ := (hk 7 (by decide)).put rfl rfl
    obtain ⟨_, h71, rfl⟩ := (hk 8 (by decide)).put rfl rfl
    obtain ⟨_, h72, rfl⟩ := (hk 9 (by decide)).put rfl rfl
    obtain ⟨_, h73, rfl⟩ := (hk 10 (by decide)).put rfl rfl
    obtain ⟨_, h74, rfl⟩ := (hk 11 (by decide)).put rfl rfl
    obtain ⟨_, h75, rfl⟩ := (hk 12 (by decide)).put rfl rfl
    obtain ⟨_, h76, rfl⟩ := (hk 13 (by decide)).put rfl rfl
    obtain ⟨_, h77, rfl⟩ := (hk 14 (by decide)).put rfl rfl
    obtain ⟨_, h78, rfl⟩ := (hk 15 (by decide)).put rfl rfl
    obtain ⟨_, h79, rfl⟩ := (hk 16 (by decide)).put rfl rfl
    obtain ⟨_, h80, rfl⟩ := (hk 17 (by decide)).put rfl rfl
    obtain ⟨_, h81, rfl⟩ := (hk 18 (by decide)).put rfl rfl
    obtain ⟨_, h82, rfl⟩ := (hk 19 (by decide)).put rfl rfl
    obtain ⟨_, h83, rfl⟩ := (hk 20 (by decide)).put rfl rfl
    obtain ⟨_, h84, rfl⟩ := (hk 21 (by decide)).put rfl rfl
    obtain ⟨_, h85, rfl⟩ := (hk 22 (by decide)).put rfl rfl
    obtain ⟨_, h86, rfl⟩ := (hk 23 (by decide)).put rfl rfl
    obtain ⟨_, h87, rfl⟩ := (hk 24 (by decide)).put rfl rfl
    obtain ⟨_, h88, rfl⟩ := (hk 25 (by decide)).put rfl rfl
    obtain ⟨_, h89, rfl⟩ := (hk 26 (by decide)).put rfl rfl
    obtain ⟨_, h90, rfl⟩ := (hk 27 (by decide)).put rfl rfl
    obtain ⟨_, h91, rfl⟩ := (hk 28 (by decide)).put rfl rfl
    obtain ⟨_, h92, rfl⟩ := (hk 29 (by decide)).put rfl rfl
    obtain ⟨_, h93, rfl⟩ := (hk 30 (by decide)).put rfl rfl
    obtain ⟨_, h94, rfl⟩ := (hk 31 (by decide)).put rfl rfl
    obtain ⟨_, h95, rfl⟩ := (hk 32 (by decide)).put rfl rfl
    obtain ⟨_, h96, rfl⟩ := (hk 33 (by decide)).put rfl rfl
    obtain ⟨_, h97, rfl⟩ := (hk 34 (by decide)).put rfl rfl
    obtain ⟨_, h98, rfl⟩ := (hk 35 (by decide)).put rfl rfl
    obtain ⟨_, h99, rfl⟩ := (hk 36 (by decide)).put rfl rfl
    obtain ⟨_, h100, rfl⟩ := (hk 37 (by decide)).put rfl rfl
    obtain ⟨_, h101, rfl⟩ := (hk 38 (by decide)).put rfl rfl
    obtain ⟨_, h102, rfl⟩ := (hk 39 (by decide)).put rfl rfl
    obtain ⟨_, h103, rfl⟩ := (hk 40 (by decide)).put rfl rfl
    obtain ⟨_, h104, rfl⟩ := (hk 41 (by decide)).put rfl rfl
    obtain ⟨_, h105, rfl⟩ := (hk 42 (by decide)).put rfl rfl
    clear hap
    have hF : AllPuts ac.tmps ((63, _) :: (64, _) :: (65, _) :: (66, _) :: (67, _) :: (68, _) :: (69, _) :: (70, _) :: (71, _) :: (72, _) :: (73, _) :: (74, _) :: (75, _) :: (76, _) :: (77, _) :: (78, _) :: (79, _) :: (80, _) :: (81, _) :: (82, _) :: (83, _) :: (84, _) :: (85, _) :: (86, _) :: (87, _) :: (88, _) :: (89, _) :: (90, _) :: (91, _) :: (92, _) :: (93, _) :: (94, _) :: (95, _) :: (96, _) :: (97, _) :: (98, _) :: (99, _) :: (100, _) :: (101, _) :: (102, _) :: (103, _) :: (104, _) :: (105, _) :: []) := ⟨h63, h64, h65, h66, h67, h68, h69, h70, h71, h72, h73, h74, h75, h76, h77, h78, h79, h80, h81, h82, h83, h84, h85, h86, h87, h88, h89, h90, h91, h92, h93, h94, h95, h96, h97, h98, h99, h100, h101, h102, h103, h104, h105, trivial⟩
    obtain rfl := frame_puts hu (by kernel_rfl) hF
    simp only [puts, Act.put, List.setIfInBounds_toArray, List.set_cons_zero, List.set_cons_succ, List.drop_succ_cons, List.drop_zero]
    clear hk hu hF h63 h64 h65 h66 h67 h68 h69 h70 h71 h72 h73 h74 h75 h76 h77 h78 h79 h80 h81 h82 h83 h84 h85 h86 h87 h88 h89 h90 h91 h92 h93 h94 h95 h96 h97 h98 h99 h100 h101 h102 h103 h104 h105
    have HBE := Lib.hid (HBZ.out.trans (hb.mono HBZ.out.size))
    clear hb
    go_wp2_with fail
    go_ret
    exact ⟨rfl, HBE.out⟩

set_option maxRecDepth 100000 in
theorem contract (H : Type) (enc : TypeId × Value → H) (W : World) (base : Nat) (args : Array Value) (ds gs : List (DataW H)) (before : List MemPlace)
    (hval : ∀ (j : Nat) t v, Tryd.f3.params[j]? = some t → args[j]? = some v → Value.okWide Tryd.prog W .any base t v)
    (hW : DataW.Whole enc Tryd.prog Tryd.f3.params.toList Rows.wotsEndsSpec.vars false W args.toList ds gs before) (hL : laidMetH Tryd.prog Rows.wotsEndsRow.laid W) :
    Calls Tryd.prog 3 args W fun e W' => ∃ v, e = .returned v ∧ Rows.wotsEndsSpec.post enc Tryd.prog Tryd.f3 false true false false W args v W' := by
  have hW' := hW
  obtain ⟨p, q, hA0, hV, rfl, hfz, hnd⟩ := hW
  have hA : DataW.TrodAll enc Tryd.prog W 0 (fun _ => true) true Tryd.f3.params.toList args.toList ds p := hA0
  rw [Tryd.params3] at hA hval
  obtain ⟨v0, v1, v2, v3, d0, d1, d2, d3, p0, p1, p2, p3, rfl, rfl, rfl, h0, h1, h2, h3⟩ := trodAll_four hA
  obtain ⟨rfl, rfl⟩ := trodVars_none hV
  obtain ⟨k0, rfl, hk0⟩ := open_array Tryd.underlying23 (by kernel_rfl) (hval 0 23 v0 rfl rfl) h0
  obtain ⟨n1, rfl, rfl, rfl, wf1⟩ := open_int Tryd.underlying3 (hval 1 3 v1 rfl rfl) h1
  have b1 := bounds_i64 wf1
  obtain ⟨n2, rfl, rfl, rfl, wf2⟩ := open_int Tryd.underlying3 (hval 2 3 v2 rfl rfl) h2
  have b2 := bounds_i64 wf2
  obtain ⟨A3, m3, c3, l3, rfl, hl3, hc3, hm3, hr3⟩ := open_bytes (hval 3 24 v3 rfl rfl) h3
  clear hA0
  refine (walk k0 n1 n2 A3 m3 c3 l3 W hk0 b1.1 b1.2 b2.1 b2.2 hl3 hc3 hm3 hr3 (pow10 hL)).mono fun e W' ⟨he, hb⟩ => ?_
  exact ⟨_, he, law_post hW' rfl (by kernel_rfl) rfl (by kernel_rfl) hb⟩

theorem laid_met (os : Os) : laidMet Tryd.prog Rows.wotsEndsRow.laid ((laidWorld os).forCall (fun _ _ => 0) ⟨#[], #[.agg #[.int .u8 0, .int .u8 0, .int .u8 0, .int .u8 0, .int .u8 0, .int .u8 0, .int .u8 0, .int .u8 0, .int .u8 0, .int .u8 0, .int .u8 0, .int .u8 0, .int .u8 0, .int .u8 0, .int .u8 0, .int .u8 0], .int .i64 0, .int .i64 0, .slice none 0 0], []⟩).memory :=
  laidMet_of_run' 8 (by kernel_rfl) (by kernel_rfl)
theorem reads (os : Os) {H : Type} (enc : TypeId × Value → H) : ∃ places, DataW.whole enc Tryd.prog ((laidWorld os).forCall (fun _ _ => 0) ⟨#[], #[.agg #[.int .u8 0, .int .u8 0, .int .u8 0, .int .u8 0, .int .u8 0, .int .u8 0, .int .u8 0, .int .u8 0, .int .u8 0, .int .u8 0, .int .u8 0, .int .u8 0, .int .u8 0, .int .u8 0, .int .u8 0, .int .u8 0], .int .i64 0, .int .i64 0, .slice none 0 0], []⟩).memory Tryd.f3.params.toList Rows.wotsEndsSpec.vars false #[Value.agg #[.int .u8 0, .int .u8 0, .int .u8 0, .int .u8 0, .int .u8 0, .int .u8 0, .int .u8 0, .int .u8 0, .int .u8 0, .int .u8 0, .int .u8 0, .int .u8 0, .int .u8 0, .int .u8 0, .int .u8 0, .int .u8 0], Value.int .i64 0, Value.int .i64 0, Value.slice none 0 0].toList 8 = some ([.agg [.lit (.int .u8 0), .lit (.int .u8 0), .lit (.int .u8 0), .lit (.int .u8 0), .lit (.int .u8 0), .lit (.int .u8 0), .lit (.int .u8 0), .lit (.int .u8 0), .lit (.int .u8 0), .lit (.int .u8 0), .lit (.int .u8 0), .lit (.int .u8 0), .lit (.int .u8 0), .lit (.int .u8 0), .lit (.int .u8 0), .lit (.int .u8 0)], .lit (.int .i64 0), .lit (.int .i64 0), .nil], [], places) :=
  ⟨[], by kernel_rfl⟩

set_option maxRecDepth 100000 in
theorem lifted (os : Os) (started : os.Started) (H : Type) (enc : TypeId × Value → H) (F : Stop.Interp) :
    ReturnsInHanded {} Tryd.checked os 3 .any ((OpenSpec.ofChange Rows.wotsEndsSpec).preRow enc Tryd.prog Tryd.f3 Rows.wotsEndsRow.domain false Rows.wotsEndsRow.laid) (((OpenSpec.ofChange Rows.wotsEndsSpec).at F).post enc Tryd.prog Tryd.f3 false true false false) := by
  obtain ⟨places, hx⟩ := reads os enc
  refine returnsInHanded_of_row (C := Tryd.checked) (s := OpenSpec.ofChange Rows.wotsEndsSpec) own started (by kernel_rfl) Tryd.func3
    (witness_row_at (enc := enc) (C := Tryd.checked) false (laidWorld os) #[.agg #[.int .u8 0, .int .u8 0, .int .u8 0, .int .u8 0, .int .u8 0, .int .u8 0, .int .u8 0, .int .u8 0, .int .u8 0, .int .u8 0, .int .u8 0, .int .u8 0, .int .u8 0, .int .u8 0, .int .u8 0, .int .u8 0], .int .i64 0, .int .i64 0, .slice none 0 0] rfl (by kernel_rfl) (by kernel_rfl) (by kernel_rfl)
      (OpenSpec.preRow_of_cond 8 hx (by kernel_rfl) (fun k hk => by cases hk) (by kernel_rfl) (laid_met os))) ?_
  intro W base args ds gs before hval hW _ _ _ hL _ _
  exact contract H enc W base args ds gs before hval hW hL

theorem said : Rows.WotsEndsSaid :=
  OpenClaim.holds_of_cond 3 Tryd.f3 rfl rfl rfl rfl rfl rfl rfl ⟨rfl, rfl, rfl, rfl, rfl⟩ rfl rfl rfl rfl rfl (by kernel_rfl) Tryd.func3 (by kernel_rfl)
    (of_decide_eq_true (by kernel_rfl)) (by unfold Func.isWrapper; first | (rw [if_pos (by decide +kernel)]; kernel_rfl) | (rw [if_neg (by decide +kernel)]; exact ⟨rfl, rfl⟩))
    (fun os started H enc _ F => by rw [OpenClaim.pre_eq_preRow]; exact lifted os started H enc F)

theorem plain (f : FuncId) (fn : Func) (hf : Tryd.pinned.checked.prog.funcNamed "aumbry/aumbrylaw08.WotsEnds" = some f) (hfn : Tryd.pinned.checked.prog.funcs[f]? = some fn) :
    false = Tryd.pinned.checked.prog.looks [] ∧ ∀ (j : Nat) t, fn.params[j]? = some t → Tryd.pinned.checked.prog.wantsStandIn t = false := by
  obtain rfl : f = 3 := Option.some.inj ((show Tryd.prog.funcNamed "aumbry/aumbrylaw08.WotsEnds" = some 3 by kernel_rfl).symm.trans hf) |>.symm
  obtain rfl : fn = Tryd.f3 := (Option.some.inj (Tryd.func3.symm.trans hfn)).symm
  refine ⟨by kernel_rfl, fun j t ht => ?_⟩
  exact wants_none (by kernel_rfl) (Array.mem_of_getElem? ht)

/-- The card: the statement holds, its listed tables tied to the program's text. -/
theorem card : Rows.WotsEndsCardSaid :=
  Claim7.holds_tied_plain_at .later [] _ _ _ _ said (fun _ h => by cases h) (by kernel_rfl) (fun _ h => by cases h) wotsEnds_row_tie rfl ⟨rfl, rfl⟩ (by kernel_rfl) rfl plain (by kernel_rfl)
end Go.Proofs.YtciflbkgfmbfdaaDoor.wotsEnds
