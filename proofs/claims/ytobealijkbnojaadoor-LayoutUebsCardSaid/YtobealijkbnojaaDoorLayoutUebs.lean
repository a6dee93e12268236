/- LayoutUebs: a layout's bytes, and any bytes as one, are what the document says. For all of them. -/
import Derived.Test.YtobealijkbnojaaDoorLaw
import Derived.Test.YtobealijkbnojaaDoorLayI
import Derived.Test.YtobealijkbnojaaDoorLayC
import Derived.Test.YtobealijkbnojaaDoorLayF
import Derived.Test.YtobealijkbnojaaDoorLayP
import Derived.Test.YtobealijkbnojaaDoorLayQ
import Derived.Test.YtobealijkbnojaaDoorLayJ
import Derived.Test.YtobealijkbnojaaDoorLayK
import Derived.Test.YtobealijkbnojaaDoorKeep
import Derived.Test.YtobealijkbnojaaDoorMakeA
import Derived.Deep.CutRange
namespace Go.Proofs.YtobealijkbnojaaDoor.layoutUebs
open Go.ChangeShapes Go.WideShapes Go.ChangeAt Go.RowKit

set_option maxRecDepth 100000 in
set_option maxHeartbeats 16000000 in
theorem walk (u0 : F14) (A1 : Option Addr) (m1 c1 : Nat) (l1 : List UInt8) (w : World) (hw0 : u0.wf 32) (hb0 : u0.bd) (hl1 : l1.length = m1) (hc1 : m1 ≤ c1) (hm1 : c1 ≤ maxLen) (hr1 : Rd w w.heap.size A1 l1) (htab : Pow10 w.heap.size w) :
    Calls Tryd.prog 4 #[.agg (f14A u0), .slice A1 m1 c1] w fun e w' => e = .returned (.bool true) ∧ Below w.heap.size w w' := by
  obtain ⟨CX, hCX⟩ : ∃ x, f14A u0 = x := ⟨_, rfl⟩
  have HST := Lib.hid (FAt.new (T := 40) w hw0 hCX)
  have HAL := Lib.hid (show Below w.heap.size w (w.alloc (.cells CX 40)) from (Below.refl _ _).alloc (Nat.le_refl _) _)
  have HCXS := Lib.hid (show CX.size = 68 by rw [← hCX]; exact f14A_size hw0)
  have HCX := Lib.hid hCX
  obtain ⟨n, hn⟩ : ∃ x, min m1 200 = x := ⟨_, rfl⟩
  obtain ⟨l, hl⟩ : ∃ x, l1.take 200 = x := ⟨_, rfl⟩
  have hln : l.length = n := by rw [← hl, List.length_take, hl1, ← hn, Nat.min_comm]
  have hnc : n ≤ c1 := by omega
  have hn2 : n ≤ 1000 := by omega
  have HCUT := Lib.hid (fun (W : World) => (show Calls Tryd.prog 17 #[.slice A1 m1 c1, .int .i64 200] W fun e w' => e = .returned (.slice A1 n c1) ∧ W = w' from by
    rw [← hn]
    exact cut_any A1 m1 c1 200 W hc1))
  have HR := Lib.hid (show ∀ W, Below w.heap.size w W → Rd W W.heap.size A1 l from fun W hW => by rw [← hl]; exact (hr1.on hW).take 200)
  have HTAB := Lib.hid (fun (W : World) (hW : Below w.heap.size w W) => tab_on htab hW hW.size)
  obtain ⟨PL, hPL⟩ : ∃ x, packU u0 = x := ⟨_, rfl⟩
  have hps : PL.length ≤ 1000 := by
    rw [← hPL]
    exact packU_len hw0
  obtain ⟨VX, hVX⟩ : ∃ x, f14A ((unU l).getD (zero14 32)) = x := ⟨_, rfl⟩
  obtain ⟨VB, hVB⟩ : ∃ x, (unU l).isSome = x := ⟨_, rfl⟩
  obtain ⟨ZX, hZX⟩ : ∃ x, f14A ((unU PL).getD (zero14 32)) = x := ⟨_, rfl⟩
  obtain ⟨ZB, hZB⟩ : ∃ x, (unU PL).isSome = x := ⟨_, rfl⟩
  have HSVX := Lib.hid (show VX.size = 68 ∧ VX.all (·.oneCell') = true by rw [← hVX]; exact ⟨f14A_size (unU_wf l), f14A_one _⟩)
  have HSZX := Lib.hid (show ZX.size = 68 ∧ ZX.all (·.oneCell') = true by rw [← hZX]; exact ⟨f14A_size (unU_wf PL), f14A_one _⟩)
  have hev := fun (W : World) => (show (Op.equalIn 10000 40 (.agg VX) (.agg VX)).run Tryd.prog W = .ok true W by rw [← hVX]; exact run_ueb_same W _ (unU_wf l))
  have hez := fun (W : World) => (show (Op.equalIn 10000 40 (.agg ZX) (.agg ZX)).run Tryd.prog W = .ok true W by rw [← hZX]; exact run_ueb_same W _ (unU_wf PL))
  have hguard : Tryd.prog.eqGuardType Tryd.prog.depth 40 = false := by kernel_rfl
  have HE := Lib.hid (And.intro hev (And.intro hez hguard))
  have HUP := Lib.hid (fun (W : World) (hW : Below w.heap.size w W) => (show Calls Tryd.prog 12 #[.slice A1 n c1] W fun e w' => e = .returned (.tuple #[.agg VX, .bool VB]) ∧ Below W.heap.size W w' from by
    rw [← hVX, ← hVB]
    exact punpackU_any hln hnc hn2 (HR.out W hW) (HTAB.out W hW)))
  have HUR := Lib.hid (fun (W : World) (hW : Below w.heap.size w W) => (show Calls Tryd.prog 18 #[.slice A1 n c1] W fun e w' => e = .returned (.tuple #[.agg VX, .bool VB]) ∧ Below W.heap.size W w' from by
    rw [← hVX, ← hVB]
    exact runpackU_any hln hnc hm1 hn2 (HR.out W hW)))
  have HPP := Lib.hid (fun (W : World) (hW : Below w.heap.size w W) => (show Calls Tryd.prog 16 #[.agg CX] W fun e w' => ∃ A c, e = .returned (.slice A PL.length c) ∧ PL.length ≤ c ∧ c ≤ maxLen ∧ Rd w' w'.heap.size A PL ∧ Below W.heap.size W w' from by
    rw [← hCX, ← hPL]
    exact ppackU_any hw0 hb0 (HTAB.out W hW)))
  have HPQ := Lib.hid (fun (W : World) => (show Calls Tryd.prog 19 #[.agg CX] W fun e w' => ∃ A c, e = .returned (.slice A PL.length c) ∧ PL.length ≤ c ∧ Rd w' w'.heap.size A PL ∧ Below W.heap.size W w' from by
    rw [← hCX, ← hPL]
    exact rpackU_any hw0 hb0))
  have HZP := Lib.hid (fun (W : World) (hW : Below w.heap.size w W) (A : Option Addr) (c : Nat) (h1 : PL.length ≤ c) (hr : Rd W W.heap.size A PL) => (show Calls Tryd.prog 12 #[.slice A PL.length c] W fun e w' => e = .returned (.tuple #[.agg ZX, .bool ZB]) ∧ Below W.heap.size W w' from by
    rw [← hZX, ← hZB]
    exact punpackU_any rfl h1 hps hr (HTAB.out W hW)))
  have HZR := Lib.hid (fun (W : World) (hW : Below w.heap.size w W) (A : Option Addr) (c : Nat) (h1 : PL.length ≤ c) (h2 : c ≤ maxLen) (hr : Rd W W.heap.size A PL) => (show Calls Tryd.prog 18 #[.slice A PL.length c] W fun e w' => e = .returned (.tuple #[.agg ZX, .bool ZB]) ∧ Below W.heap.size W w' from by
    rw [← hZX, ← hZB]
    exact runpackU_any rfl h1 h2 hps hr))
  have HSM := Lib.hid (fun (W : World) (A B : Option Addr) (c d : Nat) (hr : Rd W W.heap.size A PL) (hs : Rd W W.heap.size B PL) => (show Calls Tryd.prog 13 #[.slice A PL.length c, .slice B PL.length d] W fun e w' => e = .returned (.bool true) ∧ ∃ q, w' = W.drewN q from by
    have h := same_any A B PL.length PL.length c d W.heap.size W.heap.size PL PL W rfl rfl (by unfold maxLen; omega) hr hs
    rwa [decide_eq_true rfl] at h))
  have HWK := Lib.hid (fun (W : World) (hW : Below w.heap.size w W) => wakes14_any (HTAB.out W hW))
  obtain ⟨HX, hHX⟩ : ∃ x, u8A (uebH l) = x := ⟨_, rfl⟩
  have heh := fun (W : World) => (show (Op.equalIn 10000 26 (.agg HX) (.agg HX)).run Tryd.prog W = .ok true W by rw [← hHX]; exact run_hash_same14 W 9998 _ (uebH_len l))
  have HEH := Lib.hid heh
  have HPT := Lib.hid (fun (W : World) (hW : Below w.heap.size w W) => (show Calls Tryd.prog 20 #[.slice A1 n c1] W fun e w' => e = .returned (.agg HX) ∧ Below W.heap.size W w' from by
    rw [← hHX]
    exact pprint14_any hln hnc hm1 hn2 (HR.out W hW) (HTAB.out W hW)))
  have HPT2 := Lib.hid (fun (W : World) (hW : Below w.heap.size w W) => (show Calls Tryd.prog 21 #[.slice A1 n c1] W fun e w' => e = .returned (.agg HX) ∧ Below W.heap.size W w' from by
    rw [← hHX]
    exact rprint14_any hln hnc hm1 hn2 (HR.out W hW)))
  clear heh hHX
  have HPS := Lib.hid hps
  rw [hCX]
  clear hCX hw0 hb0 hl1 hc1 hr1 htab hn hl hln hn2 hPL hps hVX hVB hZX hZB hev hez hguard
  go_enter Tryd.func4, Tryd.ntmps4
  go_upto_region 1 with fail
  obtain ⟨g2, hg2⟩ : ∃ g, w.heap.size = g := ⟨_, rfl⟩
  have hst := HST.out
  have hal := HAL.out
  generalize w.alloc (.cells CX 40) = w1 at *
  have HG := Lib.hid hg2
  rw [hg2] at hst ⊢
  have HU := Lib.hid hst
  have HB := Lib.hid (show Below w.heap.size w w1 from hal)
  clear HST HAL hst hal hg2
  go_upto_region 2 with ((with_reducible refine (HCUT.out _).mono ?_); rintro e w2 ⟨rfl, rfl⟩)
  go_upto_region 3 with (first
    | ((with_reducible refine (HUP.out _ HB.out).mono ?_); rintro e w3 ⟨rfl, hba⟩)
    | (with_reducible refine wpList_store_blkTo rfl 40 (.tmp 5) (.tmp 19) rfl rfl w3.heap.size VX rfl rfl 40 _ (Blk.new _ _ _) (by rw [HSVX.out.1]; kernel_rfl) (by rw [HSVX.out.1]; kernel_rfl) HSVX.out.2 ?_))
  generalize hwn : World.setRow _ _ _ = w4
  have hk := store_new (W := w3) hwn (Below.refl _ _)
  have hkb := Below.then hba hk.2
  obtain ⟨g5, hg5⟩ : ∃ g, w3.heap.size = g := ⟨_, rfl⟩
  rw [hg5] at hk ⊢
  replace HU := Lib.hid (HU.out.below hkb)
  have HK5 := Lib.hid hk.1
  replace HB := Lib.hid (HB.out.trans (hkb.mono HB.out.size))
  clear hwn hk hkb hba hg5
  go_upto_region 4 with (first
    | ((with_reducible refine (HUR.out _ HB.out).mono ?_); rintro e w5 ⟨rfl, hba⟩)
    | (with_reducible refine wpList_store_blkTo rfl 40 (.tmp 7) (.tmp 24) rfl rfl w5.heap.size VX rfl rfl 40 _ (Blk.new _ _ _) (by rw [HSVX.out.1]; kernel_rfl) (by rw [HSVX.out.1]; kernel_rfl) HSVX.out.2 ?_))
  generalize hwn : World.setRow _ _ _ = w6
  have hk := store_new (W := w5) hwn (Below.refl _ _)
  have hkb := Below.then hba hk.2
  obtain ⟨g7, hg7⟩ : ∃ g, w5.heap.size = g := ⟨_, rfl⟩
  rw [hg7] at hk ⊢
  replace HU := Lib.hid (HU.out.below hkb)
  replace HK5 := Lib.hid (HK5.out.below hkb HK5.out.lt)
  have HK7 := Lib.hid hk.1
  replace HB := Lib.hid (HB.out.trans (hkb.mono HB.out.size))
  clear hwn hk hkb hba hg7
  go_upto_region 5 with (first
    | (refine wpList_load_when14 ?_ 40 (.tmp 2) rfl g2 rfl 40 CX _ (by rw [← HCX.out]; exact HU.out.blk) Tryd.underlying40 rfl (by rw [HCXS.out]; kernel_rfl) ?_; · rfl)
    | ((with_reducible refine (HPP.out _ HB.out).mono ?_); rintro e w7 ⟨A9, c9, rfl, hc9, hm9, hr9, hb7⟩))
  replace HU := Lib.hid (HU.out.below hb7)
  replace HK5 := Lib.hid (HK5.out.below hb7 HK5.out.lt)
  replace HK7 := Lib.hid (HK7.out.below hb7 HK7.out.lt)
  replace HB := Lib.hid (HB.out.trans (hb7.mono HB.out.size))
  have HPR := Lib.hid (show BV14 w7 A9 PL.length c9 PL from ⟨rfl, hc9, hm9, hr9⟩)
  clear hb7 hc9 hm9 hr9 HUP HUR HPP HCUT
  go_upto_region 6 with (first
    | ((with_reducible refine (HZP.out _ HB.out _ _ HPR.out.room HPR.out.rd).mono ?_); rintro e w8 ⟨rfl, hba⟩)
    | (with_reducible refine wpList_store_blkTo rfl 40 (.tmp 10) (.tmp 31) rfl rfl w8.heap.size ZX rfl rfl 40 _ (Blk.new _ _ _) (by rw [HSZX.out.1]; kernel_rfl) (by rw [HSZX.out.1]; kernel_rfl) HSZX.out.2 ?_))
  generalize hwn : World.setRow _ _ _ = w9
  have hk := store_new (W := w8) hwn (Below.refl _ _)
  have hkb := Below.then hba hk.2
  obtain ⟨g10, hg10⟩ : ∃ g, w8.heap.size = g := ⟨_, rfl⟩
  rw [hg10] at hk ⊢
  replace HU := Lib.hid (HU.out.below hkb)
  replace HK5 := Lib.hid (HK5.out.below hkb HK5.out.lt)
  replace HK7 := Lib.hid (HK7.out.below hkb HK7.out.lt)
  replace HPR := Lib.hid (HPR.out.on hkb)
  have HK10 := Lib.hid hk.1
  replace HB := Lib.hid (HB.out.trans (hkb.mono HB.out.size))
  clear hwn hk hkb hba hg10
  go_upto_region 7 with (first
    | ((with_reducible refine (HZR.out _ HB.out _ _ HPR.out.room HPR.out.max HPR.out.rd).mono ?_); rintro e wa ⟨rfl, hba⟩)
    | (with_reducible refine wpList_store_blkTo rfl 40 (.tmp 12) (.tmp 36) rfl rfl wa.heap.size ZX rfl rfl 40 _ (Blk.new _ _ _) (by rw [HSZX.out.1]; kernel_rfl) (by rw [HSZX.out.1]; kernel_rfl) HSZX.out.2 ?_))
  generalize hwn : World.setRow _ _ _ = wb
  have hk := store_new (W := wa) hwn (Below.refl _ _)
  have hkb := Below.then hba hk.2
  obtain ⟨g12, hg12⟩ : ∃ g, wa.heap.size = g := ⟨_, rfl⟩
  rw [hg12] at hk ⊢
  replace HU := Lib.hid (HU.out.below hkb)
  replace HK5 := Lib.hid (HK5.out.below hkb HK5.out.lt)
  replace HK7 := Lib.hid (HK7.out.below hkb HK7.out.lt)
  replace HPR := Lib.hid (HPR.out.on hkb)
  replace HK10 := Lib.hid (HK10.out.below hkb HK10.out.lt)
  have HK12 := Lib.hid hk.1
  replace HB := Lib.hid (HB.out.trans (hkb.mono HB.out.size))
  clear hwn hk hkb hba hg12
  have e1 : (VB == VB) = true := beq_self_eq_true _
  have e2 : (ZB == ZB) = true := beq_self_eq_true _
  obtain ⟨hev, hez, hguard⟩ := HE.out
  have heh := HEH.out
  go_wp2_with (first
    | (refine wpList_load_when14 ?_ 40 (.tmp 2) rfl g2 rfl 40 CX _ (by rw [← HCX.out]; exact HU.out.blk) Tryd.underlying40 rfl (by rw [HCXS.out]; kernel_rfl) ?_; · rfl)
    | ((with_reducible refine (HPQ.out _).mono ?_); rintro e wc ⟨Aq, cq, rfl, hcq, hrq, hbq⟩; replace HK5 := Lib.hid (HK5.out.below hbq HK5.out.lt); replace HK7 := Lib.hid (HK7.out.below hbq HK7.out.lt); replace HK10 := Lib.hid (HK10.out.below hbq HK10.out.lt); replace HK12 := Lib.hid (HK12.out.below hbq HK12.out.lt); replace HB := Lib.hid (HB.out.trans (hbq.mono HB.out.size)); replace HPR := Lib.hid (HPR.out.on hbq); have HRQ := Lib.hid hrq; clear hbq hrq hcq)
    | ((with_reducible refine (HSM.out _ _ _ _ _ HPR.out.rd HRQ.out).mono ?_); rintro e wd ⟨rfl, q, rfl⟩; have hdr := below_drewN (Below.refl wc.heap.size wc) q; replace HK5 := Lib.hid (HK5.out.below hdr HK5.out.lt); replace HK7 := Lib.hid (HK7.out.below hdr HK7.out.lt); replace HK10 := Lib.hid (HK10.out.below hdr HK10.out.lt); replace HK12 := Lib.hid (HK12.out.below hdr HK12.out.lt); replace HB := Lib.hid (HB.out.trans (hdr.mono HB.out.size)); clear hdr; generalize wc.drewN q = we at *)
    | (refine wpList_load_when14 ?_ 40 (.tmp 5) rfl g5 rfl 40 VX _ HK5.out Tryd.underlying40 rfl (by rw [HSVX.out.1]; kernel_rfl) ?_; · rfl)
    | (refine wpList_load_when14 ?_ 40 (.tmp 7) rfl g7 rfl 40 VX _ HK7.out Tryd.underlying40 rfl (by rw [HSVX.out.1]; kernel_rfl) ?_; · rfl)
    | (refine wpList_load_when14 ?_ 40 (.tmp 10) rfl g10 rfl 40 ZX _ HK10.out Tryd.underlying40 rfl (by rw [HSZX.out.1]; kernel_rfl) ?_; · rfl)
    | (refine wpList_load_when14 ?_ 40 (.tmp 12) rfl g12 rfl 40 ZX _ HK12.out Tryd.underlying40 rfl (by rw [HSZX.out.1]; kernel_rfl) ?_; · rfl)
    | ((with_reducible refine (HPT.out _ HB.out).mono ?_); rintro e wx ⟨rfl, hbx⟩; replace HB := Lib.hid (HB.out.trans (hbx.mono HB.out.size)); clear hbx)
    | ((with_reducible refine (HPT2.out _ HB.out).mono ?_); rintro e wy ⟨rfl, hby⟩; replace HB := Lib.hid (HB.out.trans (hby.mono HB.out.size)); clear hby)
    | ((with_reducible refine (HWK.out _ HB.out).mono ?_); rintro e wz ⟨rfl, hbz⟩; have HFIN := Lib.hid (HB.out.trans (hbz.mono HB.out.size)); clear hbz))
  go_ret
  exact ⟨rfl, HFIN.out⟩

set_option maxRecDepth 100000 in
theorem contract (H : Type) (enc : TypeId × Value → H) (W : World) (base : Nat) (args : Array Value) (ds gs : List (DataW H)) (before : List MemPlace)
    (hval : ∀ (j : Nat) t v, Tryd.f4.params[j]? = some t → args[j]? = some v → Value.okWide Tryd.prog W .any base t v)
    (hW : DataW.Whole enc Tryd.prog Tryd.f4.params.toList Rows.layoutUebsSpec.vars false W args.toList ds gs before) (hL : laidMetH Tryd.prog Rows.layoutUebsRow.laid W) :
    Calls Tryd.prog 4 args W fun e W' => ∃ v, e = .returned v ∧ Rows.layoutUebsSpec.post enc Tryd.prog Tryd.f4 false true false false W args v W' := by
  have hW' := hW
  obtain ⟨p, q, hA0, hV, rfl, hfz, hnd⟩ := hW
  have hA : DataW.TrodAll enc Tryd.prog W 0 (fun _ => true) true Tryd.f4.params.toList args.toList ds p := hA0
  rw [Tryd.params4] at hA hval
  obtain ⟨v0, v1, d0, d1, p0, p1, rfl, rfl, rfl, h0, h1⟩ := trodAll_two hA
  obtain ⟨rfl, rfl⟩ := trodVars_none hV
  obtain ⟨u0, rfl, hw0, hb0⟩ := open_ueb (hval 0 40 v0 rfl rfl) h0
  obtain ⟨A1, m1, c1, l1, rfl, hl1, hc1, hm1, hr1⟩ := open_bytes (hval 1 24 v1 rfl rfl) h1
  clear hA0
  refine (walk u0 A1 m1 c1 l1 W hw0 hb0 hl1 hc1 hm1 hr1 (pow10 hL)).mono fun e W' ⟨he, hb⟩ => ?_
  exact ⟨_, he, law_post hW' rfl (by kernel_rfl) rfl (by kernel_rfl) hb⟩

theorem laid_met (os : Os) : laidMet Tryd.prog Rows.layoutUebsRow.laid ((laidWorld os).forCall (fun _ _ => 0) ⟨#[], #[.agg (f14A (zero14 32)), .slice none 0 0], []⟩).memory :=
  laidMet_of_run' 8 (by kernel_rfl) (by kernel_rfl)
theorem reads (os : Os) {H : Type} (enc : TypeId × Value → H) : ∃ places, DataW.whole enc Tryd.prog ((laidWorld os).forCall (fun _ _ => 0) ⟨#[], #[.agg (f14A (zero14 32)), .slice none 0 0], []⟩).memory Tryd.f4.params.toList Rows.layoutUebsSpec.vars false #[Value.agg (f14A (zero14 32)), Value.slice none 0 0].toList 8 = some ([.agg [.lit (.int .i64 0), .lit (.int .i64 0), .lit (.int .i64 0), .lit (.int .i64 0), .agg [.lit (.int .u8 0), .lit (.int .u8 0), .lit (.int .u8 0), .lit (.int .u8 0), .lit (.int .u8 0), .lit (.int .u8 0), .lit (.int .u8 0), .lit (.int .u8 0), .lit (.int .u8 0), .lit (.int .u8 0), .lit (.int .u8 0), .lit (.int .u8 0), .lit (.int .u8 0), .lit (.int .u8 0), .lit (.int .u8 0), .lit (.int .u8 0), .lit (.int .u8 0), .lit (.int .u8 0), .lit (.int .u8 0), .lit (.int .u8 0), .lit (.int .u8 0), .lit (.int .u8 0), .lit (.int .u8 0), .lit (.int .u8 0), .lit (.int .u8 0), .lit (.int .u8 0), .lit (.int .u8 0), .lit (.int .u8 0), .lit (.int .u8 0), .lit (.int .u8 0), .lit (.int .u8 0), .lit (.int .u8 0)], .agg [.lit (.int .u8 0), .lit (.int .u8 0), .lit (.int .u8 0), .lit (.int .u8 0), .lit (.int .u8 0), .lit (.int .u8 0), .lit (.int .u8 0), .lit (.int .u8 0), .lit (.int .u8 0), .lit (.int .u8 0), .lit (.int .u8 0), .lit (.int .u8 0), .lit (.int .u8 0), .lit (.int .u8 0), .lit (.int .u8 0), .lit (.int .u8 0), .lit (.int .u8 0), .lit (.int .u8 0), .lit (.int .u8 0), .lit (.int .u8 0), .lit (.int .u8 0), .lit (.int .u8 0), .lit (.int .u8 0), .lit (.int .u8 0), .lit (.int .u8 0), .lit (.int .u8 0), .lit (.int .u8 0), .lit (.int .u8 0), .lit (.int .u8 0), .lit (.int .u8 0), .lit (.int .u8 0), .lit (.int .u8 0)]], .nil], [], places) :=
  ⟨[], by kernel_rfl⟩

set_option maxRecDepth 100000 in
theorem lifted (os : Os) (started : os.Started) (H : Type) (enc : TypeId × Value → H) (F : Stop.Interp) :
    ReturnsInHanded {} Tryd.checked os 4 .any ((OpenSpec.ofChange Rows.layoutUebsSpec).preRow enc Tryd.prog Tryd.f4 Rows.layoutUebsRow.domain false Rows.layoutUebsRow.laid) (((OpenSpec.ofChange Rows.layoutUebsSpec).at F).post enc Tryd.prog Tryd.f4 false true false false) := by
  obtain ⟨places, hx⟩ := reads os enc
  refine returnsInHanded_of_row (C := Tryd.checked) (s := OpenSpec.ofChange Rows.layoutUebsSpec) own started (by kernel_rfl) Tryd.func4
    (witness_row_at (enc := enc) (C := Tryd.checked) false (laidWorld os) #[.agg (f14A (zero14 32)), .slice none 0 0] rfl (by kernel_rfl) (by kernel_rfl) (by kernel_rfl)
      (OpenSpec.preRow_of_cond 8 hx (by kernel_rfl) (fun k hk => by cases hk) (by kernel_rfl) (laid_met os))) ?_
  intro W base args ds gs before hval hW _ _ _ hL _ _
  exact contract H enc W base args ds gs before hval hW hL

theorem said : Rows.LayoutUebsSaid :=
  OpenClaim.holds_of_cond 4 Tryd.f4 rfl rfl rfl rfl rfl rfl rfl ⟨rfl, rfl, rfl, rfl, rfl⟩ rfl rfl rfl rfl rfl (by kernel_rfl) Tryd.func4 (by kernel_rfl)
    (of_decide_eq_true (by kernel_rfl)) (by unfold Func.isWrapper; first | (rw [if_pos (by decide +kernel)]; kernel_rfl) | (rw [if_neg (by decide +kernel)]; exact ⟨rfl, rfl⟩))
    (fun os started H enc _ F => by rw [OpenClaim.pre_eq_preRow]; exact lifted os started H enc F)

theorem plain (f : FuncId) (fn : Func) (hf : Tryd.pinned.checked.prog.funcNamed "aumbry/aumbrylaw14.LayoutUebs" = some f) (hfn : Tryd.pinned.checked.prog.funcs[f]? = some fn) :
    false = Tryd.pinned.checked.prog.looks [] ∧ ∀ (j : Nat) t, fn.params[j]? = some t → Tryd.pinned.checked.prog.wantsStandIn t = false := by
  obtain rfl : f = 4 := Option.some.inj ((show Tryd.prog.funcNamed "aumbry/aumbrylaw14.LayoutUebs" = some 4 by kernel_rfl).symm.trans hf) |>.symm
  obtain rfl : fn = Tryd.f4 := (Option.some.inj (Tryd.func4.symm.trans hfn)).symm
  refine ⟨by kernel_rfl, fun j t ht => ?_⟩
  exact wants_none (by kernel_rfl) (Array.mem_of_getElem? ht)

/-- The card: the statement holds, its listed tables tied to the program's text. -/
theorem card : Rows.LayoutUebsCardSaid :=
  Claim7.holds_tied_plain_at .later [] _ _ _ _ said (fun _ h => by cases h) (by kernel_rfl) (fun _ h => by cases h) layoutUebs_row_tie rfl ⟨rfl, rfl⟩ (by kernel_rfl) rfl plain (by kernel_rfl)
end Go.Proofs.YtobealijkbnojaaDoor.layoutUebs
