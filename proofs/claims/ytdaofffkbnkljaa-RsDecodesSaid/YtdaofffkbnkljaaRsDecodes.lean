/- RsDecodes: the pieces of any blobs, or that they may not be. For all blobs and numbers. -/
import Derived.Test.YtdaofffkbnkljaaLaw
import Derived.Test.YtdaofffkbnkljaaOpen
import Derived.Test.YtdaofffkbnkljaaWakes6
import Derived.Test.YtdaofffkbnkljaaCutB6
import Derived.Test.YtdaofffkbnkljaaOpenBl
import Derived.Deep.RegionHeld3
namespace Go.Proofs.Ytdaofffkbnkljaa.rsDecodes
open Go.ChangeShapes Go.WideShapes Go.ChangeAt Go.RowKit

set_option maxRecDepth 100000 in
set_option maxHeartbeats 16000000 in
theorem walk (A : Option Addr) (m c : Nat) (bs : List (Int × List UInt8)) (k0 n0 : Int) (w : World) (hl : bs.length = m) (hr : RdBl w w.heap.size A bs) (hk0 : -9223372036854775808 ≤ k0) (hk1 : k0 ≤ 9223372036854775807) (hn0 : -9223372036854775808 ≤ n0) (hn1 : n0 ≤ 9223372036854775807) :
    Calls Try.prog 7 #[.slice A m c, .int .i64 k0, .int .i64 n0] w fun e w' => e = .returned (.bool true) ∧ Below w.heap.size w w' := by
  obtain ⟨i1, hi, hz0, hz1, hz2⟩ := info_parts infoBlob
  have HL := Lib.hid hl
  have HR := Lib.hid hr
  clear hl hr
  have HWN := Lib.hid (show ∀ W, Calls Try.prog 12 #[.int .i64 n0, .int .i64 6] W fun e w' => e = .returned (.int .i64 (withinI n0 6)) ∧ W = w' from fun W => within_any n0 6 W hn0 hn1 (by omega))
  obtain ⟨q1, q2⟩ := withinI_range n0 6 (by omega)
  obtain ⟨M, hM⟩ : ∃ M : Nat, withinI n0 6 = (M : Int) := ⟨(withinI n0 6).toNat, by omega⟩
  rw [hM] at HWN
  obtain ⟨N, hN⟩ : ∃ N : Nat, 1 + M = N := ⟨_, rfl⟩
  have hNi : (1 : Int) + (M : Int) = (N : Int) := by omega
  have hN16 : N ≤ 6 := by omega
  have hN1 : 1 ≤ N := by omega
  have HWK := Lib.hid (fun W => within_any k0 (N : Int) W hk0 hk1 (by omega))
  obtain ⟨q3, q4⟩ := withinI_range k0 (N : Int) (by omega)
  obtain ⟨J, hJ⟩ : ∃ J : Nat, withinI k0 (N : Int) = (J : Int) := ⟨(withinI k0 (N : Int)).toNat, by omega⟩
  rw [hJ] at HWK
  obtain ⟨K, hK⟩ : ∃ K : Nat, 1 + J = K := ⟨_, rfl⟩
  have hKi : (1 : Int) + (J : Int) = (K : Int) := by omega
  have hK1 : 1 ≤ K := by omega
  have hKN : K ≤ N := by omega
  obtain ⟨G, hG⟩ := gen_is (k := K) (by omega)
  have HG := Lib.hid hG
  have HNEW := Lib.hid (fun W => cnew_yes K N W hK1 hKN (by omega))
  clear hG hM hN hJ hK q1 q2 q3 q4 hn0 hn1 hk0 hk1
  obtain ⟨T, hT⟩ : ∃ T, min m 7 = T := ⟨_, rfl⟩
  have hTm : T ≤ m := by omega
  have hT7 : T ≤ 7 := by omega
  have HT := Lib.hid hT
  have HTL := Lib.hid (fun j (hj : j ≤ T) => cutB_len bs 20 (j := j) (by have := HL.out; omega))
  clear hT
  go_enter Try.func7, Try.ntmps7
  go_wp2_with fail
  with_reducible refine (HWN.out _).mono ?_
  rintro e wx ⟨rfl, rfl⟩
  go_wp2_with fail
  with_reducible refine (HWK.out _).mono ?_
  rintro e wx ⟨rfl, rfl⟩
  go_wp2_with fail
  clear HWN HWK
  go_loopw [7, 8] (fun v t wq => ∃ j : Nat, j ≤ T ∧ t = .int .i64 j ∧ Hid (OwnBl wq w.heap.size w.heap.size v (cutB bs 20 j)) ∧ Below w.heap.size w wq) (fun _ t _ => T - (intOf t).toNat)
  case atStart => exact ⟨0, Nat.zero_le _, rfl, Lib.hid (by have := OwnBl.nil w w.heap.size w.heap.size; simpa [cutB] using this), Below.refl _ _⟩
  case round =>
    obtain ⟨j, hjT, rfl, HO, hbel⟩ := hrel
    by_cases hlt : j < T
    · have hjm : (j : Int) < (m : Int) := by omega
      have hj7 : (j : Int) < 7 := by omega
      have hle := hbel.size
      have HSJ := Lib.hid (cutB_succ bs 20 (j := j) (by have := HL.out; omega))
      obtain ⟨bb, oo, rfl⟩ := HR.out.some (by have := HL.out; omega)
      obtain ⟨hbs, hc1, A1, c1, hc2, hlc, hcm, hrd⟩ := HR.out.at_ (i := j) (by have := HL.out; omega)
      obtain ⟨q, hq⟩ : ∃ q, nuI bs j = q := ⟨_, rfl⟩
      obtain ⟨row, hrow⟩ : ∃ row, daB bs j = row := ⟨_, rfl⟩
      rw [hq] at hc1 HSJ
      rw [hrow] at hc2 hlc hrd HSJ
      obtain ⟨rl, hrl⟩ : ∃ rl, row.length = rl := ⟨_, rfl⟩
      rw [hrl] at hc2 hlc
      have HRL := Lib.hid (show (row.take 20).length = min rl 20 by rw [List.length_take, hrl, Nat.min_comm])
      have hlc2 : min rl 20 ≤ c1 := by omega
      have HCUT := Lib.hid (show ∀ W, Calls Try.prog 11 #[.slice A1 rl c1, .int .i64 20] W fun e w' => e = .returned (.slice A1 (min rl 20) c1) ∧ W = w' from fun W => cut_any A1 rl c1 20 W hlc)
      have HKEEP := Lib.hid (fun W (h : Below w.heap.size w W) => (⟨(h.cell (p := ⟨bb, oo + j * 2, none⟩) hbs).trans hc1, (h.cell (p := ⟨bb, oo + j * 2 + 1, none⟩) hbs).trans hc2, h⟩ : W.cell? ⟨bb, oo + j * 2, none⟩ = some (.int .i64 q) ∧ W.cell? ⟨bb, oo + j * 2 + 1, none⟩ = some (.slice A1 rl c1) ∧ Below w.heap.size w W))
      have HRD := Lib.hid ((hrd.below hbel (Nat.le_refl _)).take 20)
      have HAPP := Lib.hid (fun W (h : Below wr.heap.size wr W) => (⟨HO.out.on hle h, HRD.out.below h hle, Nat.le_trans hle h.size, hbel.trans (h.mono hle)⟩ : OwnBl W w.heap.size w.heap.size u7 (cutB bs 20 j) ∧ Rd W w.heap.size A1 (row.take 20) ∧ w.heap.size ≤ W.heap.size ∧ Below w.heap.size w W))
      obtain ⟨hk1, hk2, _⟩ := HKEEP.out wr hbel
      have hlj := HTL.out j hjT
      have HBS := Lib.hid (show (cutB bs 20 j).length ≤ 1000000 by omega)
      clear hc1 hc2 hrd hq hrow hrl hlj
      obtain ⟨wo, rfl⟩ : ∃ y : World, y = wr := ⟨_, rfl⟩
      have hs0 : w.heap.size ≤ wo.heap.size := hle
      go_wp2_with fail
      go_region_held3 (fun W => W.cell? ⟨bb, oo + j * 2, none⟩ = some (.int .i64 q) ∧ W.cell? ⟨bb, oo + j * 2 + 1, none⟩ = some (.slice A1 rl c1) ∧ Below w.heap.size w W)
        ((first | exact HKEEP.out _ ‹_› | exact HKEEP.out _ (Below.drew ‹_›) | exact HKEEP.out _ (below_drewN ‹_› _) | exact HKEEP.out _ (Below.alloc (by assumption) (by assumption) _) | exact HKEEP.out _ (Below.alloc (by assumption) (by assumption) _).drew | exact HKEEP.out _ (Below.alloc (Below.drew (by assumption)) (by assumption) _)))
        ((first
          | (go_at_call 11; refine (HCUT.out _).mono ?_; rintro e W ⟨rfl, rfl⟩)
          | (refine step_append_blob rfl _ _ 31 rfl w.heap.size i1 Try.underlying31 hi hz0 hz1 hz2 _ w.heap.size (cutB bs 20 j) rfl q A1 (min rl 20) c1 (row.take 20) (HAPP.out _ (by first | exact ((Below.refl _ _).alloc (Nat.le_refl _) _).drew | exact (Below.refl _ _).alloc (Nat.le_refl _) _)).1 _ (heap_alloc_new _ _) rfl HRL.out hlc2 hcm (HAPP.out _ (by first | exact ((Below.refl _ _).alloc (Nat.le_refl _) _).drew | exact (Below.refl _ _).alloc (Nat.le_refl _) _)).2.1 HBS.out (HAPP.out _ (by first | exact ((Below.refl _ _).alloc (Nat.le_refl _) _).drew | exact (Below.refl _ _).alloc (Nat.le_refl _) _)).2.2.1 (Nat.le_refl _) ?_
             intro v7 w7 hown7 hb7
             have hq7 : Below w.heap.size w w7 := (HAPP.out _ (by first | exact ((Below.refl _ _).alloc (Nat.le_refl _) _).drew | exact (Below.refl _ _).alloc (Nat.le_refl _) _)).2.2.2.trans hb7)))
      have HO7 := Lib.hid (show OwnBl w7 w.heap.size w.heap.size v7 (cutB bs 20 (j + 1)) by rw [HSJ.out]; exact hown7)
      clear hown7 hb7 HO hbel HRD HKEEP HAPP hk1 hk2
      go_wp2_with fail
      go_roundw
      case rel => exact ⟨j + 1, by omega, by go_num, HO7, hq7⟩
      case measure => simp [intOf]; omega
    · obtain rfl : T = j := by omega
      have hle := hbel.size
      obtain ⟨AL, cL, rfl, hcL, _⟩ := HO.out.form (HTL.out T (Nat.le_refl _))
      have LL1 := Lib.hid (HO.out.blv hle)
      have HB1 := Lib.hid hbel
      have HSB := Lib.hid (cutB_small bs 20 T)
      clear HO hbel hlt HR
      by_cases h7 : m ≤ 7
      · have hTm2 : ¬ (T : Int) < (m : Int) := by have := HT.out; omega
        clear h7
        go_wp2_with fail
        with_reducible refine (HNEW.out wr).mono ?_
        rintro e w2 ⟨g, rfl, hcd, hb⟩
        have LL2 := Lib.hid (LL1.out.on hb)
        have LC2 := Lib.hid hcd
        have HB2 := Lib.hid (HB1.out.trans (hb.mono HB1.out.size))
        clear hb LL1 hcd HB1
        go_wp2_with fail
        with_reducible refine (cdec_any HG.out LC2.out LL2.out (fun i h => Nat.le_trans (HSB.out i h) (by omega))).mono ?_
        rintro e w3 ⟨xv, er, out, rfl, hde, hx, hb⟩
        have LL3 := Lib.hid (LL2.out.on hb)
        have LC3 := Lib.hid (LC2.out.on hb)
        have LX3 := Lib.hid hx
        have HB3 := Lib.hid (HB2.out.trans (hb.mono HB2.out.size))
        have HDE := Lib.hid hde
        clear hde
        clear hb LL2 LC2 hx HB2
        go_wp2_with fail
        clear LC3
        with_reducible refine (mrsdec HG.out hK1 hKN (by omega) LL3.out (fun i h => Nat.le_trans (HSB.out i h) (by omega))).mono ?_
        rintro e w4 ⟨yv, ok, out2, rfl, hdr, hy, hb⟩
        have LL4 := Lib.hid (LL3.out.on hb)
        have LX4 := Lib.hid (LX3.out.on hb)
        have LY4 := Lib.hid hy
        have HB4 := Lib.hid (HB3.out.trans (hb.mono HB3.out.size))
        have HDS := Lib.hid (Nat.le_trans (decP_small (s := 20) (by omega) HSB.out HDE.out) (show 16 * 20 ≤ 100000 by omega))
        have hlike := dec_like HDE.out hdr
        clear HDE hdr
        clear hb LL3 LX3 hy HB3
        clear LL4
        rcases hlike with ⟨rfl, rfl, rfl⟩ | ⟨rfl, rfl, rfl⟩
        · obtain ⟨X, cX, rfl, _⟩ := (LX4.out).form (n := 0) rfl
          clear LX4
          clear LY4
          go_wp2_with fail
          with_reducible refine (wakes6_any _).mono ?_
          rintro e w5 ⟨rfl, hb⟩
          have HB5 := Lib.hid (HB4.out.trans (hb.mono HB4.out.size))
          clear hb HB4
          go_wp2_with fail
          go_ret
          exact ⟨rfl, HB5.out⟩
        · go_wp2_with fail
          with_reducible refine (bveq_yes LX4.out LY4.out HDS.out).mono ?_
          rintro e w5 ⟨rfl, hb⟩
          have LX5 := Lib.hid (LX4.out.on hb)
          have LY5 := Lib.hid (LY4.out.on hb)
          have HB5 := Lib.hid (HB4.out.trans (hb.mono HB4.out.size))
          clear hb LX4 LY4 HB4
          go_wp2_with fail
          clear LX5
          clear LY5
          with_reducible refine (wakes6_any _).mono ?_
          rintro e w6 ⟨rfl, hb⟩
          have HB6 := Lib.hid (HB5.out.trans (hb.mono HB5.out.size))
          clear hb HB5
          go_wp2_with fail
          go_ret
          exact ⟨rfl, HB6.out⟩
      · have hTm2 : (T : Int) < (m : Int) := by have := HT.out; omega
        have hT8 : ¬ (T : Int) < 7 := by have := HT.out; omega
        clear h7
        go_wp2_with fail
        with_reducible refine (HNEW.out wr).mono ?_
        rintro e w2 ⟨g, rfl, hcd, hb⟩
        have LL2 := Lib.hid (LL1.out.on hb)
        have LC2 := Lib.hid hcd
        have HB2 := Lib.hid (HB1.out.trans (hb.mono HB1.out.size))
        clear hb LL1 hcd HB1
        go_wp2_with fail
        with_reducible refine (cdec_any HG.out LC2.out LL2.out (fun i h => Nat.le_trans (HSB.out i h) (by omega))).mono ?_
        rintro e w3 ⟨xv, er, out, rfl, hde, hx, hb⟩
        have LL3 := Lib.hid (LL2.out.on hb)
        have LC3 := Lib.hid (LC2.out.on hb)
        have LX3 := Lib.hid hx
        have HB3 := Lib.hid (HB2.out.trans (hb.mono HB2.out.size))
        have HDE := Lib.hid hde
        clear hde
        clear hb LL2 LC2 hx HB2
        go_wp2_with fail
        clear LC3
        with_reducible refine (mrsdec HG.out hK1 hKN (by omega) LL3.out (fun i h => Nat.le_trans (HSB.out i h) (by omega))).mono ?_
        rintro e w4 ⟨yv, ok, out2, rfl, hdr, hy, hb⟩
        have LL4 := Lib.hid (LL3.out.on hb)
        have LX4 := Lib.hid (LX3.out.on hb)
        have LY4 := Lib.hid hy
        have HB4 := Lib.hid (HB3.out.trans (hb.mono HB3.out.size))
        have HDS := Lib.hid (Nat.le_trans (decP_small (s := 20) (by omega) HSB.out HDE.out) (show 16 * 20 ≤ 100000 by omega))
        have hlike := dec_like HDE.out hdr
        clear HDE hdr
        clear hb LL3 LX3 hy HB3
        clear LL4
        rcases hlike with ⟨rfl, rfl, rfl⟩ | ⟨rfl, rfl, rfl⟩
        · obtain ⟨X, cX, rfl, _⟩ := (LX4.out).form (n := 0) rfl
          clear LX4
          clear LY4
          go_wp2_with fail
          with_reducible refine (wakes6_any _).mono ?_
          rintro e w5 ⟨rfl, hb⟩
          have HB5 := Lib.hid (HB4.out.trans (hb.mono HB4.out.size))
          clear hb HB4
          go_wp2_with fail
          go_ret
          exact ⟨rfl, HB5.out⟩
        · go_wp2_with fail
          with_reducible refine (bveq_yes LX4.out LY4.out HDS.out).mono ?_
          rintro e w5 ⟨rfl, hb⟩
          have LX5 := Lib.hid (LX4.out.on hb)
          have LY5 := Lib.hid (LY4.out.on hb)
          have HB5 := Lib.hid (HB4.out.trans (hb.mono HB4.out.size))
          clear hb LX4 LY4 HB4
          go_wp2_with fail
          clear LX5
          clear LY5
          with_reducible refine (wakes6_any _).mono ?_
          rintro e w6 ⟨rfl, hb⟩
          have HB6 := Lib.hid (HB5.out.trans (hb.mono HB5.out.size))
          clear hb HB5
          go_wp2_with fail
          go_ret
          exact ⟨rfl, HB6.out⟩

set_option maxRecDepth 100000 in
theorem contract (H : Type) (enc : TypeId × Value → H) (W : World) (base : Nat) (args : Array Value) (ds gs : List (DataW H)) (before : List MemPlace)
    (hval : ∀ (j : Nat) t v, Try.f7.params[j]? = some t → args[j]? = some v → Value.okWide Try.prog W .any base t v)
    (hW : DataW.Whole enc Try.prog Try.f7.params.toList Rows.rsDecodesSpec.vars false W args.toList ds gs before) :
    Calls Try.prog 7 args W fun e W' => ∃ v, e = .returned v ∧ Rows.rsDecodesSpec.post enc Try.prog Try.f7 false true false false W args v W' := by
  have hW' := hW
  obtain ⟨p, q, hA0, hV, rfl, hfz, hnd⟩ := hW
  have hA : DataW.TrodAll enc Try.prog W 0 (fun _ => true) true Try.f7.params.toList args.toList ds p := hA0
  rw [Try.params7] at hA hval
  obtain ⟨v0, v1, v2, d0, d1, d2, p0, p1, p2, rfl, rfl, rfl, h0, h1, h2⟩ := trodAll_three hA
  obtain ⟨rfl, rfl⟩ := trodVars_none hV
  obtain ⟨A0, m0, c0, l0, rfl, hl0, hc0, hm0, hr0⟩ := open_blobs (hval 0 31 v0 rfl rfl) h0
  obtain ⟨n1, rfl, rfl, rfl, wf1⟩ := open_int Try.underlying3 (hval 1 3 v1 rfl rfl) h1
  have b1 := bounds_i64 wf1
  obtain ⟨n2, rfl, rfl, rfl, wf2⟩ := open_int Try.underlying3 (hval 2 3 v2 rfl rfl) h2
  have b2 := bounds_i64 wf2
  clear hA0
  refine (walk A0 m0 c0 l0 n1 n2 W hl0 hr0 b1.1 b1.2 b2.1 b2.2).mono fun e W' ⟨he, hb⟩ => ?_
  exact ⟨_, he, law_post hW' rfl (by kernel_rfl) rfl (by kernel_rfl) hb⟩

set_option maxRecDepth 100000 in
theorem lifted (os : Os) (started : os.Started) (H : Type) (enc : TypeId × Value → H) :
    ReturnsInHanded {} Try.checked os 7 .any (Rows.rsDecodesSpec.pre6 enc Try.prog Try.f7 Rows.rsDecodesRow.domain false) (Rows.rsDecodesSpec.post enc Try.prog Try.f7 false true false false) := by
  refine returnsInHanded_of_change (C := Try.checked) own started (by kernel_rfl) Try.func7
    (ChangeSpec.witness6 (enc := enc) (C := Try.checked) false ⟨#[], #[.slice none 0 0, .int .i64 0, .int .i64 0], []⟩ 8 (by kernel_rfl) (by kernel_rfl) (by kernel_rfl) (by kernel_rfl)) ?_
  intro W base args ds gs before hval0 hW _ _
  have hval : ∀ (j : Nat) t v, Try.f7.params[j]? = some t → args[j]? = some v → Value.okWide Try.prog W .any base t v := hval0
  exact contract H enc W base args ds gs before hval hW

/-- The statement. -/
theorem card : Rows.RsDecodesSaid :=
  OpenClaim.holds_of_wide 7 Try.f7 rfl rfl rfl rfl rfl rfl rfl ⟨rfl, rfl, rfl, rfl, rfl⟩ rfl rfl rfl rfl rfl (by kernel_rfl) Try.func7 (by kernel_rfl)
    (of_decide_eq_true (by kernel_rfl)) (by unfold Func.isWrapper; first | (rw [if_pos (by decide +kernel)]; kernel_rfl) | (rw [if_neg (by decide +kernel)]; exact ⟨rfl, rfl⟩))
    (fun os started H enc _ => lifted os started H enc)
end Go.Proofs.Ytdaofffkbnkljaa.rsDecodes
