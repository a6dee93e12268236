/- The document's block of AES. -/
import Derived.Test.YtcajlmlblkdjoaaRExpand
import Derived.Test.YtcajlmlblkdjoaaAesB
import Derived.IntWalk
import Derived.Test.YtcajlmlblkdjoaaRMix
namespace Go.Proofs.Ytcajlmlblkdjoaa
open Go.RowKit

theorem zero16 (w : World) : (zeroValue 22).run Try.prog w = .ok (.agg (u8A (List.replicate 16 0))) w := by kernel_rfl

set_option maxRecDepth 100000 in
set_option maxHeartbeats 8000000 in
theorem rblock_any (sb kb : Nat) (ks x : List UInt8) (w : World) (hx : x.length = 16) (hks : ks.length = 176) (hs : Blk w sb (u8A boxL) 42) (hk : Blk w kb (u8A ks) 30) :
    Calls Try.prog 29 #[.pointer (some ⟨sb, 0, none⟩), .pointer (some ⟨kb, 0, none⟩), .agg (u8A x)] w fun e w' => e = .returned (.agg (u8A (blockL ks x))) ∧ Below w.heap.size w w' := by
  have hz := fun W => zero16 W
  obtain ⟨Z, hZ⟩ : ∃ Z, u8A (List.replicate 16 0) = Z := ⟨_, rfl⟩
  rw [hZ] at hz
  have hzz : Z.size = 16 := by rw [← hZ, u8A_size]; exact List.length_replicate ..
  have HX := Lib.hid hx
  have HKS := Lib.hid hks
  have HS := Lib.hid hs
  have HK := Lib.hid hk
  have hxz : (u8A x).size = 16 := by rw [u8A_size, hx]
  have hxo := u8A_one x
  obtain ⟨xA, hxe⟩ : ∃ K, u8A x = K := ⟨_, rfl⟩
  rw [hxe] at hxz hxo ⊢
  have HZ := Lib.hid hZ
  have HZZ := Lib.hid hzz
  have HXE := Lib.hid hxe
  have HXZ := Lib.hid hxz
  have HXO := Lib.hid hxo
  have hb3 : Blk (((w.alloc (.cells xA 22)).alloc (.cells Z 22)).alloc (.cells Z 22)) (w.heap.size + 1 + 1) Z 22 := by
    have := Blk.new ((w.alloc (.cells xA 22)).alloc (.cells Z 22)) Z 22
    simp only [World.size_alloc] at this
    exact this
  have HB3 := Lib.hid hb3
  clear hx hks hs hk hxz hxo hxe hZ hzz hb3
  go_enter Try.func29, Try.ntmps29
  go_wp2_with (first
    | (with_reducible refine wpList_load_blk rfl 22 (.tmp 5) rfl w.heap.size rfl 22 xA _ ((Blk.new w _ _).alloc _) Try.underlying22 rfl (by rw [HXZ.out]; kernel_rfl) ?_)
    | (with_reducible refine wpList_store_blkTo rfl 22 (.tmp 7) (.tmp 17) rfl rfl (w.heap.size + 1 + 1) xA rfl rfl 22 Z HB3.out (by rw [HXZ.out]; kernel_rfl) (by rw [HXZ.out, HZZ.out]) HXO.out ?_
       generalize hw1 : World.setRow _ _ _ = w1))
  obtain ⟨r, hr⟩ : ∃ y, w.heap.size = y := ⟨_, rfl⟩
  obtain ⟨rr, hrr⟩ : ∃ y, r + 1 = y := ⟨_, rfl⟩
  obtain ⟨xb, hxb⟩ : ∃ y, rr + 1 = y := ⟨_, rfl⟩
  have hst : Below r w w1 ∧ Blk w1 xb (u8A x) 22 ∧ ∃ rs, Blk w1 rr rs 22 ∧ rs.size = 16 := by
    have h3 := HB3.out
    simp only [hr, hrr, hxb] at h3 hw1
    rw [← hw1]
    refine ⟨below_row ?_ (by simp; omega) (by omega) _, ?_, ?_⟩
    · rw [← hr]
      exact (((Below.refl _ _).alloc (Nat.le_refl _) _).alloc (by simp) _).alloc (by simp; omega) _
    · rw [HXE.out]
      exact h3.row _
    · have a2 := Blk.new (w.alloc (.cells xA 22)) Z 22
      simp only [World.size_alloc, hr, hrr] at a2
      exact ⟨Z, (a2.alloc _).rowOther (by omega) _, HZZ.out⟩
  obtain ⟨hbel, g1, g2⟩ := hst
  have hsr : sb < r := by rw [← hr]; exact HS.out.lt
  have hkr : kb < r := by rw [← hr]; exact HK.out.lt
  have HRR := Lib.hid hr
  have G1 := Lib.hid (show Blk w1 xb (u8A (part (addU ks 0 x) x 0)) 22 by rw [part_zero]; exact g1)
  have G2 := Lib.hid g2
  have G3 := Lib.hid (HS.out.below hbel hsr)
  have G4 := Lib.hid (HK.out.below hbel hkr)
  have hrx : rr < xb := by omega
  have hrrr : r < rr := by omega
  rw [hr, hrr, hxb]
  clear g1 g2 hw1 hr hrr hxb HS HK HB3 HXE HXZ HXO
  go_loopw [18] (fun t wq => ∃ i : Nat, i ≤ 16 ∧ t = .int .i64 i ∧ Below r w wq ∧ Hid (Blk wq xb (u8A (part (addU ks 0 x) x i)) 22) ∧ Hid (∃ rs, Blk wq rr rs 22 ∧ rs.size = 16) ∧ Hid (Blk wq sb (u8A boxL) 42) ∧ Hid (Blk wq kb (u8A ks) 30)) (fun t _ => 16 - (intOf t).toNat)
  case atStart => exact ⟨0, by omega, rfl, hbel, G1, G2, G3, G4⟩
  case round =>
    clear hbel G1 G2 G3 G4
    obtain ⟨i, hi, rfl, hbel, HXB, HR, HS, HK⟩ := hrel
    by_cases hlt : i < 16
    · have hii : (i : Int) < 16 := by omega
      have cx := HXB.out.byteAt (i := i) (by rw [part_len (addU_len ks 0 x) HX.out (by omega)]; exact hlt)
      rw [part_later (addU_len ks 0 x) (by omega) (Nat.le_refl i)] at cx
      have ck := HK.out.byteAt (i := i) (by rw [HKS.out]; omega)
      have hf := HXB.out.frozen i
      have HV := Lib.hid (show bits .xor .u8 ((x.getD i 0).toNat : Int) ((ks.getD i 0).toNat : Int) = (((addU ks 0 x).getD i 0).toNat : Int) by rw [xor_byte8, addU_at ks 0 x hlt, Nat.zero_mul, Nat.zero_add])
      have HPS := Lib.hid (part_set (addU_len ks 0 x) HX.out hlt)
      generalize x.getD i 0 = a0 at *
      generalize ks.getD i 0 = b0 at *
      go_wp2_with fail
      refine wp_region_noPanic ?_
      go_region
      refine NoPanic.normal ?_
      go_wp2_with fail
      go_roundw
      case rel =>
        refine ⟨i + 1, by omega, by go_num, ?_, Lib.hid ?_, Lib.hid ?_, Lib.hid ?_, Lib.hid ?_⟩
        · exact (hbel.setCell (by simp; omega) _).drew
        · rw [← HPS.out]
          exact HXB.out.put _ HV.out
        · obtain ⟨rs, h, hz⟩ := HR.out
          exact ⟨rs, h.other (by simp; omega) _, hz⟩
        · exact HS.out.other (by simp; omega) _
        · exact HK.out.other (by simp; omega) _
      case measure => simp [intOf]; omega
    · obtain rfl : i = 16 := by omega
      have HX0 := Lib.hid (show Blk wr xb (u8A (stU ks x 0)) 22 by have := HXB.out; rwa [part_full (addU_len ks 0 x) HX.out] at this)
      have hsz := HX0.out.lt
      clear HXB hi hlt
      go_wp2_with fail
      go_loopw [9] (fun t wq => ∃ q : Nat, q ≤ 10 ∧ t = .int .i64 ((q : Int) + 1) ∧ Below r w wq ∧ xb + 1 ≤ wq.heap.size ∧ Hid (Blk wq xb (u8A (stU ks x q)) 22) ∧ Hid (∃ rs, Blk wq rr rs 22 ∧ rs.size = 16) ∧ Hid (Blk wq sb (u8A boxL) 42) ∧ Hid (Blk wq kb (u8A ks) 30)) (fun t _ => 11 - (intOf t).toNat)
      case atStart => exact ⟨0, by omega, rfl, hbel, hsz, HX0, HR, HS, HK⟩
      case round =>
        clear hbel HX0 HR HS HK hsz
        obtain ⟨q, hq, rfl, hbel, hsz, HXB, HR, HS, HK⟩ := hrel
        by_cases hlt : q < 10
        · have hqi : (q : Int) + 1 < 11 := by omega
          have HST := Lib.hid (stU_len ks x q)
          have HSN1 := Lib.hid (show stU ks x (q + 1) = addU ks (q + 1) (midU (q + 1) (stU ks x q)) from rfl)
          obtain ⟨st, hst⟩ : ∃ z, stU ks x q = z := ⟨_, rfl⟩
          rw [hst] at HXB HST HSN1
          clear hst
          go_wp2_with fail
          have hst : Below r w (wr.alloc (.cells Z 22)) ∧ Below wr.heap.size wr (wr.alloc (.cells Z 22)) ∧ Blk (wr.alloc (.cells Z 22)) wr.heap.size (u8A (part (subU st) (List.replicate 16 0) (4 * 0))) 22 := by
            refine ⟨hbel.alloc (by omega) _, (Below.refl _ _).alloc (Nat.le_refl _) _, ?_⟩
            rw [Nat.mul_zero, part_zero, HZ.out]
            exact Blk.new wr Z 22
          generalize wr.alloc (.cells Z 22) = w2 at hst ⊢
          obtain ⟨hbel2, hb2, h5⟩ := hst
          obtain ⟨yb, hyb⟩ : ∃ z, wr.heap.size = z := ⟨_, rfl⟩
          have hxy : xb < yb := by omega
          have K2 := Lib.hid (HXB.out.below hb2 HXB.out.lt)
          have K3 := Lib.hid (show ∃ rs, Blk w2 rr rs 22 ∧ rs.size = 16 by obtain ⟨rs, h, hz⟩ := HR.out; exact ⟨rs, h.below hb2 h.lt, hz⟩)
          have K4 := Lib.hid (HS.out.below hb2 HS.out.lt)
          have K5 := Lib.hid (HK.out.below hb2 HK.out.lt)
          rw [hyb] at h5 ⊢
          have K1 := Lib.hid h5
          clear h5 hyb hb2 HXB HR HS HK hbel hsz
          go_loopw [11] (fun t wq => ∃ c : Nat, c ≤ 4 ∧ t = .int .i64 c ∧ Below r w wq ∧ Hid (Blk wq yb (u8A (part (subU st) (List.replicate 16 0) (4 * c))) 22) ∧ Hid (Blk wq xb (u8A st) 22) ∧ Hid (∃ rs, Blk wq rr rs 22 ∧ rs.size = 16) ∧ Hid (Blk wq sb (u8A boxL) 42) ∧ Hid (Blk wq kb (u8A ks) 30)) (fun t _ => 4 - (intOf t).toNat)
          case atStart => exact ⟨0, by omega, rfl, hbel2, K1, K2, K3, K4, K5⟩
          case round =>
            clear hbel2 K1 K2 K3 K4 K5
            obtain ⟨c, hc, rfl, hbel, HY, HXB, HR, HS, HK⟩ := hrel
            by_cases hlt4 : c < 4
            · have hci : (c : Int) < 4 := by omega
              obtain ⟨wo, rfl⟩ : ∃ z : World, z = wr := ⟨_, rfl⟩
              go_wp2_with fail
              go_loopw [12] (fun t wq => ∃ i : Nat, i ≤ 4 ∧ t = .int .i64 i ∧ Below r w wq ∧ Hid (Blk wq yb (u8A (part (subU st) (List.replicate 16 0) (4 * c + i))) 22) ∧ Hid (Blk wq xb (u8A st) 22) ∧ Hid (∃ rs, Blk wq rr rs 22 ∧ rs.size = 16) ∧ Hid (Blk wq sb (u8A boxL) 42) ∧ Hid (Blk wq kb (u8A ks) 30)) (fun t _ => 4 - (intOf t).toNat)
              case atStart => exact ⟨0, by omega, rfl, hbel, HY, HXB, HR, HS, HK⟩
              case round =>
                clear hbel HY HXB HR HS HK
                obtain ⟨i, hi, rfl, hbel, HY, HXB, HR, HS, HK⟩ := hrel
                by_cases hi4 : i < 4
                · have hii : (i : Int) < 4 := by omega
                  obtain ⟨m, hm⟩ : ∃ m, (4 * (c + i) + i) % 16 = m := ⟨_, rfl⟩
                  have m0 : (0 : Int) ≤ (4 * ((c : Int) + (i : Int)) + (i : Int)) % 16 := by omega
                  have m1 : (4 * ((c : Int) + (i : Int)) + (i : Int)) % 16 < 16 := by omega
                  have m2 : ((4 * ((c : Int) + (i : Int)) + (i : Int)) % 16).toNat = m := by omega
                  have hm16 : m < 16 := by omega
                  obtain ⟨n, hn⟩ : ∃ n, 4 * c + i = n := ⟨_, rfl⟩
                  have n0 : (0 : Int) ≤ 4 * (c : Int) + (i : Int) := by omega
                  have n1 : 4 * (c : Int) + (i : Int) < 16 := by omega
                  have n2 : (4 * (c : Int) + (i : Int)).toNat = n := by omega
                  have hn16 : n < 16 := by omega
                  have HSU := Lib.hid (show (subU st).getD n 0 = boxL.getD (st.getD m 0).toNat 0 by
                    rw [subU_at st hn16, show (4 * (n / 4 + n % 4) + n % 4) % 16 = m by omega]; rfl)
                  rw [hn] at HY
                  have HPS := Lib.hid (part_set (subU_len st) (show (List.replicate 16 (0 : UInt8)).length = 16 from List.length_replicate ..) hn16)
                  have HNS := Lib.hid (show 4 * c + (i + 1) = n + 1 by omega)
                  have cx := HXB.out.byteAt (i := m) (by rw [HST.out]; exact hm16)
                  have hx8 := (st.getD m 0).toNat_lt
                  have cs := HS.out.byteAt (i := (st.getD m 0).toNat) (by rw [boxL_len]; exact hx8)
                  have hf := HY.out.frozen n
                  obtain ⟨o, ho⟩ : ∃ old, wr.cell? ⟨yb, n, none⟩ = some old := ⟨_, HY.out.byteAt (i := n) (by rw [part_len (subU_len st) (show (List.replicate 16 (0 : UInt8)).length = 16 from List.length_replicate ..) (by omega)]; exact hn16)⟩
                  generalize boxL.getD (st.getD m 0).toNat 0 = b0 at *
                  generalize st.getD m 0 = a0 at *
                  have ha8 : (a0.toNat : Int) < 256 := by omega
                  clear hm hn
                  go_wp2_with fail
                  refine wp_region_noPanic ?_
                  go_region
                  refine NoPanic.normal ?_
                  go_wp2_with fail
                  go_roundw
                  case rel =>
                    refine ⟨i + 1, by omega, by go_num, ?_, Lib.hid ?_, Lib.hid ?_, Lib.hid ?_, Lib.hid ?_, Lib.hid ?_⟩
                    · exact (hbel.setCell (by simp; omega) _).drew
                    · rw [HNS.out, ← HPS.out]
                      exact HY.out.put _ (by rw [HSU.out])
                    · exact HXB.out.other (by simp; omega) _
                    · obtain ⟨rs, h, hz⟩ := HR.out
                      exact ⟨rs, h.other (by simp; omega) _, hz⟩
                    · exact HS.out.other (by simp; omega) _
                    · exact HK.out.other (by simp; omega) _
                  case measure => simp [intOf]; omega
                · obtain rfl : i = 4 := by omega
                  have hge4 : ¬ ((4 : Nat) : Int) < 4 := by omega
                  have HYN := Lib.hid (show Blk wr yb (u8A (part (subU st) (List.replicate 16 0) (4 * (c + 1)))) 22 from HY.out)
                  clear HY hi hi4
                  go_wp2_with fail
                  go_roundw
                  case rel => exact ⟨c + 1, by omega, by go_num, hbel, HYN, HXB, HR, HS, HK⟩
                  case measure => simp [intOf]; omega
            · obtain rfl : c = 4 := by omega
              have hge4 : ¬ ((4 : Nat) : Int) < 4 := by omega
              have HYF := Lib.hid (show Blk wr yb (u8A (subU st)) 22 by have := HY.out; rwa [part_full (subU_len st) (show (List.replicate 16 (0 : UInt8)).length = 16 from List.length_replicate ..)] at this)
              have HSN0 := Lib.hid (show stU ks x (q + 1) = addU ks (q + 1) (if q + 1 < 10 then mixU (subU st) else subU st) from HSN1.out)
              obtain ⟨y0, hy0⟩ : ∃ z, subU st = z := ⟨_, rfl⟩
              have HY0 := Lib.hid (show y0.length = 16 by rw [← hy0]; exact subU_len st)
              rw [hy0] at HYF HSN0
              have HY := HYF
              clear HYF hy0 HSN1 hc hlt4
              by_cases hq10 : q + 1 < 10
              · have hq10i : (q : Int) + 1 < 10 := by omega
                go_wp2_with fail
                go_loopw [13] (fun t wq => ∃ c : Nat, c ≤ 4 ∧ t = .int .i64 c ∧ Below r w wq ∧ Hid (Blk wq yb (u8A (part (mixU y0) y0 (4 * c))) 22) ∧ Hid (Blk wq xb (u8A st) 22) ∧ Hid (∃ rs, Blk wq rr rs 22 ∧ rs.size = 16) ∧ Hid (Blk wq sb (u8A boxL) 42) ∧ Hid (Blk wq kb (u8A ks) 30)) (fun t _ => 4 - (intOf t).toNat)
                case atStart => exact ⟨0, by omega, rfl, hbel, Lib.hid (by rw [Nat.mul_zero, part_zero]; exact HY.out), HXB, HR, HS, HK⟩
                case round =>
                  clear hbel HY HXB HR HS HK
                  obtain ⟨c, hc, rfl, hbel, HY, HXB, HR, HS, HK⟩ := hrel
                  by_cases hlt4 : c < 4
                  · have hci : (c : Int) < 4 := by omega
                    have d0 : (0 : Int) ≤ 4 * (c : Int) := by omega
                    have d1 : 4 * (c : Int) < 16 := by omega
                    have d2 : (4 * (c : Int)).toNat = 4 * c := by omega
                    have e0 : (0 : Int) ≤ 4 * (c : Int) + 1 := by omega
                    have e1 : 4 * (c : Int) + 1 < 16 := by omega
                    have e2 : (4 * (c : Int) + 1).toNat = 4 * c + 1 := by omega
                    have f0 : (0 : Int) ≤ 4 * (c : Int) + 2 := by omega
                    have f1 : 4 * (c : Int) + 2 < 16 := by omega
                    have f2 : (4 * (c : Int) + 2).toNat = 4 * c + 2 := by omega
                    have g0 : (0 : Int) ≤ 4 * (c : Int) + 3 := by omega
                    have g1 : 4 * (c : Int) + 3 < 16 := by omega
                    have g2 : (4 * (c : Int) + 3).toNat = 4 * c + 3 := by omega
                    have hpl : (part (mixU y0) y0 (4 * c)).length = 16 := part_len (mixU_len y0) HY0.out (by omega)
                    have c0 := HY.out.byteAt (i := 4 * c) (by rw [hpl]; omega)
                    have c1 := HY.out.byteAt (i := 4 * c + 1) (by rw [hpl]; omega)
                    have c2 := HY.out.byteAt (i := 4 * c + 2) (by rw [hpl]; omega)
                    have c3 := HY.out.byteAt (i := 4 * c + 3) (by rw [hpl]; omega)
                    rw [part_later (mixU_len y0) (by omega) (by omega)] at c0 c1 c2 c3
                    have HCOL := Lib.hid (show colU y0 c = [y0.getD (4 * c) 0, y0.getD (4 * c + 1) 0, y0.getD (4 * c + 2) 0, y0.getD (4 * c + 3) 0] from rfl)
                    generalize y0.getD (4 * c) 0 = v0 at *
                    generalize y0.getD (4 * c + 1) 0 = v1 at *
                    generalize y0.getD (4 * c + 2) 0 = v2 at *
                    generalize y0.getD (4 * c + 3) 0 = v3 at *
                    obtain ⟨wa, rfl⟩ : ∃ z : World, z = wr := ⟨_, rfl⟩
                    have hly := HY.out.lt
                    have hb0 : Below wa.heap.size wa wa := Below.refl _ _
                    have HKEEP := Lib.hid (fun (W : World) (h : Below wa.heap.size wa W) => (⟨(h.cell (p := ⟨yb, 4 * c, none⟩) hly).trans c0, (h.cell (p := ⟨yb, 4 * c + 1, none⟩) hly).trans c1, (h.cell (p := ⟨yb, 4 * c + 2, none⟩) hly).trans c2, (h.cell (p := ⟨yb, 4 * c + 3, none⟩) hly).trans c3⟩ : W.cell? ⟨yb, 4 * c, none⟩ = some (.int .u8 (v0.toNat : Int)) ∧ W.cell? ⟨yb, 4 * c + 1, none⟩ = some (.int .u8 (v1.toNat : Int)) ∧ W.cell? ⟨yb, 4 * c + 2, none⟩ = some (.int .u8 (v2.toNat : Int)) ∧ W.cell? ⟨yb, 4 * c + 3, none⟩ = some (.int .u8 (v3.toNat : Int))))
                    have k0 : IntKind.i64.wrap (4 * (c : Int)) = 4 * (c : Int) := IntWalk.i64_in _ (by omega)
                    have k1 : IntKind.i64.wrap (4 * (c : Int) + 1) = 4 * (c : Int) + 1 := IntWalk.i64_in _ (by omega)
                    have k2 : IntKind.i64.wrap (4 * (c : Int) + 2) = 4 * (c : Int) + 2 := IntWalk.i64_in _ (by omega)
                    have k3 : IntKind.i64.wrap (4 * (c : Int) + 3) = 4 * (c : Int) + 3 := IntWalk.i64_in _ (by omega)
                    clear hpl
                    go_wp2_with fail
                    go_region_held3 (fun W => W.cell? ⟨yb, 4 * c, none⟩ = some (.int .u8 (v0.toNat : Int)) ∧ W.cell? ⟨yb, 4 * c + 1, none⟩ = some (.int .u8 (v1.toNat : Int)) ∧ W.cell? ⟨yb, 4 * c + 2, none⟩ = some (.int .u8 (v2.toNat : Int)) ∧ W.cell? ⟨yb, 4 * c + 3, none⟩ = some (.int .u8 (v3.toNat : Int)))
                      ((first | exact HKEEP.out _ hb0.drew | exact HKEEP.out _ (hb0.alloc (Nat.le_refl _) _) | exact HKEEP.out _ (hb0.alloc (Nat.le_refl _) _).drew | exact HKEEP.out _ (hb0.drew.alloc (Nat.le_refl _) _)))
                      (fail)
                    clear k0 k1 k2 k3 HKEEP
                    have hst : Below r w ((wa.alloc (.cells #[.int .u8 (v0.toNat : Int), .int .u8 (v1.toNat : Int), .int .u8 (v2.toNat : Int), .int .u8 (v3.toNat : Int)] 61)).drew) ∧ Below wa.heap.size wa ((wa.alloc (.cells #[.int .u8 (v0.toNat : Int), .int .u8 (v1.toNat : Int), .int .u8 (v2.toNat : Int), .int .u8 (v3.toNat : Int)] 61)).drew) ∧ Blk ((wa.alloc (.cells #[.int .u8 (v0.toNat : Int), .int .u8 (v1.toNat : Int), .int .u8 (v2.toNat : Int), .int .u8 (v3.toNat : Int)] 61)).drew) wa.heap.size (u8A (colU y0 c)) 61 := by
                      refine ⟨(hbel.alloc (by have := HXB.out.lt; omega) _).drew, (hb0.alloc (Nat.le_refl _) _).drew, ?_⟩
                      rw [HCOL.out]
                      exact Blk.new wa #[.int .u8 (v0.toNat : Int), .int .u8 (v1.toNat : Int), .int .u8 (v2.toNat : Int), .int .u8 (v3.toNat : Int)] 61
                    generalize (wa.alloc (.cells #[.int .u8 (v0.toNat : Int), .int .u8 (v1.toNat : Int), .int .u8 (v2.toNat : Int), .int .u8 (v3.toNat : Int)] 61)).drew = w3 at hst ⊢
                    obtain ⟨hbel3, hb3, h5⟩ := hst
                    obtain ⟨tb, htb⟩ : ∃ z, wa.heap.size = z := ⟨_, rfl⟩
                    have hyt : yb < tb := by omega
                    have K1 := Lib.hid (HY.out.below hb3 hly)
                    have K2 := Lib.hid (HXB.out.below hb3 HXB.out.lt)
                    have K3 := Lib.hid (show ∃ rs, Blk w3 rr rs 22 ∧ rs.size = 16 by obtain ⟨rs, h, hz⟩ := HR.out; exact ⟨rs, h.below hb3 h.lt, hz⟩)
                    have K4 := Lib.hid (HS.out.below hb3 HS.out.lt)
                    have K5 := Lib.hid (HK.out.below hb3 HK.out.lt)
                    rw [htb] at h5 ⊢
                    have K6 := Lib.hid h5
                    clear h5 htb hb3 hb0 c0 c1 c2 c3 HY HXB HR HS HK hbel hly HCOL d0 d1 d2 e0 e1 e2 f0 f1 f2 g0 g1 g2
                    go_wp2_with fail
                    go_loopw [15] (fun t wq => ∃ i : Nat, i ≤ 4 ∧ t = .int .i64 i ∧ Below r w wq ∧ Hid (Blk wq yb (u8A (part (mixU y0) y0 (4 * c + i))) 22) ∧ Hid (Blk wq xb (u8A st) 22) ∧ Hid (∃ rs, Blk wq rr rs 22 ∧ rs.size = 16) ∧ Hid (Blk wq sb (u8A boxL) 42) ∧ Hid (Blk wq kb (u8A ks) 30) ∧ Hid (Blk wq tb (u8A (colU y0 c)) 61)) (fun t _ => 4 - (intOf t).toNat)
                    case atStart => exact ⟨0, by omega, rfl, hbel3, K1, K2, K3, K4, K5, K6⟩
                    case round =>
                      clear hbel3 K1 K2 K3 K4 K5 K6
                      obtain ⟨i, hi, rfl, hbel, HY, HXB, HR, HS, HK, HT⟩ := hrel
                      by_cases hi4 : i < 4
                      · have hii : (i : Int) < 4 := by omega
                        have HPS := Lib.hid (part_set (mixU_len y0) HY0.out (show 4 * c + i < 16 by omega))
                        have HNS := Lib.hid (show 4 * c + (i + 1) = 4 * c + i + 1 by omega)
                        go_wp2_with fail
                        refine mix_reg hlt4 hi4 hyt HY0 HY HT ?_
                        intro u93 u94 u95 u96 u97 u98 u99 u100 u101 u102 u103 u104 u105 u106 u107 u108 u109 u110 u111 u112 u113 u114 u115 u116 u117 u118 u119 u120 u121 u122 u123 u124 u125 u126
                        go_wp2_with fail
                        go_roundw
                        case rel =>
                          refine ⟨i + 1, by omega, by go_num, ?_, Lib.hid ?_, Lib.hid ?_, Lib.hid ?_, Lib.hid ?_, Lib.hid ?_, Lib.hid ?_⟩
                          · exact (hbel.setCell (by simp; omega) _).drew
                          · rw [HNS.out, ← HPS.out]
                            exact HY.out.put _ rfl
                          · exact HXB.out.other (by simp; omega) _
                          · obtain ⟨rs, h, hz⟩ := HR.out
                            exact ⟨rs, h.other (by simp; omega) _, hz⟩
                          · exact HS.out.other (by simp; omega) _
                          · exact HK.out.other (by simp; omega) _
                          · exact HT.out.other (by simp; omega) _
                        case measure => simp [intOf]; omega
                      · obtain rfl : i = 4 := by omega
                        have hge4 : ¬ ((4 : Nat) : Int) < 4 := by omega
                        have HYN := Lib.hid (show Blk wr yb (u8A (part (mixU y0) y0 (4 * (c + 1)))) 22 from HY.out)
                        clear HY hi hi4
                        go_wp2_with fail
                        go_roundw
                        case rel => exact ⟨c + 1, by omega, by go_num, hbel, HYN, HXB, HR, HS, HK⟩
                        case measure => simp [intOf]; omega
                  · obtain rfl : c = 4 := by omega
                    have hge4 : ¬ ((4 : Nat) : Int) < 4 := by omega
                    have HYF := Lib.hid (show Blk wr yb (u8A (mixU y0)) 22 by have := HY.out; rwa [part_full (mixU_len y0) HY0.out] at this)
                    clear HY hc hlt4
                    obtain ⟨ym, hym⟩ : ∃ z, mixU y0 = z := ⟨_, rfl⟩
                    have HYM := Lib.hid (show ym.length = 16 by rw [← hym]; exact mixU_len y0)
                    have HSN := Lib.hid (show stU ks x (q + 1) = addU ks (q + 1) ym by rw [HSN0.out, ← hym, if_pos (by omega)])
                    rw [hym] at HYF
                    have HY := HYF
                    clear hym HYF HSN0 HY0
                    go_wp2_with fail
                    go_loopw [127] (fun t wq => ∃ i : Nat, i ≤ 16 ∧ t = .int .i64 i ∧ Below r w wq ∧ Hid (Blk wq xb (u8A (part (addU ks (q + 1) ym) st i)) 22) ∧ Hid (Blk wq yb (u8A ym) 22) ∧ Hid (∃ rs, Blk wq rr rs 22 ∧ rs.size = 16) ∧ Hid (Blk wq sb (u8A boxL) 42) ∧ Hid (Blk wq kb (u8A ks) 30)) (fun t _ => 16 - (intOf t).toNat)
                    case atStart => exact ⟨0, by omega, rfl, hbel, Lib.hid (by rw [part_zero]; exact HXB.out), HY, HR, HS, HK⟩
                    case round =>
                      clear hbel HXB HY HR HS HK
                      obtain ⟨i, hi, rfl, hbel, HXB, HY, HR, HS, HK⟩ := hrel
                      by_cases hlt16 : i < 16
                      · have hii : (i : Int) < 16 := by omega
                        have cy := HY.out.byteAt (i := i) (by rw [HYM.out]; exact hlt16)
                        have ck := HK.out.byteAt (i := (q + 1) * 16 + i) (by rw [HKS.out]; omega)
                        have hf := HXB.out.frozen i
                        obtain ⟨o, ho⟩ : ∃ old, wr.cell? ⟨xb, i, none⟩ = some old := ⟨_, HXB.out.byteAt (i := i) (by rw [part_len (addU_len ks (q + 1) ym) HST.out (by omega)]; exact hlt16)⟩
                        have HV := Lib.hid (show bits .xor .u8 ((ym.getD i 0).toNat : Int) ((ks.getD ((q + 1) * 16 + i) 0).toNat : Int) = (((addU ks (q + 1) ym).getD i 0).toNat : Int) by rw [xor_byte8, addU_at ks (q + 1) ym hlt16])
                        have HPS := Lib.hid (part_set (addU_len ks (q + 1) ym) HST.out hlt16)
                        have q1 : (0 : Int) ≤ (q : Int) + 1 := by omega
                        have q1n : ((q : Int) + 1).toNat = q + 1 := by omega
                        have q11 : (q : Int) + 1 < 11 := by omega
                        generalize ym.getD i 0 = a0 at *
                        generalize ks.getD ((q + 1) * 16 + i) 0 = b0 at *
                        go_wp2_with fail
                        refine wp_region_noPanic ?_
                        go_region
                        refine NoPanic.normal ?_
                        go_wp2_with fail
                        go_roundw
                        case rel =>
                          refine ⟨i + 1, by omega, by go_num, ?_, Lib.hid ?_, Lib.hid ?_, Lib.hid ?_, Lib.hid ?_, Lib.hid ?_⟩
                          · exact (hbel.setCell (by simp; omega) _).drew
                          · rw [← HPS.out]
                            exact HXB.out.put _ HV.out
                          · exact HY.out.other (by simp; omega) _
                          · obtain ⟨rs, h, hz⟩ := HR.out
                            exact ⟨rs, h.other (by simp; omega) _, hz⟩
                          · exact HS.out.other (by simp; omega) _
                          · exact HK.out.other (by simp; omega) _
                        case measure => simp [intOf]; omega
                      · obtain rfl : i = 16 := by omega
                        have hge16 : ¬ ((16 : Nat) : Int) < 16 := by omega
                        have HXN := Lib.hid (show Blk wr xb (u8A (stU ks x (q + 1))) 22 by have := HXB.out; rw [part_full (addU_len ks (q + 1) ym) HST.out] at this; rw [HSN.out]; exact this)
                        have hszn : xb + 1 ≤ wr.heap.size := HXN.out.lt
                        clear HXB hi hlt16
                        go_wp2_with fail
                        go_roundw
                        case rel => first
                          | exact ⟨q + 1, by omega, by go_num, hbel, hszn, HXN, HR, HS, HK⟩
                          | ((repeat apply Exists.intro); exact ⟨⟨q + 1, by omega, by go_num, hbel, hszn, HXN, HR, HS, HK⟩, by (repeat' apply And.intro) <;> rfl⟩)
                        case measure => simp [intOf]; omega
              · have hq10i : ¬ (q : Int) + 1 < 10 := by omega
                obtain ⟨ym, rfl⟩ : ∃ z, z = y0 := ⟨_, rfl⟩
                have HYM := HY0
                have HSN := Lib.hid (show stU ks x (q + 1) = addU ks (q + 1) ym by rw [HSN0.out, if_neg hq10])
                clear HSN0 HY0
                go_wp2_with fail
                go_loopw [127] (fun t wq => ∃ i : Nat, i ≤ 16 ∧ t = .int .i64 i ∧ Below r w wq ∧ Hid (Blk wq xb (u8A (part (addU ks (q + 1) ym) st i)) 22) ∧ Hid (Blk wq yb (u8A ym) 22) ∧ Hid (∃ rs, Blk wq rr rs 22 ∧ rs.size = 16) ∧ Hid (Blk wq sb (u8A boxL) 42) ∧ Hid (Blk wq kb (u8A ks) 30)) (fun t _ => 16 - (intOf t).toNat)
                case atStart => exact ⟨0, by omega, rfl, hbel, Lib.hid (by rw [part_zero]; exact HXB.out), HY, HR, HS, HK⟩
                case round =>
                  clear hbel HXB HY HR HS HK
                  obtain ⟨i, hi, rfl, hbel, HXB, HY, HR, HS, HK⟩ := hrel
                  by_cases hlt16 : i < 16
                  · have hii : (i : Int) < 16 := by omega
                    have cy := HY.out.byteAt (i := i) (by rw [HYM.out]; exact hlt16)
                    have ck := HK.out.byteAt (i := (q + 1) * 16 + i) (by rw [HKS.out]; omega)
                    have hf := HXB.out.frozen i
                    obtain ⟨o, ho⟩ : ∃ old, wr.cell? ⟨xb, i, none⟩ = some old := ⟨_, HXB.out.byteAt (i := i) (by rw [part_len (addU_len ks (q + 1) ym) HST.out (by omega)]; exact hlt16)⟩
                    have HV := Lib.hid (show bits .xor .u8 ((ym.getD i 0).toNat : Int) ((ks.getD ((q + 1) * 16 + i) 0).toNat : Int) = (((addU ks (q + 1) ym).getD i 0).toNat : Int) by rw [xor_byte8, addU_at ks (q + 1) ym hlt16])
                    have HPS := Lib.hid (part_set (addU_len ks (q + 1) ym) HST.out hlt16)
                    have q1 : (0 : Int) ≤ (q : Int) + 1 := by omega
                    have q1n : ((q : Int) + 1).toNat = q + 1 := by omega
                    have q11 : (q : Int) + 1 < 11 := by omega
                    generalize ym.getD i 0 = a0 at *
                    generalize ks.getD ((q + 1) * 16 + i) 0 = b0 at *
                    go_wp2_with fail
                    refine wp_region_noPanic ?_
                    go_region
                    refine NoPanic.normal ?_
                    go_wp2_with fail
                    go_roundw
                    case rel =>
                      refine ⟨i + 1, by omega, by go_num, ?_, Lib.hid ?_, Lib.hid ?_, Lib.hid ?_, Lib.hid ?_, Lib.hid ?_⟩
                      · exact (hbel.setCell (by simp; omega) _).drew
                      · rw [← HPS.out]
                        exact HXB.out.put _ HV.out
                      · exact HY.out.other (by simp; omega) _
                      · obtain ⟨rs, h, hz⟩ := HR.out
                        exact ⟨rs, h.other (by simp; omega) _, hz⟩
                      · exact HS.out.other (by simp; omega) _
                      · exact HK.out.other (by simp; omega) _
                    case measure => simp [intOf]; omega
                  · obtain rfl : i = 16 := by omega
                    have hge16 : ¬ ((16 : Nat) : Int) < 16 := by omega
                    have HXN := Lib.hid (show Blk wr xb (u8A (stU ks x (q + 1))) 22 by have := HXB.out; rw [part_full (addU_len ks (q + 1) ym) HST.out] at this; rw [HSN.out]; exact this)
                    have hszn : xb + 1 ≤ wr.heap.size := HXN.out.lt
                    clear HXB hi hlt16
                    go_wp2_with fail
                    go_roundw
                    case rel => first
                      | exact ⟨q + 1, by omega, by go_num, hbel, hszn, HXN, HR, HS, HK⟩
                      | ((repeat apply Exists.intro); exact ⟨⟨q + 1, by omega, by go_num, hbel, hszn, HXN, HR, HS, HK⟩, by (repeat' apply And.intro) <;> rfl⟩)
                    case measure => simp [intOf]; omega
        · obtain rfl : q = 10 := by omega
          have hge : ¬ ((10 : Nat) : Int) + 1 < 11 := by omega
          have hfull := HXB.out
          obtain ⟨rs, hrs, hrz⟩ := HR.out
          have hsz11 : (u8A (stU ks x 10)).size = 16 := by rw [u8A_size, stU_len]
          have hone := u8A_one (stU ks x 10)
          obtain ⟨fin, hfe⟩ : ∃ x', u8A (stU ks x 10) = x' := ⟨_, rfl⟩
          rw [hfe] at hfull hsz11 hone
          have HFE := Lib.hid (show u8A (blockL ks x) = fin from hfe)
          have HZ2 := Lib.hid hsz11
          have HONE := Lib.hid hone
          have HRZ := Lib.hid hrz
          clear hfe hsz11 hone hrz HXB HR HS HK hq hlt
          go_wp2_with (first
            | (with_reducible refine wpList_load_blk rfl 22 (.tmp 7) rfl xb rfl 22 fin _ hfull Try.underlying22 rfl (by rw [HZ2.out]; kernel_rfl) ?_)
            | (with_reducible refine wpList_store_blk rfl 22 (.tmp 6) (.tmp 144) rfl rr fin rfl rfl 22 rs hrs (by rw [HZ2.out]; kernel_rfl) (by rw [HZ2.out, HRZ.out]) HONE.out ?_))
          refine bodyPost_ret (v := .agg fin) (results_cell_row (p := 6) (ty := 22) (by kernel_rfl) _ _ rr 22 _ (0, 0) _ rfl (hrs.row fin) Try.underlying22 rfl (by rw [HZ2.out]; kernel_rfl)) rfl ⟨by rw [HFE.out], ?_⟩
          rw [HRR.out]
          exact below_row hbel (by have := hbel.size; have := HRR.out; omega) (by omega) _
end Go.Proofs.Ytcajlmlblkdjoaa
