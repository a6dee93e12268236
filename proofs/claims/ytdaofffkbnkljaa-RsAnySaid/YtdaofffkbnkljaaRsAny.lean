/- RsAny: any k of the shares, in any order, give the bytes back. For all bytes and numbers. -/
import Derived.Test.YtdaofffkbnkljaaLaw
import Derived.Test.YtdaofffkbnkljaaOpen
import Derived.Test.YtdaofffkbnkljaaWakes6
import Derived.Test.YtdaofffkbnkljaaPerm6
import Derived.StillTailTactics
import Derived.Deep.CutRange
import Derived.Deep.RegionHeld3
namespace Go.Proofs.Ytdaofffkbnkljaa.rsAny
open Go.ChangeShapes Go.WideShapes Go.ChangeAt Go.RowKit

set_option maxRecDepth 100000 in
set_option maxHeartbeats 16000000 in
theorem walk (A C : Option Addr) (z c y d : Nat) (l : List UInt8) (ps : List Int) (k0 n0 : Int) (w : World) (hl : l.length = z) (hc : z ≤ c) (hr : Rd w w.heap.size A l) (hps : ps.length = y) (hC : RdI w w.heap.size C ps) (hpb : ∀ x ∈ ps, -9223372036854775808 ≤ x ∧ x ≤ 9223372036854775807) (hk0 : -9223372036854775808 ≤ k0) (hk1 : k0 ≤ 9223372036854775807) (hn0 : -9223372036854775808 ≤ n0) (hn1 : n0 ≤ 9223372036854775807) :
    Calls Try.prog 8 #[.slice A z c, .int .i64 k0, .int .i64 n0, .slice C y d] w fun e w' => e = .returned (.bool true) ∧ Below w.heap.size w w' := by
  obtain ⟨i1, hi, hz0, hz1, hz2⟩ := info_parts infoBlob
  obtain ⟨i2, hj, hj0, hj1, hj2⟩ := info_parts infoNum6
  have HPY := Lib.hid hps
  have HPC := Lib.hid hC
  have HPB := Lib.hid hpb
  clear hps hC hpb
  have HCUT := Lib.hid (show Calls Try.prog 11 #[.slice A z c, .int .i64 70] w fun e w' => e = .returned (.slice A (min z 70) c) ∧ w = w' from cut_any A z c 70 w hc)
  obtain ⟨zb, hzb⟩ : ∃ zb, min z 70 = zb := ⟨_, rfl⟩
  obtain ⟨b, hbt⟩ : ∃ b, l.take 70 = b := ⟨_, rfl⟩
  have HBL := Lib.hid (show b.length = zb by rw [← hbt, List.length_take, hl, Nat.min_comm]; exact hzb)
  have HBV := Lib.hid (show BV w (.slice A zb c) b from BV.of HBL.out (by omega) (by rw [← hbt]; exact hr.take 70))
  have hzb1 : zb ≤ 70 := by omega
  rw [hzb] at HCUT
  clear hbt hzb hr hl hc
  have HWN := Lib.hid (show ∀ W, Calls Try.prog 12 #[.int .i64 n0, .int .i64 10] W fun e w' => e = .returned (.int .i64 (withinI n0 10)) ∧ W = w' from fun W => within_any n0 10 W hn0 hn1 (by omega))
  obtain ⟨q1, q2⟩ := withinI_range n0 10 (by omega)
  obtain ⟨M, hM⟩ : ∃ M : Nat, withinI n0 10 = (M : Int) := ⟨(withinI n0 10).toNat, by omega⟩
  rw [hM] at HWN
  obtain ⟨N, hN⟩ : ∃ N : Nat, 1 + M = N := ⟨_, rfl⟩
  have hNi : (1 : Int) + (M : Int) = (N : Int) := by omega
  have hN16 : N ≤ 10 := by omega
  have hN1 : 1 ≤ N := by omega
  have HWK := Lib.hid (fun W => within_any k0 (N : Int) W hk0 hk1 (by omega))
  obtain ⟨q3, q4⟩ := withinI_range k0 (N : Int) (by omega)
  obtain ⟨J, hJ⟩ : ∃ J : Nat, withinI k0 (N : Int) = (J : Int) := ⟨(withinI k0 (N : Int)).toNat, by omega⟩
  rw [hJ] at HWK
  obtain ⟨K, hK⟩ : ∃ K : Nat, 1 + J = K := ⟨_, rfl⟩
  have hKi : (1 : Int) + (J : Int) = (K : Int) := by omega
  have hK1 : 1 ≤ K := by omega
  have hKN : K ≤ N := by omega
  obtain ⟨G, hG⟩ := gen_is (k := K) (by omega)
  have HG := Lib.hid hG
  have HNEW := Lib.hid (fun W => cnew_yes K N W hK1 hKN (by omega))
  clear hG hM hN hJ hK q1 q2 q3 q4 hn0 hn1 hk0 hk1
  have HSEG := Lib.hid (show segN b K ≤ 100 by
    have h4 := shN_lt b.length hK1
    have h5 := shL_len b K
    have h6 := seg_mul b hK1
    have h7 : segN b K ≤ K * segN b K := Nat.le_mul_of_pos_left _ hK1
    have := HBL.out
    omega)
  have HEL := Lib.hid (encL_len G b K N)
  go_enter Try.func8, Try.ntmps8
  go_wp2_with fail
  with_reducible refine (HCUT.out).mono ?_
  rintro e wx ⟨rfl, rfl⟩
  go_wp2_with fail
  with_reducible refine (HWN.out _).mono ?_
  rintro e wx ⟨rfl, rfl⟩
  go_wp2_with fail
  with_reducible refine (HWK.out _).mono ?_
  rintro e wx ⟨rfl, rfl⟩
  go_wp2_with fail
  clear HWN HWK HCUT
  with_reducible refine (HNEW.out w).mono ?_
  rintro e w1 ⟨g, rfl, hcd, hb⟩
  have LB1 := Lib.hid (HBV.out.on hb)
  have LC1 := Lib.hid hcd
  have HB1 := Lib.hid hb
  clear hb HBV hcd
  go_wp2_with fail
  with_reducible refine (cenc_any HG.out LC1.out LB1.out (by rw [HBL.out]; omega)).mono ?_
  rintro e w2 ⟨v, rfl, hv, hb⟩
  have LB2 := Lib.hid (LB1.out.on hb)
  have LC2 := Lib.hid (LC1.out.on hb)
  have HB2 := Lib.hid (HB1.out.trans (hb.mono HB1.out.size))
  have HVM := Lib.hid hv.mv
  clear hv
  obtain ⟨X, cX, rfl, hcX⟩ := HVM.out.form HEL.out
  clear hb LB1 LC1 HB1
  go_wp2_with (at_make; refine wpList_make_full _ rfl _ _ 51 rfl w2.heap.size 3 i2 (.int .i64 0) 1 Try.underlying51 hj hj0 hj1 _ _ _ _ N rfl rfl rfl rfl (by rw [hj2]; omega) (by unfold maxLen; omega) (Nat.le_refl _) ?_; intro w3 hown3 hg3)
  have hblk3 := nums_of_made hown3
  have hb23 : Below w2.heap.size w2 w3 := (Below.refl _ _).grown hg3 (Nat.le_refl _) (fun k hk => by cases hk)
  have G1 := Lib.hid (show Blk w3 w2.heap.size (natA N fun x => if x < 0 then x else 0) 3 from hblk3)
  clear hown3 hg3 hblk3 hj hj0 hj1 hj2
  go_wp2_with fail
  go_loopw [54] (fun t wr => ∃ x : Nat, x ≤ N ∧ t = .int .i64 x ∧ Below w2.heap.size w2 wr ∧ Hid (Blk wr w2.heap.size (natA N fun q => if q < x then q else 0) 3)) (fun t _ => N - (intOf t).toNat)
  case atStart => exact ⟨0, Nat.zero_le _, rfl, hb23, G1⟩
  case round =>
    clear hb23 G1
    obtain ⟨x, hx, rfl, hbel, G1⟩ := hrel
    by_cases hlt : x < N
    · have hii : (x : Int) < (N : Int) := by omega
      have hf := G1.out.frozen x
      obtain ⟨o, ho⟩ : ∃ old, wr.cell? ⟨w2.heap.size, x, none⟩ = some old := ⟨_, G1.out.num (i := x) hlt⟩
      have G2 := Lib.hid (show Blk (wr.setCell ⟨w2.heap.size, x, none⟩ (.int .i64 (x : Int))) w2.heap.size (natA N fun q => if q < x + 1 then q else 0) 3 by
        have := G1.out.numSet x x
        rwa [natA_ext (g := fun q => if q < x + 1 then q else 0) (fun q _ => upd_id x q)] at this)
      clear G1
      go_wp2_with fail
      go_roundw
      case rel => exact ⟨x + 1, by omega, by go_num, hbel.setCell (Nat.le_refl _) _, G2⟩
      case measure => simp [intOf]; omega
    · obtain rfl : N = x := by omega
      have hii : ¬ (N : Int) < (N : Int) := by omega
      have HP0 := Lib.hid (show Blk wr w2.heap.size (natA N fun q => q) 3 by
        have := G1.out
        rwa [natA_ext (g := fun q => q) (fun q h => if_pos h)] at this)
      have HBa := Lib.hid hbel
      have HPN := Lib.hid (PermN.id N)
      clear G1 hbel
      go_wp2_with fail
      go_loopw [64] (fun t wq => ∃ (x : Nat) (f : Nat → Nat), x ≤ N ∧ t = .int .i64 x ∧ Below w2.heap.size w2 wq ∧ Hid (PermN N f) ∧ Hid (Blk wq w2.heap.size (natA N f) 3)) (fun t _ => N - (intOf t).toNat)
      case atStart => exact ⟨0, fun q => q, Nat.zero_le _, rfl, HBa.out, HPN, HP0⟩
      case round =>
        clear HBa HPN HP0
        obtain ⟨x, f, hx, rfl, hbel, HPN, HP⟩ := hrel
        obtain ⟨wm, rfl⟩ : ∃ y : World, y = wr := ⟨_, rfl⟩
        by_cases hlt : x < N
        · have hii : (x : Int) < (N : Int) := by omega
          go_upto_if 71 with fail
          go_cut [15] from 65 to 92 (fun s wx => ∃ j : Nat, j < N ∧ s = .int .i64 j ∧ wm = wx)
          case first =>
            by_cases hxy : x < y
            · have hxi : (x : Int) < (y : Int) := by omega
              obtain ⟨bc, oc, rfl, hbc, hcc⟩ := HPC.out.at_ x (by rw [HPY.out]; exact hxy)
              have hpl : x < ps.length := by rw [HPY.out]; exact hxy
              obtain ⟨pv, hpv⟩ : ∃ pv, ps[x] = pv := ⟨_, rfl⟩
              obtain ⟨hp1, hp2⟩ := HPB.out ps[x] (List.getElem_mem hpl)
              rw [hpv] at hcc hp1 hp2
              have hcd := (hbel.cell (p := ⟨bc, oc + x, none⟩) (Nat.lt_of_lt_of_le hbc HB2.out.size)).trans ((HB2.out.cell (p := ⟨bc, oc + x, none⟩) hbc).trans hcc)
              obtain ⟨q1, q2⟩ := withinI_range pv (N : Int) (by omega)
              obtain ⟨jj, hjj⟩ : ∃ jj : Nat, withinI pv (N : Int) = (jj : Int) := ⟨(withinI pv (N : Int)).toNat, by omega⟩
              have HWJ := Lib.hid (within_any pv (N : Int) wm hp1 hp2 (by omega))
              rw [hjj] at HWJ
              have hjN : jj < N := by omega
              clear hpv hcc hjj q1 q2
              go_wp2_with fail
              with_reducible refine (HWJ.out).mono ?_
              rintro e wx ⟨rfl, rfl⟩
              clear HWJ
              go_wp2_with fail
              go_meet
              case rel => exact ⟨jj, hjN, rfl, rfl⟩
            · have hxi : ¬ (x : Int) < (y : Int) := by omega
              go_wp2_with fail
              go_meet
              case rel => exact ⟨x, hlt, rfl, rfl⟩
          case rest =>
            obtain ⟨j, hjN, rfl, rfl⟩ := hcut
            have hci := HP.out.num (i := x) hlt
            have hcj := HP.out.num (i := j) hjN
            have hfi := HP.out.frozen x
            have hfj := HP.out.frozen j
            have hji : (j : Int) < (N : Int) := by omega
            have HPN2 := Lib.hid (HPN.out.swap hlt hjN)
            have HP2 := Lib.hid ((HP.out.numSet x (f j)).numSet j (f x))
            obtain ⟨o2, hcj2⟩ : ∃ o, (wm.setCell ⟨w2.heap.size, x, none⟩ (.int .i64 (f j : Int))).cell? ⟨w2.heap.size, j, none⟩ = some o := ⟨_, (HP.out.numSet x (f j)).num (i := j) hjN⟩
            have hfj2 : (wm.setCell ⟨w2.heap.size, x, none⟩ (.int .i64 (f j : Int))).frozen? ⟨w2.heap.size, j, none⟩ = false := (HP.out.numSet x (f j)).frozen j
            generalize hfx : f x = fx at *
            generalize hfjj : f j = fj at *
            have HFX := Lib.hid hfx
            have HFJ := Lib.hid hfjj
            clear hfx hfjj
            go_wp2_with fail
            refine wp_region_noPanic ?_
            go_region
            refine NoPanic.normal ?_
            have hb9 : Below w2.heap.size w2 ((wm.setCell ⟨w2.heap.size, x, none⟩ (.int .i64 (fj : Int))).setCell ⟨w2.heap.size, j, none⟩ (.int .i64 (fx : Int))).drew := ((hbel.setCell (Nat.le_refl _) _).setCell (Nat.le_refl _) _).drew
            have HP3 := Lib.hid (HP2.out.drewN 1)
            clear HP2 hci hcj hfi hfj hcj2 hfj2 HP
            go_wp2_with fail
            go_roundw
            case rel => exact ⟨x + 1, _, by omega, by go_num, hb9, HPN2, HP3⟩
            case measure => simp [intOf]; omega
        · obtain rfl : N = x := by omega
          have hii : ¬ (N : Int) < (N : Int) := by omega
          have HB4 := Lib.hid (HB2.out.trans (hbel.mono HB2.out.size))
          have HBq := Lib.hid hbel
          have LB4 := Lib.hid (LB2.out.on hbel)
          have LC4 := Lib.hid (LC2.out.on hbel)
          have HPF := Lib.hid (fun W (h : Below wm.heap.size wm W) => HP.out.below h HP.out.lt)
          have HSU := Lib.hid (fun j => pickB_succ (encL G b K N) f j)
          have HFN := Lib.hid HPN.out.1
          have hle4 := hbel.size
          clear hbel hlt LB2 LC2 HB2 HPC HPB
          go_wp2_with fail
          go_loopw [16, 17] (fun v t wq => ∃ j : Nat, j ≤ K ∧ t = .int .i64 j ∧ Hid (OwnBl wq wm.heap.size wm.heap.size v (pickB (encL G b K N) f j)) ∧ Below wm.heap.size wm wq) (fun _ t _ => K - (intOf t).toNat)
          case atStart => exact ⟨0, Nat.zero_le _, rfl, Lib.hid (OwnBl.nil _ _ _), Below.refl _ _⟩
          case round =>
            obtain ⟨j, hjK, rfl, HO, hbel⟩ := hrel
            by_cases hlt : j < K
            · have hjk : (j : Int) < (K : Int) := by omega
              have hjn : (j : Int) < (N : Int) := by omega
              have hle := hbel.size
              have hci := (HPF.out wr hbel).num (i := j) (by omega)
              have hfn := HFN.out j (by omega)
              have HSJ := Lib.hid (HSU.out j)
              obtain ⟨fj, hfj⟩ : ∃ fj, f j = fj := ⟨_, rfl⟩
              rw [hfj] at hci hfn HSJ
              have hfn2 : (fj : Int) < (N : Int) := by omega
              obtain ⟨bb, oo, A1, c1, rfl, hbs, hcx, hlc, hcm, hrd⟩ := HVM.out.rowAt (i := fj) hfn
              have hcy := (hbel.cell (p := ⟨bb, oo + fj, none⟩) (Nat.lt_of_lt_of_le hbs hle4)).trans ((HBq.out.cell (p := ⟨bb, oo + fj, none⟩) hbs).trans hcx)
              obtain ⟨row, hrow⟩ : ∃ row, (encL G b K N).getD fj [] = row := ⟨_, rfl⟩
              rw [hrow] at hcy hrd hlc HSJ
              obtain ⟨rl, hrl⟩ : ∃ rl, row.length = rl := ⟨_, rfl⟩
              rw [hrl] at hcy hlc
              have HRL := Lib.hid hrl
              have HRD := Lib.hid (((hrd.below HBq.out (Nat.le_refl _)).more hle4).below hbel (Nat.le_refl _))
              have HKEEP := Lib.hid (fun W (h : Below wm.heap.size wm W) => (⟨(HPF.out W h).num (i := j) (by omega), (h.cell (p := ⟨bb, oo + fj, none⟩) (Nat.lt_of_lt_of_le hbs hle4)).trans (((hbel.cell (p := ⟨bb, oo + fj, none⟩) (Nat.lt_of_lt_of_le hbs hle4)).symm).trans hcy), h⟩ : W.cell? ⟨w2.heap.size, j, none⟩ = some (.int .i64 (f j : Int)) ∧ W.cell? ⟨bb, oo + fj, none⟩ = some (.slice A1 rl c1) ∧ Below wm.heap.size wm W))
              rw [hfj] at HKEEP
              have HAPP := Lib.hid (fun W (h : Below wr.heap.size wr W) => (⟨HO.out.on hle h, HRD.out.below h hle, Nat.le_trans hle h.size, hbel.trans (h.mono hle)⟩ : OwnBl W wm.heap.size wm.heap.size u16 (pickB (encL G b K N) f j) ∧ Rd W wm.heap.size A1 row ∧ wm.heap.size ≤ W.heap.size ∧ Below wm.heap.size wm W))
              clear hrow hrd hcx hrl hfj HSU
              obtain ⟨wo, rfl⟩ : ∃ y : World, y = wr := ⟨_, rfl⟩
              go_wp2_with fail
              go_region_held3 (fun W => W.cell? ⟨w2.heap.size, j, none⟩ = some (.int .i64 (fj : Int)) ∧ W.cell? ⟨bb, oo + fj, none⟩ = some (.slice A1 rl c1) ∧ Below wm.heap.size wm W)
                ((first | exact HKEEP.out _ ‹_› | exact HKEEP.out _ (Below.drew ‹_›) | exact HKEEP.out _ (below_drewN ‹_› _) | exact HKEEP.out _ (Below.alloc (by assumption) (by assumption) _) | exact HKEEP.out _ (Below.alloc (by assumption) (by assumption) _).drew | exact HKEEP.out _ (Below.alloc (Below.drew (by assumption)) (by assumption) _)))
                ((first
                  | (refine step_append_blob rfl _ _ 31 rfl wm.heap.size i1 Try.underlying31 hi hz0 hz1 hz2 _ wm.heap.size (pickB (encL G b K N) f j) rfl (fj : Int) A1 rl c1 row (HAPP.out _ (by first | exact ((Below.refl _ _).alloc (Nat.le_refl _) _).drew | exact (Below.refl _ _).alloc (Nat.le_refl _) _)).1 _ (heap_alloc_new _ _) rfl HRL.out hlc hcm (HAPP.out _ (by first | exact ((Below.refl _ _).alloc (Nat.le_refl _) _).drew | exact (Below.refl _ _).alloc (Nat.le_refl _) _)).2.1 (by rw [pickB_len]; omega) (HAPP.out _ (by first | exact ((Below.refl _ _).alloc (Nat.le_refl _) _).drew | exact (Below.refl _ _).alloc (Nat.le_refl _) _)).2.2.1 (Nat.le_refl _) ?_
                     intro v7 w7 hown7 hb7
                     have hq7 : Below wm.heap.size wm w7 := (HAPP.out _ (by first | exact ((Below.refl _ _).alloc (Nat.le_refl _) _).drew | exact (Below.refl _ _).alloc (Nat.le_refl _) _)).2.2.2.trans hb7)))
              have HO7 := Lib.hid (show OwnBl w7 wm.heap.size wm.heap.size v7 (pickB (encL G b K N) f (j + 1)) by rw [HSJ.out]; exact hown7)
              clear hown7 hb7 HO hbel HRD HKEEP HAPP hci hcy
              go_wp2_with fail
              go_roundw
              case rel => exact ⟨j + 1, by omega, by go_num, HO7, hq7⟩
              case measure => simp [intOf]; omega
            · obtain rfl : K = j := by omega
              have hjk : ¬ (K : Int) < (K : Int) := by omega
              have hle := hbel.size
              obtain ⟨AL, cL, rfl, hcL, _⟩ := HO.out.form (pickB_len (encL G b K N) f K)
              have LL5 := Lib.hid (HO.out.blv hle)
              have LB5 := Lib.hid (LB4.out.on hbel)
              have LC5 := Lib.hid (LC4.out.on hbel)
              have LV5 := Lib.hid ((HVM.out.on HBq.out).on hbel)
              have HB5 := Lib.hid (HB4.out.trans (hbel.mono HB4.out.size))
              have HSB := Lib.hid (fun j (hj : j ≤ K) => pick_small (G := G) (b := b) (k := K) (n := N) (j := j) (s := 100) (f := f) (fun x hx => HPN.out.1 x (by omega)) HSEG.out)
              have HDEC := Lib.hid (fun er out => pick_dec (G := G) (b := b) (k := K) (n := N) (f := f) (er := er) (out := out) hK1 (fun i h => HPN.out.1 i (by omega)) (fun i j h1 h2 e => HPN.out.2 i j (by omega) (by omega) e))
              have HSHO := Lib.hid (fun er out => pick_short (G := G) (E := encL G b K N) (k := K) (n := N) (f := f) (er := er) (out := out) hK1)
              obtain ⟨K1, hKK⟩ : ∃ K1, K - 1 = K1 := ⟨_, rfl⟩
              have hKi1 : (K : Int) - 1 = (K1 : Int) := by omega
              have hK1K : K1 ≤ K := by omega
              rw [hKK] at HSHO
              have HTK := Lib.hid (pickB_take (encL G b K N) f hK1K)
              have HPL := Lib.hid (show (shL b K).length ≤ 1000 by
                have h4 := shN_lt b.length hK1
                have h5 := shL_len b K
                have := HBL.out
                omega)
              have HLS := Lib.hid (show lenI (zb : Int) K = (segN b K : Int) by rw [← HBL.out]; exact lenI_seg b hK1)
              have HROW := Lib.hid (show ((encL G b K N).getD 0 []).length = segN b K by rw [encL_at _ _ _ (show 0 < N by omega), sumRow_len])
              generalize segN b K = sg at *
              clear HO hbel LB4 LC4 HB4 HVM HBq HPF HSU hlt hKK HP HPN
              go_wp2_with fail
              with_reducible refine (cdec_any HG.out LC5.out LL5.out (fun i h => Nat.le_trans (HSB.out K (Nat.le_refl _) i h) (by omega))).mono ?_
              rintro e w6 ⟨xv, er, out, rfl, hde, hx, hb⟩
              have LL6 := Lib.hid (LL5.out.on hb)
              have LC6 := Lib.hid (LC5.out.on hb)
              have LV6 := Lib.hid (LV5.out.on hb)
              have LB6 := Lib.hid (LB5.out.on hb)
              have LX6 := Lib.hid hx
              have HB6 := Lib.hid (HB5.out.trans (hb.mono HB5.out.size))
              obtain ⟨rfl, rfl⟩ := HDEC.out er out hde
              clear hde HDEC
              clear hb LL5 LC5 LV5 LB5 hx HB5
              go_wp2_with fail
              have HLC := Lib.hid (show BlV w6 (.slice AL K1 cL) (pickB (encL G b K N) f K1) by have := LL6.out.cut hK1K; rwa [HTK.out] at this)
              clear LL6
              with_reducible refine (cdec_any HG.out LC6.out HLC.out (fun i h => Nat.le_trans (HSB.out K1 hK1K i h) (by omega))).mono ?_
              rintro e w7 ⟨yv, er, out, rfl, hde, hy, hb⟩
              have LC7 := Lib.hid (LC6.out.on hb)
              have LV7 := Lib.hid (LV6.out.on hb)
              have LB7 := Lib.hid (LB6.out.on hb)
              have LX7 := Lib.hid (LX6.out.on hb)
              have HB7 := Lib.hid (HB6.out.trans (hb.mono HB6.out.size))
              obtain rfl := HSHO.out er out hde
              clear hde hy HSHO HLC
              clear hb LC6 LV6 LB6 LX6 HB6
              obtain ⟨bx, ox, A1, c1, rfl, hbx, hcx, _, _, _⟩ := (LV7.out).rowAt (i := 0) (by omega)
              rw [HROW.out, Nat.add_zero] at hcx
              have HKEEP := Lib.hid (fun W (h : Below w7.heap.size w7 W) => (⟨(h.cell (p := ⟨bx, ox, none⟩) hbx).trans hcx, h⟩ : W.cell? ⟨bx, ox, none⟩ = some (.slice A1 sg c1) ∧ Below w7.heap.size w7 W))
              have HPADX := Lib.hid (fun W (h : Below w7.heap.size w7 W) => (show Calls Try.prog 19 #[.slice A zb c, .int .i64 (K : Int)] W fun e W' => ∃ x, e = .returned x ∧ BV W' x (shL b K) ∧ Below w7.heap.size w7 W' by
                have := cpad_any (K : Int) (LB7.out.on h) (by rw [HBL.out]; omega) (by omega)
                rw [show (max (K : Int) 1).toNat = K by omega] at this
                exact this.mono fun _ _ ⟨x, h1, h2, h3⟩ => ⟨x, h1, h2, h.trans (h3.mono h.size)⟩))
              have HSAMEX := Lib.hid (fun W x (hx : BV W x (shL b K)) (h : Below w7.heap.size w7 W) => (show Calls Try.prog 20 #[xv, x] W fun e W' => e = .returned (.bool true) ∧ Below w7.heap.size w7 W' from
                (bveq_yes (LX7.out.on h) hx (Nat.le_trans HPL.out (by omega))).mono fun _ _ ⟨h1, h2⟩ => ⟨h1, h.trans (h2.mono h.size)⟩))
              have HLENX := Lib.hid (fun W (h : Below w7.heap.size w7 W) => (show Calls Try.prog 25 #[.pointer (some ⟨g, 0, none⟩), .int .i64 (zb : Int)] W fun e W' => e = .returned (.int .i64 (sg : Int)) ∧ Below w7.heap.size w7 W' by
                have := clen_any (zb : Int) (LC7.out.on h) (by omega) (by omega)
                rw [HLS.out] at this
                exact this.mono fun _ _ ⟨h1, h3⟩ => ⟨h1, h.trans (h3.mono h.size)⟩))
              have HWKX := Lib.hid (fun W (h : Below w7.heap.size w7 W) => (show Calls Try.prog 17 #[] W fun e W' => e = .returned (.bool true) ∧ Below w7.heap.size w7 W' from
                (wakes6_any W).mono fun _ _ ⟨h1, h3⟩ => ⟨h1, h.trans (h3.mono h.size)⟩))
              have HEND := Lib.hid (fun W (h : Below w7.heap.size w7 W) => HB7.out.trans (h.mono HB7.out.size))
              have hb0 : Below w7.heap.size w7 w7 := Below.refl _ _
              clear LV7 LC7 LB7 LX7 HB7
              go_wp2_with fail
              have hN0 : (0 : Int) < (N : Int) := by omega
              have hN00 : 0 < N := by omega
              have hN01 : ¬ N = 0 := by omega
              go_region_held3 (fun W => W.cell? ⟨bx, ox, none⟩ = some (.slice A1 sg c1) ∧ Below w7.heap.size w7 W)
                ((first | exact HKEEP.out _ ‹_› | exact HKEEP.out _ (Below.drew ‹_›) | exact HKEEP.out _ (below_drewN ‹_› _)))
                ((first
                  | (go_at_call 19; refine (HPADX.out _ (by first | assumption | exact Below.drew (by assumption) | exact below_drewN (by assumption) _)).mono ?_; rintro e W ⟨xp, rfl, hxp, hbW⟩)
                  | (go_at_call 20; refine (HSAMEX.out _ _ hxp (by first | assumption | exact Below.drew (by assumption) | exact below_drewN (by assumption) _)).mono ?_; rintro e W ⟨rfl, hbW⟩)
                  | (go_at_call 25; refine (HLENX.out _ (by first | assumption | exact Below.drew (by assumption) | exact below_drewN (by assumption) _)).mono ?_; rintro e W ⟨rfl, hbW⟩)
                  | (go_at_call 17; refine (HWKX.out _ (by first | assumption | exact Below.drew (by assumption) | exact below_drewN (by assumption) _)).mono ?_; rintro e W ⟨rfl, hbW⟩)))
              all_goals (go_wp2_with fail; go_ret; exact ⟨rfl, HEND.out _ (by assumption)⟩)

set_option maxRecDepth 100000 in
theorem contract (H : Type) (enc : TypeId × Value → H) (W : World) (base : Nat) (args : Array Value) (ds gs : List (DataW H)) (before : List MemPlace)
    (hval : ∀ (j : Nat) t v, Try.f8.params[j]? = some t → args[j]? = some v → Value.okWide Try.prog W .any base t v)
    (hW : DataW.Whole enc Try.prog Try.f8.params.toList Rows.rsAnySpec.vars false W args.toList ds gs before) :
    Calls Try.prog 8 args W fun e W' => ∃ v, e = .returned v ∧ Rows.rsAnySpec.post enc Try.prog Try.f8 false true false false W args v W' := by
  have hW' := hW
  obtain ⟨p, q, hA0, hV, rfl, hfz, hnd⟩ := hW
  have hA : DataW.TrodAll enc Try.prog W 0 (fun _ => true) true Try.f8.params.toList args.toList ds p := hA0
  rw [Try.params8] at hA hval
  obtain ⟨v0, v1, v2, v3, d0, d1, d2, d3, p0, p1, p2, p3, rfl, rfl, rfl, h0, h1, h2, h3⟩ := trodAll_four hA
  obtain ⟨rfl, rfl⟩ := trodVars_none hV
  obtain ⟨A0, m0, c0, l0, rfl, hl0, hc0, hm0, hr0⟩ := open_bytes (hval 0 22 v0 rfl rfl) h0
  obtain ⟨n1, rfl, rfl, rfl, wf1⟩ := open_int Try.underlying3 (hval 1 3 v1 rfl rfl) h1
  have b1 := bounds_i64 wf1
  obtain ⟨n2, rfl, rfl, rfl, wf2⟩ := open_int Try.underlying3 (hval 2 3 v2 rfl rfl) h2
  have b2 := bounds_i64 wf2
  obtain ⟨A3, m3, c3, l3, rfl, hl3, hc3, hm3, hr3, hz3⟩ := open_introw (hval 3 51 v3 rfl rfl) h3
  clear hA0
  refine (walk A0 A3 m0 c0 m3 c3 l0 l3 n1 n2 W hl0 hc0 hr0 hl3 hr3 hz3 b1.1 b1.2 b2.1 b2.2).mono fun e W' ⟨he, hb⟩ => ?_
  exact ⟨_, he, law_post hW' rfl (by kernel_rfl) rfl (by kernel_rfl) hb⟩

set_option maxRecDepth 100000 in
theorem lifted (os : Os) (started : os.Started) (H : Type) (enc : TypeId × Value → H) :
    ReturnsInHanded {} Try.checked os 8 .any (Rows.rsAnySpec.pre6 enc Try.prog Try.f8 Rows.rsAnyRow.domain false) (Rows.rsAnySpec.post enc Try.prog Try.f8 false true false false) := by
  refine returnsInHanded_of_change (C := Try.checked) own started (by kernel_rfl) Try.func8
    (ChangeSpec.witness6 (enc := enc) (C := Try.checked) false ⟨#[], #[.slice none 0 0, .int .i64 0, .int .i64 0, .slice none 0 0], []⟩ 8 (by kernel_rfl) (by kernel_rfl) (by kernel_rfl) (by kernel_rfl)) ?_
  intro W base args ds gs before hval0 hW _ _
  have hval : ∀ (j : Nat) t v, Try.f8.params[j]? = some t → args[j]? = some v → Value.okWide Try.prog W .any base t v := hval0
  exact contract H enc W base args ds gs before hval hW

/-- The statement. -/
theorem card : Rows.RsAnySaid :=
  OpenClaim.holds_of_wide 8 Try.f8 rfl rfl rfl rfl rfl rfl rfl ⟨rfl, rfl, rfl, rfl, rfl⟩ rfl rfl rfl rfl rfl (by kernel_rfl) Try.func8 (by kernel_rfl)
    (of_decide_eq_true (by kernel_rfl)) (by unfold Func.isWrapper; first | (rw [if_pos (by decide +kernel)]; kernel_rfl) | (rw [if_neg (by decide +kernel)]; exact ⟨rfl, rfl⟩))
    (fun os started H enc _ => lifted os started H enc)
end Go.Proofs.Ytdaofffkbnkljaa.rsAny
