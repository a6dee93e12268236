/- StoreDrops: a disk that stops in a drop leaves the name's data or none; full stores say so. For all numbers, at every stop. -/
import Derived.Test.YtffllpjlghehiaaDoorLaw
import Derived.Test.YtffllpjlghehiaaDoorDrp
import Derived.Deep.CutRange
namespace Go.Proofs.YtffllpjlghehiaaDoor.storeDrops
open Go.ChangeShapes Go.WideShapes Go.ChangeAt Go.RowKit

set_option maxRecDepth 100000 in
set_option maxHeartbeats 16000000 in
theorem walk (n which at_ keep : Int) (w : World) (n0 : -9223372036854775808 ≤ n) (n1 : n ≤ 9223372036854775807) (c0 : -9223372036854775808 ≤ which) (c1 : which ≤ 9223372036854775807) (a0 : -9223372036854775808 ≤ at_) (a1 : at_ ≤ 9223372036854775807) (htab : Pow10 w.heap.size w) :
    Calls Tryd.prog 8 #[.int .i64 n, .int .i64 which, .int .i64 at_, .int .i64 keep] w fun e w' => e = .returned (.bool true) ∧ Below w.heap.size w w' := by
  have HT := Lib.hid htab
  have hr4 := withinI_range n 4 (by omega)
  obtain ⟨v, hv⟩ : ∃ v : Nat, withinI n 4 = (v : Int) := ⟨(withinI n 4).toNat, by omega⟩
  rw [hv] at hr4
  have HWN := Lib.hid (show Calls Tryd.prog 13 #[.int .i64 n, .int .i64 4] w fun e w' => e = .returned (.int .i64 (v : Int)) ∧ w = w' from by rw [← hv]; exact within_any n 4 w (by omega) (by omega) (by omega))
  have hv4 : v < 4 := by omega
  have hrw := withinI_range which (1 + (v : Int)) (by omega)
  obtain ⟨u, hu⟩ : ∃ u : Nat, withinI which (1 + (v : Int)) = (u : Int) := ⟨(withinI which (1 + (v : Int))).toNat, by omega⟩
  rw [hu] at hrw
  have HWW := Lib.hid (show Calls Tryd.prog 13 #[.int .i64 which, .int .i64 (1 + (v : Int))] w fun e w' => e = .returned (.int .i64 (u : Int)) ∧ w = w' from by rw [← hu]; exact within_any which (1 + (v : Int)) w (by omega) (by omega) (by omega))
  have huv : u < v + 1 := by omega
  have hra := withinI_range at_ 2 (by omega)
  obtain ⟨a, ha⟩ : ∃ a, withinI at_ 2 = a := ⟨_, rfl⟩
  rw [ha] at hra
  have HWA := Lib.hid (fun W => (show Calls Tryd.prog 13 #[.int .i64 at_, .int .i64 2] W fun e w' => e = .returned (.int .i64 a) ∧ W = w' from by rw [← ha]; exact within_any at_ 2 W (by omega) (by omega) (by omega)))
  clear htab hv hu ha hr4 hrw n0 n1 c0 c1 a0 a1
  go_enter Tryd.func8, Tryd.ntmps8
  go_wp2_with fail
  with_reducible refine HWN.out.mono ?_
  rintro e w' ⟨rfl, rfl⟩
  go_wp2_with fail
  with_reducible refine HWW.out.mono ?_
  rintro e w' ⟨rfl, rfl⟩
  clear HWN HWW
  go_wp2_with fail
  with_reducible refine (pnew_at 12 12 rfl w (by omega) (by omega)).mono ?_
  rintro e w1 ⟨p, rfl, hp, g, hg, D1, hb1⟩
  have HD1 := Lib.hid (show DP w1 p g (4 * (2 + 1)) 12 (newD (4 * (2 + 1))) from D1)
  clear D1
  go_wp2_with fail
  with_reducible refine (open_re HD1.out (by omega) (by omega) (new_re 2 4) rfl (i := 4) (j := 2) rfl rfl).mono ?_
  rintro e w2 ⟨q, b, rfl, hq, hb, S2, L2, C2⟩
  rw [new_same] at S2 L2
  have hbl2 := hb1.trans (C2.below hb1.size (two_ge hp hg))
  have HS2 := Lib.hid S2
  have HL2 := Lib.hid L2
  have hq' : w.heap.size ≤ q := Nat.le_trans hb1.size hq
  have hb' : w.heap.size ≤ b := Nat.le_trans hb1.size hb
  have HB2 := Lib.hid hbl2
  have HFS := Lib.hid (fourS_ge hq' hp hg hb')
  have HTW := Lib.hid (two_ge hp hg)
  clear S2 L2 C2 HD1 hb1 hq hb hbl2 hq' hb' hp hg
  go_wp2_with fail
  go_loopw [14] (fun t wr => ∃ (j : Nat) (s : Dsk) (L : List (Rec11 × Nat)), j ≤ v + 1 ∧ t = .int .i64 j ∧ Hid (ST wr q p g b 12 s 2 4 j ⟨L, false⟩) ∧ Hid (Live ⟨L, false⟩ s 2 4 j) ∧ Hid (Lets L j) ∧ Hid (Below w.heap.size w wr)) (fun t _ => v + 1 - (intOf t).toNat)
  case atStart => exact ⟨0, _, [], by omega, rfl, HS2, HL2, Lib.hid Lets.nil, HB2⟩
  case round =>
    obtain ⟨j, s, L, hj, rfl, HS, HL, HE, HB⟩ := hrel
    clear HS2 HL2 HB2
    by_cases hlt : j < v + 1
    · have hlt1 : (j : Int) < 1 + (v : Int) := by omega
      have hw8 : ((UInt8.ofNat j).toNat : Int) = (j : Int) := by
        have h : j < 4 := by omega
        match j, h with
        | 0, _ => rfl
        | 1, _ => rfl
        | 2, _ => rfl
        | 3, _ => rfl
      have HW8 := Lib.hid hw8
      clear hw8
      have hx1 : IntKind.i64.wrap ((j : Int) + 1) = ((j + 1 : Nat) : Int) := by rw [IntWalk.i64_in _ (by omega)]; omega
      go_wp2_with fail
      with_reducible refine (name_any j (by omega) _).mono ?_
      rintro e w3 ⟨rfl, hb3⟩
      have HB3 := Lib.hid (HB.out.trans (hb3.mono HB.out.size))
      have HS3 := Lib.hid (HS.out.below hb3)
      clear hb3 HB HS
      go_wp2_with fail
      have hlb : Below w3.heap.size w3 (w3.alloc (.cells #[.int .u8 ((UInt8.ofNat j).toNat : Int)] 5)) := (Below.refl _ _).alloc (Nat.le_refl _) _
      have hlr : Rd (w3.alloc (.cells #[.int .u8 ((UInt8.ofNat j).toNat : Int)] 5)) (w3.alloc (.cells #[.int .u8 ((UInt8.ofNat j).toNat : Int)] 5)).heap.size (some ⟨w3.heap.size, 0, none⟩) [UInt8.ofNat j] := Rd.of_blk (bs := [UInt8.ofNat j]) (Blk.new w3 _ 5)
      rw [HW8.out] at hlb hlr
      have hbl4 := HB3.out.trans (hlb.mono HB3.out.size)
      with_reducible refine (lput (HS3.out.below hlb) HL.out (by omega) (nmD j) [UInt8.ofNat j] rfl _ 1 1 rfl (by omega) (by unfold maxLen; omega) hlr (tab_on HT.out hbl4 hbl4.size) (by simp [nmD]) (by omega) (by simp [nmD]) (by show L.length < 4; rw [HE.out.len]; omega)).mono ?_
      rintro e w5 ⟨s5, j5, _, rfl, S5, L5, C5⟩
      have HS5 := Lib.hid S5
      have HL5 := Lib.hid L5
      have HE5 := Lib.hid (HE.out.put (by omega) j5)
      have HB5 := Lib.hid (hbl4.trans (C5.below hbl4.size HFS.out))
      clear S5 L5 C5 hlb hlr hbl4 HS3 HB3 HL HE
      go_wp2_with fail
      go_roundw
      case rel => exact ⟨j + 1, _, _, by omega, by go_num, HS5, HL5, HE5, HB5⟩
      case measure => simp [intOf]; omega
    · have hge : ¬ (j : Int) < 1 + (v : Int) := by omega
      obtain rfl : j = v + 1 := by omega
      clear hlt hj
      go_upto_region 15 with fail
      go_cut [15] from 57 to 58 (fun c wx => ∃ (C : Int) (s : Dsk) (L : List (Rec11 × Nat)) (m : Nat), c = .int .i64 C ∧ m < 8 ∧ Hid (ST wx q p g b 12 s 2 4 m ⟨L, false⟩) ∧ Hid (Live ⟨L, false⟩ s 2 4 m) ∧ Hid (Letters L (v + 1)) ∧ ((v = 3 ∧ C = 3 ∧ L.length = 4) ∨ (v < 3 ∧ C = 0)) ∧ Hid (Below w.heap.size w wx))
      case first =>
        by_cases h3 : v = 3
        · have hroom : L.length = 4 := by rw [HE.out.len]; omega
          have H3 := Lib.hid h3
          clear h3
          go_wp2_with fail
          with_reducible refine (lputfull HS.out HL.out (by omega) [122, 122] rfl (tab_on HT.out HB.out HB.out.size) (by simp) (by simp) hroom).mono ?_
          rintro e w3 ⟨rfl, S3, C3⟩
          have HS3 := Lib.hid S3
          have HL3 := Lib.hid (HL.out.more (Nat.le_succ _))
          have HE3 := Lib.hid HE.out.letters
          have HB3 := Lib.hid (HB.out.trans (C3.below HB.out.size HFS.out))
          clear S3 C3
          go_wp2_with fail
          go_meet
          case rel => exact ⟨3, _, _, _, rfl, by omega, HS3, HL3, HE3, .inl ⟨H3.out, rfl, hroom⟩, HB3⟩
        · have hroom : L.length < 4 := by rw [HE.out.len]; omega
          go_wp2_with fail
          with_reducible refine (lput HS.out HL.out (by omega) [122, 122] [] rfl none 0 0 rfl (by omega) (by unfold maxLen; omega) (Rd.nil _ _ _) (tab_on HT.out HB.out HB.out.size) (by simp) (by omega) (by simp) hroom).mono ?_
          rintro e w3 ⟨s3, j3, _, rfl, S3, L3, C3⟩
          have HS3 := Lib.hid S3
          have HL3 := Lib.hid L3
          have HE3 := Lib.hid (HE.out.zz j3)
          have HB3 := Lib.hid (HB.out.trans (C3.below HB.out.size HFS.out))
          clear S3 L3 C3
          go_wp2_with fail
          go_meet
          case rel => exact ⟨0, _, _, _, rfl, by omega, HS3, HL3, HE3, .inr ⟨by omega, rfl⟩, HB3⟩
      case rest =>
        clear HS HL HE HB
        obtain ⟨C, s, L, m, rfl, hm, HS, HL, HE, hC, HB⟩ := hcut
        go_upto_region 16 with fail
        go_cut [83] from 59 to 83 (fun c wx => c = .bool false ∧ ∃ (s : Dsk) (L : List (Rec11 × Nat)) (m : Nat), m < 9 ∧ Hid (ST wx q p g b 12 s 2 4 m ⟨L, false⟩) ∧ Hid (Live ⟨L, false⟩ s 2 4 m) ∧ Hid (Letters L (v + 1)) ∧ Hid (Below w.heap.size w wx))
        case first =>
          rcases hC with ⟨h3, rfl, hlen⟩ | ⟨h3, rfl⟩
          · have hb4 : (1 + (v : Int) == 4) = true := by simp; omega
            clear h3
            have hnl : (Sto.names ⟨L, false⟩).length = 4 := by
              show (L.map _).length = 4
              rw [List.length_map]; exact hlen
            have hfr : Sto.free ⟨L, false⟩ 4 = 0 := by
              unfold Sto.free
              rw [if_neg (by simp)]
              show 4 - L.length = 0
              omega
            go_wp2_with fail
            with_reducible refine (psnames_any HS.out).mono ?_
            rintro e w3 ⟨A3, c3, rfl, _, _, hb3⟩
            rw [hnl]
            have HS3 := Lib.hid (HS.out.below hb3)
            have HB3 := Lib.hid (HB.out.trans (hb3.mono HB.out.size))
            clear hb3 HS HB hnl
            go_wp2_with fail
            with_reducible refine (psfreeN_any HS3.out).mono ?_
            rw [hfr]
            rintro e w4 ⟨rfl, hb4⟩
            have HS4 := Lib.hid (HS3.out.below hb4)
            have HB4 := Lib.hid (HB3.out.trans (hb4.mono HB3.out.size))
            clear hb4 HS3 HB3 hfr
            go_wp2_with fail
            with_reducible refine (lputfull HS4.out HL.out (by omega) [97] rfl (tab_on HT.out HB4.out HB4.out.size) (by simp) (by simp) hlen).mono ?_
            rintro e w5 ⟨rfl, S5, C5⟩
            have HS5 := Lib.hid S5
            have HL5 := Lib.hid (HL.out.more (Nat.le_succ _))
            have HB5 := Lib.hid (HB4.out.trans (C5.below HB4.out.size HFS.out))
            clear S5 C5 hlen
            go_wp2_with fail
            go_meet
            case rel => exact ⟨rfl, _, _, _, by omega, HS5, HL5, HE, HB5⟩
          · have hb4 : (1 + (v : Int) == 4) = false := by simp; omega
            go_wp2_with fail
            go_meet
            case rel => exact ⟨rfl, _, _, _, by omega, HS, HL, HE, HB⟩
        case rest =>
          clear hC HS HL HE HB hm
          obtain ⟨rfl, s, L, m, hm, HS, HL, HE, HB⟩ := hcut
          go_wp2_with fail
          with_reducible refine (HWA.out _).mono ?_
          rintro e w' ⟨rfl, rfl⟩
          clear HWA
          go_wp2_with fail
          with_reducible refine (pstop_any HS.out.sp.disk a keep (by omega)).mono ?_
          rintro e w3 ⟨rfl, D3, C3⟩
          have HS3 := Lib.hid (HS.out.disk_chg D3 C3 rfl (show (s.stop a keep).keep ≤ 32 from keepOf_le keep) (fun _ => HL.out.lives))
          have HB3 := Lib.hid (HB.out.trans (C3.below HB.out.size HTW.out))
          clear D3 C3 HS HB
          go_wp2_with fail
          with_reducible refine (name_any u (by omega) _).mono ?_
          rintro e w4 ⟨rfl, hb4⟩
          have HS4 := Lib.hid (HS3.out.below hb4)
          have HB4 := Lib.hid (HB3.out.trans (hb4.mono HB3.out.size))
          clear hb4 HS3 HB3
          go_wp2_with fail
          obtain ⟨x, hx⟩ := HE.out.some huv
          obtain ⟨p1, L5, hRe, hTo⟩ := drop_told HS4.out.good HL.out.up hx
          with_reducible refine (ldrop HS4.out (nmD u) rfl).mono ?_
          rintro e w5 ⟨rfl, S5, C5⟩
          generalize Sto.drop ⟨L, false⟩ (s.stop a keep) 2 4 (nmD u) = X at *
          obtain ⟨X1, X2, K⟩ := X
          dsimp only at p1 hRe hTo S5 ⊢
          have HD5 := Lib.hid S5.sp.disk
          have HB5 := Lib.hid (HB4.out.trans (C5.below HB4.out.size HFS.out))
          have HRE := Lib.hid hRe
          have HTO := Lib.hid hTo
          clear S5 C5 HS4 HB4 hx p1 hRe hTo
          go_wp2_with fail
          with_reducible refine (pstart_any HD5.out).mono ?_
          rintro e w6 ⟨rfl, D6, C6⟩
          have HD6 := Lib.hid D6
          have HB6 := Lib.hid (HB5.out.trans (C6.below HB5.out.size HTW.out))
          clear D6 C6 HD5 HB5
          go_wp2_with fail
          with_reducible refine (open_re HD6.out (by omega) (by omega) HRE.out rfl (i := 4) (j := 2) rfl rfl).mono ?_
          rintro e w7 ⟨q7, b7, rfl, hq7, hb7, S7, L7, C7⟩
          have HS7 := Lib.hid S7
          have HL7 := Lib.hid L7
          have HB7 := Lib.hid (HB6.out.trans (C7.below HB6.out.size HTW.out))
          have HG := Lib.hid (fun i (hi : i < v + 1) => get_letter HE.out HTO.out huv (by omega) hi)
          have HN := Lib.hid (show oldE L5 [110, 111, 110, 101] = none by
            rw [HTO.out.other _ (fun e => nmD_two u _ _ _ e.symm)]
            exact HE.out.none_)
          have HF7 := Lib.hid (fourS_ge (Nat.le_trans HB6.out.size hq7) (HTW.out p (.inl rfl)) (HTW.out g (.inr rfl)) (Nat.le_trans HB6.out.size hb7))
          clear S7 L7 C7 HD6 HB6 HRE HTO HE hq7 hb7 HL HFS HTW
          generalize openD (Dsk.start X1) 2 4 = s7 at *
          go_wp2_with fail
          go_loopw [17] (fun t wr => ∃ (j : Nat), j ≤ v + 1 ∧ t = .int .i64 j ∧ Hid (ST wr q7 p g b7 12 s7 2 4 m ⟨L5, false⟩) ∧ Hid (Below w.heap.size w wr)) (fun t _ => v + 1 - (intOf t).toNat)
          case atStart => exact ⟨0, by omega, rfl, HS7, HB7⟩
          case round =>
            obtain ⟨j, hj, rfl, HS, HB⟩ := hrel
            clear HS7 HB7
            by_cases hlt : j < v + 1
            · have hlt1 : (j : Int) < 1 + (v : Int) := by omega
              have HW8 := Lib.hid (show ((UInt8.ofNat j).toNat : Int) = (j : Int) by
                have h : j < 4 := by omega
                match j, h with
                | 0, _ => rfl
                | 1, _ => rfl
                | 2, _ => rfl
                | 3, _ => rfl)
              have hx1 : IntKind.i64.wrap ((j : Int) + 1) = ((j + 1 : Nat) : Int) := by rw [IntWalk.i64_in _ (by omega)]; omega
              go_wp2_with fail
              with_reducible refine (name_any j (by omega) _).mono ?_
              rintro e w8 ⟨rfl, hb8⟩
              have HB8 := Lib.hid (HB.out.trans (hb8.mono HB.out.size))
              have HS8 := Lib.hid (HS.out.below hb8)
              clear hb8 HB HS
              go_wp2_with fail
              with_reducible refine (lget HS8.out (nmD j) rfl).mono ?_
              rcases HG.out j hlt with ⟨hg, hk⟩ | ⟨hg, hju⟩
              · rw [hg]
                rintro e w9 ⟨hb9, A9, c9, rfl, hc9, hr9⟩
                have HR9 := Lib.hid hr9
                have HB9 := Lib.hid (HB8.out.trans (hb9.mono HB8.out.size))
                have HS9 := Lib.hid (HS8.out.below hb9)
                have HK := Lib.hid hk
                clear hb9 HB8 HS8 hr9 hg hk
                by_cases hju : j = u
                · have hK8 := HK.out hju
                  have hju1 : ((j : Int) != (u : Int)) = false := by simp [hju]
                  have hju2 : ((j : Int) == (u : Int)) = true := by simp [hju]
                  subst hK8
                  clear hju
                  go_wp2_with fail
                  have hlb : Below w9.heap.size w9 (w9.alloc (.cells #[.int .u8 ((UInt8.ofNat j).toNat : Int)] 5)) := (Below.refl _ _).alloc (Nat.le_refl _) _
                  have hlr : Rd (w9.alloc (.cells #[.int .u8 ((UInt8.ofNat j).toNat : Int)] 5)) (w9.alloc (.cells #[.int .u8 ((UInt8.ofNat j).toNat : Int)] 5)).heap.size (some ⟨w9.heap.size, 0, none⟩) [UInt8.ofNat j] := Rd.of_blk (bs := [UInt8.ofNat j]) (Blk.new w9 _ 5)
                  rw [HW8.out] at hlb hlr
                  with_reducible refine (same_any A9 (some ⟨w9.heap.size, 0, none⟩) 1 1 c9 1 _ _ [UInt8.ofNat j] [UInt8.ofNat j] _ rfl rfl (by unfold maxLen; omega) (HR9.out.on hlb) hlr).mono ?_
                  rintro e w10 ⟨rfl, m10, rfl⟩
                  rw [show decide ([UInt8.ofNat j] = [UInt8.ofNat j]) = true from decide_eq_true rfl]
                  have hbx := below_drewN hlb m10
                  have HS10 := Lib.hid (HS9.out.below hbx)
                  have HB10 := Lib.hid (HB9.out.trans (hbx.mono HB9.out.size))
                  clear hlb hlr hbx HS9 HB9 HR9
                  generalize (w9.alloc (.cells #[.int .u8 (j : Int)] 5)).drewN m10 = w11 at *
                  go_wp2_with fail
                  go_roundw
                  case rel => exact ⟨j + 1, by omega, by go_num, HS10, HB10⟩
                  case measure => simp [intOf]; omega
                · have hju1 : ((j : Int) != (u : Int)) = true := by simp; omega
                  have hju2 : ((j : Int) == (u : Int)) = false := by simp; omega
                  clear hju
                  go_wp2_with fail
                  have hlb : Below w9.heap.size w9 (w9.alloc (.cells #[.int .u8 ((UInt8.ofNat j).toNat : Int)] 5)) := (Below.refl _ _).alloc (Nat.le_refl _) _
                  have hlr : Rd (w9.alloc (.cells #[.int .u8 ((UInt8.ofNat j).toNat : Int)] 5)) (w9.alloc (.cells #[.int .u8 ((UInt8.ofNat j).toNat : Int)] 5)).heap.size (some ⟨w9.heap.size, 0, none⟩) [UInt8.ofNat j] := Rd.of_blk (bs := [UInt8.ofNat j]) (Blk.new w9 _ 5)
                  rw [HW8.out] at hlb hlr
                  with_reducible refine (same_any A9 (some ⟨w9.heap.size, 0, none⟩) 1 1 c9 1 _ _ [UInt8.ofNat j] [UInt8.ofNat j] _ rfl rfl (by unfold maxLen; omega) (HR9.out.on hlb) hlr).mono ?_
                  rintro e w10 ⟨rfl, m10, rfl⟩
                  rw [show decide ([UInt8.ofNat j] = [UInt8.ofNat j]) = true from decide_eq_true rfl]
                  have hbx := below_drewN hlb m10
                  have HS10 := Lib.hid (HS9.out.below hbx)
                  have HB10 := Lib.hid (HB9.out.trans (hbx.mono HB9.out.size))
                  clear hlb hlr hbx HS9 HB9 HR9
                  generalize (w9.alloc (.cells #[.int .u8 (j : Int)] 5)).drewN m10 = w11 at *
                  go_wp2_with fail
                  go_roundw
                  case rel => exact ⟨j + 1, by omega, by go_num, HS10, HB10⟩
                  case measure => simp [intOf]; omega
              · have hju1 : ((j : Int) != (u : Int)) = false := by simp [hju]
                have hju2 : ((j : Int) == (u : Int)) = true := by simp [hju]
                rw [hg]
                rintro e w9 ⟨hb9, rfl⟩
                have HB9 := Lib.hid (HB8.out.trans (hb9.mono HB8.out.size))
                have HS9 := Lib.hid (HS8.out.below hb9)
                clear hb9 HB8 HS8 hg hju
                go_wp2_with fail
                go_roundw
                case rel => exact ⟨j + 1, by omega, by go_num, HS9, HB9⟩
                case measure => simp [intOf]; omega
            · have hge : ¬ (j : Int) < 1 + (v : Int) := by omega
              obtain rfl : j = v + 1 := by omega
              clear hlt hj HG
              go_wp2_with fail
              have hdr : Sto.drop ⟨L5, false⟩ s7 2 4 [110, 111, 110, 101] = (s7, ⟨L5, false⟩, 4) := by
                unfold Sto.drop
                rw [if_neg (by simp), HN.out]
              with_reducible refine (ldrop HS.out [110, 111, 110, 101] rfl).mono ?_
              rw [hdr]
              rintro e w8 ⟨rfl, S8, C8⟩
              have HB8 := Lib.hid (HB.out.trans (C8.below HB.out.size HF7.out))
              clear S8 C8 HS HB hdr HN HF7
              dsimp only
              go_wp2_with fail
              with_reducible refine (wakes11_any _ (tab_on HT.out HB8.out HB8.out.size)).mono ?_
              rintro e w9 ⟨rfl, hb9⟩
              have hbel9 := HB8.out.trans (hb9.mono HB8.out.size)
              go_wp2_with fail
              go_ret
              exact ⟨rfl, hbel9⟩

set_option maxRecDepth 100000 in
theorem contract (H : Type) (enc : TypeId × Value → H) (W : World) (base : Nat) (args : Array Value) (ds gs : List (DataW H)) (before : List MemPlace)
    (hval : ∀ (j : Nat) t v, Tryd.f8.params[j]? = some t → args[j]? = some v → Value.okWide Tryd.prog W .any base t v)
    (hW : DataW.Whole enc Tryd.prog Tryd.f8.params.toList Rows.storeDropsSpec.vars false W args.toList ds gs before) (hL : laidMetH Tryd.prog Rows.storeDropsRow.laid W) :
    Calls Tryd.prog 8 args W fun e W' => ∃ v, e = .returned v ∧ Rows.storeDropsSpec.post enc Tryd.prog Tryd.f8 false true false false W args v W' := by
  have hW' := hW
  obtain ⟨p, q, hA0, hV, rfl, hfz, hnd⟩ := hW
  have hA : DataW.TrodAll enc Tryd.prog W 0 (fun _ => true) true Tryd.f8.params.toList args.toList ds p := hA0
  rw [Tryd.params8] at hA hval
  obtain ⟨v0, v1, v2, v3, d0, d1, d2, d3, p0, p1, p2, p3, rfl, rfl, rfl, h0, h1, h2, h3⟩ := trodAll_four hA
  obtain ⟨rfl, rfl⟩ := trodVars_none hV
  obtain ⟨n0, rfl, rfl, rfl, wf0⟩ := open_int Tryd.underlying3 (hval 0 3 v0 rfl rfl) h0
  have b0 := bounds_i64 wf0
  obtain ⟨n1, rfl, rfl, rfl, wf1⟩ := open_int Tryd.underlying3 (hval 1 3 v1 rfl rfl) h1
  have b1 := bounds_i64 wf1
  obtain ⟨n2, rfl, rfl, rfl, wf2⟩ := open_int Tryd.underlying3 (hval 2 3 v2 rfl rfl) h2
  have b2 := bounds_i64 wf2
  obtain ⟨n3, rfl, rfl, rfl, wf3⟩ := open_int Tryd.underlying3 (hval 3 3 v3 rfl rfl) h3
  have b3 := bounds_i64 wf3
  clear hA0
  refine (walk n0 n1 n2 n3 W b0.1 b0.2 b1.1 b1.2 b2.1 b2.2 (pow10 hL)).mono fun e W' ⟨he, hb⟩ => ?_
  exact ⟨_, he, law_post hW' rfl (by kernel_rfl) rfl (by kernel_rfl) hb⟩

theorem laid_met (os : Os) : laidMet Tryd.prog Rows.storeDropsRow.laid ((laidWorld os).forCall (fun _ _ => 0) ⟨#[], #[.int .i64 0, .int .i64 0, .int .i64 0, .int .i64 0], []⟩).memory :=
  laidMet_of_run' 8 (by kernel_rfl) (by kernel_rfl)
theorem reads (os : Os) {H : Type} (enc : TypeId × Value → H) : ∃ places, DataW.whole enc Tryd.prog ((laidWorld os).forCall (fun _ _ => 0) ⟨#[], #[.int .i64 0, .int .i64 0, .int .i64 0, .int .i64 0], []⟩).memory Tryd.f8.params.toList Rows.storeDropsSpec.vars false #[Value.int .i64 0, Value.int .i64 0, Value.int .i64 0, Value.int .i64 0].toList 8 = some ([.lit (.int .i64 0), .lit (.int .i64 0), .lit (.int .i64 0), .lit (.int .i64 0)], [], places) :=
  ⟨[], by kernel_rfl⟩

set_option maxRecDepth 100000 in
theorem lifted (os : Os) (started : os.Started) (H : Type) (enc : TypeId × Value → H) (F : Stop.Interp) :
    ReturnsInHanded {} Tryd.checked os 8 .any ((OpenSpec.ofChange Rows.storeDropsSpec).preRow enc Tryd.prog Tryd.f8 Rows.storeDropsRow.domain false Rows.storeDropsRow.laid) (((OpenSpec.ofChange Rows.storeDropsSpec).at F).post enc Tryd.prog Tryd.f8 false true false false) := by
  obtain ⟨places, hx⟩ := reads os enc
  refine returnsInHanded_of_row (C := Tryd.checked) (s := OpenSpec.ofChange Rows.storeDropsSpec) own started (by kernel_rfl) Tryd.func8
    (witness_row_at (enc := enc) (C := Tryd.checked) false (laidWorld os) #[.int .i64 0, .int .i64 0, .int .i64 0, .int .i64 0] rfl (by kernel_rfl) (by kernel_rfl) (by kernel_rfl)
      (OpenSpec.preRow_of_cond 8 hx (by kernel_rfl) (fun k hk => by cases hk) (by kernel_rfl) (laid_met os))) ?_
  intro W base args ds gs before hval hW _ _ _ hL _ _
  exact contract H enc W base args ds gs before hval hW hL

theorem said : Rows.StoreDropsSaid :=
  OpenClaim.holds_of_cond 8 Tryd.f8 rfl rfl rfl rfl rfl rfl rfl ⟨rfl, rfl, rfl, rfl, rfl⟩ rfl rfl rfl rfl rfl (by kernel_rfl) Tryd.func8 (by kernel_rfl)
    (of_decide_eq_true (by kernel_rfl)) (by unfold Func.isWrapper; first | (rw [if_pos (by decide +kernel)]; kernel_rfl) | (rw [if_neg (by decide +kernel)]; exact ⟨rfl, rfl⟩))
    (fun os started H enc _ F => by rw [OpenClaim.pre_eq_preRow]; exact lifted os started H enc F)

theorem plain (f : FuncId) (fn : Func) (hf : Tryd.pinned.checked.prog.funcNamed "aumbry/aumbrylaw11.StoreDrops" = some f) (hfn : Tryd.pinned.checked.prog.funcs[f]? = some fn) :
    false = Tryd.pinned.checked.prog.looks [] ∧ ∀ (j : Nat) t, fn.params[j]? = some t → Tryd.pinned.checked.prog.wantsStandIn t = false := by
  obtain rfl : f = 8 := Option.some.inj ((show Tryd.prog.funcNamed "aumbry/aumbrylaw11.StoreDrops" = some 8 by kernel_rfl).symm.trans hf) |>.symm
  obtain rfl : fn = Tryd.f8 := (Option.some.inj (Tryd.func8.symm.trans hfn)).symm
  refine ⟨by kernel_rfl, fun j t ht => ?_⟩
  exact wants_none (by kernel_rfl) (Array.mem_of_getElem? ht)

/-- The card: the statement holds, its listed tables tied to the program's text. -/
theorem card : Rows.StoreDropsCardSaid :=
  Claim7.holds_tied_plain_at .later [] _ _ _ _ said (fun _ h => by cases h) (by kernel_rfl) (fun _ h => by cases h) storeDrops_row_tie rfl ⟨rfl, rfl⟩ (by kernel_rfl) rfl plain (by kernel_rfl)
end Go.Proofs.YtffllpjlghehiaaDoor.storeDrops
