/- StoreOpens: which stores there are on which disks. For all numbers. -/
import Derived.Test.YtffllpjlghehiaaDoorLaw
import Derived.Test.YtffllpjlghehiaaDoorWakes11
import Derived.Deep.CutRange
namespace Go.Proofs.YtffllpjlghehiaaDoor.storeOpens
open Go.ChangeShapes Go.WideShapes Go.ChangeAt Go.RowKit

set_option maxRecDepth 100000 in
set_option maxHeartbeats 16000000 in
theorem walk (sectors slots room : Int) (dead : Bool) (w : World) (s0 : -9223372036854775808 ≤ sectors) (s1 : sectors ≤ 9223372036854775807) (l0 : -9223372036854775808 ≤ slots) (l1 : slots ≤ 9223372036854775807) (r0 : -9223372036854775808 ≤ room) (r1 : room ≤ 9223372036854775807) (htab : Pow10 w.heap.size w) :
    Calls Tryd.prog 5 #[.int .i64 sectors, .int .i64 slots, .int .i64 room, .bool dead] w fun e w' => e = .returned (.bool true) ∧ Below w.heap.size w w' := by
  have HT := Lib.hid htab
  have hr60 := withinI_range sectors 60 (by omega)
  obtain ⟨v60, hv60⟩ : ∃ v, withinI sectors 60 = v := ⟨_, rfl⟩
  rw [hv60] at hr60
  have HWN := Lib.hid (show Calls Tryd.prog 13 #[.int .i64 sectors, .int .i64 60] w fun e w' => e = .returned (.int .i64 v60) ∧ w = w' from by rw [← hv60]; exact within_any sectors 60 w (by omega) (by omega) (by omega))
  clear htab hv60
  go_enter Tryd.func5, Tryd.ntmps5
  go_upto_if 14 with fail
  go_cut [0] from 13 to 16 (fun a wx => (∃ N : Int, a = .int .i64 N ∧ -9223372036854775808 ≤ N ∧ N ≤ 60) ∧ w = wx)
  case first =>
    by_cases h : 60 < sectors
    · go_wp2_with fail
      with_reducible refine HWN.out.mono ?_
      rintro e w' ⟨rfl, rfl⟩
      go_wp2_with fail
      go_meet
      case rel => exact ⟨⟨v60, rfl, by omega, by omega⟩, rfl⟩
    · go_wp2_with fail
      go_meet
      case rel => exact ⟨⟨sectors, rfl, by omega, by omega⟩, rfl⟩
  case rest =>
    obtain ⟨⟨N, rfl, hN0, hN1⟩, rfl⟩ := hcut
    clear HWN
    go_upto_region 3 with fail
    go_cut [35] from 17 to 35 (fun v wx => (∃ x : Bool, v = .bool x ∧ (x = true → 1 < slots ∧ slots < 1024 ∧ 0 < room ∧ room < 1024)) ∧ w = wx)
    case first =>
      have hm3 : slots.tmod 3 = slots.tmod 3 := rfl
      by_cases h1 : 1 < slots
      · by_cases h2 : slots < 1024
        · by_cases h3 : 0 < room
          · by_cases h4 : room < 1024
            · go_wp2_with fail
              go_meet
              case rel => exact ⟨⟨_, rfl, fun _ => ⟨h1, h2, h3, h4⟩⟩, rfl⟩
            · go_wp2_with fail
              go_meet
              case rel => exact ⟨⟨false, rfl, fun h => by cases h⟩, rfl⟩
          · go_wp2_with fail
            go_meet
            case rel => exact ⟨⟨false, rfl, fun h => by cases h⟩, rfl⟩
        · go_wp2_with fail
          go_meet
          case rel => exact ⟨⟨false, rfl, fun h => by cases h⟩, rfl⟩
      · go_wp2_with fail
        go_meet
        case rel => exact ⟨⟨false, rfl, fun h => by cases h⟩, rfl⟩
    case rest =>
      obtain ⟨⟨x, rfl, hx⟩, rfl⟩ := hcut
      go_upto_if 35 with fail
      go_cut [0, 1, 2] from 36 to 45 (fun a b c wx => (∃ N n R : Int, a = .int .i64 N ∧ b = .int .i64 n ∧ c = .int .i64 R ∧ N ≤ 60 ∧ -9223372036854775808 ≤ N ∧ -9223372036854775808 ≤ n ∧ n ≤ 9223372036854775807 ∧ -9223372036854775808 ≤ R ∧ R ≤ 9223372036854775807) ∧ w = wx)
      case first =>
        cases x with
        | true =>
          obtain ⟨h1, h2, h3, h4⟩ := hx rfl
          obtain ⟨a, ha⟩ : ∃ a, slots.tmod 9 = a := ⟨_, rfl⟩
          obtain ⟨c, hc⟩ : ∃ c, room.tmod 5 = c := ⟨_, rfl⟩
          have ha1 : 0 ≤ a ∧ a ≤ 8 := by rw [← ha, Int.tmod_eq_emod_of_nonneg (by omega)]; omega
          have hc1 : 0 ≤ c ∧ c ≤ 4 := by rw [← hc, Int.tmod_eq_emod_of_nonneg (by omega)]; omega
          have hm1 : (1 + a) * (1 + c + 1) ≤ 9 * (1 + c + 1) := Int.mul_le_mul_of_nonneg_right (by omega) (by omega)
          have hm0 : 0 ≤ (1 + a) * (1 + c + 1) := Int.mul_nonneg (by omega) (by omega)
          clear hx
          go_wp2_with fail
          go_meet
          case rel => exact ⟨⟨_, _, _, rfl, rfl, rfl, by omega, by omega, by omega, by omega, by omega, by omega⟩, rfl⟩
        | false =>
          clear hx
          go_wp2_with fail
          go_meet
          case rel => exact ⟨⟨N, slots, room, rfl, rfl, rfl, by omega, by omega, by omega, by omega, by omega, by omega⟩, rfl⟩
      case rest =>
        obtain ⟨⟨N2, n, R, rfl, rfl, rfl, b1, b2, b3, b4, b5, b6⟩, rfl⟩ := hcut
        clear hx
        by_cases hN1 : N2 < 1
        · go_wp2_with fail
          with_reducible refine (pnew_bad N2 w (.inl hN1)).mono ?_
          rintro e w1 ⟨rfl, rfl⟩
          have hb0 : Below w.heap.size w w := Below.refl _ _
          go_wp2_with fail
          with_reducible refine (wakes11_any _ (tab_on HT.out hb0 (Below.size hb0))).mono ?_
          rintro e w9 ⟨rfl, hb9⟩
          have hbel9 := hb0.trans (hb9.mono hb0.size)
          go_wp2_with fail
          go_ret
          exact ⟨rfl, hbel9⟩
        · obtain ⟨N, rfl⟩ : ∃ N : Nat, N2 = (N : Int) := ⟨N2.toNat, by omega⟩
          have HNW := Lib.hid (pnew_any N w (by omega) (by omega))
          go_wp2_with fail
          with_reducible refine HNW.out.mono ?_
          rintro e w1 ⟨p, rfl, hp, g, hg, D1, hb1⟩
          have HD1 := Lib.hid D1
          have hb1' := hb1
          clear D1 hb1 HNW
          cases dead with
          | true =>
            go_wp2_with fail
            with_reducible refine (pstop_any HD1.out 0 0 (by omega)).mono ?_
            rintro e w2 ⟨rfl, D2, C2⟩
            have HDa := Lib.hid D2
            have hbel2 := hb1'.trans (C2.below hb1'.size (two_ge hp hg))
            have HW := Lib.hid (pwrite_any D2 0 none 0 0 [] rfl (Rd.nil _ _ _))
            have hcd : ((newD N).stop 0 0).code N 0 0 = 8 := by
              unfold Dsk.code
              rw [if_neg (by unfold badW; omega), if_neg (by show ¬ (false = true); simp), if_pos ⟨rfl, rfl⟩]
            have hdd : (((newD N).stop 0 0).next N 0 []).dead = true := by
              unfold Dsk.next
              rw [if_neg (by unfold badW; simp; omega), if_neg (by show ¬ (false = true); simp), if_pos ⟨rfl, rfl⟩]
              rfl
            rw [hcd] at HW
            clear hcd D2 C2 HD1 hb1'
            go_wp2_with fail
            with_reducible refine HW.out.mono ?_
            rintro e w3 ⟨rfl, D3, C3⟩
            have HD2 := Lib.hid D3
            have hbel := hbel2.trans (C3.below hbel2.size (two_ge hp hg))
            clear D3 C3 HW HDa hbel2
            by_cases hgood : 1 ≤ n ∧ n ≤ 1024 ∧ 1 ≤ R ∧ R ≤ 1024 ∧ ((N : Nat) : Int) = n * (R + 1)
            · obtain ⟨g1, g2, g3, g4, g5⟩ := hgood
              obtain ⟨n', rfl⟩ : ∃ n' : Nat, n = (n' : Int) := ⟨n.toNat, by omega⟩
              obtain ⟨R', rfl⟩ : ∃ R' : Nat, R = (R' : Int) := ⟨R.toNat, by omega⟩
              have hN : N = n' * (R' + 1) := by
                have h1 : ((n' * (R' + 1) : Nat) : Int) = (n' : Int) * ((R' : Int) + 1) := by rw [Int.natCast_mul]; rfl
                omega
              subst hN
              rw [g5]
              have hm1 : (n' : Int) * ((R' : Int) + 1) ≤ 60 := by omega
              have hm0 : 0 ≤ (n' : Int) * ((R' : Int) + 1) := by omega
              clear b2 b3 b4 b5 b6
              have HO := Lib.hid (popen_dead (n := n') (R := R') HD2.out (by omega) (by omega) hdd)
              clear HD2 g5
              go_wp2_with fail
              with_reducible refine HO.out.mono ?_
              rintro e w4 ⟨rfl, hb4⟩
              have hbel4 := hbel.trans (hb4.mono hbel.size)
              clear hb4 HO
              go_wp2_with fail
              with_reducible refine (wakes11_any _ (tab_on HT.out hbel4 (Below.size hbel4))).mono ?_
              rintro e w9 ⟨rfl, hb9⟩
              have hbel9 := hbel4.trans (hb9.mono hbel4.size)
              go_wp2_with fail
              go_ret
              exact ⟨rfl, hbel9⟩
            · have HO := Lib.hid (popen_bad HD2.out n R hgood)
              clear HD2
              go_wp2_with fail
              with_reducible refine HO.out.mono ?_
              rintro e w4 ⟨rfl, rfl⟩
              clear HO
              by_cases h1 : n < 1
              · clear hgood
                go_wp2_with fail
                with_reducible refine (wakes11_any _ (tab_on HT.out hbel (Below.size hbel))).mono ?_
                rintro e w9 ⟨rfl, hb9⟩
                have hbel9 := hbel.trans (hb9.mono hbel.size)
                go_wp2_with fail
                go_ret
                exact ⟨rfl, hbel9⟩
              · by_cases h2 : 1024 < n
                · clear hgood
                  go_wp2_with fail
                  with_reducible refine (wakes11_any _ (tab_on HT.out hbel (Below.size hbel))).mono ?_
                  rintro e w9 ⟨rfl, hb9⟩
                  have hbel9 := hbel.trans (hb9.mono hbel.size)
                  go_wp2_with fail
                  go_ret
                  exact ⟨rfl, hbel9⟩
                · by_cases h3 : R < 1
                  · clear hgood
                    go_wp2_with fail
                    with_reducible refine (wakes11_any _ (tab_on HT.out hbel (Below.size hbel))).mono ?_
                    rintro e w9 ⟨rfl, hb9⟩
                    have hbel9 := hbel.trans (hb9.mono hbel.size)
                    go_wp2_with fail
                    go_ret
                    exact ⟨rfl, hbel9⟩
                  · by_cases h4 : 1024 < R
                    · clear hgood
                      go_wp2_with fail
                      with_reducible refine (wakes11_any _ (tab_on HT.out hbel (Below.size hbel))).mono ?_
                      rintro e w9 ⟨rfl, hb9⟩
                      have hbel9 := hbel.trans (hb9.mono hbel.size)
                      go_wp2_with fail
                      go_ret
                      exact ⟨rfl, hbel9⟩
                    · have hm1 : n * (R + 1) ≤ 1024 * (R + 1) := Int.mul_le_mul_of_nonneg_right (by omega) (by omega)
                      have hm0 : 0 ≤ n * (R + 1) := Int.mul_nonneg (by omega) (by omega)
                      have hne : ¬ (N : Int) = n * (R + 1) := fun e => hgood ⟨by omega, by omega, by omega, by omega, e⟩
                      have hw : IntKind.i64.wrap (n * (R + 1)) = n * (R + 1) := IntWalk.i64_in _ (by omega)
                      have hnb : ((N : Int) != n * (R + 1)) = true := by simpa using hne
                      clear hgood
                      go_wp2_with fail
                      with_reducible refine (wakes11_any _ (tab_on HT.out hbel (Below.size hbel))).mono ?_
                      rintro e w9 ⟨rfl, hb9⟩
                      have hbel9 := hbel.trans (hb9.mono hbel.size)
                      go_wp2_with fail
                      go_ret
                      exact ⟨rfl, hbel9⟩
          | false =>
            have HD2 := HD1
            have hbel := hb1'
            clear HD1 hb1'
            by_cases hgood : 1 ≤ n ∧ n ≤ 1024 ∧ 1 ≤ R ∧ R ≤ 1024 ∧ ((N : Nat) : Int) = n * (R + 1)
            · obtain ⟨g1, g2, g3, g4, g5⟩ := hgood
              obtain ⟨n', rfl⟩ : ∃ n' : Nat, n = (n' : Int) := ⟨n.toNat, by omega⟩
              obtain ⟨R', rfl⟩ : ∃ R' : Nat, R = (R' : Int) := ⟨R.toNat, by omega⟩
              have hN : N = n' * (R' + 1) := by
                have h1 : ((n' * (R' + 1) : Nat) : Int) = (n' : Int) * ((R' : Int) + 1) := by rw [Int.natCast_mul]; rfl
                omega
              subst hN
              rw [g5]
              have hm1 : (n' : Int) * ((R' : Int) + 1) ≤ 60 := by omega
              have hm0 : 0 ≤ (n' : Int) * ((R' : Int) + 1) := by omega
              clear b2 b3 b4 b5 b6
              have HO := Lib.hid (open_re (n := n') (R := R') HD2.out (by omega) (by omega) (new_re R' n') rfl (i := (n' : Int)) (j := (R' : Int)) rfl rfl)
              have hcn : Sto.free ⟨[], false⟩ n' = n' := rfl
              clear HD2 g5
              go_wp2_with fail
              with_reducible refine HO.out.mono ?_
              rintro e w4 ⟨q, b, rfl, hq, hb, S4, L4, C4⟩
              have hbel4 := hbel.trans (C4.below hbel.size (two_ge hp hg))
              have HS4 := Lib.hid S4
              clear HO S4 L4 C4
              go_wp2_with fail
              with_reducible refine (psfreeN_any HS4.out).mono ?_
              rw [hcn]
              rintro e w5 ⟨rfl, hb5⟩
              have hbel5 := hbel4.trans (hb5.mono hbel4.size)
              have HS5 := Lib.hid (HS4.out.below hb5)
              clear hb5 HS4 hbel4 hcn
              go_wp2_with fail
              with_reducible refine (psnames_any HS5.out).mono ?_
              rintro e w6 ⟨A6, c6, rfl, _, _, hb6⟩
              have hbel6 := hbel5.trans (hb6.mono hbel5.size)
              have hl6 : (Sto.names ⟨[], false⟩).length = 0 := rfl
              rw [hl6]
              clear hb6 HS5 hbel5 hl6
              go_wp2_with fail
              with_reducible refine (wakes11_any _ (tab_on HT.out hbel6 (Below.size hbel6))).mono ?_
              rintro e w9 ⟨rfl, hb9⟩
              have hbel9 := hbel6.trans (hb9.mono hbel6.size)
              go_wp2_with fail
              go_ret
              exact ⟨rfl, hbel9⟩
            · have HO := Lib.hid (popen_bad HD2.out n R hgood)
              clear HD2
              go_wp2_with fail
              with_reducible refine HO.out.mono ?_
              rintro e w4 ⟨rfl, rfl⟩
              clear HO
              by_cases h1 : n < 1
              · clear hgood
                go_wp2_with fail
                with_reducible refine (wakes11_any _ (tab_on HT.out hbel (Below.size hbel))).mono ?_
                rintro e w9 ⟨rfl, hb9⟩
                have hbel9 := hbel.trans (hb9.mono hbel.size)
                go_wp2_with fail
                go_ret
                exact ⟨rfl, hbel9⟩
              · by_cases h2 : 1024 < n
                · clear hgood
                  go_wp2_with fail
                  with_reducible refine (wakes11_any _ (tab_on HT.out hbel (Below.size hbel))).mono ?_
                  rintro e w9 ⟨rfl, hb9⟩
                  have hbel9 := hbel.trans (hb9.mono hbel.size)
                  go_wp2_with fail
                  go_ret
                  exact ⟨rfl, hbel9⟩
                · by_cases h3 : R < 1
                  · clear hgood
                    go_wp2_with fail
                    with_reducible refine (wakes11_any _ (tab_on HT.out hbel (Below.size hbel))).mono ?_
                    rintro e w9 ⟨rfl, hb9⟩
                    have hbel9 := hbel.trans (hb9.mono hbel.size)
                    go_wp2_with fail
                    go_ret
                    exact ⟨rfl, hbel9⟩
                  · by_cases h4 : 1024 < R
                    · clear hgood
                      go_wp2_with fail
                      with_reducible refine (wakes11_any _ (tab_on HT.out hbel (Below.size hbel))).mono ?_
                      rintro e w9 ⟨rfl, hb9⟩
                      have hbel9 := hbel.trans (hb9.mono hbel.size)
                      go_wp2_with fail
                      go_ret
                      exact ⟨rfl, hbel9⟩
                    · have hm1 : n * (R + 1) ≤ 1024 * (R + 1) := Int.mul_le_mul_of_nonneg_right (by omega) (by omega)
                      have hm0 : 0 ≤ n * (R + 1) := Int.mul_nonneg (by omega) (by omega)
                      have hne : ¬ (N : Int) = n * (R + 1) := fun e => hgood ⟨by omega, by omega, by omega, by omega, e⟩
                      have hw : IntKind.i64.wrap (n * (R + 1)) = n * (R + 1) := IntWalk.i64_in _ (by omega)
                      have hnb : ((N : Int) != n * (R + 1)) = true := by simpa using hne
                      clear hgood
                      go_wp2_with fail
                      with_reducible refine (wakes11_any _ (tab_on HT.out hbel (Below.size hbel))).mono ?_
                      rintro e w9 ⟨rfl, hb9⟩
                      have hbel9 := hbel.trans (hb9.mono hbel.size)
                      go_wp2_with fail
                      go_ret
                      exact ⟨rfl, hbel9⟩

set_option maxRecDepth 100000 in
theorem contract (H : Type) (enc : TypeId × Value → H) (W : World) (base : Nat) (args : Array Value) (ds gs : List (DataW H)) (before : List MemPlace)
    (hval : ∀ (j : Nat) t v, Tryd.f5.params[j]? = some t → args[j]? = some v → Value.okWide Tryd.prog W .any base t v)
    (hW : DataW.Whole enc Tryd.prog Tryd.f5.params.toList Rows.storeOpensSpec.vars false W args.toList ds gs before) (hL : laidMetH Tryd.prog Rows.storeOpensRow.laid W) :
    Calls Tryd.prog 5 args W fun e W' => ∃ v, e = .returned v ∧ Rows.storeOpensSpec.post enc Tryd.prog Tryd.f5 false true false false W args v W' := by
  have hW' := hW
  obtain ⟨p, q, hA0, hV, rfl, hfz, hnd⟩ := hW
  have hA : DataW.TrodAll enc Tryd.prog W 0 (fun _ => true) true Tryd.f5.params.toList args.toList ds p := hA0
  rw [Tryd.params5] at hA hval
  obtain ⟨v0, v1, v2, v3, d0, d1, d2, d3, p0, p1, p2, p3, rfl, rfl, rfl, h0, h1, h2, h3⟩ := trodAll_four hA
  obtain ⟨rfl, rfl⟩ := trodVars_none hV
  obtain ⟨n0, rfl, rfl, rfl, wf0⟩ := open_int Tryd.underlying3 (hval 0 3 v0 rfl rfl) h0
  have b0 := bounds_i64 wf0
  obtain ⟨n1, rfl, rfl, rfl, wf1⟩ := open_int Tryd.underlying3 (hval 1 3 v1 rfl rfl) h1
  have b1 := bounds_i64 wf1
  obtain ⟨n2, rfl, rfl, rfl, wf2⟩ := open_int Tryd.underlying3 (hval 2 3 v2 rfl rfl) h2
  have b2 := bounds_i64 wf2
  obtain ⟨t3, rfl, rfl, rfl⟩ := open_bool Tryd.underlying4 (hval 3 4 v3 rfl rfl) h3
  clear hA0
  refine (walk n0 n1 n2 t3 W b0.1 b0.2 b1.1 b1.2 b2.1 b2.2 (pow10 hL)).mono fun e W' ⟨he, hb⟩ => ?_
  exact ⟨_, he, law_post hW' rfl (by kernel_rfl) rfl (by kernel_rfl) hb⟩

theorem laid_met (os : Os) : laidMet Tryd.prog Rows.storeOpensRow.laid ((laidWorld os).forCall (fun _ _ => 0) ⟨#[], #[.int .i64 0, .int .i64 0, .int .i64 0, .bool false], []⟩).memory :=
  laidMet_of_run' 8 (by kernel_rfl) (by kernel_rfl)
theorem reads (os : Os) {H : Type} (enc : TypeId × Value → H) : ∃ places, DataW.whole enc Tryd.prog ((laidWorld os).forCall (fun _ _ => 0) ⟨#[], #[.int .i64 0, .int .i64 0, .int .i64 0, .bool false], []⟩).memory Tryd.f5.params.toList Rows.storeOpensSpec.vars false #[Value.int .i64 0, Value.int .i64 0, Value.int .i64 0, Value.bool false].toList 8 = some ([.lit (.int .i64 0), .lit (.int .i64 0), .lit (.int .i64 0), .lit (.bool false)], [], places) :=
  ⟨[], by kernel_rfl⟩

set_option maxRecDepth 100000 in
theorem lifted (os : Os) (started : os.Started) (H : Type) (enc : TypeId × Value → H) (F : Stop.Interp) :
    ReturnsInHanded {} Tryd.checked os 5 .any ((OpenSpec.ofChange Rows.storeOpensSpec).preRow enc Tryd.prog Tryd.f5 Rows.storeOpensRow.domain false Rows.storeOpensRow.laid) (((OpenSpec.ofChange Rows.storeOpensSpec).at F).post enc Tryd.prog Tryd.f5 false true false false) := by
  obtain ⟨places, hx⟩ := reads os enc
  refine returnsInHanded_of_row (C := Tryd.checked) (s := OpenSpec.ofChange Rows.storeOpensSpec) own started (by kernel_rfl) Tryd.func5
    (witness_row_at (enc := enc) (C := Tryd.checked) false (laidWorld os) #[.int .i64 0, .int .i64 0, .int .i64 0, .bool false] rfl (by kernel_rfl) (by kernel_rfl) (by kernel_rfl)
      (OpenSpec.preRow_of_cond 8 hx (by kernel_rfl) (fun k hk => by cases hk) (by kernel_rfl) (laid_met os))) ?_
  intro W base args ds gs before hval hW _ _ _ hL _ _
  exact contract H enc W base args ds gs before hval hW hL

theorem said : Rows.StoreOpensSaid :=
  OpenClaim.holds_of_cond 5 Tryd.f5 rfl rfl rfl rfl rfl rfl rfl ⟨rfl, rfl, rfl, rfl, rfl⟩ rfl rfl rfl rfl rfl (by kernel_rfl) Tryd.func5 (by kernel_rfl)
    (of_decide_eq_true (by kernel_rfl)) (by unfold Func.isWrapper; first | (rw [if_pos (by decide +kernel)]; kernel_rfl) | (rw [if_neg (by decide +kernel)]; exact ⟨rfl, rfl⟩))
    (fun os started H enc _ F => by rw [OpenClaim.pre_eq_preRow]; exact lifted os started H enc F)

theorem plain (f : FuncId) (fn : Func) (hf : Tryd.pinned.checked.prog.funcNamed "aumbry/aumbrylaw11.StoreOpens" = some f) (hfn : Tryd.pinned.checked.prog.funcs[f]? = some fn) :
    false = Tryd.pinned.checked.prog.looks [] ∧ ∀ (j : Nat) t, fn.params[j]? = some t → Tryd.pinned.checked.prog.wantsStandIn t = false := by
  obtain rfl : f = 5 := Option.some.inj ((show Tryd.prog.funcNamed "aumbry/aumbrylaw11.StoreOpens" = some 5 by kernel_rfl).symm.trans hf) |>.symm
  obtain rfl : fn = Tryd.f5 := (Option.some.inj (Tryd.func5.symm.trans hfn)).symm
  refine ⟨by kernel_rfl, fun j t ht => ?_⟩
  exact wants_none (by kernel_rfl) (Array.mem_of_getElem? ht)

/-- The card: the statement holds, its listed tables tied to the program's text. -/
theorem card : Rows.StoreOpensCardSaid :=
  Claim7.holds_tied_plain_at .later [] _ _ _ _ said (fun _ h => by cases h) (by kernel_rfl) (fun _ h => by cases h) storeOpens_row_tie rfl ⟨rfl, rfl⟩ (by kernel_rfl) rfl plain (by kernel_rfl)
end Go.Proofs.YtffllpjlghehiaaDoor.storeOpens
