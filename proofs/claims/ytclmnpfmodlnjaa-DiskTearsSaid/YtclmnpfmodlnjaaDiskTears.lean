/- DiskTears: where a disk stops all writes ahead are there, of the one that stops it just the first bytes, all behind it are not; behind a start it writes again. For all numbers. -/
import Derived.Test.YtclmnpfmodlnjaaLaw
import Derived.Test.YtclmnpfmodlnjaaSix
import Derived.Test.YtclmnpfmodlnjaaKeep
import Derived.Test.YtclmnpfmodlnjaaDskT
namespace Go.Proofs.Ytclmnpfmodlnjaa.diskTears
open Go.ChangeShapes Go.WideShapes Go.ChangeAt Go.RowKit

theorem row_at (c : UInt8) (k : Int) (hk : k = (c.toNat : Int)) (w : World) : Calls Try.prog 19 #[.int .u8 k] w fun e w' => e = .returned (.slice (some ⟨w.heap.size, 0, none⟩) 32 32) ∧ Rd w' w'.heap.size (some ⟨w.heap.size, 0, none⟩) (rowL c) ∧ Below w.heap.size w w' := by
  subst hk
  exact row_any c w
theorem pwrite_well0_at {w : World} {p g n c : Nat} {s : Dsk} (h : DP w p g n c s) (i : Nat) (z : Int) (hz : z = i) (A : Option Addr) (m d : Nat) (b : List UInt8) (hi : i < n) (hm : m ≤ 32) (hb : b.length = m) (hr : Rd w w.heap.size A b) (hd : s.dead = false) (ha : s.ahead = false) :
    Calls Try.prog 9 #[.pointer (some ⟨p, 0, none⟩), .int .i64 z, .slice A m d] w fun e w' => e = .returned (.int .i64 0) ∧ DP w' p g n c (s.well i b) ∧ Chg (two p g) w w' := by
  subst hz
  exact pwrite_well0 h i A m d b hi hm hb hr hd ha
theorem new_Sec : Sec (newD 10) (fun _ _ => 0) := ⟨(List.length_replicate .. : (List.replicate (10 * 32) (0 : UInt8)).length = 10 * 32), fun j k hj hk => by
  show (List.replicate (10 * 32) 0)[j * 32 + k]? = _
  rw [List.getElem?_replicate, if_pos (by omega)]⟩
theorem keepOf_nat {K : Nat} (h : K ≤ 32) : keepOf (K : Int) = K := by unfold keepOf; omega
/-- What the disk is behind i writes. -/
structure AtTear (s : Dsk) (a K i : Nat) : Prop where
  sec : Sec s (tearB a K i)
  dead : s.dead = decide (a < i)
  ahead : s.ahead = true
  at_ : i ≤ a → s.at_ = (a : Int) - i
  keep : s.keep = K

set_option maxRecDepth 100000 in
set_option maxHeartbeats 4000000 in
theorem walk (n0 n1 n2 : Int) (w0 : World) (b00 : -9223372036854775808 ≤ n0) (b01 : n0 ≤ 9223372036854775807) (b10 : -9223372036854775808 ≤ n1) (b11 : n1 ≤ 9223372036854775807) (b20 : -9223372036854775808 ≤ n2) (b21 : n2 ≤ 9223372036854775807) :
    Calls Try.prog 5 #[.int .i64 n0, .int .i64 n1, .int .i64 n2] w0 fun e w' => e = .returned (.bool true) ∧ Below w0.heap.size w0 w' := by
  obtain ⟨a, ha, ha8⟩ : ∃ q : Nat, withinI n0 8 = (q : Int) ∧ q < 8 := by
    have := withinI_range n0 8 (by omega)
    exact ⟨(withinI n0 8).toNat, by omega, by omega⟩
  obtain ⟨K, hK, hK32⟩ : ∃ q : Nat, withinI n1 33 = (q : Int) ∧ q ≤ 32 := by
    have := withinI_range n1 33 (by omega)
    exact ⟨(withinI n1 33).toNat, by omega, by omega⟩
  obtain ⟨m, hm, hm10⟩ : ∃ q : Nat, withinI n2 10 = (q : Int) ∧ q < 10 := by
    have := withinI_range n2 10 (by omega)
    exact ⟨(withinI n2 10).toNat, by omega, by omega⟩
  have HW0 := Lib.hid (fun W => (show Calls Try.prog 6 #[.int .i64 n0, .int .i64 8] W fun e w' => e = .returned (.int .i64 (a : Int)) ∧ W = w' by rw [← ha]; exact within_any n0 8 W b00 b01 (by omega)))
  have HW1 := Lib.hid (fun W => (show Calls Try.prog 6 #[.int .i64 n1, .int .i64 33] W fun e w' => e = .returned (.int .i64 (K : Int)) ∧ W = w' by rw [← hK]; exact within_any n1 33 W b10 b11 (by omega)))
  have HW2 := Lib.hid (fun W => (show Calls Try.prog 6 #[.int .i64 n2, .int .i64 10] W fun e w' => e = .returned (.int .i64 (m : Int)) ∧ W = w' by rw [← hm]; exact within_any n2 10 W b20 b21 (by omega)))
  clear ha hK hm
  go_enter Try.func5, Try.ntmps5
  go_wp2_with fail
  with_reducible refine (HW0.out _).mono ?_
  rintro e w' ⟨rfl, rfl⟩
  go_wp2_with fail
  with_reducible refine (HW1.out _).mono ?_
  rintro e w' ⟨rfl, rfl⟩
  go_wp2_with fail
  with_reducible refine (HW2.out _).mono ?_
  rintro e w' ⟨rfl, rfl⟩
  clear HW0 HW1 HW2
  go_wp2_with fail
  with_reducible refine (pnew_at 10 10 rfl _ (by omega) (by omega)).mono ?_
  rintro e w1 ⟨p, rfl, hp, g, hg, D1, hb1⟩
  have HD1 := Lib.hid D1
  have HB1 := Lib.hid hb1
  have HTW := Lib.hid (two_ge hp hg)
  clear D1 hb1
  go_wp2_with fail
  go_loopw [10] (fun t wr => ∃ (i : Nat) (s : Dsk), i ≤ 10 ∧ t = .int .i64 i ∧ Hid (DP wr p g 10 10 s) ∧ Hid (Below w0.heap.size w0 wr) ∧ Hid (s.dead = false) ∧ Hid (s.ahead = false) ∧ Hid (Sec s fun j _ => if j < i then 1 else 0)) (fun t _ => 10 - (intOf t).toNat)
  case atStart => exact ⟨0, newD 10, by omega, rfl, HD1, HB1, Lib.hid rfl, Lib.hid rfl, Lib.hid (new_Sec.congr fun j k _ _ => by simp)⟩
  case round =>
    obtain ⟨i, s, hi, rfl, HD, HB, HDE, HAH, HSE⟩ := hrel
    by_cases hlt : i < 10
    · have hlt' : (i : Int) < 10 := by omega
      go_wp2_with fail
      with_reducible refine (row_at 1 1 rfl _).mono ?_
      rintro e w2 ⟨rfl, hr2, hb2⟩
      have HR2 := Lib.hid hr2
      have HD2 := Lib.hid (HD.out.below hb2)
      have HB2 := Lib.hid (HB.out.trans (hb2.mono HB.out.size))
      clear hr2 hb2
      go_wp2_with fail
      with_reducible refine (pwrite_well0 HD2.out i _ 32 32 (rowL 1) hlt (by omega) (rowL_len 1) HR2.out HDE.out HAH.out).mono ?_
      rintro e w3 ⟨rfl, D3, C3⟩
      have HD3 := Lib.hid D3
      have HB3 := Lib.hid (HB2.out.trans (C3.below HB2.out.size HTW.out))
      clear D3 C3
      go_wp2_with fail
      go_roundw
      case rel =>
        refine ⟨i + 1, _, by omega, by go_num, HD3, HB3, HDE, HAH, Lib.hid ((HSE.out.well hlt 1).congr fun j k _ _ => ?_)⟩
        by_cases e : j = i
        · rw [if_pos e, if_pos (by omega)]
        · rw [if_neg e]
          congr 1
          exact propext ⟨fun h => by omega, fun h => by omega⟩
      case measure => simp [intOf]; omega
    · have hlt' : ¬ (i : Int) < 10 := by omega
      obtain rfl : i = 10 := by omega
      clear HD1 HB1
      go_wp2_with fail
      with_reducible refine (pstop_any HD.out a K (by omega)).mono ?_
      rintro e w2 ⟨rfl, D2, C2⟩
      have HD2 := Lib.hid D2
      have HB2 := Lib.hid (HB.out.trans (C2.below HB.out.size HTW.out))
      have HT2 := Lib.hid (show AtTear (s.stop a K) a K 0 from ⟨(show Sec (s.stop a K) _ from HSE.out).congr fun j k hj _ => by simp [tearB, hj], HDE.out, rfl, fun _ => by show max (a : Int) 0 = _; omega, keepOf_nat hK32⟩)
      generalize s.stop a K = s2 at HD2 HT2
      clear D2 C2 HD HB HDE HAH HSE
      go_wp2_with fail
      go_loopw [11, 12] (fun t _ wr => ∃ (i : Nat) (s : Dsk), i ≤ m + 1 ∧ t = .int .i64 i ∧ Hid (DP wr p g 10 10 s) ∧ Hid (Below w0.heap.size w0 wr) ∧ Hid (AtTear s a K i)) (fun t _ _ => 10 - (intOf t).toNat)
      case atStart => exact ⟨0, s2, by omega, rfl, HD2, HB2, HT2⟩
      case round =>
        obtain ⟨i, s, hi, rfl, HD, HB, HT⟩ := hrel
        by_cases hlt : i ≤ m
        · have hlt' : (i : Int) ≤ (m : Int) := by omega
          have hlt2 : (i : Int) < 10 := by omega
          have hi10 : i < 10 := by omega
          have HROW := Lib.hid (row_at 2 2 rfl wr)
          by_cases hia : i < a
          · have h_ai : ¬ (a : Int) ≤ (i : Int) := by omega
            have hN_ai : decide (a ≤ i) = false := decide_eq_false (by omega)
            have hI_ai : decide ((a : Int) ≤ (i : Int)) = false := decide_eq_false (by omega)
            have HAT := Lib.hid (show 0 < s.at_ by rw [HT.out.at_ (by omega)]; omega)
            have HDD := Lib.hid (show s.dead = false by rw [HT.out.dead]; exact decide_eq_false (by omega))
            go_wp2_with fail
            with_reducible refine HROW.out.mono ?_
            rintro e w3 ⟨rfl, hr3, hb3⟩
            have HR3 := Lib.hid hr3
            have HD3 := Lib.hid (HD.out.below hb3)
            have HB3 := Lib.hid (HB.out.trans (hb3.mono HB.out.size))
            clear hr3 hb3
            go_wp2_with fail
            with_reducible refine (pwrite_well1 HD3.out i _ 32 32 (rowL 2) hi10 (by omega) (rowL_len 2) HR3.out HDD.out HT.out.ahead HAT.out).mono ?_
            rintro e w4 ⟨rfl, D4, C4⟩
            have HD4 := Lib.hid D4
            have HB4 := Lib.hid (HB3.out.trans (C4.below HB3.out.size HTW.out))
            clear D4 C4
            have HT4 := Lib.hid (show AtTear (s.well i (rowL 2)) a K (i + 1) from ⟨(HT.out.sec.well hi10 2).congr fun j k _ _ => tear_lt (by omega) j k, HDD.out.trans (decide_eq_false (by omega)).symm, HT.out.ahead, fun h => by show (if s.ahead then s.at_ - 1 else s.at_) = _; rw [HT.out.ahead, if_pos rfl, HT.out.at_ (by omega)]; omega, HT.out.keep⟩)
            go_wp2_with fail
            go_roundw
            case rel => exact ⟨i + 1, _, by omega, by go_num, HD4, HB4, HT4⟩
            case measure => simp [intOf]; omega
          · by_cases hie : i = a
            · have h_ai : (a : Int) ≤ (i : Int) := by omega
              have hN_ai : decide (a ≤ i) = true := decide_eq_true (by omega)
              have hI_ai : decide ((a : Int) ≤ (i : Int)) = true := decide_eq_true (by omega)
              have hlo : i ≤ a := by omega
              have hhi : a ≤ i := by omega
              clear hie hia
              have HAT := Lib.hid (show s.at_ = 0 by rw [HT.out.at_ (by omega)]; omega)
              have HDD := Lib.hid (show s.dead = false by rw [HT.out.dead]; exact decide_eq_false (by omega))
              go_wp2_with fail
              with_reducible refine HROW.out.mono ?_
              rintro e w3 ⟨rfl, hr3, hb3⟩
              have HR3 := Lib.hid hr3
              have HD3 := Lib.hid (HD.out.below hb3)
              have HB3 := Lib.hid (HB.out.trans (hb3.mono HB.out.size))
              clear hr3 hb3
              go_wp2_with fail
              with_reducible refine (pwrite_tear HD3.out i _ 32 32 (rowL 2) hi10 (by omega) (rowL_len 2) HR3.out HDD.out HT.out.ahead HAT.out).mono ?_
              rintro e w4 ⟨rfl, D4, C4⟩
              have HD4 := Lib.hid D4
              have HB4 := Lib.hid (HB3.out.trans (C4.below HB3.out.size HTW.out))
              clear D4 C4
              obtain rfl : i = a := by omega
              have HT4 := Lib.hid (show AtTear (s.tear i (rowL 2)) i K (i + 1) from ⟨(HT.out.sec.tear hi10 HT.out.keep hK32 2).congr fun j k _ _ => tear_eq j k, (decide_eq_true (by omega)).symm, HT.out.ahead, fun h => by omega, HT.out.keep⟩)
              go_wp2_with fail
              go_roundw
              case rel => exact ⟨i + 1, _, by omega, by go_num, HD4, HB4, HT4⟩
              case measure => simp [intOf]; omega
            · have h_ai : (a : Int) ≤ (i : Int) := by omega
              have hN_ai : decide (a ≤ i) = true := decide_eq_true (by omega)
              have hI_ai : decide ((a : Int) ≤ (i : Int)) = true := decide_eq_true (by omega)
              have HDD := Lib.hid (show s.dead = true by rw [HT.out.dead]; exact decide_eq_true (by omega))
              go_wp2_with fail
              with_reducible refine HROW.out.mono ?_
              rintro e w3 ⟨rfl, hr3, hb3⟩
              have HR3 := Lib.hid hr3
              have HD3 := Lib.hid (HD.out.below hb3)
              have HB3 := Lib.hid (HB.out.trans (hb3.mono HB.out.size))
              clear hr3 hb3
              go_wp2_with fail
              with_reducible refine (pwrite_dead HD3.out i _ 32 32 hi10 (by omega) HDD.out).mono ?_
              rintro e w4 ⟨rfl, rfl⟩
              have HD4 := HD3
              have HB4 := HB3
              have HT4 := Lib.hid (show AtTear s a K (i + 1) from ⟨HT.out.sec.congr fun j k _ _ => tear_gt (by omega) j k, by rw [HDD.out]; exact (decide_eq_true (by omega)).symm, HT.out.ahead, fun h => by omega, HT.out.keep⟩)
              go_wp2_with fail
              go_roundw
              case rel => exact ⟨i + 1, _, by omega, by go_num, HD4, HB4, HT4⟩
              case measure => simp [intOf]; omega
        · have hlt' : ¬ (i : Int) ≤ (m : Int) := by omega
          obtain rfl : i = m + 1 := by omega
          clear HD2 HB2 HT2
          by_cases ham : a ≤ m
          · have h_am : (a : Int) ≤ (m : Int) := by omega
            have hN_am : decide (a ≤ m) = true := decide_eq_true (by omega)
            have hI_am : decide ((a : Int) ≤ (m : Int)) = true := decide_eq_true (by omega)
            have HDD := Lib.hid (show s.dead = true by rw [HT.out.dead]; exact decide_eq_true (by omega))
            go_wp2_with fail
            with_reducible refine (pdead_any HD.out).mono ?_
            rintro e w3 ⟨rfl, rfl⟩
            rw [HDD.out]
            go_wp2_with fail
            with_reducible refine (pstart_any HD.out).mono ?_
            rintro e w3 ⟨rfl, D3, C3⟩
            have HD3 := Lib.hid D3
            have HB3 := Lib.hid (HB.out.trans (C3.below HB.out.size HTW.out))
            have HS3 := Lib.hid (show Sec s.start (tearB a K (m + 1)) from HT.out.sec)
            clear D3 C3 HD HB HT HDD
            go_wp2_with fail
            go_loopw [13] (fun t wr => ∃ i : Nat, i ≤ 10 ∧ t = .int .i64 i ∧ Hid (Below w3.heap.size w3 wr)) (fun t _ => 10 - (intOf t).toNat)
            case atStart => exact ⟨0, by omega, rfl, Lib.hid (Below.refl _ _)⟩
            case round =>
              obtain ⟨i, hi, rfl, HBr⟩ := hrel
              by_cases hlt : i < 10
              · have hlt3 : (i : Int) < 10 := by omega
                have HDr := Lib.hid (HD3.out.below HBr.out)
                go_wp2_with fail
                with_reducible refine (pread_any HDr.out i hlt rfl).mono ?_
                rintro e w7 ⟨A', c', rfl, hc32, _, hO, hb7⟩
                have HB7 := Lib.hid (HBr.out.trans (hb7.mono HBr.out.size))
                have hrd := hO.rd
                have hl := hO.1
                obtain ⟨bb, off, rfl, hcell⟩ : ∃ bb off, A' = some ⟨bb, off, none⟩ ∧ ∀ k, k < 32 → w7.cell? ⟨bb, off + k, none⟩ = some (.int .u8 ((tearB a K (m + 1) i k).toNat : Int)) := by
                  rcases hrd with hrd | ⟨bb, off, hA, _, hc⟩
                  · rw [hrd] at hl; simp at hl
                  · refine ⟨bb, off, hA, fun k hk => ?_⟩
                    have e := HS3.out.sec hlt hk
                    rw [List.getElem?_eq_getElem (by omega)] at e
                    rw [hc k (by omega), Option.some.inj e]
                have HCE := Lib.hid hcell
                clear hcell hrd hO hb7 hl
                go_wp2_with fail
                go_loop [94] (fun t => ∃ k : Nat, k ≤ 32 ∧ t = .int .i64 k) (fun t => 32 - (intOf t).toNat)
                case atStart => exact ⟨0, by omega, rfl⟩
                case round =>
                  obtain ⟨k, hk, rfl⟩ := hrel
                  by_cases hk32 : k < 32
                  · have hk3 : (k : Int) < 32 := by omega
                    have hk0 : (0 : Int) ≤ (k : Int) := by omega
                    by_cases h1 : i ≤ m
                    · by_cases h2 : i < a
                      · have hA : (i : Int) ≤ (m : Int) := by omega
                        have hA1 : decide (i ≤ m) = true := decide_eq_true (by omega)
                        have hB : (i : Int) < (a : Int) := by omega
                        have hB1 : decide (i < a) = true := decide_eq_true (by omega)
                        have hv : tearB a K (m + 1) i k = 2 := by unfold tearB; rw [if_pos (by omega)]
                        have hc := HCE.out k hk32
                        rw [hv] at hc
                        have hc2 : w7.cell? ⟨bb, off + k, none⟩ = some (.int .u8 2) := hc
                        clear hc hv
                        clear h1
                        clear h2
                        go_wp2_with fail
                        go_round
                        case rel => exact ⟨k + 1, by omega, by go_num⟩
                        case measure => simp [intOf]; omega
                      · by_cases h3 : i = a
                        · by_cases h4 : k < K
                          · have hA : (i : Int) ≤ (m : Int) := by omega
                            have hA1 : decide (i ≤ m) = true := decide_eq_true (by omega)
                            have hB : ¬ (i : Int) < (a : Int) := by omega
                            have hB1 : decide (i < a) = false := decide_eq_false (by omega)
                            have hC : ((i : Int) == (a : Int)) = true := by simp; omega
                            have hE : (k : Int) < (K : Int) := by omega
                            have hE1 : decide (k < K) = true := decide_eq_true (by omega)
                            have hv : tearB a K (m + 1) i k = 2 := by unfold tearB; rw [if_pos (by omega)]
                            have hc := HCE.out k hk32
                            rw [hv] at hc
                            have hc2 : w7.cell? ⟨bb, off + k, none⟩ = some (.int .u8 2) := hc
                            clear hc hv
                            clear h1
                            clear h2
                            clear h3
                            clear h4
                            go_wp2_with fail
                            go_round
                            case rel => exact ⟨k + 1, by omega, by go_num⟩
                            case measure => simp [intOf]; omega
                          · have hA : (i : Int) ≤ (m : Int) := by omega
                            have hA1 : decide (i ≤ m) = true := decide_eq_true (by omega)
                            have hB : ¬ (i : Int) < (a : Int) := by omega
                            have hB1 : decide (i < a) = false := decide_eq_false (by omega)
                            have hC : ((i : Int) == (a : Int)) = true := by simp; omega
                            have hE : ¬ (k : Int) < (K : Int) := by omega
                            have hE1 : decide (k < K) = false := decide_eq_false (by omega)
                            have hv : tearB a K (m + 1) i k = 1 := by unfold tearB; rw [if_neg (by omega)]
                            have hc := HCE.out k hk32
                            rw [hv] at hc
                            have hc2 : w7.cell? ⟨bb, off + k, none⟩ = some (.int .u8 1) := hc
                            clear hc hv
                            clear h1
                            clear h2
                            clear h3
                            clear h4
                            go_wp2_with fail
                            go_round
                            case rel => exact ⟨k + 1, by omega, by go_num⟩
                            case measure => simp [intOf]; omega
                        · have hA : (i : Int) ≤ (m : Int) := by omega
                          have hA1 : decide (i ≤ m) = true := decide_eq_true (by omega)
                          have hB : ¬ (i : Int) < (a : Int) := by omega
                          have hB1 : decide (i < a) = false := decide_eq_false (by omega)
                          have hC : ((i : Int) == (a : Int)) = false := by simp; omega
                          have hv : tearB a K (m + 1) i k = 1 := by unfold tearB; rw [if_neg (by omega)]
                          have hc := HCE.out k hk32
                          rw [hv] at hc
                          have hc2 : w7.cell? ⟨bb, off + k, none⟩ = some (.int .u8 1) := hc
                          clear hc hv
                          clear h1
                          clear h2
                          clear h3
                          go_wp2_with fail
                          go_round
                          case rel => exact ⟨k + 1, by omega, by go_num⟩
                          case measure => simp [intOf]; omega
                    · have hA : ¬ (i : Int) ≤ (m : Int) := by omega
                      have hA1 : decide (i ≤ m) = false := decide_eq_false (by omega)
                      have hv : tearB a K (m + 1) i k = 1 := by unfold tearB; rw [if_neg (by omega)]
                      have hc := HCE.out k hk32
                      rw [hv] at hc
                      have hc2 : w7.cell? ⟨bb, off + k, none⟩ = some (.int .u8 1) := hc
                      clear hc hv
                      clear h1
                      go_wp2_with fail
                      go_round
                      case rel => exact ⟨k + 1, by omega, by go_num⟩
                      case measure => simp [intOf]; omega
                  · have hk3 : ¬ (k : Int) < 32 := by omega
                    go_wp2_with fail
                    go_roundw
                    case rel => exact ⟨i + 1, by omega, by go_num, HB7⟩
                    case measure => simp [intOf]; omega
              · have hlt3 : ¬ (i : Int) < 10 := by omega
                have HDr := Lib.hid (HD3.out.below HBr.out)
                have HBe := Lib.hid (HB3.out.trans (HBr.out.mono HB3.out.size))
                go_wp2_with fail
                with_reducible refine (pdead_any HDr.out).mono ?_
                rintro e w5 ⟨rfl, rfl⟩
                rw [show s.start.dead = false from rfl]
                go_wp2_with fail
                with_reducible refine (row_at 3 3 rfl _).mono ?_
                rintro e w5 ⟨rfl, hr5, hb5⟩
                have HR5 := Lib.hid hr5
                have HD5 := Lib.hid (HDr.out.below hb5)
                have HB5 := Lib.hid (HBe.out.trans (hb5.mono HBe.out.size))
                clear hr5 hb5
                go_wp2_with fail
                with_reducible refine (pwrite_well0_at HD5.out 0 0 rfl _ 32 32 (rowL 3) (by omega) (by omega) (rowL_len 3) HR5.out rfl rfl).mono ?_
                rintro e w6 ⟨rfl, D6, C6⟩
                have HB6 := Lib.hid (HB5.out.trans (C6.below HB5.out.size HTW.out))
                clear D6 C6
                go_wp2_with fail
                with_reducible refine (wakes10_any _).mono ?_
                rintro e w8 ⟨rfl, hb8⟩
                go_wp2_with fail
                go_ret
                exact ⟨rfl, HB6.out.trans (hb8.mono HB6.out.size)⟩
          · have h_am : ¬ (a : Int) ≤ (m : Int) := by omega
            have hN_am : decide (a ≤ m) = false := decide_eq_false (by omega)
            have hI_am : decide ((a : Int) ≤ (m : Int)) = false := decide_eq_false (by omega)
            have HDD := Lib.hid (show s.dead = false by rw [HT.out.dead]; exact decide_eq_false (by omega))
            go_wp2_with fail
            with_reducible refine (pdead_any HD.out).mono ?_
            rintro e w3 ⟨rfl, rfl⟩
            rw [HDD.out]
            go_wp2_with fail
            with_reducible refine (pstart_any HD.out).mono ?_
            rintro e w3 ⟨rfl, D3, C3⟩
            have HD3 := Lib.hid D3
            have HB3 := Lib.hid (HB.out.trans (C3.below HB.out.size HTW.out))
            have HS3 := Lib.hid (show Sec s.start (tearB a K (m + 1)) from HT.out.sec)
            clear D3 C3 HD HB HT HDD
            go_wp2_with fail
            go_loopw [13] (fun t wr => ∃ i : Nat, i ≤ 10 ∧ t = .int .i64 i ∧ Hid (Below w3.heap.size w3 wr)) (fun t _ => 10 - (intOf t).toNat)
            case atStart => exact ⟨0, by omega, rfl, Lib.hid (Below.refl _ _)⟩
            case round =>
              obtain ⟨i, hi, rfl, HBr⟩ := hrel
              by_cases hlt : i < 10
              · have hlt3 : (i : Int) < 10 := by omega
                have HDr := Lib.hid (HD3.out.below HBr.out)
                go_wp2_with fail
                with_reducible refine (pread_any HDr.out i hlt rfl).mono ?_
                rintro e w7 ⟨A', c', rfl, hc32, _, hO, hb7⟩
                have HB7 := Lib.hid (HBr.out.trans (hb7.mono HBr.out.size))
                have hrd := hO.rd
                have hl := hO.1
                obtain ⟨bb, off, rfl, hcell⟩ : ∃ bb off, A' = some ⟨bb, off, none⟩ ∧ ∀ k, k < 32 → w7.cell? ⟨bb, off + k, none⟩ = some (.int .u8 ((tearB a K (m + 1) i k).toNat : Int)) := by
                  rcases hrd with hrd | ⟨bb, off, hA, _, hc⟩
                  · rw [hrd] at hl; simp at hl
                  · refine ⟨bb, off, hA, fun k hk => ?_⟩
                    have e := HS3.out.sec hlt hk
                    rw [List.getElem?_eq_getElem (by omega)] at e
                    rw [hc k (by omega), Option.some.inj e]
                have HCE := Lib.hid hcell
                clear hcell hrd hO hb7 hl
                go_wp2_with fail
                go_loop [94] (fun t => ∃ k : Nat, k ≤ 32 ∧ t = .int .i64 k) (fun t => 32 - (intOf t).toNat)
                case atStart => exact ⟨0, by omega, rfl⟩
                case round =>
                  obtain ⟨k, hk, rfl⟩ := hrel
                  by_cases hk32 : k < 32
                  · have hk3 : (k : Int) < 32 := by omega
                    have hk0 : (0 : Int) ≤ (k : Int) := by omega
                    by_cases h1 : i ≤ m
                    · by_cases h2 : i < a
                      · have hA : (i : Int) ≤ (m : Int) := by omega
                        have hA1 : decide (i ≤ m) = true := decide_eq_true (by omega)
                        have hB : (i : Int) < (a : Int) := by omega
                        have hB1 : decide (i < a) = true := decide_eq_true (by omega)
                        have hv : tearB a K (m + 1) i k = 2 := by unfold tearB; rw [if_pos (by omega)]
                        have hc := HCE.out k hk32
                        rw [hv] at hc
                        have hc2 : w7.cell? ⟨bb, off + k, none⟩ = some (.int .u8 2) := hc
                        clear hc hv
                        clear h1
                        clear h2
                        go_wp2_with fail
                        go_round
                        case rel => exact ⟨k + 1, by omega, by go_num⟩
                        case measure => simp [intOf]; omega
                      · by_cases h3 : i = a
                        · by_cases h4 : k < K
                          · have hA : (i : Int) ≤ (m : Int) := by omega
                            have hA1 : decide (i ≤ m) = true := decide_eq_true (by omega)
                            have hB : ¬ (i : Int) < (a : Int) := by omega
                            have hB1 : decide (i < a) = false := decide_eq_false (by omega)
                            have hC : ((i : Int) == (a : Int)) = true := by simp; omega
                            have hE : (k : Int) < (K : Int) := by omega
                            have hE1 : decide (k < K) = true := decide_eq_true (by omega)
                            have hv : tearB a K (m + 1) i k = 2 := by unfold tearB; rw [if_pos (by omega)]
                            have hc := HCE.out k hk32
                            rw [hv] at hc
                            have hc2 : w7.cell? ⟨bb, off + k, none⟩ = some (.int .u8 2) := hc
                            clear hc hv
                            clear h1
                            clear h2
                            clear h3
                            clear h4
                            go_wp2_with fail
                            go_round
                            case rel => exact ⟨k + 1, by omega, by go_num⟩
                            case measure => simp [intOf]; omega
                          · have hA : (i : Int) ≤ (m : Int) := by omega
                            have hA1 : decide (i ≤ m) = true := decide_eq_true (by omega)
                            have hB : ¬ (i : Int) < (a : Int) := by omega
                            have hB1 : decide (i < a) = false := decide_eq_false (by omega)
                            have hC : ((i : Int) == (a : Int)) = true := by simp; omega
                            have hE : ¬ (k : Int) < (K : Int) := by omega
                            have hE1 : decide (k < K) = false := decide_eq_false (by omega)
                            have hv : tearB a K (m + 1) i k = 1 := by unfold tearB; rw [if_neg (by omega)]
                            have hc := HCE.out k hk32
                            rw [hv] at hc
                            have hc2 : w7.cell? ⟨bb, off + k, none⟩ = some (.int .u8 1) := hc
                            clear hc hv
                            clear h1
                            clear h2
                            clear h3
                            clear h4
                            go_wp2_with fail
                            go_round
                            case rel => exact ⟨k + 1, by omega, by go_num⟩
                            case measure => simp [intOf]; omega
                        · have hA : (i : Int) ≤ (m : Int) := by omega
                          have hA1 : decide (i ≤ m) = true := decide_eq_true (by omega)
                          have hB : ¬ (i : Int) < (a : Int) := by omega
                          have hB1 : decide (i < a) = false := decide_eq_false (by omega)
                          have hC : ((i : Int) == (a : Int)) = false := by simp; omega
                          have hv : tearB a K (m + 1) i k = 1 := by unfold tearB; rw [if_neg (by omega)]
                          have hc := HCE.out k hk32
                          rw [hv] at hc
                          have hc2 : w7.cell? ⟨bb, off + k, none⟩ = some (.int .u8 1) := hc
                          clear hc hv
                          clear h1
                          clear h2
                          clear h3
                          go_wp2_with fail
                          go_round
                          case rel => exact ⟨k + 1, by omega, by go_num⟩
                          case measure => simp [intOf]; omega
                    · have hA : ¬ (i : Int) ≤ (m : Int) := by omega
                      have hA1 : decide (i ≤ m) = false := decide_eq_false (by omega)
                      have hv : tearB a K (m + 1) i k = 1 := by unfold tearB; rw [if_neg (by omega)]
                      have hc := HCE.out k hk32
                      rw [hv] at hc
                      have hc2 : w7.cell? ⟨bb, off + k, none⟩ = some (.int .u8 1) := hc
                      clear hc hv
                      clear h1
                      go_wp2_with fail
                      go_round
                      case rel => exact ⟨k + 1, by omega, by go_num⟩
                      case measure => simp [intOf]; omega
                  · have hk3 : ¬ (k : Int) < 32 := by omega
                    go_wp2_with fail
                    go_roundw
                    case rel => exact ⟨i + 1, by omega, by go_num, HB7⟩
                    case measure => simp [intOf]; omega
              · have hlt3 : ¬ (i : Int) < 10 := by omega
                have HDr := Lib.hid (HD3.out.below HBr.out)
                have HBe := Lib.hid (HB3.out.trans (HBr.out.mono HB3.out.size))
                go_wp2_with fail
                with_reducible refine (pdead_any HDr.out).mono ?_
                rintro e w5 ⟨rfl, rfl⟩
                rw [show s.start.dead = false from rfl]
                go_wp2_with fail
                with_reducible refine (row_at 3 3 rfl _).mono ?_
                rintro e w5 ⟨rfl, hr5, hb5⟩
                have HR5 := Lib.hid hr5
                have HD5 := Lib.hid (HDr.out.below hb5)
                have HB5 := Lib.hid (HBe.out.trans (hb5.mono HBe.out.size))
                clear hr5 hb5
                go_wp2_with fail
                with_reducible refine (pwrite_well0_at HD5.out 0 0 rfl _ 32 32 (rowL 3) (by omega) (by omega) (rowL_len 3) HR5.out rfl rfl).mono ?_
                rintro e w6 ⟨rfl, D6, C6⟩
                have HB6 := Lib.hid (HB5.out.trans (C6.below HB5.out.size HTW.out))
                clear D6 C6
                go_wp2_with fail
                with_reducible refine (wakes10_any _).mono ?_
                rintro e w8 ⟨rfl, hb8⟩
                go_wp2_with fail
                go_ret
                exact ⟨rfl, HB6.out.trans (hb8.mono HB6.out.size)⟩

set_option maxRecDepth 100000 in
theorem contract (H : Type) (enc : TypeId × Value → H) (W : World) (base : Nat) (args : Array Value) (ds gs : List (DataW H)) (before : List MemPlace)
    (hval : ∀ (j : Nat) t v, Try.f5.params[j]? = some t → args[j]? = some v → Value.okWide Try.prog W .any base t v)
    (hW : DataW.Whole enc Try.prog Try.f5.params.toList Rows.diskTearsSpec.vars false W args.toList ds gs before) :
    Calls Try.prog 5 args W fun e W' => ∃ v, e = .returned v ∧ Rows.diskTearsSpec.post enc Try.prog Try.f5 false true false false W args v W' := by
  have hW' := hW
  obtain ⟨p, q, hA0, hV, rfl, hfz, hnd⟩ := hW
  have hA : DataW.TrodAll enc Try.prog W 0 (fun _ => true) true Try.f5.params.toList args.toList ds p := hA0
  rw [Try.params5] at hA hval
  obtain ⟨v0, v1, v2, d0, d1, d2, p0, p1, p2, rfl, rfl, rfl, h0, h1, h2⟩ := trodAll_three hA
  obtain ⟨rfl, rfl⟩ := trodVars_none hV
  obtain ⟨n0, rfl, rfl, rfl, wf0⟩ := open_int Try.underlying3 (hval 0 3 v0 rfl rfl) h0
  have b0 := bounds_i64 wf0
  obtain ⟨n1, rfl, rfl, rfl, wf1⟩ := open_int Try.underlying3 (hval 1 3 v1 rfl rfl) h1
  have b1 := bounds_i64 wf1
  obtain ⟨n2, rfl, rfl, rfl, wf2⟩ := open_int Try.underlying3 (hval 2 3 v2 rfl rfl) h2
  have b2 := bounds_i64 wf2
  clear hA0
  refine (walk n0 n1 n2 W b0.1 b0.2 b1.1 b1.2 b2.1 b2.2).mono fun e W' ⟨he, hb⟩ => ?_
  exact ⟨_, he, law_post hW' rfl (by kernel_rfl) rfl (by kernel_rfl) hb⟩

set_option maxRecDepth 100000 in
theorem lifted (os : Os) (started : os.Started) (H : Type) (enc : TypeId × Value → H) :
    ReturnsInHanded {} Try.checked os 5 .any (Rows.diskTearsSpec.pre6 enc Try.prog Try.f5 Rows.diskTearsRow.domain false) (Rows.diskTearsSpec.post enc Try.prog Try.f5 false true false false) := by
  refine returnsInHanded_of_change (C := Try.checked) own started (by kernel_rfl) Try.func5
    (ChangeSpec.witness6 (enc := enc) (C := Try.checked) false ⟨#[], #[.int .i64 0, .int .i64 0, .int .i64 0], []⟩ 8 (by kernel_rfl) (by kernel_rfl) (by kernel_rfl) (by kernel_rfl)) ?_
  intro W base args ds gs before hval0 hW _ _
  have hval : ∀ (j : Nat) t v, Try.f5.params[j]? = some t → args[j]? = some v → Value.okWide Try.prog W .any base t v := hval0
  exact contract H enc W base args ds gs before hval hW

/-- The statement. -/
theorem card : Rows.DiskTearsSaid :=
  OpenClaim.holds_of_wide 5 Try.f5 rfl rfl rfl rfl rfl rfl rfl ⟨rfl, rfl, rfl, rfl, rfl⟩ rfl rfl rfl rfl rfl (by kernel_rfl) Try.func5 (by kernel_rfl)
    (of_decide_eq_true (by kernel_rfl)) (by unfold Func.isWrapper; first | (rw [if_pos (by decide +kernel)]; kernel_rfl) | (rw [if_neg (by decide +kernel)]; exact ⟨rfl, rfl⟩))
    (fun os started H enc _ => lifted os started H enc)
end Go.Proofs.Ytclmnpfmodlnjaa.diskTears
