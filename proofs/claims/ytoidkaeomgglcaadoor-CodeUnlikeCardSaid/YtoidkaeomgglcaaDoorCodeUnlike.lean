/- CodeUnlike: unlike lists of rows have unlike bytes, like ones one, and so have unlike bytes letters. For all rows. -/
import Derived.Test.YtoidkaeomgglcaaDoorLaw
import Derived.Test.YtoidkaeomgglcaaDoorOpen
import Derived.Test.YtoidkaeomgglcaaDoorKeep
import Derived.Test.YtoidkaeomgglcaaDoorWakes
import Derived.Test.YtoidkaeomgglcaaDoorTakeL
import Derived.Test.YtoidkaeomgglcaaDoorD32
import Derived.Test.YtoidkaeomgglcaaDoorCopyRows
namespace Go.Proofs.YtoidkaeomgglcaaDoor.codeUnlike
open Go.ChangeShapes Go.WideShapes Go.ChangeAt Go.RowKit

def cutRows (ls : List (List UInt8)) : List (List UInt8) := (ls.take 6).map (·.take 60)
theorem cutRows_len (ls : List (List UInt8)) : (cutRows ls).length ≤ 6 := by simp [cutRows]; omega
theorem cutRows_rows (ls : List (List UInt8)) : ∀ r ∈ cutRows ls, r.length ≤ 60 := by
  intro r hr
  obtain ⟨x, _, rfl⟩ := List.mem_map.1 hr
  simp; omega
theorem cut_step (ls : List (List UInt8)) (k : Nat) (h : k < ls.length) : (ls.take (k + 1)).map (·.take 60) = (ls.take k).map (·.take 60) ++ [ls[k].take 60] := by
  rw [List.take_succ_eq_append_getElem h, List.map_append]; rfl
theorem cut_end (ls : List (List UInt8)) (k : Nat) (hk : k ≤ ls.length) (hk6 : k ≤ 6) (h : ¬ k < ls.length ∨ ¬ k < 6) : (ls.take k).map (·.take 60) = cutRows ls := by
  unfold cutRows
  rcases h with h | h
  · obtain rfl : k = ls.length := by omega
    rw [List.take_of_length_le (Nat.le_refl _), List.take_of_length_le (by omega)]
  · obtain rfl : k = 6 := by omega
    rfl

/-- The end: both lists are there. -/
theorem judge {la lb : List (List UInt8)} (ha : ∀ r ∈ la, r.length ≤ 60) (hb : ∀ r ∈ lb, r.length ≤ 60) : decide (netsL la = netsL lb) = decide (la = lb) ∧ (enc (netsL la) == enc (netsL lb)) = decide (netsL la = netsL lb) := by
  constructor
  · by_cases h : la = lb
    · subst h; simp
    · rw [decide_eq_false h, decide_eq_false (fun e => h (netsL_inj (fun r hr => by have := ha r hr; omega) (fun r hr => by have := hb r hr; omega) e))]
  · by_cases h : netsL la = netsL lb
    · rw [h]; simp
    · rw [decide_eq_false h]
      simpa using fun e => h (enc_inj e)

set_option maxHeartbeats 8000000 in
theorem walk (A B : Option Addr) (n m c d : Nat) (ls ms : List (List UInt8)) (t : Bool) (w : World) (hl : ls.length = n) (hm : ms.length = m) (ha : RdR w w.heap.size A ls) (hb : RdR w w.heap.size B ms) (htab : Pow10 w.heap.size w) :
    Calls Tryd.prog 3 #[.slice A n c, .slice B m d, .bool t] w fun e w' => e = .returned (.bool true) ∧ Below w.heap.size w w' := by
  obtain ⟨i1, hi, hz0, hz1, hz2⟩ := info_parts infoSlice
  have HT := Lib.hid htab
  have HL := Lib.hid hl
  have HM := Lib.hid hm
  clear htab hl hm
  go_enter Tryd.func3, Tryd.ntmps3
  go_wp2_with fail
  go_loopw [7, 9] (fun v i wr => ∃ (k : Nat) (vs : List Value), k ≤ n ∧ k ≤ 6 ∧ i = .int .i64 k ∧ Hid (wr.ownsRow w.heap.size 23 1 v k vs) ∧ Hid (sliceVals w w.heap.size vs ((ls.take k).map (·.take 60))) ∧ Below w.heap.size w wr) (fun _ i _ => 6 - (intOf i).toNat)
  case atStart => exact ⟨0, [], Nat.zero_le _, Nat.zero_le _, rfl, Lib.hid (World.ownsRow_nil _ _ _ _), Lib.hid (sliceVals.nil _ _), Below.refl _ _⟩
  case round =>
    obtain ⟨k, vs, hk, hk6le, rfl, HO, HS, hbel⟩ := hrel
    by_cases hlt : k < n ∧ k < 6
    · obtain ⟨hkn, hk6⟩ := hlt
      have hl1 : k < ls.length := by rw [HL.out]; exact hkn
      obtain ⟨b, off, A1, c1, rfl, _, hc, hlc, hcm, hrd⟩ := ha.at_ k hl1
      have hc' : wr.cell? ⟨b, off + k, none⟩ = some (.slice A1 ls[k].length c1) := by rw [← hc]; exact hbel.cell (by assumption)
      have HC := Lib.hid (cut_step ls k hl1)
      have hrt := hrd.take 60
      obtain ⟨q, hq⟩ : ∃ q, ls[k].length = q := ⟨_, rfl⟩
      rw [hq] at hc' hlc
      have HQ := Lib.hid (show (ls[k].take 60).length = min q 60 by rw [List.length_take, hq, Nat.min_comm])
      have hmin : min q 60 ≤ c1 := Nat.le_trans (Nat.min_le_left _ _) hlc
      have hcut := fun W => cut_any A1 q c1 60 W hlc
      have HCUT := Lib.hid hcut
      have hki : (k : Int) < (n : Int) := by omega
      have hk6i : (k : Int) < 6 := by omega
      clear hcut hc hq
      go_wp2_with fail
      refine (HCUT.out _).mono ?_
      rintro e w' ⟨rfl, rfl⟩
      have hle := hbel.size
      go_wp2_with (at_builtin; refine wpList_append_one rfl _ _ 22 rfl w.heap.size 23 i1 Tryd.underlying22 hi hz0 hz1 hz2 _ k vs rfl wr A1 (min q 60) c1 rfl HO.out rfl (by omega) hle ?_)
      intro v2 w2 hown2 hg2
      have HS2 := Lib.hid (HS.out.snoc HQ.out hmin hcm hrt)
      rw [← HC.out] at HS2
      have HO2 := Lib.hid hown2
      have hbel2 : Below w.heap.size w w2 := (hbel.alloc hle _).grown hg2 (by simp; omega) (fun k hk => (HO.out.lt k hk).1)
      skip
      clear hown2 hg2 hbel hle
      go_wp2_with fail
      go_roundw
      case rel => exact ⟨k + 1, _, by omega, by omega, by go_num, HO2, HS2, hbel2⟩
      case measure => simp [intOf]; omega
    · have hor : ¬ k < n ∨ ¬ k < 6 := by omega
      have hst := hor
      by_cases hkn : k < n
      · have hki : (k : Int) < (n : Int) := by omega
        have hk6i : ¬ (k : Int) < 6 := by omega
        obtain ⟨vsa, hvsa⟩ : ∃ x, x = vs := ⟨_, rfl⟩
        rw [← hvsa] at HO HS
        clear hvsa
        have hSa0 := HS.out
        rw [cut_end ls k (by rw [HL.out]; exact hk) hk6le (by rw [HL.out]; exact hst)] at hSa0
        obtain ⟨ka, hka⟩ : ∃ x : Nat, x = k := ⟨_, rfl⟩
        rw [← hka] at HO hk6le
        clear hka
        obtain ⟨Aa, ca, rfl, _⟩ := own_slice HO.out
        obtain ⟨la, hlae⟩ : ∃ x, cutRows ls = x := ⟨_, rfl⟩
        have ra := cutRows_rows ls
        rw [hlae] at hSa0 ra
        have hla1 := hSa0.1
        have hla2 := HO.out.1
        have hla : la.length = ka := by omega
        have hka6 : ka ≤ 6 := hk6le
        have HOw := HO
        have HSa := Lib.hid hSa0
        clear HS hSa0 hlae hla1 hla2 hst hor hk6le
        obtain ⟨wa, rfl⟩ : ∃ wo : World, wo = wr := ⟨_, rfl⟩
        have hbelA := hbel
        clear hbel
        go_wp2_with fail
        go_loopw [8, 10] (fun v i wr => ∃ (k : Nat) (vs : List Value), k ≤ m ∧ k ≤ 6 ∧ i = .int .i64 k ∧ Hid (wr.ownsRow wa.heap.size 23 1 v k vs) ∧ Hid (sliceVals w w.heap.size vs ((ms.take k).map (·.take 60))) ∧ Below wa.heap.size wa wr) (fun _ i _ => 6 - (intOf i).toNat)
        case atStart => exact ⟨0, [], Nat.zero_le _, Nat.zero_le _, rfl, Lib.hid (World.ownsRow_nil _ _ _ _), Lib.hid (sliceVals.nil _ _), Below.refl _ _⟩
        case round =>
          clear HO
          obtain ⟨k, vs, hk, hk6le, rfl, HO, HS, hbel⟩ := hrel
          by_cases hlt : k < m ∧ k < 6
          · obtain ⟨hkn, hk6⟩ := hlt
            have hl1 : k < ms.length := by rw [HM.out]; exact hkn
            obtain ⟨b, off, A1, c1, rfl, _, hc, hlc, hcm, hrd⟩ := hb.at_ k hl1
            have hc' : wr.cell? ⟨b, off + k, none⟩ = some (.slice A1 ms[k].length c1) := by rw [← hc]; exact (Below.then hbelA hbel).cell (by assumption)
            have HC := Lib.hid (cut_step ms k hl1)
            have hrt := hrd.take 60
            obtain ⟨q, hq⟩ : ∃ q, ms[k].length = q := ⟨_, rfl⟩
            rw [hq] at hc' hlc
            have HQ := Lib.hid (show (ms[k].take 60).length = min q 60 by rw [List.length_take, hq, Nat.min_comm])
            have hmin : min q 60 ≤ c1 := Nat.le_trans (Nat.min_le_left _ _) hlc
            have hcut := fun W => cut_any A1 q c1 60 W hlc
            have HCUT := Lib.hid hcut
            have hki : (k : Int) < (m : Int) := by omega
            have hk6i : (k : Int) < 6 := by omega
            clear hcut hc hq
            go_wp2_with fail
            refine (HCUT.out _).mono ?_
            rintro e w' ⟨rfl, rfl⟩
            have hle := hbel.size
            go_wp2_with (at_builtin; refine wpList_append_one rfl _ _ 22 rfl wa.heap.size 23 i1 Tryd.underlying22 hi hz0 hz1 hz2 _ k vs rfl wr A1 (min q 60) c1 rfl HO.out rfl (by omega) hle ?_)
            intro v2 w2 hown2 hg2
            have HS2 := Lib.hid (HS.out.snoc HQ.out hmin hcm hrt)
            rw [← HC.out] at HS2
            have HO2 := Lib.hid hown2
            have hbel2 : Below wa.heap.size wa w2 := (hbel.alloc hle _).grown hg2 (by simp; omega) (fun k hk => (HO.out.lt k hk).1)
            skip
            clear hown2 hg2 hbel hle
            go_wp2_with fail
            go_roundw
            case rel => exact ⟨k + 1, _, by omega, by omega, by go_num, HO2, HS2, hbel2⟩
            case measure => simp [intOf]; omega
          · have hor : ¬ k < m ∨ ¬ k < 6 := by omega
            have hst := hor
            by_cases hkn : k < m
            · have hki : (k : Int) < (m : Int) := by omega
              have hk6i : ¬ (k : Int) < 6 := by omega
              have HOa := Lib.hid (own_keep HOw.out hbel)
              have hwr := hbel.size
              have hbel := Below.then hbelA hbel
              have hSb0 := HS.out
              rw [cut_end ms k (by rw [HM.out]; exact hk) hk6le (by rw [HM.out]; exact hst)] at hSb0
              obtain ⟨Ab, cb, rfl, _⟩ := own_slice HO.out
              have hra := RdR.of_own HOa.out (HSa.out.below hbel (Nat.le_refl _)) hbel.size
              have hrb := RdR.of_own HO.out (hSb0.below hbel (Nat.le_refl _)) hbel.size
              obtain ⟨lb, hlbe⟩ : ∃ x, cutRows ms = x := ⟨_, rfl⟩
              have rb := cutRows_rows ms
              have hlb1 := hSb0.1
              have hkb := HO.out.1
              rw [hlbe] at hrb rb hlb1
              have hlb : lb.length = k := by omega
              have rb1000 : ∀ r ∈ lb, r.length ≤ 1000 := fun r hr => by have := rb r hr; omega
              have ra1000 : ∀ r ∈ la, r.length ≤ 1000 := fun r hr => by have := ra r hr; omega
              have HTW := tab_on HT.out hbel hbel.size
              clear HO HS HOa HOw HSa hSb0 hlbe hkb hlb1 hst hor HM HL ha hb hwr hbelA
              cases t
              · go_wp2_with fail
                refine (nets_any Aa ka ca la _ hla (by omega) ra1000 hra HTW).mono ?_
                rintro e w3 ⟨X1, xc1, rfl, _, hx1, hb3⟩
                have hra3 := hra.below hb3 (Nat.le_refl _)
                have hra3' := hra3.more hb3.size
                have hrb3 := (hrb.below hb3 (Nat.le_refl _)).more hb3.size
                have hbel3 := Below.then hbel hb3
                clear hra hrb hra3 hb3 hbel HTW
                go_wp2_with fail
                refine (nets_any Ab k cb lb _ hlb (by omega) rb1000 hrb3 (tab_on HT.out hbel3 hbel3.size)).mono ?_
                rintro e w4 ⟨X2, xc2, rfl, _, hx2, hb4⟩
                have hx14 := hx1.on hb4
                have hra4 := (hra3'.below hb4 (Nat.le_refl _)).more hb4.size
                have hrb4 := (hrb3.below hb4 (Nat.le_refl _)).more hb4.size
                have hbel4 := Below.then hbel3 hb4
                clear hra3' hrb3 hb4 hbel3 hx1
                obtain ⟨j1, j2⟩ := judge ra rb
                have n1 := netsL_len la ra1000 la.length (Nat.le_refl _)
                have n2 := netsL_len lb rb1000 lb.length (Nat.le_refl _)
                rw [List.take_of_length_le (Nat.le_refl _)] at n1 n2
                rw [hla] at n1
                rw [hlb] at n2
                generalize netsL la = xl at *
                generalize netsL lb = yl at *
                obtain ⟨xn, hxn⟩ : ∃ x, xl.length = x := ⟨_, rfl⟩
                obtain ⟨yn, hyn⟩ : ∃ x, yl.length = x := ⟨_, rfl⟩
                have HXN := Lib.hid hxn
                have HYN := Lib.hid hyn
                have HLA := Lib.hid hla
                have HLB := Lib.hid hlb
                have RA := Lib.hid ra1000
                rw [hxn] at n1 ⊢
                rw [hyn] at n2 ⊢
                obtain ⟨p, hp⟩ : ∃ p, decide (xl = yl) = p := ⟨_, rfl⟩
                rw [hp] at j1 j2
                have HP := Lib.hid hp
                have HP2 := Lib.hid j1.symm
                have HX := Lib.hid hx14
                have HY := Lib.hid hx2
                have HRA := Lib.hid hra4
                have HRB := Lib.hid hrb4
                have HS1 := Lib.hid (fun W (a : Rd W w4.heap.size X1 xl) (b : Rd W w4.heap.size X2 yl) => same_any X1 X2 xn yn xc1 xc2 _ _ xl yl W HXN.out HYN.out (by unfold maxLen; omega) a b)
                rw [HP.out] at HS1
                have HR1 := Lib.hid (fun W (a : RdR W w4.heap.size Aa la) (b : RdR W w4.heap.size Ab lb) => rows_any Aa Ab ka k ca cb _ _ la lb W HLA.out HLB.out (by unfold maxLen; omega) a b (fun r hr => by have := RA.out r hr; unfold maxLen; omega))
                rw [HP2.out] at HR1
                have hB1 := fun W (a : Rd W w4.heap.size X1 xl) (hW : w4.heap.size ≤ W.heap.size) => base32_any X1 xn xc1 _ xl W HXN.out (by omega) a hW
                have hB2 := fun W (a : Rd W w4.heap.size X2 yl) (hW : w4.heap.size ≤ W.heap.size) => base32_any X2 yn xc2 _ yl W HYN.out (by omega) a hW
                generalize hex : enc xl = ex at *
                generalize hey : enc yl = ey at *
                have HB1 := Lib.hid hB1
                have HB2 := Lib.hid hB2
                clear hx14 hx2 hra4 hrb4 j1 hp hxn hyn hla hlb ra1000 rb1000 ra rb hex hey hB1 hB2
                go_wp2_with fail
                refine (HS1.out _ HX.out HY.out).mono ?_
                rintro e w5 ⟨rfl, q5, rfl⟩
                go_wp2_with fail
                refine (HR1.out _ (HRA.out.drewN _) (HRB.out.drewN _)).mono ?_
                rintro e w6 ⟨rfl, q6, rfl⟩
                have hbel6 := below_drewN (below_drewN hbel4 q5) q6
                have HX6 := Lib.hid ((HX.out.drewN q5).drewN q6)
                have HY6 := Lib.hid ((HY.out.drewN q5).drewN q6)
                have hs6 : w4.heap.size ≤ ((w4.drewN q5).drewN q6).heap.size := Nat.le_refl _
                generalize (w4.drewN q5).drewN q6 = w6 at *
                have hpp : (p == p) = true := by cases p <;> rfl
                go_wp2_with fail
                refine (HB1.out _ HX6.out hs6).mono ?_
                rintro e w7 ⟨rfl, hb7⟩
                have HX7 := Lib.hid (HX6.out.below hb7 hs6)
                have HY7 := Lib.hid (HY6.out.below hb7 hs6)
                have hs7 : w4.heap.size ≤ w7.heap.size := Nat.le_trans hs6 hb7.size
                have hbel7 := Below.then hbel6 hb7
                clear hb7 hbel6
                go_wp2_with fail
                refine (HB2.out _ HY7.out hs7).mono ?_
                rintro e w8 ⟨rfl, hb8⟩
                have HX8 := Lib.hid (HX7.out.below hb8 hs7)
                have HY8 := Lib.hid (HY7.out.below hb8 hs7)
                have hbel8 := Below.then hbel7 hb8
                clear hb8 hbel7
                go_wp2_with fail
                refine (HS1.out _ HX8.out HY8.out).mono ?_
                rintro e w9 ⟨rfl, q9, rfl⟩
                have hbel9 := below_drewN hbel8 q9
                clear hbel8
                go_wp2_with fail
                refine (wakes_any _ (tab_on HT.out hbel9 hbel9.size)).mono ?_
                rintro e w10 ⟨rfl, hb10⟩
                have hbel10 := Below.then hbel9 hb10
                clear hb10 hbel9
                go_wp2_with fail
                go_ret
                exact ⟨rfl, hbel10⟩
              · go_wp2_with fail
                refine (copyRows_any Aa ka ca la _ hla (by omega) ra1000 hra).mono ?_
                rintro e w2 ⟨Ab2, cb2, rfl, hrb0, hb2⟩
                have hra2 := (hra.below hb2 (Nat.le_refl _)).more hb2.size
                have hbel2 := Below.then hbel hb2
                have HTW2 := tab_on HT.out hbel2 hbel2.size
                clear hra hrb hbel hb2 HTW rb rb1000 hlb
                obtain ⟨lb2, hlbE⟩ : ∃ x, x = la := ⟨_, rfl⟩
                have hrb2 := hrb0
                rw [← hlbE] at hrb2
                have rb := ra
                rw [← hlbE] at rb
                have rb1000 := ra1000
                rw [← hlbE] at rb1000
                have hlb2 := hla
                rw [← hlbE] at hlb2
                clear hlbE hrb0
                go_wp2_with fail
                refine (nets_any Aa ka ca la _ hla (by omega) ra1000 hra2 HTW2).mono ?_
                rintro e w3 ⟨X1, xc1, rfl, _, hx1, hb3⟩
                have hra3 := hra2.below hb3 (Nat.le_refl _)
                have hra3' := hra3.more hb3.size
                have hrb3 := (hrb2.below hb3 (Nat.le_refl _)).more hb3.size
                have hbel3 := Below.then hbel2 hb3
                clear hra2 hrb2 hra3 hb3 hbel2 HTW2
                go_wp2_with fail
                refine (nets_any Ab2 ka cb2 lb2 _ hlb2 (by omega) rb1000 hrb3 (tab_on HT.out hbel3 hbel3.size)).mono ?_
                rintro e w4 ⟨X2, xc2, rfl, _, hx2, hb4⟩
                have hx14 := hx1.on hb4
                have hra4 := (hra3'.below hb4 (Nat.le_refl _)).more hb4.size
                have hrb4 := (hrb3.below hb4 (Nat.le_refl _)).more hb4.size
                have hbel4 := Below.then hbel3 hb4
                clear hra3' hrb3 hb4 hbel3 hx1
                obtain ⟨j1, j2⟩ := judge ra rb
                have n1 := netsL_len la ra1000 la.length (Nat.le_refl _)
                have n2 := netsL_len lb2 rb1000 lb2.length (Nat.le_refl _)
                rw [List.take_of_length_le (Nat.le_refl _)] at n1 n2
                rw [hla] at n1
                rw [hlb2] at n2
                generalize netsL la = xl at *
                generalize netsL lb2 = yl at *
                obtain ⟨xn, hxn⟩ : ∃ x, xl.length = x := ⟨_, rfl⟩
                obtain ⟨yn, hyn⟩ : ∃ x, yl.length = x := ⟨_, rfl⟩
                have HXN := Lib.hid hxn
                have HYN := Lib.hid hyn
                have HLA := Lib.hid hla
                have HLB := Lib.hid hlb2
                have RA := Lib.hid ra1000
                rw [hxn] at n1 ⊢
                rw [hyn] at n2 ⊢
                obtain ⟨p, hp⟩ : ∃ p, decide (xl = yl) = p := ⟨_, rfl⟩
                rw [hp] at j1 j2
                have HP := Lib.hid hp
                have HP2 := Lib.hid j1.symm
                have HX := Lib.hid hx14
                have HY := Lib.hid hx2
                have HRA := Lib.hid hra4
                have HRB := Lib.hid hrb4
                have HS1 := Lib.hid (fun W (a : Rd W w4.heap.size X1 xl) (b : Rd W w4.heap.size X2 yl) => same_any X1 X2 xn yn xc1 xc2 _ _ xl yl W HXN.out HYN.out (by unfold maxLen; omega) a b)
                rw [HP.out] at HS1
                have HR1 := Lib.hid (fun W (a : RdR W w4.heap.size Aa la) (b : RdR W w4.heap.size Ab2 lb2) => rows_any Aa Ab2 ka ka ca cb2 _ _ la lb2 W HLA.out HLB.out (by unfold maxLen; omega) a b (fun r hr => by have := RA.out r hr; unfold maxLen; omega))
                rw [HP2.out] at HR1
                have hB1 := fun W (a : Rd W w4.heap.size X1 xl) (hW : w4.heap.size ≤ W.heap.size) => base32_any X1 xn xc1 _ xl W HXN.out (by omega) a hW
                have hB2 := fun W (a : Rd W w4.heap.size X2 yl) (hW : w4.heap.size ≤ W.heap.size) => base32_any X2 yn xc2 _ yl W HYN.out (by omega) a hW
                generalize hex : enc xl = ex at *
                generalize hey : enc yl = ey at *
                have HB1 := Lib.hid hB1
                have HB2 := Lib.hid hB2
                clear hx14 hx2 hra4 hrb4 j1 hp hxn hyn hla hlb2 ra1000 rb1000 ra rb hex hey hB1 hB2
                go_wp2_with fail
                refine (HS1.out _ HX.out HY.out).mono ?_
                rintro e w5 ⟨rfl, q5, rfl⟩
                go_wp2_with fail
                refine (HR1.out _ (HRA.out.drewN _) (HRB.out.drewN _)).mono ?_
                rintro e w6 ⟨rfl, q6, rfl⟩
                have hbel6 := below_drewN (below_drewN hbel4 q5) q6
                have HX6 := Lib.hid ((HX.out.drewN q5).drewN q6)
                have HY6 := Lib.hid ((HY.out.drewN q5).drewN q6)
                have hs6 : w4.heap.size ≤ ((w4.drewN q5).drewN q6).heap.size := Nat.le_refl _
                generalize (w4.drewN q5).drewN q6 = w6 at *
                have hpp : (p == p) = true := by cases p <;> rfl
                go_wp2_with fail
                refine (HB1.out _ HX6.out hs6).mono ?_
                rintro e w7 ⟨rfl, hb7⟩
                have HX7 := Lib.hid (HX6.out.below hb7 hs6)
                have HY7 := Lib.hid (HY6.out.below hb7 hs6)
                have hs7 : w4.heap.size ≤ w7.heap.size := Nat.le_trans hs6 hb7.size
                have hbel7 := Below.then hbel6 hb7
                clear hb7 hbel6
                go_wp2_with fail
                refine (HB2.out _ HY7.out hs7).mono ?_
                rintro e w8 ⟨rfl, hb8⟩
                have HX8 := Lib.hid (HX7.out.below hb8 hs7)
                have HY8 := Lib.hid (HY7.out.below hb8 hs7)
                have hbel8 := Below.then hbel7 hb8
                clear hb8 hbel7
                go_wp2_with fail
                refine (HS1.out _ HX8.out HY8.out).mono ?_
                rintro e w9 ⟨rfl, q9, rfl⟩
                have hbel9 := below_drewN hbel8 q9
                clear hbel8
                go_wp2_with fail
                refine (wakes_any _ (tab_on HT.out hbel9 hbel9.size)).mono ?_
                rintro e w10 ⟨rfl, hb10⟩
                have hbel10 := Below.then hbel9 hb10
                clear hb10 hbel9
                go_wp2_with fail
                go_ret
                exact ⟨rfl, hbel10⟩
            · have hki : ¬ (k : Int) < (m : Int) := by omega
              have HOa := Lib.hid (own_keep HOw.out hbel)
              have hwr := hbel.size
              have hbel := Below.then hbelA hbel
              have hSb0 := HS.out
              rw [cut_end ms k (by rw [HM.out]; exact hk) hk6le (by rw [HM.out]; exact hst)] at hSb0
              obtain ⟨Ab, cb, rfl, _⟩ := own_slice HO.out
              have hra := RdR.of_own HOa.out (HSa.out.below hbel (Nat.le_refl _)) hbel.size
              have hrb := RdR.of_own HO.out (hSb0.below hbel (Nat.le_refl _)) hbel.size
              obtain ⟨lb, hlbe⟩ : ∃ x, cutRows ms = x := ⟨_, rfl⟩
              have rb := cutRows_rows ms
              have hlb1 := hSb0.1
              have hkb := HO.out.1
              rw [hlbe] at hrb rb hlb1
              have hlb : lb.length = k := by omega
              have rb1000 : ∀ r ∈ lb, r.length ≤ 1000 := fun r hr => by have := rb r hr; omega
              have ra1000 : ∀ r ∈ la, r.length ≤ 1000 := fun r hr => by have := ra r hr; omega
              have HTW := tab_on HT.out hbel hbel.size
              clear HO HS HOa HOw HSa hSb0 hlbe hkb hlb1 hst hor HM HL ha hb hwr hbelA
              cases t
              · go_wp2_with fail
                refine (nets_any Aa ka ca la _ hla (by omega) ra1000 hra HTW).mono ?_
                rintro e w3 ⟨X1, xc1, rfl, _, hx1, hb3⟩
                have hra3 := hra.below hb3 (Nat.le_refl _)
                have hra3' := hra3.more hb3.size
                have hrb3 := (hrb.below hb3 (Nat.le_refl _)).more hb3.size
                have hbel3 := Below.then hbel hb3
                clear hra hrb hra3 hb3 hbel HTW
                go_wp2_with fail
                refine (nets_any Ab k cb lb _ hlb (by omega) rb1000 hrb3 (tab_on HT.out hbel3 hbel3.size)).mono ?_
                rintro e w4 ⟨X2, xc2, rfl, _, hx2, hb4⟩
                have hx14 := hx1.on hb4
                have hra4 := (hra3'.below hb4 (Nat.le_refl _)).more hb4.size
                have hrb4 := (hrb3.below hb4 (Nat.le_refl _)).more hb4.size
                have hbel4 := Below.then hbel3 hb4
                clear hra3' hrb3 hb4 hbel3 hx1
                obtain ⟨j1, j2⟩ := judge ra rb
                have n1 := netsL_len la ra1000 la.length (Nat.le_refl _)
                have n2 := netsL_len lb rb1000 lb.length (Nat.le_refl _)
                rw [List.take_of_length_le (Nat.le_refl _)] at n1 n2
                rw [hla] at n1
                rw [hlb] at n2
                generalize netsL la = xl at *
                generalize netsL lb = yl at *
                obtain ⟨xn, hxn⟩ : ∃ x, xl.length = x := ⟨_, rfl⟩
                obtain ⟨yn, hyn⟩ : ∃ x, yl.length = x := ⟨_, rfl⟩
                have HXN := Lib.hid hxn
                have HYN := Lib.hid hyn
                have HLA := Lib.hid hla
                have HLB := Lib.hid hlb
                have RA := Lib.hid ra1000
                rw [hxn] at n1 ⊢
                rw [hyn] at n2 ⊢
                obtain ⟨p, hp⟩ : ∃ p, decide (xl = yl) = p := ⟨_, rfl⟩
                rw [hp] at j1 j2
                have HP := Lib.hid hp
                have HP2 := Lib.hid j1.symm
                have HX := Lib.hid hx14
                have HY := Lib.hid hx2
                have HRA := Lib.hid hra4
                have HRB := Lib.hid hrb4
                have HS1 := Lib.hid (fun W (a : Rd W w4.heap.size X1 xl) (b : Rd W w4.heap.size X2 yl) => same_any X1 X2 xn yn xc1 xc2 _ _ xl yl W HXN.out HYN.out (by unfold maxLen; omega) a b)
                rw [HP.out] at HS1
                have HR1 := Lib.hid (fun W (a : RdR W w4.heap.size Aa la) (b : RdR W w4.heap.size Ab lb) => rows_any Aa Ab ka k ca cb _ _ la lb W HLA.out HLB.out (by unfold maxLen; omega) a b (fun r hr => by have := RA.out r hr; unfold maxLen; omega))
                rw [HP2.out] at HR1
                have hB1 := fun W (a : Rd W w4.heap.size X1 xl) (hW : w4.heap.size ≤ W.heap.size) => base32_any X1 xn xc1 _ xl W HXN.out (by omega) a hW
                have hB2 := fun W (a : Rd W w4.heap.size X2 yl) (hW : w4.heap.size ≤ W.heap.size) => base32_any X2 yn xc2 _ yl W HYN.out (by omega) a hW
                generalize hex : enc xl = ex at *
                generalize hey : enc yl = ey at *
                have HB1 := Lib.hid hB1
                have HB2 := Lib.hid hB2
                clear hx14 hx2 hra4 hrb4 j1 hp hxn hyn hla hlb ra1000 rb1000 ra rb hex hey hB1 hB2
                go_wp2_with fail
                refine (HS1.out _ HX.out HY.out).mono ?_
                rintro e w5 ⟨rfl, q5, rfl⟩
                go_wp2_with fail
                refine (HR1.out _ (HRA.out.drewN _) (HRB.out.drewN _)).mono ?_
                rintro e w6 ⟨rfl, q6, rfl⟩
                have hbel6 := below_drewN (below_drewN hbel4 q5) q6
                have HX6 := Lib.hid ((HX.out.drewN q5).drewN q6)
                have HY6 := Lib.hid ((HY.out.drewN q5).drewN q6)
                have hs6 : w4.heap.size ≤ ((w4.drewN q5).drewN q6).heap.size := Nat.le_refl _
                generalize (w4.drewN q5).drewN q6 = w6 at *
                have hpp : (p == p) = true := by cases p <;> rfl
                go_wp2_with fail
                refine (HB1.out _ HX6.out hs6).mono ?_
                rintro e w7 ⟨rfl, hb7⟩
                have HX7 := Lib.hid (HX6.out.below hb7 hs6)
                have HY7 := Lib.hid (HY6.out.below hb7 hs6)
                have hs7 : w4.heap.size ≤ w7.heap.size := Nat.le_trans hs6 hb7.size
                have hbel7 := Below.then hbel6 hb7
                clear hb7 hbel6
                go_wp2_with fail
                refine (HB2.out _ HY7.out hs7).mono ?_
                rintro e w8 ⟨rfl, hb8⟩
                have HX8 := Lib.hid (HX7.out.below hb8 hs7)
                have HY8 := Lib.hid (HY7.out.below hb8 hs7)
                have hbel8 := Below.then hbel7 hb8
                clear hb8 hbel7
                go_wp2_with fail
                refine (HS1.out _ HX8.out HY8.out).mono ?_
                rintro e w9 ⟨rfl, q9, rfl⟩
                have hbel9 := below_drewN hbel8 q9
                clear hbel8
                go_wp2_with fail
                refine (wakes_any _ (tab_on HT.out hbel9 hbel9.size)).mono ?_
                rintro e w10 ⟨rfl, hb10⟩
                have hbel10 := Below.then hbel9 hb10
                clear hb10 hbel9
                go_wp2_with fail
                go_ret
                exact ⟨rfl, hbel10⟩
              · go_wp2_with fail
                refine (copyRows_any Aa ka ca la _ hla (by omega) ra1000 hra).mono ?_
                rintro e w2 ⟨Ab2, cb2, rfl, hrb0, hb2⟩
                have hra2 := (hra.below hb2 (Nat.le_refl _)).more hb2.size
                have hbel2 := Below.then hbel hb2
                have HTW2 := tab_on HT.out hbel2 hbel2.size
                clear hra hrb hbel hb2 HTW rb rb1000 hlb
                obtain ⟨lb2, hlbE⟩ : ∃ x, x = la := ⟨_, rfl⟩
                have hrb2 := hrb0
                rw [← hlbE] at hrb2
                have rb := ra
                rw [← hlbE] at rb
                have rb1000 := ra1000
                rw [← hlbE] at rb1000
                have hlb2 := hla
                rw [← hlbE] at hlb2
                clear hlbE hrb0
                go_wp2_with fail
                refine (nets_any Aa ka ca la _ hla (by omega) ra1000 hra2 HTW2).mono ?_
                rintro e w3 ⟨X1, xc1, rfl, _, hx1, hb3⟩
                have hra3 := hra2.below hb3 (Nat.le_refl _)
                have hra3' := hra3.more hb3.size
                have hrb3 := (hrb2.below hb3 (Nat.le_refl _)).more hb3.size
                have hbel3 := Below.then hbel2 hb3
                clear hra2 hrb2 hra3 hb3 hbel2 HTW2
                go_wp2_with fail
                refine (nets_any Ab2 ka cb2 lb2 _ hlb2 (by omega) rb1000 hrb3 (tab_on HT.out hbel3 hbel3.size)).mono ?_
                rintro e w4 ⟨X2, xc2, rfl, _, hx2, hb4⟩
                have hx14 := hx1.on hb4
                have hra4 := (hra3'.below hb4 (Nat.le_refl _)).more hb4.size
                have hrb4 := (hrb3.below hb4 (Nat.le_refl _)).more hb4.size
                have hbel4 := Below.then hbel3 hb4
                clear hra3' hrb3 hb4 hbel3 hx1
                obtain ⟨j1, j2⟩ := judge ra rb
                have n1 := netsL_len la ra1000 la.length (Nat.le_refl _)
                have n2 := netsL_len lb2 rb1000 lb2.length (Nat.le_refl _)
                rw [List.take_of_length_le (Nat.le_refl _)] at n1 n2
                rw [hla] at n1
                rw [hlb2] at n2
                generalize netsL la = xl at *
                generalize netsL lb2 = yl at *
                obtain ⟨xn, hxn⟩ : ∃ x, xl.length = x := ⟨_, rfl⟩
                obtain ⟨yn, hyn⟩ : ∃ x, yl.length = x := ⟨_, rfl⟩
                have HXN := Lib.hid hxn
                have HYN := Lib.hid hyn
                have HLA := Lib.hid hla
                have HLB := Lib.hid hlb2
                have RA := Lib.hid ra1000
                rw [hxn] at n1 ⊢
                rw [hyn] at n2 ⊢
                obtain ⟨p, hp⟩ : ∃ p, decide (xl = yl) = p := ⟨_, rfl⟩
                rw [hp] at j1 j2
                have HP := Lib.hid hp
                have HP2 := Lib.hid j1.symm
                have HX := Lib.hid hx14
                have HY := Lib.hid hx2
                have HRA := Lib.hid hra4
                have HRB := Lib.hid hrb4
                have HS1 := Lib.hid (fun W (a : Rd W w4.heap.size X1 xl) (b : Rd W w4.heap.size X2 yl) => same_any X1 X2 xn yn xc1 xc2 _ _ xl yl W HXN.out HYN.out (by unfold maxLen; omega) a b)
                rw [HP.out] at HS1
                have HR1 := Lib.hid (fun W (a : RdR W w4.heap.size Aa la) (b : RdR W w4.heap.size Ab2 lb2) => rows_any Aa Ab2 ka ka ca cb2 _ _ la lb2 W HLA.out HLB.out (by unfold maxLen; omega) a b (fun r hr => by have := RA.out r hr; unfold maxLen; omega))
                rw [HP2.out] at HR1
                have hB1 := fun W (a : Rd W w4.heap.size X1 xl) (hW : w4.heap.size ≤ W.heap.size) => base32_any X1 xn xc1 _ xl W HXN.out (by omega) a hW
                have hB2 := fun W (a : Rd W w4.heap.size X2 yl) (hW : w4.heap.size ≤ W.heap.size) => base32_any X2 yn xc2 _ yl W HYN.out (by omega) a hW
                generalize hex : enc xl = ex at *
                generalize hey : enc yl = ey at *
                have HB1 := Lib.hid hB1
                have HB2 := Lib.hid hB2
                clear hx14 hx2 hra4 hrb4 j1 hp hxn hyn hla hlb2 ra1000 rb1000 ra rb hex hey hB1 hB2
                go_wp2_with fail
                refine (HS1.out _ HX.out HY.out).mono ?_
                rintro e w5 ⟨rfl, q5, rfl⟩
                go_wp2_with fail
                refine (HR1.out _ (HRA.out.drewN _) (HRB.out.drewN _)).mono ?_
                rintro e w6 ⟨rfl, q6, rfl⟩
                have hbel6 := below_drewN (below_drewN hbel4 q5) q6
                have HX6 := Lib.hid ((HX.out.drewN q5).drewN q6)
                have HY6 := Lib.hid ((HY.out.drewN q5).drewN q6)
                have hs6 : w4.heap.size ≤ ((w4.drewN q5).drewN q6).heap.size := Nat.le_refl _
                generalize (w4.drewN q5).drewN q6 = w6 at *
                have hpp : (p == p) = true := by cases p <;> rfl
                go_wp2_with fail
                refine (HB1.out _ HX6.out hs6).mono ?_
                rintro e w7 ⟨rfl, hb7⟩
                have HX7 := Lib.hid (HX6.out.below hb7 hs6)
                have HY7 := Lib.hid (HY6.out.below hb7 hs6)
                have hs7 : w4.heap.size ≤ w7.heap.size := Nat.le_trans hs6 hb7.size
                have hbel7 := Below.then hbel6 hb7
                clear hb7 hbel6
                go_wp2_with fail
                refine (HB2.out _ HY7.out hs7).mono ?_
                rintro e w8 ⟨rfl, hb8⟩
                have HX8 := Lib.hid (HX7.out.below hb8 hs7)
                have HY8 := Lib.hid (HY7.out.below hb8 hs7)
                have hbel8 := Below.then hbel7 hb8
                clear hb8 hbel7
                go_wp2_with fail
                refine (HS1.out _ HX8.out HY8.out).mono ?_
                rintro e w9 ⟨rfl, q9, rfl⟩
                have hbel9 := below_drewN hbel8 q9
                clear hbel8
                go_wp2_with fail
                refine (wakes_any _ (tab_on HT.out hbel9 hbel9.size)).mono ?_
                rintro e w10 ⟨rfl, hb10⟩
                have hbel10 := Below.then hbel9 hb10
                clear hb10 hbel9
                go_wp2_with fail
                go_ret
                exact ⟨rfl, hbel10⟩
      · have hki : ¬ (k : Int) < (n : Int) := by omega
        obtain ⟨vsa, hvsa⟩ : ∃ x, x = vs := ⟨_, rfl⟩
        rw [← hvsa] at HO HS
        clear hvsa
        have hSa0 := HS.out
        rw [cut_end ls k (by rw [HL.out]; exact hk) hk6le (by rw [HL.out]; exact hst)] at hSa0
        obtain ⟨ka, hka⟩ : ∃ x : Nat, x = k := ⟨_, rfl⟩
        rw [← hka] at HO hk6le
        clear hka
        obtain ⟨Aa, ca, rfl, _⟩ := own_slice HO.out
        obtain ⟨la, hlae⟩ : ∃ x, cutRows ls = x := ⟨_, rfl⟩
        have ra := cutRows_rows ls
        rw [hlae] at hSa0 ra
        have hla1 := hSa0.1
        have hla2 := HO.out.1
        have hla : la.length = ka := by omega
        have hka6 : ka ≤ 6 := hk6le
        have HOw := HO
        have HSa := Lib.hid hSa0
        clear HS hSa0 hlae hla1 hla2 hst hor hk6le
        obtain ⟨wa, rfl⟩ : ∃ wo : World, wo = wr := ⟨_, rfl⟩
        have hbelA := hbel
        clear hbel
        go_wp2_with fail
        go_loopw [8, 10] (fun v i wr => ∃ (k : Nat) (vs : List Value), k ≤ m ∧ k ≤ 6 ∧ i = .int .i64 k ∧ Hid (wr.ownsRow wa.heap.size 23 1 v k vs) ∧ Hid (sliceVals w w.heap.size vs ((ms.take k).map (·.take 60))) ∧ Below wa.heap.size wa wr) (fun _ i _ => 6 - (intOf i).toNat)
        case atStart => exact ⟨0, [], Nat.zero_le _, Nat.zero_le _, rfl, Lib.hid (World.ownsRow_nil _ _ _ _), Lib.hid (sliceVals.nil _ _), Below.refl _ _⟩
        case round =>
          clear HO
          obtain ⟨k, vs, hk, hk6le, rfl, HO, HS, hbel⟩ := hrel
          by_cases hlt : k < m ∧ k < 6
          · obtain ⟨hkn, hk6⟩ := hlt
            have hl1 : k < ms.length := by rw [HM.out]; exact hkn
            obtain ⟨b, off, A1, c1, rfl, _, hc, hlc, hcm, hrd⟩ := hb.at_ k hl1
            have hc' : wr.cell? ⟨b, off + k, none⟩ = some (.slice A1 ms[k].length c1) := by rw [← hc]; exact (Below.then hbelA hbel).cell (by assumption)
            have HC := Lib.hid (cut_step ms k hl1)
            have hrt := hrd.take 60
            obtain ⟨q, hq⟩ : ∃ q, ms[k].length = q := ⟨_, rfl⟩
            rw [hq] at hc' hlc
            have HQ := Lib.hid (show (ms[k].take 60).length = min q 60 by rw [List.length_take, hq, Nat.min_comm])
            have hmin : min q 60 ≤ c1 := Nat.le_trans (Nat.min_le_left _ _) hlc
            have hcut := fun W => cut_any A1 q c1 60 W hlc
            have HCUT := Lib.hid hcut
            have hki : (k : Int) < (m : Int) := by omega
            have hk6i : (k : Int) < 6 := by omega
            clear hcut hc hq
            go_wp2_with fail
            refine (HCUT.out _).mono ?_
            rintro e w' ⟨rfl, rfl⟩
            have hle := hbel.size
            go_wp2_with (at_builtin; refine wpList_append_one rfl _ _ 22 rfl wa.heap.size 23 i1 Tryd.underlying22 hi hz0 hz1 hz2 _ k vs rfl wr A1 (min q 60) c1 rfl HO.out rfl (by omega) hle ?_)
            intro v2 w2 hown2 hg2
            have HS2 := Lib.hid (HS.out.snoc HQ.out hmin hcm hrt)
            rw [← HC.out] at HS2
            have HO2 := Lib.hid hown2
            have hbel2 : Below wa.heap.size wa w2 := (hbel.alloc hle _).grown hg2 (by simp; omega) (fun k hk => (HO.out.lt k hk).1)
            skip
            clear hown2 hg2 hbel hle
            go_wp2_with fail
            go_roundw
            case rel => exact ⟨k + 1, _, by omega, by omega, by go_num, HO2, HS2, hbel2⟩
            case measure => simp [intOf]; omega
          · have hor : ¬ k < m ∨ ¬ k < 6 := by omega
            have hst := hor
            by_cases hkn : k < m
            · have hki : (k : Int) < (m : Int) := by omega
              have hk6i : ¬ (k : Int) < 6 := by omega
              have HOa := Lib.hid (own_keep HOw.out hbel)
              have hwr := hbel.size
              have hbel := Below.then hbelA hbel
              have hSb0 := HS.out
              rw [cut_end ms k (by rw [HM.out]; exact hk) hk6le (by rw [HM.out]; exact hst)] at hSb0
              obtain ⟨Ab, cb, rfl, _⟩ := own_slice HO.out
              have hra := RdR.of_own HOa.out (HSa.out.below hbel (Nat.le_refl _)) hbel.size
              have hrb := RdR.of_own HO.out (hSb0.below hbel (Nat.le_refl _)) hbel.size
              obtain ⟨lb, hlbe⟩ : ∃ x, cutRows ms = x := ⟨_, rfl⟩
              have rb := cutRows_rows ms
              have hlb1 := hSb0.1
              have hkb := HO.out.1
              rw [hlbe] at hrb rb hlb1
              have hlb : lb.length = k := by omega
              have rb1000 : ∀ r ∈ lb, r.length ≤ 1000 := fun r hr => by have := rb r hr; omega
              have ra1000 : ∀ r ∈ la, r.length ≤ 1000 := fun r hr => by have := ra r hr; omega
              have HTW := tab_on HT.out hbel hbel.size
              clear HO HS HOa HOw HSa hSb0 hlbe hkb hlb1 hst hor HM HL ha hb hwr hbelA
              cases t
              · go_wp2_with fail
                refine (nets_any Aa ka ca la _ hla (by omega) ra1000 hra HTW).mono ?_
                rintro e w3 ⟨X1, xc1, rfl, _, hx1, hb3⟩
                have hra3 := hra.below hb3 (Nat.le_refl _)
                have hra3' := hra3.more hb3.size
                have hrb3 := (hrb.below hb3 (Nat.le_refl _)).more hb3.size
                have hbel3 := Below.then hbel hb3
                clear hra hrb hra3 hb3 hbel HTW
                go_wp2_with fail
                refine (nets_any Ab k cb lb _ hlb (by omega) rb1000 hrb3 (tab_on HT.out hbel3 hbel3.size)).mono ?_
                rintro e w4 ⟨X2, xc2, rfl, _, hx2, hb4⟩
                have hx14 := hx1.on hb4
                have hra4 := (hra3'.below hb4 (Nat.le_refl _)).more hb4.size
                have hrb4 := (hrb3.below hb4 (Nat.le_refl _)).more hb4.size
                have hbel4 := Below.then hbel3 hb4
                clear hra3' hrb3 hb4 hbel3 hx1
                obtain ⟨j1, j2⟩ := judge ra rb
                have n1 := netsL_len la ra1000 la.length (Nat.le_refl _)
                have n2 := netsL_len lb rb1000 lb.length (Nat.le_refl _)
                rw [List.take_of_length_le (Nat.le_refl _)] at n1 n2
                rw [hla] at n1
                rw [hlb] at n2
                generalize netsL la = xl at *
                generalize netsL lb = yl at *
                obtain ⟨xn, hxn⟩ : ∃ x, xl.length = x := ⟨_, rfl⟩
                obtain ⟨yn, hyn⟩ : ∃ x, yl.length = x := ⟨_, rfl⟩
                have HXN := Lib.hid hxn
                have HYN := Lib.hid hyn
                have HLA := Lib.hid hla
                have HLB := Lib.hid hlb
                have RA := Lib.hid ra1000
                rw [hxn] at n1 ⊢
                rw [hyn] at n2 ⊢
                obtain ⟨p, hp⟩ : ∃ p, decide (xl = yl) = p := ⟨_, rfl⟩
                rw [hp] at j1 j2
                have HP := Lib.hid hp
                have HP2 := Lib.hid j1.symm
                have HX := Lib.hid hx14
                have HY := Lib.hid hx2
                have HRA := Lib.hid hra4
                have HRB := Lib.hid hrb4
                have HS1 := Lib.hid (fun W (a : Rd W w4.heap.size X1 xl) (b : Rd W w4.heap.size X2 yl) => same_any X1 X2 xn yn xc1 xc2 _ _ xl yl W HXN.out HYN.out (by unfold maxLen; omega) a b)
                rw [HP.out] at HS1
                have HR1 := Lib.hid (fun W (a : RdR W w4.heap.size Aa la) (b : RdR W w4.heap.size Ab lb) => rows_any Aa Ab ka k ca cb _ _ la lb W HLA.out HLB.out (by unfold maxLen; omega) a b (fun r hr => by have := RA.out r hr; unfold maxLen; omega))
                rw [HP2.out] at HR1
                have hB1 := fun W (a : Rd W w4.heap.size X1 xl) (hW : w4.heap.size ≤ W.heap.size) => base32_any X1 xn xc1 _ xl W HXN.out (by omega) a hW
                have hB2 := fun W (a : Rd W w4.heap.size X2 yl) (hW : w4.heap.size ≤ W.heap.size) => base32_any X2 yn xc2 _ yl W HYN.out (by omega) a hW
                generalize hex : enc xl = ex at *
                generalize hey : enc yl = ey at *
                have HB1 := Lib.hid hB1
                have HB2 := Lib.hid hB2
                clear hx14 hx2 hra4 hrb4 j1 hp hxn hyn hla hlb ra1000 rb1000 ra rb hex hey hB1 hB2
                go_wp2_with fail
                refine (HS1.out _ HX.out HY.out).mono ?_
                rintro e w5 ⟨rfl, q5, rfl⟩
                go_wp2_with fail
                refine (HR1.out _ (HRA.out.drewN _) (HRB.out.drewN _)).mono ?_
                rintro e w6 ⟨rfl, q6, rfl⟩
                have hbel6 := below_drewN (below_drewN hbel4 q5) q6
                have HX6 := Lib.hid ((HX.out.drewN q5).drewN q6)
                have HY6 := Lib.hid ((HY.out.drewN q5).drewN q6)
                have hs6 : w4.heap.size ≤ ((w4.drewN q5).drewN q6).heap.size := Nat.le_refl _
                generalize (w4.drewN q5).drewN q6 = w6 at *
                have hpp : (p == p) = true := by cases p <;> rfl
                go_wp2_with fail
                refine (HB1.out _ HX6.out hs6).mono ?_
                rintro e w7 ⟨rfl, hb7⟩
                have HX7 := Lib.hid (HX6.out.below hb7 hs6)
                have HY7 := Lib.hid (HY6.out.below hb7 hs6)
                have hs7 : w4.heap.size ≤ w7.heap.size := Nat.le_trans hs6 hb7.size
                have hbel7 := Below.then hbel6 hb7
                clear hb7 hbel6
                go_wp2_with fail
                refine (HB2.out _ HY7.out hs7).mono ?_
                rintro e w8 ⟨rfl, hb8⟩
                have HX8 := Lib.hid (HX7.out.below hb8 hs7)
                have HY8 := Lib.hid (HY7.out.below hb8 hs7)
                have hbel8 := Below.then hbel7 hb8
                clear hb8 hbel7
                go_wp2_with fail
                refine (HS1.out _ HX8.out HY8.out).mono ?_
                rintro e w9 ⟨rfl, q9, rfl⟩
                have hbel9 := below_drewN hbel8 q9
                clear hbel8
                go_wp2_with fail
                refine (wakes_any _ (tab_on HT.out hbel9 hbel9.size)).mono ?_
                rintro e w10 ⟨rfl, hb10⟩
                have hbel10 := Below.then hbel9 hb10
                clear hb10 hbel9
                go_wp2_with fail
                go_ret
                exact ⟨rfl, hbel10⟩
              · go_wp2_with fail
                refine (copyRows_any Aa ka ca la _ hla (by omega) ra1000 hra).mono ?_
                rintro e w2 ⟨Ab2, cb2, rfl, hrb0, hb2⟩
                have hra2 := (hra.below hb2 (Nat.le_refl _)).more hb2.size
                have hbel2 := Below.then hbel hb2
                have HTW2 := tab_on HT.out hbel2 hbel2.size
                clear hra hrb hbel hb2 HTW rb rb1000 hlb
                obtain ⟨lb2, hlbE⟩ : ∃ x, x = la := ⟨_, rfl⟩
                have hrb2 := hrb0
                rw [← hlbE] at hrb2
                have rb := ra
                rw [← hlbE] at rb
                have rb1000 := ra1000
                rw [← hlbE] at rb1000
                have hlb2 := hla
                rw [← hlbE] at hlb2
                clear hlbE hrb0
                go_wp2_with fail
                refine (nets_any Aa ka ca la _ hla (by omega) ra1000 hra2 HTW2).mono ?_
                rintro e w3 ⟨X1, xc1, rfl, _, hx1, hb3⟩
                have hra3 := hra2.below hb3 (Nat.le_refl _)
                have hra3' := hra3.more hb3.size
                have hrb3 := (hrb2.below hb3 (Nat.le_refl _)).more hb3.size
                have hbel3 := Below.then hbel2 hb3
                clear hra2 hrb2 hra3 hb3 hbel2 HTW2
                go_wp2_with fail
                refine (nets_any Ab2 ka cb2 lb2 _ hlb2 (by omega) rb1000 hrb3 (tab_on HT.out hbel3 hbel3.size)).mono ?_
                rintro e w4 ⟨X2, xc2, rfl, _, hx2, hb4⟩
                have hx14 := hx1.on hb4
                have hra4 := (hra3'.below hb4 (Nat.le_refl _)).more hb4.size
                have hrb4 := (hrb3.below hb4 (Nat.le_refl _)).more hb4.size
                have hbel4 := Below.then hbel3 hb4
                clear hra3' hrb3 hb4 hbel3 hx1
                obtain ⟨j1, j2⟩ := judge ra rb
                have n1 := netsL_len la ra1000 la.length (Nat.le_refl _)
                have n2 := netsL_len lb2 rb1000 lb2.length (Nat.le_refl _)
                rw [List.take_of_length_le (Nat.le_refl _)] at n1 n2
                rw [hla] at n1
                rw [hlb2] at n2
                generalize netsL la = xl at *
                generalize netsL lb2 = yl at *
                obtain ⟨xn, hxn⟩ : ∃ x, xl.length = x := ⟨_, rfl⟩
                obtain ⟨yn, hyn⟩ : ∃ x, yl.length = x := ⟨_, rfl⟩
                have HXN := Lib.hid hxn
                have HYN := Lib.hid hyn
                have HLA := Lib.hid hla
                have HLB := Lib.hid hlb2
                have RA := Lib.hid ra1000
                rw [hxn] at n1 ⊢
                rw [hyn] at n2 ⊢
                obtain ⟨p, hp⟩ : ∃ p, decide (xl = yl) = p := ⟨_, rfl⟩
                rw [hp] at j1 j2
                have HP := Lib.hid hp
                have HP2 := Lib.hid j1.symm
                have HX := Lib.hid hx14
                have HY := Lib.hid hx2
                have HRA := Lib.hid hra4
                have HRB := Lib.hid hrb4
                have HS1 := Lib.hid (fun W (a : Rd W w4.heap.size X1 xl) (b : Rd W w4.heap.size X2 yl) => same_any X1 X2 xn yn xc1 xc2 _ _ xl yl W HXN.out HYN.out (by unfold maxLen; omega) a b)
                rw [HP.out] at HS1
                have HR1 := Lib.hid (fun W (a : RdR W w4.heap.size Aa la) (b : RdR W w4.heap.size Ab2 lb2) => rows_any Aa Ab2 ka ka ca cb2 _ _ la lb2 W HLA.out HLB.out (by unfold maxLen; omega) a b (fun r hr => by have := RA.out r hr; unfold maxLen; omega))
                rw [HP2.out] at HR1
                have hB1 := fun W (a : Rd W w4.heap.size X1 xl) (hW : w4.heap.size ≤ W.heap.size) => base32_any X1 xn xc1 _ xl W HXN.out (by omega) a hW
                have hB2 := fun W (a : Rd W w4.heap.size X2 yl) (hW : w4.heap.size ≤ W.heap.size) => base32_any X2 yn xc2 _ yl W HYN.out (by omega) a hW
                generalize hex : enc xl = ex at *
                generalize hey : enc yl = ey at *
                have HB1 := Lib.hid hB1
                have HB2 := Lib.hid hB2
                clear hx14 hx2 hra4 hrb4 j1 hp hxn hyn hla hlb2 ra1000 rb1000 ra rb hex hey hB1 hB2
                go_wp2_with fail
                refine (HS1.out _ HX.out HY.out).mono ?_
                rintro e w5 ⟨rfl, q5, rfl⟩
                go_wp2_with fail
                refine (HR1.out _ (HRA.out.drewN _) (HRB.out.drewN _)).mono ?_
                rintro e w6 ⟨rfl, q6, rfl⟩
                have hbel6 := below_drewN (below_drewN hbel4 q5) q6
                have HX6 := Lib.hid ((HX.out.drewN q5).drewN q6)
                have HY6 := Lib.hid ((HY.out.drewN q5).drewN q6)
                have hs6 : w4.heap.size ≤ ((w4.drewN q5).drewN q6).heap.size := Nat.le_refl _
                generalize (w4.drewN q5).drewN q6 = w6 at *
                have hpp : (p == p) = true := by cases p <;> rfl
                go_wp2_with fail
                refine (HB1.out _ HX6.out hs6).mono ?_
                rintro e w7 ⟨rfl, hb7⟩
                have HX7 := Lib.hid (HX6.out.below hb7 hs6)
                have HY7 := Lib.hid (HY6.out.below hb7 hs6)
                have hs7 : w4.heap.size ≤ w7.heap.size := Nat.le_trans hs6 hb7.size
                have hbel7 := Below.then hbel6 hb7
                clear hb7 hbel6
                go_wp2_with fail
                refine (HB2.out _ HY7.out hs7).mono ?_
                rintro e w8 ⟨rfl, hb8⟩
                have HX8 := Lib.hid (HX7.out.below hb8 hs7)
                have HY8 := Lib.hid (HY7.out.below hb8 hs7)
                have hbel8 := Below.then hbel7 hb8
                clear hb8 hbel7
                go_wp2_with fail
                refine (HS1.out _ HX8.out HY8.out).mono ?_
                rintro e w9 ⟨rfl, q9, rfl⟩
                have hbel9 := below_drewN hbel8 q9
                clear hbel8
                go_wp2_with fail
                refine (wakes_any _ (tab_on HT.out hbel9 hbel9.size)).mono ?_
                rintro e w10 ⟨rfl, hb10⟩
                have hbel10 := Below.then hbel9 hb10
                clear hb10 hbel9
                go_wp2_with fail
                go_ret
                exact ⟨rfl, hbel10⟩
            · have hki : ¬ (k : Int) < (m : Int) := by omega
              have HOa := Lib.hid (own_keep HOw.out hbel)
              have hwr := hbel.size
              have hbel := Below.then hbelA hbel
              have hSb0 := HS.out
              rw [cut_end ms k (by rw [HM.out]; exact hk) hk6le (by rw [HM.out]; exact hst)] at hSb0
              obtain ⟨Ab, cb, rfl, _⟩ := own_slice HO.out
              have hra := RdR.of_own HOa.out (HSa.out.below hbel (Nat.le_refl _)) hbel.size
              have hrb := RdR.of_own HO.out (hSb0.below hbel (Nat.le_refl _)) hbel.size
              obtain ⟨lb, hlbe⟩ : ∃ x, cutRows ms = x := ⟨_, rfl⟩
              have rb := cutRows_rows ms
              have hlb1 := hSb0.1
              have hkb := HO.out.1
              rw [hlbe] at hrb rb hlb1
              have hlb : lb.length = k := by omega
              have rb1000 : ∀ r ∈ lb, r.length ≤ 1000 := fun r hr => by have := rb r hr; omega
              have ra1000 : ∀ r ∈ la, r.length ≤ 1000 := fun r hr => by have := ra r hr; omega
              have HTW := tab_on HT.out hbel hbel.size
              clear HO HS HOa HOw HSa hSb0 hlbe hkb hlb1 hst hor HM HL ha hb hwr hbelA
              cases t
              · go_wp2_with fail
                refine (nets_any Aa ka ca la _ hla (by omega) ra1000 hra HTW).mono ?_
                rintro e w3 ⟨X1, xc1, rfl, _, hx1, hb3⟩
                have hra3 := hra.below hb3 (Nat.le_refl _)
                have hra3' := hra3.more hb3.size
                have hrb3 := (hrb.below hb3 (Nat.le_refl _)).more hb3.size
                have hbel3 := Below.then hbel hb3
                clear hra hrb hra3 hb3 hbel HTW
                go_wp2_with fail
                refine (nets_any Ab k cb lb _ hlb (by omega) rb1000 hrb3 (tab_on HT.out hbel3 hbel3.size)).mono ?_
                rintro e w4 ⟨X2, xc2, rfl, _, hx2, hb4⟩
                have hx14 := hx1.on hb4
                have hra4 := (hra3'.below hb4 (Nat.le_refl _)).more hb4.size
                have hrb4 := (hrb3.below hb4 (Nat.le_refl _)).more hb4.size
                have hbel4 := Below.then hbel3 hb4
                clear hra3' hrb3 hb4 hbel3 hx1
                obtain ⟨j1, j2⟩ := judge ra rb
                have n1 := netsL_len la ra1000 la.length (Nat.le_refl _)
                have n2 := netsL_len lb rb1000 lb.length (Nat.le_refl _)
                rw [List.take_of_length_le (Nat.le_refl _)] at n1 n2
                rw [hla] at n1
                rw [hlb] at n2
                generalize netsL la = xl at *
                generalize netsL lb = yl at *
                obtain ⟨xn, hxn⟩ : ∃ x, xl.length = x := ⟨_, rfl⟩
                obtain ⟨yn, hyn⟩ : ∃ x, yl.length = x := ⟨_, rfl⟩
                have HXN := Lib.hid hxn
                have HYN := Lib.hid hyn
                have HLA := Lib.hid hla
                have HLB := Lib.hid hlb
                have RA := Lib.hid ra1000
                rw [hxn] at n1 ⊢
                rw [hyn] at n2 ⊢
                obtain ⟨p, hp⟩ : ∃ p, decide (xl = yl) = p := ⟨_, rfl⟩
                rw [hp] at j1 j2
                have HP := Lib.hid hp
                have HP2 := Lib.hid j1.symm
                have HX := Lib.hid hx14
                have HY := Lib.hid hx2
                have HRA := Lib.hid hra4
                have HRB := Lib.hid hrb4
                have HS1 := Lib.hid (fun W (a : Rd W w4.heap.size X1 xl) (b : Rd W w4.heap.size X2 yl) => same_any X1 X2 xn yn xc1 xc2 _ _ xl yl W HXN.out HYN.out (by unfold maxLen; omega) a b)
                rw [HP.out] at HS1
                have HR1 := Lib.hid (fun W (a : RdR W w4.heap.size Aa la) (b : RdR W w4.heap.size Ab lb) => rows_any Aa Ab ka k ca cb _ _ la lb W HLA.out HLB.out (by unfold maxLen; omega) a b (fun r hr => by have := RA.out r hr; unfold maxLen; omega))
                rw [HP2.out] at HR1
                have hB1 := fun W (a : Rd W w4.heap.size X1 xl) (hW : w4.heap.size ≤ W.heap.size) => base32_any X1 xn xc1 _ xl W HXN.out (by omega) a hW
                have hB2 := fun W (a : Rd W w4.heap.size X2 yl) (hW : w4.heap.size ≤ W.heap.size) => base32_any X2 yn xc2 _ yl W HYN.out (by omega) a hW
                generalize hex : enc xl = ex at *
                generalize hey : enc yl = ey at *
                have HB1 := Lib.hid hB1
                have HB2 := Lib.hid hB2
                clear hx14 hx2 hra4 hrb4 j1 hp hxn hyn hla hlb ra1000 rb1000 ra rb hex hey hB1 hB2
                go_wp2_with fail
                refine (HS1.out _ HX.out HY.out).mono ?_
                rintro e w5 ⟨rfl, q5, rfl⟩
                go_wp2_with fail
                refine (HR1.out _ (HRA.out.drewN _) (HRB.out.drewN _)).mono ?_
                rintro e w6 ⟨rfl, q6, rfl⟩
                have hbel6 := below_drewN (below_drewN hbel4 q5) q6
                have HX6 := Lib.hid ((HX.out.drewN q5).drewN q6)
                have HY6 := Lib.hid ((HY.out.drewN q5).drewN q6)
                have hs6 : w4.heap.size ≤ ((w4.drewN q5).drewN q6).heap.size := Nat.le_refl _
                generalize (w4.drewN q5).drewN q6 = w6 at *
                have hpp : (p == p) = true := by cases p <;> rfl
                go_wp2_with fail
                refine (HB1.out _ HX6.out hs6).mono ?_
                rintro e w7 ⟨rfl, hb7⟩
                have HX7 := Lib.hid (HX6.out.below hb7 hs6)
                have HY7 := Lib.hid (HY6.out.below hb7 hs6)
                have hs7 : w4.heap.size ≤ w7.heap.size := Nat.le_trans hs6 hb7.size
                have hbel7 := Below.then hbel6 hb7
                clear hb7 hbel6
                go_wp2_with fail
                refine (HB2.out _ HY7.out hs7).mono ?_
                rintro e w8 ⟨rfl, hb8⟩
                have HX8 := Lib.hid (HX7.out.below hb8 hs7)
                have HY8 := Lib.hid (HY7.out.below hb8 hs7)
                have hbel8 := Below.then hbel7 hb8
                clear hb8 hbel7
                go_wp2_with fail
                refine (HS1.out _ HX8.out HY8.out).mono ?_
                rintro e w9 ⟨rfl, q9, rfl⟩
                have hbel9 := below_drewN hbel8 q9
                clear hbel8
                go_wp2_with fail
                refine (wakes_any _ (tab_on HT.out hbel9 hbel9.size)).mono ?_
                rintro e w10 ⟨rfl, hb10⟩
                have hbel10 := Below.then hbel9 hb10
                clear hb10 hbel9
                go_wp2_with fail
                go_ret
                exact ⟨rfl, hbel10⟩
              · go_wp2_with fail
                refine (copyRows_any Aa ka ca la _ hla (by omega) ra1000 hra).mono ?_
                rintro e w2 ⟨Ab2, cb2, rfl, hrb0, hb2⟩
                have hra2 := (hra.below hb2 (Nat.le_refl _)).more hb2.size
                have hbel2 := Below.then hbel hb2
                have HTW2 := tab_on HT.out hbel2 hbel2.size
                clear hra hrb hbel hb2 HTW rb rb1000 hlb
                obtain ⟨lb2, hlbE⟩ : ∃ x, x = la := ⟨_, rfl⟩
                have hrb2 := hrb0
                rw [← hlbE] at hrb2
                have rb := ra
                rw [← hlbE] at rb
                have rb1000 := ra1000
                rw [← hlbE] at rb1000
                have hlb2 := hla
                rw [← hlbE] at hlb2
                clear hlbE hrb0
                go_wp2_with fail
                refine (nets_any Aa ka ca la _ hla (by omega) ra1000 hra2 HTW2).mono ?_
                rintro e w3 ⟨X1, xc1, rfl, _, hx1, hb3⟩
                have hra3 := hra2.below hb3 (Nat.le_refl _)
                have hra3' := hra3.more hb3.size
                have hrb3 := (hrb2.below hb3 (Nat.le_refl _)).more hb3.size
                have hbel3 := Below.then hbel2 hb3
                clear hra2 hrb2 hra3 hb3 hbel2 HTW2
                go_wp2_with fail
                refine (nets_any Ab2 ka cb2 lb2 _ hlb2 (by omega) rb1000 hrb3 (tab_on HT.out hbel3 hbel3.size)).mono ?_
                rintro e w4 ⟨X2, xc2, rfl, _, hx2, hb4⟩
                have hx14 := hx1.on hb4
                have hra4 := (hra3'.below hb4 (Nat.le_refl _)).more hb4.size
                have hrb4 := (hrb3.below hb4 (Nat.le_refl _)).more hb4.size
                have hbel4 := Below.then hbel3 hb4
                clear hra3' hrb3 hb4 hbel3 hx1
                obtain ⟨j1, j2⟩ := judge ra rb
                have n1 := netsL_len la ra1000 la.length (Nat.le_refl _)
                have n2 := netsL_len lb2 rb1000 lb2.length (Nat.le_refl _)
                rw [List.take_of_length_le (Nat.le_refl _)] at n1 n2
                rw [hla] at n1
                rw [hlb2] at n2
                generalize netsL la = xl at *
                generalize netsL lb2 = yl at *
                obtain ⟨xn, hxn⟩ : ∃ x, xl.length = x := ⟨_, rfl⟩
                obtain ⟨yn, hyn⟩ : ∃ x, yl.length = x := ⟨_, rfl⟩
                have HXN := Lib.hid hxn
                have HYN := Lib.hid hyn
                have HLA := Lib.hid hla
                have HLB := Lib.hid hlb2
                have RA := Lib.hid ra1000
                rw [hxn] at n1 ⊢
                rw [hyn] at n2 ⊢
                obtain ⟨p, hp⟩ : ∃ p, decide (xl = yl) = p := ⟨_, rfl⟩
                rw [hp] at j1 j2
                have HP := Lib.hid hp
                have HP2 := Lib.hid j1.symm
                have HX := Lib.hid hx14
                have HY := Lib.hid hx2
                have HRA := Lib.hid hra4
                have HRB := Lib.hid hrb4
                have HS1 := Lib.hid (fun W (a : Rd W w4.heap.size X1 xl) (b : Rd W w4.heap.size X2 yl) => same_any X1 X2 xn yn xc1 xc2 _ _ xl yl W HXN.out HYN.out (by unfold maxLen; omega) a b)
                rw [HP.out] at HS1
                have HR1 := Lib.hid (fun W (a : RdR W w4.heap.size Aa la) (b : RdR W w4.heap.size Ab2 lb2) => rows_any Aa Ab2 ka ka ca cb2 _ _ la lb2 W HLA.out HLB.out (by unfold maxLen; omega) a b (fun r hr => by have := RA.out r hr; unfold maxLen; omega))
                rw [HP2.out] at HR1
                have hB1 := fun W (a : Rd W w4.heap.size X1 xl) (hW : w4.heap.size ≤ W.heap.size) => base32_any X1 xn xc1 _ xl W HXN.out (by omega) a hW
                have hB2 := fun W (a : Rd W w4.heap.size X2 yl) (hW : w4.heap.size ≤ W.heap.size) => base32_any X2 yn xc2 _ yl W HYN.out (by omega) a hW
                generalize hex : enc xl = ex at *
                generalize hey : enc yl = ey at *
                have HB1 := Lib.hid hB1
                have HB2 := Lib.hid hB2
                clear hx14 hx2 hra4 hrb4 j1 hp hxn hyn hla hlb2 ra1000 rb1000 ra rb hex hey hB1 hB2
                go_wp2_with fail
                refine (HS1.out _ HX.out HY.out).mono ?_
                rintro e w5 ⟨rfl, q5, rfl⟩
                go_wp2_with fail
                refine (HR1.out _ (HRA.out.drewN _) (HRB.out.drewN _)).mono ?_
                rintro e w6 ⟨rfl, q6, rfl⟩
                have hbel6 := below_drewN (below_drewN hbel4 q5) q6
                have HX6 := Lib.hid ((HX.out.drewN q5).drewN q6)
                have HY6 := Lib.hid ((HY.out.drewN q5).drewN q6)
                have hs6 : w4.heap.size ≤ ((w4.drewN q5).drewN q6).heap.size := Nat.le_refl _
                generalize (w4.drewN q5).drewN q6 = w6 at *
                have hpp : (p == p) = true := by cases p <;> rfl
                go_wp2_with fail
                refine (HB1.out _ HX6.out hs6).mono ?_
                rintro e w7 ⟨rfl, hb7⟩
                have HX7 := Lib.hid (HX6.out.below hb7 hs6)
                have HY7 := Lib.hid (HY6.out.below hb7 hs6)
                have hs7 : w4.heap.size ≤ w7.heap.size := Nat.le_trans hs6 hb7.size
                have hbel7 := Below.then hbel6 hb7
                clear hb7 hbel6
                go_wp2_with fail
                refine (HB2.out _ HY7.out hs7).mono ?_
                rintro e w8 ⟨rfl, hb8⟩
                have HX8 := Lib.hid (HX7.out.below hb8 hs7)
                have HY8 := Lib.hid (HY7.out.below hb8 hs7)
                have hbel8 := Below.then hbel7 hb8
                clear hb8 hbel7
                go_wp2_with fail
                refine (HS1.out _ HX8.out HY8.out).mono ?_
                rintro e w9 ⟨rfl, q9, rfl⟩
                have hbel9 := below_drewN hbel8 q9
                clear hbel8
                go_wp2_with fail
                refine (wakes_any _ (tab_on HT.out hbel9 hbel9.size)).mono ?_
                rintro e w10 ⟨rfl, hb10⟩
                have hbel10 := Below.then hbel9 hb10
                clear hb10 hbel9
                go_wp2_with fail
                go_ret
                exact ⟨rfl, hbel10⟩

theorem contract (H : Type) (enc : TypeId × Value → H) (W : World) (base : Nat) (args : Array Value) (ds gs : List (DataW H)) (before : List MemPlace)
    (hval : ∀ (j : Nat) t v, Tryd.f3.params[j]? = some t → args[j]? = some v → Value.okWide Tryd.prog W .any base t v)
    (hW : DataW.Whole enc Tryd.prog Tryd.f3.params.toList Rows.codeUnlikeSpec.vars false W args.toList ds gs before) (hL : laidMetH Tryd.prog Rows.codeUnlikeRow.laid W) :
    Calls Tryd.prog 3 args W fun e W' => ∃ v, e = .returned v ∧ Rows.codeUnlikeSpec.post enc Tryd.prog Tryd.f3 false true false false W args v W' := by
  have hW' := hW
  obtain ⟨p, q, hA0, hV, rfl, hfz, hnd⟩ := hW
  have hA : DataW.TrodAll enc Tryd.prog W 0 (fun _ => true) true Tryd.f3.params.toList args.toList ds p := hA0
  rw [Tryd.params3] at hA hval
  obtain ⟨v0, v1, v2, d0, d1, d2, p0, p1, p2, rfl, rfl, rfl, h0, h1, h2⟩ := trodAll_three hA
  obtain ⟨rfl, rfl⟩ := trodVars_none hV
  obtain ⟨A0, m0, c0, l0, rfl, hl0, hc0, hm0, hr0⟩ := open_rows (hval 0 22 v0 rfl rfl) h0
  obtain ⟨A1, m1, c1, l1, rfl, hl1, hc1, hm1, hr1⟩ := open_rows (hval 1 22 v1 rfl rfl) h1
  obtain ⟨t2, rfl, rfl, rfl⟩ := open_bool Tryd.underlying4 (hval 2 4 v2 rfl rfl) h2
  clear hA0
  refine (walk A0 A1 m0 m1 c0 c1 l0 l1 t2 W hl0 hl1 hr0 hr1 (pow10 hL)).mono fun e W' ⟨he, hb⟩ => ?_
  exact ⟨_, he, law_post hW' rfl (by kernel_rfl) rfl (by kernel_rfl) hb⟩

theorem laid_met (os : Os) : laidMet Tryd.prog Rows.codeUnlikeRow.laid ((laidWorld os).forCall (fun _ _ => 0) ⟨#[], #[.slice none 0 0, .slice none 0 0, .bool false], []⟩).memory :=
  laidMet_of_run' 8 (by kernel_rfl) (by kernel_rfl)
theorem reads (os : Os) {H : Type} (enc : TypeId × Value → H) : ∃ places, DataW.whole enc Tryd.prog ((laidWorld os).forCall (fun _ _ => 0) ⟨#[], #[.slice none 0 0, .slice none 0 0, .bool false], []⟩).memory Tryd.f3.params.toList Rows.codeUnlikeSpec.vars false #[Value.slice none 0 0, Value.slice none 0 0, Value.bool false].toList 8 = some ([.nil, .nil, .lit (.bool false)], [], places) :=
  ⟨[], by kernel_rfl⟩

set_option maxRecDepth 100000 in
theorem lifted (os : Os) (started : os.Started) (H : Type) (enc : TypeId × Value → H) (F : Stop.Interp) :
    ReturnsInHanded {} Tryd.checked os 3 .any ((OpenSpec.ofChange Rows.codeUnlikeSpec).preRow enc Tryd.prog Tryd.f3 Rows.codeUnlikeRow.domain false Rows.codeUnlikeRow.laid) (((OpenSpec.ofChange Rows.codeUnlikeSpec).at F).post enc Tryd.prog Tryd.f3 false true false false) := by
  obtain ⟨places, hx⟩ := reads os enc
  refine returnsInHanded_of_row (C := Tryd.checked) (s := OpenSpec.ofChange Rows.codeUnlikeSpec) own started (by kernel_rfl) Tryd.func3
    (witness_row_at (enc := enc) (C := Tryd.checked) false (laidWorld os) #[.slice none 0 0, .slice none 0 0, .bool false] rfl (by kernel_rfl) (by kernel_rfl) (by kernel_rfl)
      (OpenSpec.preRow_of_cond 8 hx (by kernel_rfl) (fun k hk => by cases hk) (by kernel_rfl) (laid_met os))) ?_
  intro W base args ds gs before hval hW _ _ _ hL _ _
  exact contract H enc W base args ds gs before hval hW hL

theorem said : Rows.CodeUnlikeSaid :=
  OpenClaim.holds_of_cond 3 Tryd.f3 rfl rfl rfl rfl rfl rfl rfl ⟨rfl, rfl, rfl, rfl, rfl⟩ rfl rfl rfl rfl rfl (by kernel_rfl) Tryd.func3 (by kernel_rfl)
    (of_decide_eq_true (by kernel_rfl)) (by unfold Func.isWrapper; first | (rw [if_pos (by decide +kernel)]; kernel_rfl) | (rw [if_neg (by decide +kernel)]; exact ⟨rfl, rfl⟩))
    (fun os started H enc _ F => by rw [OpenClaim.pre_eq_preRow]; exact lifted os started H enc F)

theorem plain (f : FuncId) (fn : Func) (hf : Tryd.pinned.checked.prog.funcNamed "aumbry/aumbrylaw01.CodeUnlike" = some f) (hfn : Tryd.pinned.checked.prog.funcs[f]? = some fn) :
    false = Tryd.pinned.checked.prog.looks [] ∧ ∀ (j : Nat) t, fn.params[j]? = some t → Tryd.pinned.checked.prog.wantsStandIn t = false := by
  obtain rfl : f = 3 := Option.some.inj ((show Tryd.prog.funcNamed "aumbry/aumbrylaw01.CodeUnlike" = some 3 by kernel_rfl).symm.trans hf) |>.symm
  obtain rfl : fn = Tryd.f3 := (Option.some.inj (Tryd.func3.symm.trans hfn)).symm
  refine ⟨by kernel_rfl, fun j t ht => ?_⟩
  exact wants_none (by kernel_rfl) (Array.mem_of_getElem? ht)

/-- The card: the statement holds, its listed tables tied to the program's text. -/
theorem card : Rows.CodeUnlikeCardSaid :=
  Claim7.holds_tied_plain_at .later [] _ _ _ _ said (fun _ h => by cases h) (by kernel_rfl) (fun _ h => by cases h) codeUnlike_row_tie rfl ⟨rfl, rfl⟩ (by kernel_rfl) rfl plain (by kernel_rfl)
end Go.Proofs.YtoidkaeomgglcaaDoor.codeUnlike
