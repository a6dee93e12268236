/- CodeRows: rows that are written are taken, one by one and all at once; one more or fewer is none; cut anywhere they are none. For all rows. -/
import Derived.Test.YtoidkaeomgglcaaDoorLaw
import Derived.Test.YtoidkaeomgglcaaDoorOpen
import Derived.Test.YtoidkaeomgglcaaDoorKeep
import Derived.Test.YtoidkaeomgglcaaDoorWakes
import Derived.Test.YtoidkaeomgglcaaDoorTakeRows
import Derived.Test.YtoidkaeomgglcaaDoorRowsCmp
namespace Go.Proofs.YtoidkaeomgglcaaDoor.codeRows
open Go.ChangeShapes Go.WideShapes Go.ChangeAt Go.RowKit

def cutRows (ls : List (List UInt8)) : List (List UInt8) := (ls.take 8).map (·.take 100)
theorem cutRows_len (ls : List (List UInt8)) : (cutRows ls).length ≤ 8 := by simp [cutRows]; omega
theorem cutRows_rows (ls : List (List UInt8)) : ∀ r ∈ cutRows ls, r.length ≤ 100 := by
  intro r hr
  obtain ⟨x, _, rfl⟩ := List.mem_map.1 hr
  simp; omega
theorem cut_step (ls : List (List UInt8)) (k : Nat) (h : k < ls.length) : (ls.take (k + 1)).map (·.take 100) = (ls.take k).map (·.take 100) ++ [ls[k].take 100] := by
  rw [List.take_succ_eq_append_getElem h, List.map_append]; rfl
theorem cut_end (ls : List (List UInt8)) (k : Nat) (hk : k ≤ ls.length) (hk6 : k ≤ 8) (h : ¬ k < ls.length ∨ ¬ k < 8) : (ls.take k).map (·.take 100) = cutRows ls := by
  unfold cutRows
  rcases h with h | h
  · obtain rfl : k = ls.length := by omega
    rw [List.take_of_length_le (Nat.le_refl _), List.take_of_length_le (by omega)]
  · obtain rfl : k = 8 := by omega
    rfl

/-- TakeNets, its answer given. -/
theorem takeNets_as (A : Option Addr) (n c m : Nat) (b : Bool) (N : Int) (l : List UInt8) (o : Option (List (List UInt8))) (w : World) (ho : takesN N l = o) (hm : (rowsOf o).length = m) (hb : o.isSome = b) (hl : l.length = n) (hnc : n ≤ c) (h1 : n ≤ 1000000) (hN : N ≤ 100000) (ha : Rd w w.heap.size A l) :
    Calls Tryd.prog 33 #[.slice A n c, .int .i64 N] w fun e w' => ∃ A1 c1, e = .returned (.tuple #[.slice A1 m c1, .bool b]) ∧ m ≤ c1 ∧ RdR w' w'.heap.size A1 (rowsOf o) ∧ Below w.heap.size w w' := by
  subst hm hb ho
  exact takeNets_any A n c N l w hl hnc h1 hN ha

theorem takeNet_as (A : Option Addr) (n c m1 m2 : Nat) (l x r : List UInt8) (w : World) (ho : takeL l = some (x, r)) (hm1 : x.length = m1) (hm2 : r.length = m2) (hl : l.length = n) (hnc : n ≤ c) (h1 : n ≤ 1000000) (ha : Rd w w.heap.size A l) :
    Calls Tryd.prog 31 #[.slice A n c] w fun e w' => ∃ A1 c1 A2 c2, e = .returned (.tuple #[.slice A1 m1 c1, .slice A2 m2 c2, .bool true]) ∧
      m1 ≤ c1 ∧ m2 ≤ c2 ∧ Rd w' w'.heap.size A1 x ∧ Rd w' w'.heap.size A2 r ∧ Below w.heap.size w w' := by
  have h := takeNet_any A n c l w hl hnc h1 ha
  rw [ho] at h
  subst hm1 hm2
  exact h

set_option maxHeartbeats 8000000 in
theorem walk (A : Option Addr) (n c : Nat) (ls : List (List UInt8)) (a : Int) (w : World) (hl : ls.length = n) (ha : RdR w w.heap.size A ls) (h0 : -9223372036854775808 ≤ a) (h1 : a ≤ 9223372036854775807) (htab : Pow10 w.heap.size w) :
    Calls Tryd.prog 9 #[.slice A n c, .int .i64 a] w fun e w' => e = .returned (.bool true) ∧ Below w.heap.size w w' := by
  obtain ⟨i1, hi, hz0, hz1, hz2⟩ := info_parts infoSlice
  have HT := Lib.hid htab
  have HL := Lib.hid hl
  clear htab hl
  go_enter Tryd.func9, Tryd.ntmps9
  go_wp2_with fail
  go_loopw [5, 6] (fun v i wr => ∃ (k : Nat) (vs : List Value), k ≤ n ∧ k ≤ 8 ∧ i = .int .i64 k ∧ Hid (wr.ownsRow w.heap.size 23 1 v k vs) ∧ Hid (sliceVals w w.heap.size vs ((ls.take k).map (·.take 100))) ∧ Below w.heap.size w wr) (fun _ i _ => 8 - (intOf i).toNat)
  case atStart => exact ⟨0, [], Nat.zero_le _, Nat.zero_le _, rfl, Lib.hid (World.ownsRow_nil _ _ _ _), Lib.hid (sliceVals.nil _ _), Below.refl _ _⟩
  case round =>
    obtain ⟨k, vs, hk, hk6le, rfl, HO, HS, hbel⟩ := hrel
    by_cases hlt : k < n ∧ k < 8
    · obtain ⟨hkn, hk6⟩ := hlt
      have hl1 : k < ls.length := by rw [HL.out]; exact hkn
      obtain ⟨b, off, A1, c1, rfl, _, hc, hlc, hcm, hrd⟩ := ha.at_ k hl1
      have hc' : wr.cell? ⟨b, off + k, none⟩ = some (.slice A1 ls[k].length c1) := by rw [← hc]; exact hbel.cell (by assumption)
      have HC := Lib.hid (cut_step ls k hl1)
      have hrt := hrd.take 100
      obtain ⟨q, hq⟩ : ∃ q, ls[k].length = q := ⟨_, rfl⟩
      rw [hq] at hc' hlc
      have HQ := Lib.hid (show (ls[k].take 100).length = min q 100 by rw [List.length_take, hq, Nat.min_comm])
      have hmin : min q 100 ≤ c1 := Nat.le_trans (Nat.min_le_left _ _) hlc
      have hcut := fun W => cut_any A1 q c1 100 W hlc
      have HCUT := Lib.hid hcut
      have hki : (k : Int) < (n : Int) := by omega
      have hk6i : (k : Int) < 8 := by omega
      clear hcut hc hq
      go_wp2_with fail
      refine (HCUT.out _).mono ?_
      rintro e w' ⟨rfl, rfl⟩
      have hle := hbel.size
      go_wp2_with (at_builtin; refine wpList_append_one rfl _ _ 22 rfl w.heap.size 23 i1 Tryd.underlying22 hi hz0 hz1 hz2 _ k vs rfl wr A1 (min q 100) c1 rfl HO.out rfl (by omega) hle ?_)
      intro v2 w2 hown2 hg2
      have HS2 := Lib.hid (HS.out.snoc HQ.out hmin hcm hrt)
      rw [← HC.out] at HS2
      have HO2 := Lib.hid hown2
      have hbel2 : Below w.heap.size w w2 := (hbel.alloc hle _).grown hg2 (by simp; omega) (fun k hk => (HO.out.lt k hk).1)
      clear hown2 hg2 hbel hle
      go_wp2_with fail
      go_roundw
      case rel => exact ⟨k + 1, _, by omega, by omega, by go_num, HO2, HS2, hbel2⟩
      case measure => simp [intOf]; omega
    · have hor : ¬ k < n ∨ ¬ k < 8 := by omega
      have hst := hor
      have hSa0 := HS.out
      rw [cut_end ls k (by rw [HL.out]; exact hk) hk6le (by rw [HL.out]; exact hst)] at hSa0
      obtain ⟨Aa, ca, rfl, _⟩ := own_slice HO.out
      have hra := RdR.of_own HO.out (hSa0.below hbel (Nat.le_refl _)) hbel.size
      obtain ⟨la, hlae⟩ : ∃ x, cutRows ls = x := ⟨_, rfl⟩
      have ra := cutRows_rows ls
      rw [hlae] at hSa0 ra hra
      have hla1 := hSa0.1
      have hla2 := HO.out.1
      have HLA := Lib.hid (show la.length = k by omega)
      have HRA := Lib.hid (show ∀ r ∈ la, r.length ≤ 1000 from fun r hr => by have := ra r hr; omega)
      have HTW := Lib.hid (tab_on HT.out hbel hbel.size)
      have HN := Lib.hid (fun W (hr : RdR W W.heap.size Aa la) (ht : Pow10 W.heap.size W) => nets_any Aa k ca la W HLA.out (by omega) HRA.out hr ht)
      have n1 := netsL_len la HRA.out la.length (Nat.le_refl _)
      rw [List.take_of_length_le (Nat.le_refl _), HLA.out] at n1
      have HK1 := Lib.hid (show takesN (k : Int) (netsL la) = some la by unfold takesN; rw [if_neg (by omega), takesL_nets _ _ HRA.out, if_pos (by have := HLA.out; omega)])
      have HK2 := Lib.hid (show takesN ((k : Int) + 1) (netsL la) = none by unfold takesN; rw [if_neg (by omega), takesL_nets _ _ HRA.out, if_neg (by have := HLA.out; omega)])
      have HK3 := Lib.hid (show takesN ((k : Int) - 1) (netsL la) = none by
        unfold takesN
        by_cases hk0 : k = 0
        · rw [if_pos (by omega)]
        · rw [if_neg (by omega), takesL_nets _ _ HRA.out, if_neg (by have := HLA.out; omega)])
      have HK4 := Lib.hid (fun p (hp : p < (netsL la).length) => show takesN (k : Int) ((netsL la).take p) = none by
        unfold takesN
        rw [if_neg (by omega), show (k : Int).toNat = la.length by have := HLA.out; omega, takesL_cut la p HRA.out hp])
      have HK5 := Lib.hid (fun (j : Nat) (hj : j < la.length) => takeL_drop la j hj HRA.out)
      have HK6 := Lib.hid (fun (j : Nat) (hj : j < la.length) => show (netsL (la.drop (j + 1))).length ≤ (netsL (la.drop j)).length by rw [netsL_drop la j hj]; simp)
      have HD0 := Lib.hid (show netsL (la.drop 0) = netsL la from rfl)
      have HD1 := Lib.hid (show (netsL (la.drop k)).length = 0 by rw [List.drop_of_length_le (by rw [HLA.out]; exact Nat.le_refl _)]; rfl)
      obtain ⟨xl, hxl⟩ : ∃ x, netsL la = x := ⟨_, rfl⟩
      rw [hxl] at n1 HK1 HK2 HK3 HD0 HN
      rw [hxl] at HK4
      have HRD := Lib.hid hra
      obtain ⟨xn, hxn⟩ : ∃ x, xl.length = x := ⟨_, rfl⟩
      rw [hxn] at n1 HN
      rw [hxn] at HK4
      have HXN := Lib.hid hxn
      have HPOS := Lib.hid (show ¬ k = 0 → 0 < xn by
        intro hk0
        rw [← hxn, ← hxl]
        exact netsL_ne la (by rintro rfl; exact hk0 (by have := HLA.out; simpa using this.symm)))
      have HXL := Lib.hid hxl
      obtain ⟨wa, rfl⟩ : ∃ wo : World, wo = wr := ⟨_, rfl⟩
      clear HS hSa0 hlae hla1 hla2 hst HO ha ra hra HT HL hxn hxl
      rcases (show ((k : Int) < (n : Int) ∧ ¬ (k : Int) < 8) ∨ ¬ (k : Int) < (n : Int) by omega) with ⟨hki, hk6i⟩ | hki <;> (
        clear hor
        go_wp2_with fail
        refine (HN.out _ HRD.out HTW.out).mono ?_
        rintro e w1 ⟨X1, xc, rfl, hxc, hx1, hb1⟩
        have HX := Lib.hid hx1
        have HR1 := Lib.hid ((HRD.out.below hb1 (Nat.le_refl _)).more hb1.size)
        have hbel1 := Below.then hbel hb1
        have hT1 := fun W (r : Rd W W.heap.size X1 xl) => takeNets_as X1 xn xc k true k xl _ W HK1.out HLA.out rfl HXN.out hxc (by omega) (by omega) r
        have hT2 := fun W (r : Rd W W.heap.size X1 xl) => takeNets_as X1 xn xc 0 false _ xl _ W HK2.out rfl rfl HXN.out hxc (by omega) (by omega) r
        have hT3 := fun W (r : Rd W W.heap.size X1 xl) => takeNets_as X1 xn xc 0 false _ xl _ W HK3.out rfl rfl HXN.out hxc (by omega) (by omega) r
        have HT1 := Lib.hid hT1
        have HT2 := Lib.hid hT2
        have HT3 := Lib.hid hT3
        have HTW1 := Lib.hid (tab_on HTW.out hb1 hb1.size)
        have HRR := Lib.hid (fun (A2 : Option Addr) (c2 : Nat) W (a : RdR W W.heap.size A2 la) (b : RdR W W.heap.size Aa la) => rows_any A2 Aa k k c2 ca _ _ la la W HLA.out HLA.out (by unfold maxLen; omega) a b (fun r hr => by have := HRA.out r hr; unfold maxLen; omega))
        rw [decide_eq_true (show la = la from rfl)] at HRR
        clear hx1 hb1 hbel hT1 hT2 hT3 HN HTW HRD HK1 HK2 HK3
        go_wp2_with fail
        refine (HT1.out _ HX.out).mono ?_
        rintro e w2 ⟨A2, c2, rfl, hc2, hr2, hb2⟩
        have HX2 := Lib.hid (HX.out.on hb2)
        have HR2 := Lib.hid ((HR1.out.below hb2 (Nat.le_refl _)).more hb2.size)
        have HM2 := Lib.hid (show RdR w2 w2.heap.size A2 la from hr2)
        have hbel2 := Below.then hbel1 hb2
        have HTW2 := Lib.hid (tab_on HTW1.out hb2 hb2.size)
        clear hb2 hr2 hbel1 HTW1 HX HR1 HT1
        go_wp2_with fail
        refine (HT2.out _ HX2.out).mono ?_
        rintro e w3 ⟨A3, c3, rfl, hc3, _, hb3⟩
        have HX3 := Lib.hid (HX2.out.on hb3)
        have HR3 := Lib.hid ((HR2.out.below hb3 (Nat.le_refl _)).more hb3.size)
        have HM3 := Lib.hid ((HM2.out.below hb3 (Nat.le_refl _)).more hb3.size)
        have hbel3 := Below.then hbel2 hb3
        have HTW3 := Lib.hid (tab_on HTW2.out hb3 hb3.size)
        clear hb3 hbel2 HTW2 HX2 HR2 HM2 HT2
        go_wp2_with fail
        refine (HT3.out _ HX3.out).mono ?_
        rintro e w4 ⟨A4, c4, rfl, hc4, _, hb4⟩
        have HX4 := Lib.hid (HX3.out.on hb4)
        have HR4 := Lib.hid ((HR3.out.below hb4 (Nat.le_refl _)).more hb4.size)
        have HM4 := Lib.hid ((HM3.out.below hb4 (Nat.le_refl _)).more hb4.size)
        have hbel4 := Below.then hbel3 hb4
        have HTW4 := Lib.hid (tab_on HTW3.out hb4 hb4.size)
        clear hb4 hbel3 HTW3 HX3 HR3 HM3 HT3
        go_wp2_with fail
        refine (HRR.out A2 c2 _ HM4.out HR4.out).mono ?_
        rintro e w5 ⟨rfl, q5, rfl⟩
        have HX5 := Lib.hid (HX4.out.drewN q5)
        have HR5 := Lib.hid (HR4.out.drewN q5)
        have hbel5 := below_drewN hbel4 q5
        have HTW5 := Lib.hid (show Pow10 (w4.drewN q5).heap.size (w4.drewN q5) from tab_on HTW4.out (below_drewN (Below.refl _ _) q5) (Nat.le_refl _))
        have HX5' : Hid (Rd (w4.drewN q5) (w4.drewN q5).heap.size X1 xl) := HX5
        have HR5' : Hid (RdR (w4.drewN q5) (w4.drewN q5).heap.size Aa la) := HR5
        clear HX5 HR5
        generalize w4.drewN q5 = w5 at *
        clear hbel4 HTW4 HX4 HR4 HM4 HRR
        go_wp2_with fail
        go_loopw [14, 81] (fun v i wr => ∃ (j r cb : Nat) (Ab : Option Addr), j ≤ k ∧ i = .int .i64 j ∧ v = .slice Ab r cb ∧ r ≤ cb ∧ r ≤ 100000 ∧ Hid ((netsL (la.drop j)).length = r) ∧ Hid (Rd wr wr.heap.size Ab (netsL (la.drop j))) ∧ Below w5.heap.size w5 wr) (fun _ i _ => k - (intOf i).toNat)
        case atStart => exact ⟨0, xn, xc, X1, Nat.zero_le _, rfl, rfl, hxc, by omega, Lib.hid (by rw [HD0.out]; exact HXN.out), Lib.hid (by rw [HD0.out]; exact HX5'.out), Below.refl _ _⟩
        case round =>
          obtain ⟨j, r, cb, Ab, hj, rfl, rfl, hrc, hr1, HRN, HRB, hbel6⟩ := hrel
          by_cases hlt : j < k
          · have hjl : j < la.length := by rw [HLA.out]; exact hlt
            have HK7 := Lib.hid (HK5.out j hjl)
            have HK8 := Lib.hid (HK6.out j hjl)
            have HRJ := Lib.hid (HRA.out la[j] (List.getElem_mem hjl))
            obtain ⟨b, off, A7, c7, rfl, hbs, hc, hlc, hcm, hrd⟩ := HR5'.out.at_ j hjl
            have hc' : wr.cell? ⟨b, off + j, none⟩ = some (.slice A7 la[j].length c7) := by rw [← hc]; exact hbel6.cell hbs
            have hrd' := (hrd.below hbel6 (Nat.le_refl _)).more hbel6.size
            generalize la[j] = y at *
            obtain ⟨yn, hyn⟩ : ∃ q, y.length = q := ⟨_, rfl⟩
            rw [hyn] at hc' hlc HRJ
            have HYN := Lib.hid hyn
            obtain ⟨rl, hrl⟩ : ∃ q, netsL (la.drop j) = q := ⟨_, rfl⟩
            obtain ⟨rl2, hrl2⟩ : ∃ q, netsL (la.drop (j + 1)) = q := ⟨_, rfl⟩
            rw [hrl] at HRN HRB HK7 HK8
            rw [hrl2] at HK7 HK8
            obtain ⟨sn, hsn⟩ : ∃ q, rl2.length = q := ⟨_, rfl⟩
            have HSN := Lib.hid hsn
            have hsr : sn ≤ r := by have := HK8.out; have := HRN.out; omega
            have HRL2 := Lib.hid hrl2
            have hTN := fun W (hh : Rd W W.heap.size Ab rl) => takeNet_as Ab r cb yn sn rl y rl2 W HK7.out HYN.out HSN.out HRN.out hrc (by omega) hh
            have HTN := Lib.hid hTN
            have HRD := Lib.hid hrd'
            have hSM := fun (A9 : Option Addr) (c9 : Nat) W (h1 : Rd W W.heap.size A9 y) (h2 : Rd W W.heap.size A7 y) => same_any A9 A7 yn yn c9 c7 _ _ y y W HYN.out HYN.out (by have := HRJ.out; unfold maxLen; omega) h1 h2
            rw [decide_eq_true (show y = y from rfl)] at hSM
            have HSM := Lib.hid hSM
            have hji : (j : Int) < (k : Int) := by omega
            clear hc hrd hrd' hyn hrl hrl2 hsn hTN hSM hjl hlt
            go_wp2_with fail
            refine (HTN.out _ HRB.out).mono ?_
            rintro e w7 ⟨A8, c8, A9, c9, rfl, hc8, hc9, hr8, hr9, hb7⟩
            have hbel7 := Below.then hbel6 hb7
            have HR8 := Lib.hid hr8
            have HR9 := Lib.hid hr9
            have HRD7 := Lib.hid (HRD.out.on hb7)
            have hc7' : w7.cell? ⟨b, off + j, none⟩ = some (.slice A7 yn c7) := by rw [← hc']; exact hb7.cell (Nat.lt_of_lt_of_le hbs hbel6.size)
            clear hr8 hr9 hb7 hbel6 hc' HRD HRB HTN
            go_wp2_with fail
            refine (HSM.out A8 c8 _ HR8.out HRD7.out).mono ?_
            rintro e w8 ⟨rfl, q8, rfl⟩
            have hbel8 := below_drewN hbel7 q8
            have HR10 := Lib.hid (show Rd (w7.drewN q8) (w7.drewN q8).heap.size A9 (netsL (la.drop (j + 1))) by rw [HRL2.out]; exact HR9.out.drewN q8)
            have HSN2 := Lib.hid (show (netsL (la.drop (j + 1))).length = sn by rw [HRL2.out]; exact HSN.out)
            generalize w7.drewN q8 = w8 at *
            clear hbel7 HR8 HR9 HRD7 hc7' HSM
            go_wp2_with fail
            go_roundw
            case rel => exact ⟨j + 1, sn, c9, A9, by omega, by go_num, rfl, hc9, by omega, HSN2, HR10, hbel8⟩
            case measure => simp [intOf]; omega
          · obtain rfl : j = k := by omega
            obtain rfl : r = 0 := by have := HRN.out; have := HD1.out; omega
            have hji : ¬ (j : Int) < (j : Int) := by omega
            have hbel7 := Below.then hbel5 hbel6
            have HTW7 := Lib.hid (tab_on HTW5.out hbel6 hbel6.size)
            have HX7 := Lib.hid (HX5'.out.on hbel6)
            clear hlt hbel6 hbel5 HTW5 HX5' HR5' HRB HK5 HK6 HD0 HD1
            by_cases hx0 : xn = 0
            · subst hx0
              go_wp2_with fail
              refine (wakes_any _ HTW7.out).mono ?_
              rintro e w9 ⟨rfl, hb9⟩
              have hbel9 := Below.then hbel7 hb9
              clear hb9 hbel7
              go_wp2_with fail
              go_ret
              exact ⟨rfl, hbel9⟩
            · have hxi : (((xn : Nat) : Int) == 0) = false := by rw [beq_eq_false_iff_ne]; omega
              go_wp2_with fail
              refine (within_any a (xn : Int) _ h0 h1 (by omega)).mono ?_
              rintro e w' ⟨rfl, rfl⟩
              obtain ⟨q1, q2⟩ := withinI_range a (xn : Int) (by omega)
              obtain ⟨M, hM⟩ : ∃ M : Nat, withinI a (xn : Int) = (M : Int) := ⟨(withinI a (xn : Int)).toNat, by omega⟩
              rw [hM] at q1 q2 ⊢
              have hMx : M < xn := by omega
              clear hM
              have HK7 := Lib.hid (HK4.out M hMx)
              have HXM := Lib.hid (HX7.out.take M)
              obtain ⟨b, off, rfl, _, _⟩ := HX7.out.at_ 0 (by rw [HXN.out]; omega)
              have HLM := Lib.hid (show (xl.take M).length = M by rw [List.length_take, HXN.out]; omega)
              have hT8 := fun W (r : Rd W W.heap.size (some ⟨b, off, none⟩) (xl.take M)) => takeNets_as (some ⟨b, off, none⟩) M xc 0 false _ (xl.take M) _ W HK7.out rfl rfl HLM.out (by omega) (by omega) (by omega) r
              have HT8 := Lib.hid hT8
              have hMc : (M : Int) ≤ (xc : Int) := by omega
              clear hT8 HK4 HX7
              go_wp2_with fail
              refine (HT8.out _ HXM.out).mono ?_
              rintro e w8 ⟨A8, c8, rfl, _, _, hb8⟩
              have hbel8 := Below.then hbel7 hb8
              have HTW8 := Lib.hid (tab_on HTW7.out hb8 hb8.size)
              clear hb8 hbel7 HTW7
              go_wp2_with fail
              refine (wakes_any _ HTW8.out).mono ?_
              rintro e w9 ⟨rfl, hb9⟩
              have hbel9 := Below.then hbel8 hb9
              clear hb9 hbel8
              go_wp2_with fail
              go_ret
              exact ⟨rfl, hbel9⟩)

theorem contract (H : Type) (enc : TypeId × Value → H) (W : World) (base : Nat) (args : Array Value) (ds gs : List (DataW H)) (before : List MemPlace)
    (hval : ∀ (j : Nat) t v, Tryd.f9.params[j]? = some t → args[j]? = some v → Value.okWide Tryd.prog W .any base t v)
    (hW : DataW.Whole enc Tryd.prog Tryd.f9.params.toList Rows.codeRowsSpec.vars false W args.toList ds gs before) (hL : laidMetH Tryd.prog Rows.codeRowsRow.laid W) :
    Calls Tryd.prog 9 args W fun e W' => ∃ v, e = .returned v ∧ Rows.codeRowsSpec.post enc Tryd.prog Tryd.f9 false true false false W args v W' := by
  have hW' := hW
  obtain ⟨p, q, hA0, hV, rfl, hfz, hnd⟩ := hW
  have hA : DataW.TrodAll enc Tryd.prog W 0 (fun _ => true) true Tryd.f9.params.toList args.toList ds p := hA0
  rw [Tryd.params9] at hA hval
  obtain ⟨v0, v1, d0, d1, p0, p1, rfl, rfl, rfl, h0, h1⟩ := trodAll_two hA
  obtain ⟨rfl, rfl⟩ := trodVars_none hV
  obtain ⟨A0, m0, c0, l0, rfl, hl0, hc0, hm0, hr0⟩ := open_rows (hval 0 22 v0 rfl rfl) h0
  obtain ⟨n1, rfl, rfl, rfl, wf1⟩ := open_int Tryd.underlying3 (hval 1 3 v1 rfl rfl) h1
  have b1 := bounds_i64 wf1
  clear hA0
  refine (walk A0 m0 c0 l0 n1 W hl0 hr0 b1.1 b1.2 (pow10 hL)).mono fun e W' ⟨he, hb⟩ => ?_
  exact ⟨_, he, law_post hW' rfl (by kernel_rfl) rfl (by kernel_rfl) hb⟩

theorem laid_met (os : Os) : laidMet Tryd.prog Rows.codeRowsRow.laid ((laidWorld os).forCall (fun _ _ => 0) ⟨#[], #[.slice none 0 0, .int .i64 0], []⟩).memory :=
  laidMet_of_run' 8 (by kernel_rfl) (by kernel_rfl)
theorem reads (os : Os) {H : Type} (enc : TypeId × Value → H) : ∃ places, DataW.whole enc Tryd.prog ((laidWorld os).forCall (fun _ _ => 0) ⟨#[], #[.slice none 0 0, .int .i64 0], []⟩).memory Tryd.f9.params.toList Rows.codeRowsSpec.vars false #[Value.slice none 0 0, Value.int .i64 0].toList 8 = some ([.nil, .lit (.int .i64 0)], [], places) :=
  ⟨[], by kernel_rfl⟩

set_option maxRecDepth 100000 in
theorem lifted (os : Os) (started : os.Started) (H : Type) (enc : TypeId × Value → H) (F : Stop.Interp) :
    ReturnsInHanded {} Tryd.checked os 9 .any ((OpenSpec.ofChange Rows.codeRowsSpec).preRow enc Tryd.prog Tryd.f9 Rows.codeRowsRow.domain false Rows.codeRowsRow.laid) (((OpenSpec.ofChange Rows.codeRowsSpec).at F).post enc Tryd.prog Tryd.f9 false true false false) := by
  obtain ⟨places, hx⟩ := reads os enc
  refine returnsInHanded_of_row (C := Tryd.checked) (s := OpenSpec.ofChange Rows.codeRowsSpec) own started (by kernel_rfl) Tryd.func9
    (witness_row_at (enc := enc) (C := Tryd.checked) false (laidWorld os) #[.slice none 0 0, .int .i64 0] rfl (by kernel_rfl) (by kernel_rfl) (by kernel_rfl)
      (OpenSpec.preRow_of_cond 8 hx (by kernel_rfl) (fun k hk => by cases hk) (by kernel_rfl) (laid_met os))) ?_
  intro W base args ds gs before hval hW _ _ _ hL _ _
  exact contract H enc W base args ds gs before hval hW hL

theorem said : Rows.CodeRowsSaid :=
  OpenClaim.holds_of_cond 9 Tryd.f9 rfl rfl rfl rfl rfl rfl rfl ⟨rfl, rfl, rfl, rfl, rfl⟩ rfl rfl rfl rfl rfl (by kernel_rfl) Tryd.func9 (by kernel_rfl)
    (of_decide_eq_true (by kernel_rfl)) (by unfold Func.isWrapper; first | (rw [if_pos (by decide +kernel)]; kernel_rfl) | (rw [if_neg (by decide +kernel)]; exact ⟨rfl, rfl⟩))
    (fun os started H enc _ F => by rw [OpenClaim.pre_eq_preRow]; exact lifted os started H enc F)

theorem plain (f : FuncId) (fn : Func) (hf : Tryd.pinned.checked.prog.funcNamed "aumbry/aumbrylaw01.CodeRows" = some f) (hfn : Tryd.pinned.checked.prog.funcs[f]? = some fn) :
    false = Tryd.pinned.checked.prog.looks [] ∧ ∀ (j : Nat) t, fn.params[j]? = some t → Tryd.pinned.checked.prog.wantsStandIn t = false := by
  obtain rfl : f = 9 := Option.some.inj ((show Tryd.prog.funcNamed "aumbry/aumbrylaw01.CodeRows" = some 9 by kernel_rfl).symm.trans hf) |>.symm
  obtain rfl : fn = Tryd.f9 := (Option.some.inj (Tryd.func9.symm.trans hfn)).symm
  refine ⟨by kernel_rfl, fun j t ht => ?_⟩
  exact wants_none (by kernel_rfl) (Array.mem_of_getElem? ht)

/-- The card: the statement holds, its listed tables tied to the program's text. -/
theorem card : Rows.CodeRowsCardSaid :=
  Claim7.holds_tied_plain_at .later [] _ _ _ _ said (fun _ h => by cases h) (by kernel_rfl) (fun _ h => by cases h) codeRows_row_tie rfl ⟨rfl, rfl⟩ (by kernel_rfl) rfl plain (by kernel_rfl)
end Go.Proofs.YtoidkaeomgglcaaDoor.codeRows
