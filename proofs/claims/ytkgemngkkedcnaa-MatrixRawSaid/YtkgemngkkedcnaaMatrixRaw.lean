/- MatrixRaw: any rows: which are a matrix, their products, rows, images; which have none. For all rows, bytes and numbers. -/
import Derived.Test.YtkgemngkkedcnaaLaw
import Derived.Test.YtkgemngkkedcnaaOpen
import Derived.Test.YtkgemngkkedcnaaMxC
import Derived.Deep.CutRange
import Derived.Deep.CutBlock
namespace Go.Proofs.Ytkgemngkkedcnaa.matrixRaw
open Go.ChangeShapes Go.WideShapes Go.ChangeAt Go.RowKit

/-- The rows that the first i numbers name. -/
def pickTo (xs : List (List UInt8)) (ns : List Int) (i : Nat) : List (List UInt8) := (ns.take i).map fun n => xs.getD n.toNat []
theorem pickTo_succ (xs : List (List UInt8)) {ns : List Int} {i : Nat} (h : i < ns.length) : pickTo xs ns (i + 1) = pickTo xs ns i ++ [xs.getD ns[i].toNat []] := by
  unfold pickTo
  rw [List.take_succ_eq_append_getElem h, List.map_append]; rfl
set_option maxRecDepth 100000 in
set_option maxHeartbeats 16000000 in
theorem walk (A B C D : Option Addr) (p q r s c d f g : Nat) (la lb : List (List UInt8)) (lc : List UInt8) (ld : List Int) (w : World) (hla : la.length = p) (hlb : lb.length = q) (hlc : lc.length = r) (hld : ld.length = s) (hcc : r ≤ f) (hdc : s ≤ g)
    (hA : RdR w w.heap.size A la) (hB : RdR w w.heap.size B lb) (hC : Rd w w.heap.size C lc) (hD : RdI w w.heap.size D ld) :
    Calls Try.prog 6 #[.slice A p c, .slice B q d, .slice C r f, .slice D s g] w fun e w' => e = .returned (.bool true) ∧ Below w.heap.size w w' := by
  have CA := Lib.hid (fun W (h : Below w.heap.size w W) => cut5_any A p c la W hla ((hA.below h (Nat.le_refl _)).more h.size))
  have CB := Lib.hid (fun W (h : Below w.heap.size w W) => cut5_any B q d lb W hlb ((hB.below h (Nat.le_refl _)).more h.size))
  have CC := Lib.hid (show ∀ W, Calls Try.prog 24 #[.slice C r f, .int .i64 18] W fun e w' => e = .returned (.slice C (min r 18) f) ∧ W = w' from fun W => cut_any C r f 18 W hcc)
  have CD := Lib.hid (show ∀ W, Calls Try.prog 25 #[.slice D s g, .int .i64 8] W fun e w' => e = .returned (.slice D (min s 8) g) ∧ W = w' from fun W => cutI_any D s g 8 W hdc)
  have HV := Lib.hid (fun W (h : Below w.heap.size w W) => (show BV W (.slice C (min r 18) f) (lc.take 18) from ⟨C, f, by rw [List.length_take, hlc, Nat.min_comm], by rw [List.length_take, hlc]; omega, ((hC.take 18).below h (Nat.le_refl _)).more h.size⟩))
  have HI := Lib.hid (fun W (h : Below w.heap.size w W) => (show IV W (.slice D (min s 8) g) (ld.take 8) from (show IV w (.slice D (min s 8) g) (ld.take 8) from ⟨D, g, by rw [List.length_take, hld, Nat.min_comm], by rw [List.length_take, hld]; omega, hD.take 8⟩).on h))
  have hna : (cutL la).length = min p 18 := by rw [cutL_len, hla]
  have hnb : (cutL lb).length = min q 18 := by rw [cutL_len, hlb]
  have hnc : (lc.take 18).length = min r 18 := by rw [List.length_take, hlc, Nat.min_comm]
  have hnd : (ld.take 8).length = min s 8 := by rw [List.length_take, hld, Nat.min_comm]
  have b1 : min p 18 ≤ 18 := Nat.min_le_right _ _
  have b2 : min q 18 ≤ 18 := Nat.min_le_right _ _
  have b3 : min r 18 ≤ 18 := Nat.min_le_right _ _
  have b4 : min s 8 ≤ 8 := Nat.min_le_right _ _
  generalize cutL la = xs at *
  generalize cutL lb = ys at *
  generalize lc.take 18 = vs at *
  generalize ld.take 8 = ns at *
  generalize min p 18 = n1 at *
  generalize min q 18 = n2 at *
  generalize min r 18 = n3 at *
  generalize min s 8 = n4 at *
  obtain ⟨i1, hi', hz0', hz1', hz2'⟩ := info_parts infoSlice
  obtain ⟨i0, hj, hj0, hj1, hj2⟩ := info_parts info5
  have HNA := Lib.hid hna
  have HNB := Lib.hid hnb
  have HNC := Lib.hid hnc
  have HND := Lib.hid hnd
  clear hla hlb hlc hld hcc hdc hA hB hC hD hna hnb hnc hnd
  go_enter Try.func6, Try.ntmps6
  go_wp2_with fail
  with_reducible refine (CA.out w (Below.refl _ _)).mono ?_
  rintro e w1 ⟨X, cx, rfl, hcx, hcm1, hX, hb⟩
  have HB1 := Lib.hid hb
  have MX := Lib.hid (MV.mk HNA.out hcx hX)
  clear hb hX
  go_wp2_with fail
  with_reducible refine (CB.out w1 HB1.out).mono ?_
  rintro e w2 ⟨Y, cy, rfl, hcy, hcm2, hY, hb⟩
  have HB2 := Lib.hid (HB1.out.trans (hb.mono HB1.out.size))
  have MY := Lib.hid (MV.mk HNB.out hcy hY)
  have MX2 := Lib.hid (MX.out.on hb)
  clear hb hY MX HB1
  go_wp2_with fail
  with_reducible refine (CC.out w2).mono ?_
  rintro e wx ⟨rfl, rfl⟩
  go_wp2_with fail
  with_reducible refine (CD.out w2).mono ?_
  rintro e wx ⟨rfl, rfl⟩
  clear CA CB CC CD
  go_wp2_with fail
  with_reducible refine (pmul_any MX2.out MY.out).mono ?_
  rintro e w3 ⟨pv, rfl, hp, hb⟩
  have HB3 := Lib.hid (HB2.out.trans (hb.mono HB2.out.size))
  have MX3 := Lib.hid (MX2.out.on hb)
  have MY3 := Lib.hid (MY.out.on hb)
  have MP := Lib.hid hp
  clear hb hp MX2 MY HB2
  go_upto_region 3 with fail
  go_cut [11] from 29 to 49 (fun ok wx => ok = .bool (decide (mulOK xs ys)) ∧ Hid (Below w.heap.size w wx ∧ MV wx (.slice X n1 cx) xs ∧ MV wx (.slice Y n2 cy) ys ∧ MV wx pv (mulL xs ys)))
  case first =>
    by_cases h1 : IsMx xs
    · have hn0 : 0 < n1 := by rw [← HNA.out]; exact h1.1
      have hn0i : (0 : Int) < (n1 : Int) := by omega
      go_wp2_with fail
      with_reducible refine (mmay MX3.out).mono ?_
      rintro e w4 ⟨rfl, hb⟩
      rw [decide_eq_true h1]
      have HB4 := Lib.hid (HB3.out.trans (hb.mono HB3.out.size))
      have MX4 := Lib.hid (MX3.out.on hb)
      have MY4 := Lib.hid (MY3.out.on hb)
      have MP4 := Lib.hid (MP.out.on hb)
      clear hb HB3 MX3 MY3 MP
      go_wp2_with fail
      with_reducible refine (mmay MY4.out).mono ?_
      rintro e w5 ⟨rfl, hb⟩
      have HR := Lib.hid (show Below w.heap.size w w5 ∧ MV w5 (.slice X n1 cx) xs ∧ MV w5 (.slice Y n2 cy) ys ∧ MV w5 pv (mulL xs ys) from ⟨HB4.out.trans (hb.mono HB4.out.size), MX4.out.on hb, MY4.out.on hb, MP4.out.on hb⟩)
      clear hb HB4 MX4 MY4 MP4
      by_cases h2 : IsMx ys
      · rw [decide_eq_true h2]
        obtain ⟨bx, ox, A1, c1, rfl, _, hc1, _, _, _⟩ := HR.out.2.1.row hn0
        rw [Nat.add_zero] at hc1
        have HD := Lib.hid (show ((((xs.getD 0 []).length : Nat) : Int) == (n2 : Int)) = decide (mulOK xs ys) by
          rw [← HNB.out]
          by_cases h3 : (xs.getD 0 []).length = ys.length
          · rw [decide_eq_true (show mulOK xs ys from ⟨h1, h2, h3⟩)]; exact beq_iff_eq.2 (by omega)
          · rw [decide_eq_false (fun h => h3 h.2.2)]; exact beq_eq_false_iff_ne.2 (by omega))
        generalize (xs.getD 0 []).length = k at *
        clear h1 h2
        go_wp2_with fail
        go_meet
        case rel => exact ⟨by rw [HD.out], HR⟩
      · rw [decide_eq_false h2]
        have HD := Lib.hid (show decide (mulOK xs ys) = false from decide_eq_false fun h => h2 h.2.1)
        clear h1 h2
        go_wp2_with fail
        go_meet
        case rel => exact ⟨by rw [HD.out], HR⟩
    · have HD := Lib.hid (show decide (mulOK xs ys) = false from decide_eq_false fun h => h1 h.1)
      go_wp2_with fail
      with_reducible refine (mmay MX3.out).mono ?_
      rintro e w4 ⟨rfl, hb⟩
      rw [decide_eq_false h1]
      have HR := Lib.hid (show Below w.heap.size w w4 ∧ MV w4 (.slice X n1 cx) xs ∧ MV w4 (.slice Y n2 cy) ys ∧ MV w4 pv (mulL xs ys) from ⟨HB3.out.trans (hb.mono HB3.out.size), MX3.out.on hb, MY3.out.on hb, MP.out.on hb⟩)
      clear hb HB3 MX3 MY3 MP h1
      go_wp2_with fail
      go_meet
      case rel => exact ⟨by rw [HD.out], HR⟩
  case rest =>
    obtain ⟨rfl, HR⟩ := hcut
    clear HB3 MX3 MY3 MP
    go_upto_if 51 with fail
    go_cut [9, 10, 11] from 29 to 68 (fun _ _ _ wx => Hid (Below w.heap.size w wx ∧ MV wx (.slice X n1 cx) xs))
    case first =>
      have MP := Lib.hid HR.out.2.2.2
      have HR0 := Lib.hid (And.intro HR.out.1 HR.out.2.1)
      have MY3 := Lib.hid HR.out.2.2.1
      clear HR
      by_cases hok : mulOK xs ys
      · have HE := Lib.hid (show mulE xs ys = 0 from if_pos hok)
        have hdt : decide (mulOK xs ys) = true := decide_eq_true hok
        have HOK := Lib.hid hok
        rw [HE.out, hdt]
        clear hok hdt HE
        go_wp2_with fail
        with_reducible refine (mprod HR0.out.2 MY3.out HOK.out).mono ?_
        rintro e w6 ⟨z, rfl, hz, hb⟩
        have HR1 := Lib.hid (show Below w.heap.size w w6 ∧ MV w6 (.slice X n1 cx) xs from ⟨HR0.out.1.trans (hb.mono HR0.out.1.size), HR0.out.2.on hb⟩)
        have MP6 := Lib.hid (MP.out.on hb)
        have MZ := Lib.hid hz
        clear hb hz HR0 MP MY3
        go_wp2_with fail
        with_reducible refine (samerows (mulL_small xs ys) MP6.out MZ.out).mono ?_
        rintro e w7 ⟨rfl, hb⟩
        have HR2 := Lib.hid (show Below w.heap.size w w7 ∧ MV w7 (.slice X n1 cx) xs from ⟨HR1.out.1.trans (hb.mono HR1.out.1.size), HR1.out.2.on hb⟩)
        clear hb HR1 MP6 MZ
        go_wp2_with fail
        go_meet
        case rel => exact HR2
      · have HE := Lib.hid (show mulE xs ys = 1 from if_neg hok)
        have hml : mulL xs ys = [] := if_neg hok
        have hdt : decide (mulOK xs ys) = false := decide_eq_false hok
        rw [hml] at MP
        obtain ⟨Z, cz, rfl, _, _⟩ := MP.out
        rw [HE.out, hdt]
        clear hok hml hdt HE MP MY3
        go_wp2_with fail
        go_meet
        case rel => exact HR0
    case rest =>
      have HR2 := hcut
      clear HR
      go_wp2_with fail
      have HIV := HI.out _ HR2.out.1
      have hb1 := HR2.out.1
      with_reducible refine (prows_any HR2.out.2 HIV (by have := HIV.len; omega)).mono ?_
      rintro e w4 ⟨rv, rfl, hr, hb⟩
      have HB4 := Lib.hid (HR2.out.1.trans (hb.mono HR2.out.1.size))
      have MX4 := Lib.hid (HR2.out.2.on hb)
      have MR := Lib.hid hr
      clear hb hr hb1 HIV HR2 hcut
      go_upto_region 10 with fail
      go_cut [14] from 29 to 81 (fun ok wx => ok = .bool (decide (IsMx xs ∧ 0 < n4)) ∧ Hid (Below w.heap.size w wx ∧ MV wx (.slice X n1 cx) xs ∧ MV wx rv (rowsS xs ns)))
      case first =>
        go_wp2_with fail
        with_reducible refine (mmay MX4.out).mono ?_
        rintro e w5 ⟨rfl, hb⟩
        have HR := Lib.hid (show Below w.heap.size w w5 ∧ MV w5 (.slice X n1 cx) xs ∧ MV w5 rv (rowsS xs ns) from ⟨HB4.out.trans (hb.mono HB4.out.size), MX4.out.on hb, MR.out.on hb⟩)
        clear hb HB4 MX4 MR
        by_cases h1 : IsMx xs
        · rw [decide_eq_true h1]
          by_cases h2 : 0 < n4
          · have HD := Lib.hid (show decide (IsMx xs ∧ 0 < n4) = true from decide_eq_true ⟨h1, h2⟩)
            have h2i : (0 : Int) < (n4 : Int) := by omega
            clear h1
            go_wp2_with fail
            go_meet
            case rel => exact ⟨by rw [HD.out], HR⟩
          · have HD := Lib.hid (show decide (IsMx xs ∧ 0 < n4) = false from decide_eq_false fun h => h2 h.2)
            have h2i : ¬ (0 : Int) < (n4 : Int) := by omega
            clear h1
            go_wp2_with fail
            go_meet
            case rel => exact ⟨by rw [HD.out], HR⟩
        · rw [decide_eq_false h1]
          have HD := Lib.hid (show decide (IsMx xs ∧ 0 < n4) = false from decide_eq_false fun h => h1 h.1)
          clear h1
          go_wp2_with fail
          go_meet
          case rel => exact ⟨by rw [HD.out], HR⟩
      case rest =>
        obtain ⟨rfl, HR⟩ := hcut
        clear HB4 MX4 MR
        go_upto_block 0 with fail
        have HI4 := Lib.hid (HI.out _ HR.out.1)
        go_cut [14, 15] from 29 to 115 (fun ok rw wx => ok = .bool (decide (rowsOK xs ns)) ∧ Hid (Below w.heap.size w wx ∧ MV wx (.slice X n1 cx) xs ∧ MV wx rv (rowsS xs ns) ∧ (rowsOK xs ns → MV wx rw (rowsS xs ns))))
        case first =>
          by_cases h0 : IsMx xs ∧ 0 < n4
          · rw [decide_eq_true h0]
            obtain ⟨hm, hn4⟩ := h0
            have HM := Lib.hid hm
            clear hm
            go_wp2_with fail
            go_loopw [14, 15, 84] (fun ok v t wq => ∃ (i : Nat) (us : List Value), i ≤ n4 ∧ ok = .bool true ∧ t = .int .i64 i ∧ Hid (∀ j (h : j < ns.length), j < i → 0 ≤ ns[j] ∧ ns[j] < n1) ∧ Hid (wq.ownsRow wc.heap.size 22 1 v i us) ∧ Hid (sliceVals wc wc.heap.size us (pickTo xs ns i)) ∧ Below wc.heap.size wc wq) (fun _ _ t _ => n4 - (intOf t).toNat)
            case atStart => exact ⟨0, [], by omega, rfl, rfl, Lib.hid (fun j _ h => by omega), Lib.hid (World.ownsRow_nil _ _ _ _), Lib.hid (sliceVals.nil _ _), Below.refl _ _⟩
            case round =>
              obtain ⟨i, us, hi, rfl, rfl, HG, HO, HS, hbq⟩ := hrel
              have HR3 := Lib.hid (show Below w.heap.size w wr ∧ MV wr (.slice X n1 cx) xs ∧ MV wr rv (rowsS xs ns) from ⟨HR.out.1.trans (hbq.mono HR.out.1.size), HR.out.2.1.on hbq, HR.out.2.2.on hbq⟩)
              by_cases hlt : i < n4
              · have hii : (i : Int) < (n4 : Int) := by omega
                have hil : i < ns.length := by rw [HND.out]; exact hlt
                have HIW := HI4.out.on hbq
                obtain ⟨G', gz, e, _, hG⟩ := HIW
                injection e with e1 e2 e3
                subst e1
                obtain ⟨b', off, rfl, _, hc⟩ := hG.at_ i hil
                have HNO := Lib.hid (show ∀ (_ : ¬ (0 ≤ ns[i] ∧ ns[i] < n1)), decide (rowsOK xs ns) = false from fun h => decide_eq_false fun k => h (by have := k.2.2 i hil; rw [HNA.out] at this; exact this))
                have HYES := Lib.hid (show ∀ (_ : 0 ≤ ns[i] ∧ ns[i] < n1), ∀ j (h : j < ns.length), j < i + 1 → 0 ≤ ns[j] ∧ ns[j] < n1 from fun h j hj hji => by
                  by_cases e : j = i
                  · subst e; exact h
                  · exact HG.out j hj (by omega))
                have HPS := Lib.hid (pickTo_succ xs hil)
                generalize ns[i] = y at *
                clear hG hil e2 e3
                by_cases hy0 : y < 0
                · have HF := Lib.hid (HNO.out (by omega))
                  clear HNO HYES HPS
                  go_wp2_with fail
                  go_meet
                  case rel => exact ⟨by rw [HF.out], Lib.hid ⟨HR3.out.1, HR3.out.2.1, HR3.out.2.2, fun h => by have := HF.out; rw [decide_eq_true h] at this; cases this⟩⟩
                · by_cases hy1 : (n1 : Int) ≤ y
                  · have HF := Lib.hid (HNO.out (by omega))
                    clear HNO HYES HPS
                    go_wp2_with fail
                    go_meet
                    case rel => exact ⟨by rw [HF.out], Lib.hid ⟨HR3.out.1, HR3.out.2.1, HR3.out.2.2, fun h => by have := HF.out; rw [decide_eq_true h] at this; cases this⟩⟩
                  · have HG2 := Lib.hid (HYES.out ⟨by omega, by omega⟩)
                    obtain ⟨Y, rfl⟩ : ∃ Y : Nat, y = (Y : Int) := ⟨y.toNat, by omega⟩
                    have hY : Y < n1 := by omega
                    obtain ⟨bx, ox, A1, k1, rfl, hbx, hc1, hk1, hkm, hrd⟩ := HR.out.2.1.row hY
                    have hc2 := (hbq.cell (p := ⟨bx, ox + Y, none⟩) hbx).trans hc1
                    rw [Int.toNat_natCast] at HPS
                    have HRD := Lib.hid hrd
                    obtain ⟨k, hk⟩ : ∃ k, (xs.getD Y []).length = k := ⟨_, rfl⟩
                    rw [hk] at hc2 hk1
                    have HKL := Lib.hid hk
                    have hle := hbq.size
                    have hYi : (Y : Int) < (n1 : Int) := by omega
                    have hY0 : ¬ (Y : Int) < 0 := by omega
                    have hY1 : ¬ (n1 : Int) ≤ (Y : Int) := by omega
                    clear HNO HYES hc1 hrd hk hy0 hy1
                    go_wp2_with (at_builtin; refine wpList_append_one rfl _ _ 24 rfl wc.heap.size 22 i1 Try.underlying24 hi' hz0' hz1' hz2' _ i us rfl wr A1 k k1 rfl HO.out rfl (by omega) hle ?_)
                    intro v2 w2 hown2 hg2
                    have HS2 := Lib.hid (HS.out.snoc HKL.out hk1 hkm HRD.out)
                    rw [← HPS.out] at HS2
                    have HO2 := Lib.hid hown2
                    have hbq2 : Below wc.heap.size wc w2 := (hbq.alloc hle _).grown hg2 (by simp; omega) (fun k hk => (HO.out.lt k hk).1)
                    clear hown2 hg2 hbq hle hc hc2
                    go_wp2_with fail
                    go_roundw
                    case rel => exact ⟨i + 1, _, by omega, rfl, by go_num, HG2, HO2, HS2, hbq2⟩
                    case measure => simp [intOf]; omega
              · obtain rfl : i = n4 := by omega
                obtain ⟨A', c', rfl, hkc, _⟩ := own_caps HO.out
                have HK := Lib.hid (show rowsOK xs ns from ⟨HM.out, by rw [HND.out]; exact hn4, fun j hj => by have := HG.out j hj (by rw [← HND.out]; exact hj); rw [HNA.out]; exact this⟩)
                have HT := Lib.hid (show decide (rowsOK xs ns) = true from decide_eq_true HK.out)
                have HRS := Lib.hid (show MV wr (.slice A' i c') (rowsS xs ns) by
                  rw [show rowsS xs ns = pickTo xs ns i by unfold rowsS pickTo; rw [if_pos HK.out, List.take_of_length_le (by rw [HND.out]; exact Nat.le_refl _)]]
                  exact MV.mk (by rw [pickTo, List.length_map, List.length_take, HND.out, Nat.min_self]) hkc (RdR.of_own HO.out (HS.out.below hbq (Nat.le_refl _)) hbq.size))
                have hii : ¬ (i : Int) < (i : Int) := by omega
                clear HO HS HG hbq
                go_wp2_with fail
                go_meet
                case rel => exact ⟨by rw [HT.out], Lib.hid ⟨HR3.out.1, HR3.out.2.1, HR3.out.2.2, fun _ => HRS.out⟩⟩
          · rw [decide_eq_false h0]
            have HF := Lib.hid (show decide (rowsOK xs ns) = false from decide_eq_false fun h => h0 ⟨h.1, by rw [← HND.out]; exact h.2.1⟩)
            have HRF := Lib.hid (fun (rw_ : Value) => (show rowsOK xs ns → MV wc rw_ (rowsS xs ns) from fun h => by have := HF.out; rw [decide_eq_true h] at this; cases this))
            clear h0
            go_wp2_with fail
            go_loopw [14, 15, 84] (fun ok v t wq => ok = .bool false ∧ v = .slice none 0 0 ∧ t = .int .i64 0 ∧ wq = wc) (fun _ _ _ _ => 0)
            case atStart => exact ⟨rfl, rfl, rfl, rfl⟩
            case round =>
              obtain ⟨rfl, rfl, rfl, rfl⟩ := hrel
              by_cases h4 : 0 < n4
              · have h4i : (0 : Int) < (n4 : Int) := by omega
                go_wp2_with fail
                go_meet
                case rel => exact ⟨by rw [HF.out], Lib.hid ⟨HR.out.1, HR.out.2.1, HR.out.2.2, HRF.out _⟩⟩
              · have h4i : ¬ (0 : Int) < (n4 : Int) := by omega
                go_wp2_with fail
                go_meet
                case rel => exact ⟨by rw [HF.out], Lib.hid ⟨HR.out.1, HR.out.2.1, HR.out.2.2, HRF.out _⟩⟩
        case rest =>
          obtain ⟨rfl, HR⟩ := hcut
          go_upto_region 19 with fail
          go_cut [12, 13, 14, 15, 139] from 29 to 138 (fun _ _ _ _ ok wx => ok = .bool false ∧ Hid (Below w.heap.size w wx ∧ MV wx (.slice X n1 cx) xs))
          case first =>
            by_cases hok : rowsOK xs ns
            · have HE := Lib.hid (show rowsE xs ns = 0 from if_pos hok)
              have MR1 := Lib.hid HR.out.2.2.1
              have MR2 := Lib.hid (HR.out.2.2.2 hok)
              have HR0 := Lib.hid (And.intro HR.out.1 HR.out.2.1)
              rw [HE.out, decide_eq_true hok]
              clear hok HE HR
              go_wp2_with fail
              with_reducible refine (samerows (rowsS_small xs ns (by rw [HND.out]; exact b4)) MR1.out MR2.out).mono ?_
              rintro e w7 ⟨rfl, hb⟩
              have HR1 := Lib.hid (show Below w.heap.size w w7 ∧ MV w7 (.slice X n1 cx) xs from ⟨HR0.out.1.trans (hb.mono HR0.out.1.size), HR0.out.2.on hb⟩)
              clear hb HR0 MR1 MR2
              go_wp2_with fail
              go_meet
              case rel => exact ⟨rfl, HR1⟩
            · have HE := Lib.hid (show rowsE xs ns = 1 from if_neg hok)
              have hrl : rowsS xs ns = [] := if_neg hok
              have HR0 := Lib.hid (And.intro HR.out.1 HR.out.2.1)
              have hm := HR.out.2.2.1
              rw [hrl] at hm
              obtain ⟨Z, cz, rfl, _, _⟩ := hm
              rw [HE.out, decide_eq_false hok]
              clear hok HE HR hrl
              go_wp2_with fail
              go_meet
              case rel => exact ⟨rfl, HR0⟩
          case rest =>
            obtain ⟨rfl, HR⟩ := hcut
            go_wp2_with fail
            have HBV := Lib.hid (HV.out _ HR.out.1)
            with_reducible refine (papply_any HR.out.2 HBV.out).mono ?_
            rintro e w4 ⟨xv, rfl, hx, hb⟩
            have HR4 := Lib.hid (show Below w.heap.size w w4 ∧ MV w4 (.slice X n1 cx) xs from ⟨HR.out.1.trans (hb.mono HR.out.1.size), HR.out.2.on hb⟩)
            have BX := Lib.hid hx
            clear hb hx HR HBV
            by_cases h1 : IsMx xs
            · have hn0 : 0 < n1 := by rw [← HNA.out]; exact h1.1
              have hn0i : (0 : Int) < (n1 : Int) := by omega
              go_wp2_with fail
              with_reducible refine (mmay HR4.out.2).mono ?_
              rintro e w5 ⟨rfl, hb⟩
              rw [decide_eq_true h1]
              have HR5 := Lib.hid (show Below w.heap.size w w5 ∧ MV w5 (.slice X n1 cx) xs from ⟨HR4.out.1.trans (hb.mono HR4.out.1.size), HR4.out.2.on hb⟩)
              have BX5 := Lib.hid (BX.out.on hb)
              clear hb HR4 BX
              have hrows : ∀ i, i < n1 → (xs.getD i []).length = (xs.getD 0 []).length := fun i hi => by
                have hl : i < xs.length := by rw [HNA.out]; exact hi
                have := (h1.2.2 i hl).2.2
                rw [List.getD_eq_getElem?_getD, List.getElem?_eq_getElem hl]
                exact this
              obtain ⟨k, hk⟩ : ∃ k, (xs.getD 0 []).length = k := ⟨_, rfl⟩
              rw [hk] at hrows
              have HRL := Lib.hid hrows
              have HM1 := Lib.hid h1
              have HKK := Lib.hid hk
              obtain ⟨bx, ox, A1, k1, rfl, _, hc1, _, _, _⟩ := HR5.out.2.row hn0
              rw [Nat.add_zero, hk] at hc1
              clear hrows hk h1
              by_cases h3 : k = n3
              · have HOK := Lib.hid (show applyOK xs vs from ⟨HM1.out, by rw [HKK.out, HNC.out]; exact h3⟩)
                have HE := Lib.hid (show applyE xs vs = 0 from if_pos HOK.out)
                have HAL := Lib.hid (show applyL xs vs = applyTo xs vs n1 by unfold applyL applyTo; rw [if_pos HOK.out, HNA.out])
                rw [HE.out]
                rw [HAL.out] at BX5
                subst h3
                have hne : ((k : Int) != (k : Int)) = false := by simp
                clear HE HAL HOK
                go_wp2_with fail
                clear hc1
                obtain ⟨wo, rfl⟩ : ∃ y : World, y = w5 := ⟨_, rfl⟩
                go_loopw [19, 170] (fun v t wq => ∃ i : Nat, i ≤ n1 ∧ t = .int .i64 i ∧ Hid (wq.ownsRow wo.heap.size 5 1 v i (Lib.byteCells (applyTo xs vs i))) ∧ Below wo.heap.size wo wq) (fun _ t _ => n1 - (intOf t).toNat)
                case atStart => exact ⟨0, by omega, rfl, Lib.hid (World.ownsRow_nil _ _ _ _), Below.refl _ _⟩
                case round =>
                  obtain ⟨i, hi', rfl, HO, hbq⟩ := hrel
                  have HR6 := Lib.hid (show Below w.heap.size w wr ∧ MV wr (.slice (some ⟨bx, ox, none⟩) n1 cx) xs from ⟨HR5.out.1.trans (hbq.mono HR5.out.1.size), HR5.out.2.on hbq⟩)
                  by_cases hlt : i < n1
                  · have hii : (i : Int) < (n1 : Int) := by omega
                    obtain ⟨b2, o2, A2, k2, e, _, hc2, hk2, _, hrd⟩ := HR6.out.2.row hlt
                    injection e with e
                    injection e with e1 e2
                    subst e1 e2
                    obtain ⟨C', cf, e, hcf, hC⟩ := HV.out _ HR6.out.1
                    injection e with e1 e2 e3
                    subst e1
                    have HDT := Lib.hid (show Calls Try.prog 28 #[.slice A2 k k2, .slice C k f] wr fun e w' => e = .returned (.int .u8 ((mvN vs.length (entM xs) (fun j => vs.getD j 0) i).toNat : Int)) ∧ ∃ q, w' = wr.drewN q by
                      have := rdot_any A2 C k k k2 f _ _ (xs.getD i []) vs wr (HRL.out i hlt) HNC.out (by unfold maxLen; omega) (by unfold maxLen; omega) hrd hC
                      have hd := row_dot (ls := xs) (v := vs) (i := i) (by rw [HRL.out i hlt, HNC.out])
                      rw [HRL.out i hlt, HNC.out] at hd
                      rw [hd] at this
                      rw [HNC.out]
                      exact this)
                    rw [HRL.out i hlt] at hc2 hk2
                    have HTS := Lib.hid (applyTo_succ xs vs i)
                    generalize mvN vs.length (entM xs) (fun j => vs.getD j 0) i = y at *
                    have hle := hbq.size
                    clear hrd hC e2 e3 hcf
                    go_wp2_with fail
                    with_reducible refine (HDT.out).mono ?_
                    rintro e w8 ⟨rfl, q8, hq8⟩
                    have hb8 : Below wo.heap.size wo w8 := by rw [hq8]; exact below_drewN hbq q8
                    have HO8 := Lib.hid (show w8.ownsRow wo.heap.size 5 1 u19 i (Lib.byteCells (applyTo xs vs i)) by rw [hq8]; exact HO.out)
                    have hle8 := hb8.size
                    clear hq8 hc2 HDT HO hbq
                    go_wp2_with (at_builtin; refine wpList_append_rd rfl _ _ 22 rfl wo.heap.size 5 i0 Try.underlying22 hj hj0 hj1 hj2 _ _ _ rfl (HO8.out.alloc _) _ _ 1 1 [y] rfl rfl (Rd.one _ 5 y _ rfl) (by omega) (by simp; omega) ?_)
                    intro v3 w3 hown3 hg3
                    have hb9 : Below wo.heap.size wo w3 := (hb8.alloc hle8 _).grown hg3 (by simp; omega) (fun k hk => (HO8.out.lt k hk).1)
                    have HO9 := Lib.hid (show w3.ownsRow wo.heap.size 5 1 v3 (i + 1) (Lib.byteCells (applyTo xs vs (i + 1))) by rw [HTS.out, Lib.byteCells_append]; exact hown3)
                    clear hown3 hg3 HO8 hb8 hle hle8
                    go_wp2_with fail
                    go_roundw
                    case rel => exact ⟨i + 1, by omega, by go_num, HO9, hb9⟩
                    case measure => simp [intOf]; omega
                  · obtain rfl : i = n1 := by omega
                    obtain ⟨A', c', rfl, hkc, _⟩ := own_caps HO.out
                    have HYV := Lib.hid (show BV wr (.slice A' i c') (applyTo xs vs i) from ⟨A', c', by rw [applyTo_len], by rw [applyTo_len]; exact hkc, Rd.of_own HO.out⟩)
                    have BX6 := Lib.hid (BX5.out.on hbq)
                    have hii : ¬ (i : Int) < (i : Int) := by omega
                    clear HO hbq BX5 HR5
                    go_wp2_with fail
                    with_reducible refine (bvsame (by rw [applyTo_len]; omega) BX6.out HYV.out).mono ?_
                    rintro e w8 ⟨rfl, hb⟩
                    have HB8 := Lib.hid (HR6.out.1.trans (hb.mono HR6.out.1.size))
                    clear hb BX6 HYV HR6
                    go_wp2_with fail
                    with_reducible refine (wakes5_any w8).mono ?_
                    rintro e w9 ⟨rfl, hb⟩
                    have HB9 := HB8.out.trans (hb.mono HB8.out.size)
                    go_wp2_with fail
                    go_ret
                    exact ⟨rfl, HB9⟩
              · have HNO := Lib.hid (show ¬ applyOK xs vs from fun h => h3 (by rw [← HKK.out, h.2, HNC.out]))
                have HE := Lib.hid (show applyE xs vs = 1 from if_neg HNO.out)
                have hal : applyL xs vs = [] := if_neg HNO.out
                rw [hal] at BX5
                obtain ⟨Z, cz, rfl, _, _⟩ := BX5.out
                rw [HE.out]
                have hne : ((k : Int) != (n3 : Int)) = true := by simp only [bne_iff_ne, ne_eq]; omega
                clear HE hal BX5 h3
                go_wp2_with fail
                with_reducible refine (wakes5_any w5).mono ?_
                rintro e w9 ⟨rfl, hb⟩
                have HB9 := HR5.out.1.trans (hb.mono HR5.out.1.size)
                go_wp2_with fail
                go_ret
                exact ⟨rfl, HB9⟩
            · have HNO := Lib.hid (show ¬ applyOK xs vs from fun h => h1 h.1)
              have HE := Lib.hid (show applyE xs vs = 1 from if_neg HNO.out)
              have hal : applyL xs vs = [] := if_neg HNO.out
              rw [hal] at BX
              obtain ⟨Z, cz, rfl, _, _⟩ := BX.out
              rw [HE.out]
              clear HE hal BX
              go_wp2_with fail
              with_reducible refine (mmay HR4.out.2).mono ?_
              rintro e w5 ⟨rfl, hb⟩
              rw [decide_eq_false h1]
              have HB5 := Lib.hid (HR4.out.1.trans (hb.mono HR4.out.1.size))
              clear hb HR4 h1
              go_wp2_with fail
              with_reducible refine (wakes5_any w5).mono ?_
              rintro e w9 ⟨rfl, hb⟩
              have HB9 := HB5.out.trans (hb.mono HB5.out.size)
              go_wp2_with fail
              go_ret
              exact ⟨rfl, HB9⟩

theorem contract (H : Type) (enc : TypeId × Value → H) (W : World) (base : Nat) (args : Array Value) (ds gs : List (DataW H)) (before : List MemPlace)
    (hval : ∀ (j : Nat) t v, Try.f6.params[j]? = some t → args[j]? = some v → Value.okWide Try.prog W .any base t v)
    (hW : DataW.Whole enc Try.prog Try.f6.params.toList Rows.matrixRawSpec.vars false W args.toList ds gs before) :
    Calls Try.prog 6 args W fun e W' => ∃ v, e = .returned v ∧ Rows.matrixRawSpec.post enc Try.prog Try.f6 false true false false W args v W' := by
  have hW' := hW
  obtain ⟨p, q, hA0, hV, rfl, hfz, hnd⟩ := hW
  have hA : DataW.TrodAll enc Try.prog W 0 (fun _ => true) true Try.f6.params.toList args.toList ds p := hA0
  rw [Try.params6] at hA hval
  obtain ⟨v0, v1, v2, v3, d0, d1, d2, d3, p0, p1, p2, p3, rfl, rfl, rfl, h0, h1, h2, h3⟩ := trodAll_four hA
  obtain ⟨rfl, rfl⟩ := trodVars_none hV
  obtain ⟨A0, m0, c0, l0, rfl, hl0, hc0, hm0, hr0⟩ := open_rows (hval 0 24 v0 rfl rfl) h0
  obtain ⟨A1, m1, c1, l1, rfl, hl1, hc1, hm1, hr1⟩ := open_rows (hval 1 24 v1 rfl rfl) h1
  obtain ⟨A2, m2, c2, l2, rfl, hl2, hc2, hm2, hr2⟩ := open_bytes (hval 2 22 v2 rfl rfl) h2
  obtain ⟨A3, m3, c3, l3, rfl, hl3, hc3, hm3, hr3, hz3⟩ := open_introw (hval 3 41 v3 rfl rfl) h3
  clear hA0
  refine (walk A0 A1 A2 A3 m0 m1 m2 m3 c0 c1 c2 c3 l0 l1 l2 l3 W hl0 hl1 hl2 hl3 hc2 hc3 hr0 hr1 hr2 hr3).mono fun e W' ⟨he, hb⟩ => ?_
  exact ⟨_, he, law_post hW' rfl (by kernel_rfl) rfl (by kernel_rfl) hb⟩

set_option maxRecDepth 100000 in
theorem lifted (os : Os) (started : os.Started) (H : Type) (enc : TypeId × Value → H) :
    ReturnsInHanded {} Try.checked os 6 .any (Rows.matrixRawSpec.pre6 enc Try.prog Try.f6 Rows.matrixRawRow.domain false) (Rows.matrixRawSpec.post enc Try.prog Try.f6 false true false false) := by
  refine returnsInHanded_of_change (C := Try.checked) own started (by kernel_rfl) Try.func6
    (ChangeSpec.witness6 (enc := enc) (C := Try.checked) false ⟨#[], #[.slice none 0 0, .slice none 0 0, .slice none 0 0, .slice none 0 0], []⟩ 8 (by kernel_rfl) (by kernel_rfl) (by kernel_rfl) (by kernel_rfl)) ?_
  intro W base args ds gs before hval0 hW _ _
  have hval : ∀ (j : Nat) t v, Try.f6.params[j]? = some t → args[j]? = some v → Value.okWide Try.prog W .any base t v := hval0
  exact contract H enc W base args ds gs before hval hW

/-- The statement. -/
theorem card : Rows.MatrixRawSaid :=
  OpenClaim.holds_of_wide 6 Try.f6 rfl rfl rfl rfl rfl rfl rfl ⟨rfl, rfl, rfl, rfl, rfl⟩ rfl rfl rfl rfl rfl (by kernel_rfl) Try.func6 (by kernel_rfl)
    (of_decide_eq_true (by kernel_rfl)) (by unfold Func.isWrapper; first | (rw [if_pos (by decide +kernel)]; kernel_rfl) | (rw [if_neg (by decide +kernel)]; exact ⟨rfl, rfl⟩))
    (fun os started H enc _ => lifted os started H enc)
end Go.Proofs.Ytkgemngkkedcnaa.matrixRaw
