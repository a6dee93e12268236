/- TakeNets of the document hands just so many rows out, or tells that there are not just so many. -/
import Derived.Test.YtobealijkbnojaaDoorRTakeNet
import Derived.Test.YtobealijkbnojaaDoorNetB
namespace Go.Proofs.YtobealijkbnojaaDoor
open Go.RowKit
set_option maxRecDepth 100000

set_option maxHeartbeats 2000000 in
theorem rtakeNets_any (A : Option Addr) (n c : Nat) (N : Int) (l : List UInt8) (w : World) (hl : l.length = n) (hnc : n ≤ c) (hcm : c ≤ maxLen) (h1 : n ≤ 1000000) (hN : N ≤ 100000) (ha : Rd w w.heap.size A l) :
    Calls Tryd.prog 51 #[.slice A n c, .int .i64 N] w fun e w' => ∃ A1 c1, e = .returned (.tuple #[.slice A1 (rowsOf (takesN N l)).length c1, .bool (takesN N l).isSome]) ∧
      (rowsOf (takesN N l)).length ≤ c1 ∧ RdR w' w'.heap.size A1 (rowsOf (takesN N l)) ∧ Below w.heap.size w w' := by
  obtain ⟨i1, hi, hz0, hz1, hz2⟩ := info_parts infoSlice
  by_cases hneg : N < 0
  · have HT := Lib.hid (show takesN N l = none by unfold takesN; rw [if_pos hneg])
    rw [HT.out]
    have h0 : ¬ (0 : Int) < N := by omega
    go_enter Tryd.func51, Tryd.ntmps51
    go_wp2
    go_loopw [0, 6, 7] (fun bv ov iv wr => bv = .slice A n c ∧ ov = .slice none 0 0 ∧ iv = .int .i64 0 ∧ wr = w) (fun _ _ _ _ => 0)
    case atStart => exact ⟨rfl, rfl, rfl, rfl⟩
    case round =>
      obtain ⟨rfl, rfl, rfl, rfl⟩ := hrel
      go_wp2
      go_ret2
      exact ⟨none, 0, rfl, Nat.le_refl _, RdR.nil _ _ _, Below.refl _ _⟩
  · obtain ⟨M, rfl⟩ : ∃ M : Nat, N = (M : Int) := ⟨N.toNat, by omega⟩
    have HT := Lib.hid (show takesN (M : Int) l = takesL M l by unfold takesN; rw [if_neg hneg]; rfl)
    rw [HT.out]
    have hM : M ≤ 100000 := by omega
    clear hneg
    have HA := Lib.hid ha
    have HST := Lib.hid (Taken.start l M)
    subst hl
    go_enter Tryd.func51, Tryd.ntmps51
    go_wp2
    go_loopw [0, 6, 7] (fun bv lv i wr => ∃ (k r cb : Nat) (Ab : Option Addr) (rest : List UInt8) (out : List (List UInt8)) (vs : List Value), k ≤ M ∧ i = .int .i64 k ∧ bv = .slice Ab r cb ∧ r ≤ cb ∧ cb ≤ maxLen ∧ r ≤ 1000000 ∧ Hid (rest.length = r) ∧ Hid (Rd w w.heap.size Ab rest) ∧ Hid (wr.ownsRow w.heap.size 24 1 lv k vs) ∧ Hid (sliceVals w w.heap.size vs out) ∧ Hid (out.length = k) ∧ Hid (Taken l M k out rest) ∧ Below w.heap.size w wr) (fun _ _ i _ => M - (intOf i).toNat)
    case atStart => exact ⟨0, l.length, c, A, l, [], [], Nat.zero_le _, rfl, rfl, hnc, hcm, h1, Lib.hid rfl, HA, Lib.hid (World.ownsRow_nil _ _ _ _), Lib.hid (sliceVals.nil _ _), Lib.hid rfl, HST, Below.refl _ _⟩
    case round =>
      obtain ⟨k, r, cb, Ab, rest, out, vs, hk, rfl, rfl, hrc, hcbm, hr1, HR, HB, HO, HS, HOL, HTK, hbel⟩ := hrel
      clear HA HST ha h1 hnc hcm
      by_cases hlt : k < M
      · have hki : (k : Int) < (M : Int) := by omega
        go_wp2_with fail
        refine (rtake_any Ab r cb w.heap.size rest _ HR.out hrc hr1 (HB.out.below hbel (Nat.le_refl _))).mono ?_
        rintro e w1 ⟨A1, c1, A2, c2, rfl, hl1, hl2, hI, hR, hcc, q, rfl⟩
        cases ht : takeL rest with
        | none =>
          have HF := Lib.hid (Taken.bad HTK.out hlt ht)
          have hs : (none : Option (List UInt8 × List UInt8)).isSome = false := rfl
          rw [hs]
          have hb2 := below_drewN hbel q
          clear ht hI hR hl1 hl2 hs hcc
          go_wp2_with fail
          go_ret2
          rw [HF.out]
          exact ⟨none, 0, rfl, Nat.le_refl _, RdR.nil _ _ _, hb2⟩
        | some y =>
          obtain ⟨x, rr⟩ := y
          have hless := takeL_less ht
          have HTK2 := Lib.hid (Taken.on HTK.out hlt ht)
          rw [ht] at hl1 hl2 hI hR
          have hs : (some (x, rr) : Option (List UInt8 × List UInt8)).isSome = true := rfl
          rw [hs, show tItem (some (x, rr)) = x from rfl, show tRest (some (x, rr)) = rr from rfl]
          obtain ⟨xn, hxn⟩ : ∃ i, x.length = i := ⟨_, rfl⟩
          obtain ⟨rn, hrn⟩ : ∃ i, rr.length = i := ⟨_, rfl⟩
          have hl1' : xn ≤ c1 := by rw [← hxn]; exact hl1
          have hl2' : rn ≤ c2 := by rw [← hrn]; exact hl2
          have hx6 : xn ≤ 1000000 := by rw [← hxn]; have := HR.out; omega
          have hr6 : rn ≤ 1000000 := by rw [← hrn]; have := HR.out; omega
          rw [hxn, hrn]
          have HXN := Lib.hid hxn
          have HRN := Lib.hid hrn
          have HI := Lib.hid (show Rd w w.heap.size A1 x from hI.keep fun p hp => (hbel.cell hp).symm)
          have HRR := Lib.hid (show Rd w w.heap.size A2 rr from hR.keep fun p hp => (hbel.cell hp).symm)
          have HO1 := Lib.hid (show (wr.drewN q).ownsRow w.heap.size 24 1 _ k vs from HO.out)
          have hb2 := below_drewN hbel q
          have hm1 : c1 ≤ maxLen := Nat.le_trans hcc.1 hcbm
          have hm2 : c2 ≤ maxLen := Nat.le_trans hcc.2 hcbm
          generalize wr.drewN q = w1 at *
          clear ht hI hR hl1 hl2 hs hxn hrn hless HO hbel HB HTK hcc
          go_wp2_with (at_builtin; refine wpList_append_one rfl _ _ 33 rfl w.heap.size 24 i1 Tryd.underlying33 hi hz0 hz1 hz2 _ k vs rfl w1 A1 xn c1 rfl HO1.out rfl (by omega) hb2.size ?_)
          intro v5 w5 hown5 hg5
          have HO5 := Lib.hid hown5
          have HS5 := Lib.hid (HS.out.snoc HXN.out hl1' hm1 HI.out)
          have hb5 : Below w.heap.size w w5 := (hb2.alloc hb2.size (.cells #[.slice A1 xn c1] 24)).grown hg5 (by have := hb2.size; simp; omega) (fun k hk => (HO1.out.lt k hk).1)
          have HOL5 := Lib.hid (show (out ++ [x]).length = k + 1 by rw [List.length_append, HOL.out]; rfl)
          clear hown5 hg5 hb2
          go_wp2_with fail
          go_roundw
          case rel => exact ⟨k + 1, rn, c2, A2, rr, out ++ [x], _, by omega, by go_num, rfl, hl2', hm2, hr6, HRN, HRR, HO5, HS5, HOL5, HTK2, hb5⟩
          case measure => simp [intOf]; omega
      · obtain rfl : k = M := by omega
        have hki : ¬ (k : Int) < (k : Int) := by omega
        by_cases hr0 : 0 < r
        · have HF := Lib.hid (Taken.left HTK.out (by intro e; have := HR.out; rw [e] at this; simp at this; omega))
          have hri : (0 : Int) < (r : Int) := by omega
          go_wp2_with fail
          go_ret2
          rw [HF.out]
          exact ⟨none, 0, rfl, Nat.le_refl _, RdR.nil _ _ _, hbel⟩
        · have HF := Lib.hid (Taken.done HTK.out (List.eq_nil_of_length_eq_zero (by rw [HR.out]; omega)))
          have hri : ¬ (0 : Int) < (r : Int) := by omega
          obtain ⟨A', c', rfl, hc'⟩ := own_slice HO.out
          have HRD := Lib.hid (RdR.of_own HO.out (HS.out.below hbel (Nat.le_refl _)) hbel.size)
          go_wp2_with fail
          go_ret2
          refine ⟨A', c', ?_⟩
          rw [HF.out]
          exact ⟨ret_rows HOL.out.symm, by rw [show rowsOf (some out) = out from rfl, HOL.out]; exact hc', HRD.out, hbel⟩
end Go.Proofs.YtobealijkbnojaaDoor
