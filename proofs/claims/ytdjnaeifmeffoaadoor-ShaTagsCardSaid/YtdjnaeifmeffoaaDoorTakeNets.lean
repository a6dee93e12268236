/- TakeNets of the program hands just so many rows out, each in new memory, or tells that there are not just so many. -/
import Derived.Test.YtdjnaeifmeffoaaDoorTakeNet
namespace Go.Proofs.YtdjnaeifmeffoaaDoor
open Go.RowKit

/-- Just so many rows. -/
def takesL : Nat → List UInt8 → Option (List (List UInt8))
  | 0, b => if b = [] then some [] else none
  | k + 1, b => match takeL b with
    | none => none
    | some x => (takesL k x.2).map fun y => x.1 :: y
def takesN (n : Int) (b : List UInt8) : Option (List (List UInt8)) := if n < 0 then none else takesL n.toNat b
/-- The rows (none of them beside a false). -/
def rowsOf (o : Option (List (List UInt8))) : List (List UInt8) := o.getD []

/-- How far the taking is. -/
def Taken (b : List UInt8) (N k : Nat) (out : List (List UInt8)) (rest : List UInt8) : Prop := takesL N b = (takesL (N - k) rest).map fun y => out ++ y
theorem Taken.start (b : List UInt8) (N : Nat) : Taken b N 0 [] b := by
  unfold Taken; rw [Nat.sub_zero]; cases takesL N b <;> simp
theorem Taken.bad {b : List UInt8} {N k : Nat} {out : List (List UInt8)} {rest : List UInt8} (h : Taken b N k out rest) (hk : k < N) (ht : takeL rest = none) : takesL N b = none := by
  unfold Taken at h
  rw [h, show N - k = (N - (k + 1)) + 1 from by omega, takesL, ht]
  rfl
theorem Taken.on {b : List UInt8} {N k : Nat} {out : List (List UInt8)} {rest x r : List UInt8} (h : Taken b N k out rest) (hk : k < N) (ht : takeL rest = some (x, r)) : Taken b N (k + 1) (out ++ [x]) r := by
  unfold Taken at h ⊢
  rw [h, show N - k = (N - (k + 1)) + 1 from by omega, takesL, ht]
  simp only [Option.map_map]
  cases takesL (N - (k + 1)) r <;> simp
theorem Taken.left {b : List UInt8} {N : Nat} {out : List (List UInt8)} {rest : List UInt8} (h : Taken b N N out rest) (hr : rest ≠ []) : takesL N b = none := by
  unfold Taken at h
  rw [h, Nat.sub_self, takesL, if_neg hr]; rfl
theorem Taken.done {b : List UInt8} {N : Nat} {out : List (List UInt8)} {rest : List UInt8} (h : Taken b N N out rest) (hr : rest = []) : takesL N b = some out := by
  unfold Taken at h
  rw [h, Nat.sub_self, takesL, if_pos hr]; simp

theorem takeL_less {l : List UInt8} {x r : List UInt8} (h : takeL l = some (x, r)) : x.length ≤ l.length ∧ r.length ≤ l.length := by
  unfold takeL at h
  cases hr : rowLen l with
  | none => rw [hr] at h; cases h
  | some y =>
    rw [hr] at h
    simp only at h
    split at h
    · simp only [Option.some.injEq, Prod.mk.injEq] at h
      obtain ⟨rfl, rfl⟩ := h
      simp; omega
    · cases h

theorem ret_rows {A1 : Option Addr} {c1 n1 m1 : Nat} {b : Bool} (h1 : n1 = m1) :
    Ending.returned (.tuple #[.slice A1 n1 c1, .bool b]) = Ending.returned (.tuple #[.slice A1 m1 c1, .bool b]) := by rw [h1]

set_option maxHeartbeats 2000000 in
theorem takeNets_any (A : Option Addr) (n c : Nat) (N : Int) (l : List UInt8) (w : World) (hl : l.length = n) (hnc : n ≤ c) (h1 : n ≤ 1000000) (hN : N ≤ 100000) (ha : Rd w w.heap.size A l) :
    Calls Tryd.prog 19 #[.slice A n c, .int .i64 N] w fun e w' => ∃ A1 c1, e = .returned (.tuple #[.slice A1 (rowsOf (takesN N l)).length c1, .bool (takesN N l).isSome]) ∧
      (rowsOf (takesN N l)).length ≤ c1 ∧ RdR w' w'.heap.size A1 (rowsOf (takesN N l)) ∧ Below w.heap.size w w' := by
  obtain ⟨i1, hi, hz0, hz1, hz2⟩ := info_parts infoSlice
  by_cases hneg : N < 0
  · have HT := Lib.hid (show takesN N l = none by unfold takesN; rw [if_pos hneg])
    rw [HT.out]
    go_enter Tryd.func19, Tryd.ntmps19
    go_wp2
    go_ret2
    exact ⟨none, 0, rfl, Nat.le_refl _, RdR.nil _ _ _, Below.refl _ _⟩
  · obtain ⟨M, rfl⟩ : ∃ M : Nat, N = (M : Int) := ⟨N.toNat, by omega⟩
    have HT := Lib.hid (show takesN (M : Int) l = takesL M l by unfold takesN; rw [if_neg hneg]; rfl)
    rw [HT.out]
    have hM : M ≤ 100000 := by omega
    clear hneg
    have HA := Lib.hid ha
    have HST := Lib.hid (Taken.start l M)
    subst hl
    go_enter Tryd.func19, Tryd.ntmps19
    go_wp2
    go_loopw [0, 4, 12] (fun bv lv i wr => ∃ (k r cb : Nat) (Ab : Option Addr) (rest : List UInt8) (out : List (List UInt8)) (vs : List Value), k ≤ M ∧ i = .int .i64 k ∧ bv = .slice Ab r cb ∧ r ≤ cb ∧ r ≤ 1000000 ∧ Hid (rest.length = r) ∧ Hid (Rd wr w.heap.size Ab rest) ∧ Hid (wr.ownsRow w.heap.size 22 1 lv k vs) ∧ Hid (sliceOwn wr w.heap.size 5 vs out) ∧ Hid (out.length = k) ∧ Hid (Taken l M k out rest) ∧ Below w.heap.size w wr) (fun _ _ i _ => M - (intOf i).toNat)
    case atStart => exact ⟨0, l.length, c, A, l, [], [], Nat.zero_le _, rfl, rfl, hnc, h1, Lib.hid rfl, HA, Lib.hid (World.ownsRow_nil _ _ _ _), Lib.hid ⟨rfl, fun i h => by simp at h⟩, Lib.hid rfl, HST, Below.refl _ _⟩
    case round =>
      obtain ⟨k, r, cb, Ab, rest, out, vs, hk, rfl, rfl, hrc, hr1, HR, HB, HO, HS, HOL, HTK, hbel⟩ := hrel
      clear HA HST ha h1 hnc
      by_cases hlt : k < M
      · have hki : (k : Int) < (M : Int) := by omega
        go_wp2_with fail
        refine (cutNet_any Ab r cb w.heap.size rest _ HR.out hrc hr1 HB.out).mono ?_
        rintro e w1 ⟨A1, c1, A2, c2, rfl, hl1, hl2, hI, hR, q, rfl⟩
        cases ht : takeL rest with
        | none =>
          have HF := Lib.hid (Taken.bad HTK.out hlt ht)
          have hs : (none : Option (List UInt8 × List UInt8)).isSome = false := rfl
          rw [hs]
          have hb2 := below_drewN hbel q
          clear ht hI hR hl1 hl2 hs
          go_wp2_with fail
          go_ret2
          rw [HF.out]
          exact ⟨none, 0, rfl, Nat.le_refl _, RdR.nil _ _ _, hb2⟩
        | some y =>
          obtain ⟨x, rr⟩ := y
          have hless := takeL_less ht
          have HTK2 := Lib.hid (Taken.on HTK.out hlt ht)
          rw [ht] at hl1 hl2 hI hR
          have hs : (some (x, rr) : Option (List UInt8 × List UInt8)).isSome = true := rfl
          rw [hs, show tItem (some (x, rr)) = x from rfl, show tRest (some (x, rr)) = rr from rfl]
          obtain ⟨xn, hxn⟩ : ∃ i, x.length = i := ⟨_, rfl⟩
          obtain ⟨rn, hrn⟩ : ∃ i, rr.length = i := ⟨_, rfl⟩
          have hl1' : xn ≤ c1 := by rw [← hxn]; exact hl1
          have hl2' : rn ≤ c2 := by rw [← hrn]; exact hl2
          have hx6 : xn ≤ 1000000 := by rw [← hxn]; have := HR.out; omega
          have hr6 : rn ≤ 1000000 := by rw [← hrn]; have := HR.out; omega
          rw [hxn, hrn]
          have HXN := Lib.hid hxn
          have HRN := Lib.hid hrn
          have HI := Lib.hid (show Rd (wr.drewN q) w.heap.size A1 x from hI)
          have HRR := Lib.hid (show Rd (wr.drewN q) w.heap.size A2 rr from hR)
          have HO1 := Lib.hid (show (wr.drewN q).ownsRow w.heap.size 22 1 _ k vs from HO.out)
          have HS1 := Lib.hid (HS.out.map (w' := wr.drewN q) (fun _ _ _ h => h))
          have hb2 := below_drewN hbel q
          generalize wr.drewN q = w1 at *
          clear ht hI hR hl1 hl2 hs hxn hrn hless HO HS hbel HB HTK
          go_wp2_with fail
          refine (clone_any A1 xn c1 _ x _ HXN.out hx6 HI.out).mono ?_
          rintro e w2 ⟨A3, c3, rfl, hc3, hc3m, hown3, hb3⟩
          have HO2 := Lib.hid (own_keep HO1.out hb3)
          have HS2 := Lib.hid (HS1.out.map (fun _ _ _ h => own_keep h hb3))
          have HN2 := Lib.hid (own_base hown3 hb2.size)
          have HRR2 := Lib.hid (HRR.out.below hb3 hb2.size)
          have hb4 := Below.then hb2 hb3
          clear hown3 hb3 hb2 HI HRR HO1 HS1
          go_wp2_with (at_builtin; refine wpList_append_one rfl _ _ 36 rfl w.heap.size 22 i1 Tryd.underlying36 hi hz0 hz1 hz2 _ k vs rfl w2 A3 xn c3 rfl HO2.out rfl (by omega) hb4.size ?_)
          intro v5 w5 hown5 hg5
          have HO5 := Lib.hid hown5
          have HS5 := Lib.hid ((HS2.out.snoc HXN.out hc3 hc3m HN2.out).map (w' := w5) (fun _ _ _ h => own_apart (h.alloc (.cells #[.slice A3 xn c3] 22)) (HO2.out.alloc (.cells #[.slice A3 xn c3] 22)) (by decide) hg5))
          have hb5 : Below w.heap.size w w5 := (hb4.alloc hb4.size _).grown hg5 (by have := hb4.size; simp; omega) (fun k hk => (HO2.out.lt k hk).1)
          have HR5 := Lib.hid ((HRR2.out.alloc hb4.size (.cells #[.slice A3 xn c3] 22)).grown hg5 (by have := hb4.size; simp; omega) (fun k hk => (HO2.out.lt k hk).1))
          have HOL5 := Lib.hid (show (out ++ [x]).length = k + 1 by rw [List.length_append, HOL.out]; rfl)
          clear hown5 hg5 hb4
          go_wp2_with fail
          go_roundw
          case rel => exact ⟨k + 1, rn, c2, A2, rr, out ++ [x], _, by omega, by go_num, rfl, hl2', hr6, HRN, HR5, HO5, HS5, HOL5, HTK2, hb5⟩
          case measure => simp [intOf]; omega
      · obtain rfl : k = M := by omega
        have hki : ¬ (k : Int) < (k : Int) := by omega
        by_cases hr0 : 0 < r
        · have HF := Lib.hid (Taken.left HTK.out (by intro e; have := HR.out; rw [e] at this; simp at this; omega))
          have hri : (0 : Int) < (r : Int) := by omega
          go_wp2_with fail
          go_ret2
          rw [HF.out]
          exact ⟨none, 0, rfl, Nat.le_refl _, RdR.nil _ _ _, hbel⟩
        · have HF := Lib.hid (Taken.done HTK.out (List.eq_nil_of_length_eq_zero (by rw [HR.out]; omega)))
          have hri : ¬ (0 : Int) < (r : Int) := by omega
          obtain ⟨A', c', rfl, hc'⟩ := own_slice HO.out
          have HRD := Lib.hid (RdR.of_own HO.out HS.out.vals (Nat.le_refl _))
          go_wp2_with fail
          go_ret2
          refine ⟨A', c', ?_⟩
          rw [HF.out]
          exact ⟨ret_rows HOL.out.symm, by rw [show rowsOf (some out) = out from rfl, HOL.out]; exact hc', HRD.out, hbel⟩
end Go.Proofs.YtdjnaeifmeffoaaDoor
