/- TakeNet and TakeNets of the program hand the rows out in new memory. -/
import Derived.Test.YtoidkaeomgglcaaDoorCutNet
import Derived.Test.YtoidkaeomgglcaaDoorCopyRows
import Derived.Test.YtoidkaeomgglcaaDoorShelf
namespace Go.Proofs.YtoidkaeomgglcaaDoor
open Go.RowKit

/-- bytes.Clone of any bytes: the same bytes in new memory. -/
theorem clone_any (A : Option Addr) (n c C : Nat) (l : List UInt8) (w : World) (hn : l.length = n) (h1 : n ≤ 1000000) (hr : Rd w C A l) :
    Calls Tryd.prog 44 #[.slice A n c] w fun e w' => ∃ A' c', e = .returned (.slice A' n c') ∧ n ≤ c' ∧ c' ≤ maxLen ∧ w'.ownsRow w.heap.size 5 1 (.slice A' n c') n (Lib.byteCells l) ∧ Below w.heap.size w w' := by
  cases A with
  | none =>
    have h0 : l = [] := by
      rcases hr with rfl | ⟨b, off, e, _⟩
      · rfl
      · cases e
    subst h0
    subst hn
    refine (Tryd.bytes_Clone_nil _ c w).mono ?_
    rintro e w' ⟨rfl, rfl⟩
    exact ⟨none, 0, rfl, Nat.le_refl _, Nat.zero_le _, World.ownsRow_nil _ _ _ _, Below.refl _ _⟩
  | some ad =>
    have hcl := Tryd.bytes_Clone_at ad n c (l.map fun b => (b.toNat : Int)) w (by simpa using hn) (by omega) (fun i hi => by
      have hil : i < l.length := by omega
      rw [hr.cells i (.int .u8 (l[i].toNat : Int)) (by unfold Lib.byteCells; rw [List.getElem?_map, List.getElem?_eq_getElem hil]; rfl), List.getD_eq_getElem?_getD, List.getElem?_map, List.getElem?_eq_getElem hil]
      rfl)
    refine hcl.mono ?_
    rintro e w' ⟨v', rfl, hown, _, hb⟩
    have h2 : w'.ownsRow w.heap.size 5 1 v' n (Lib.byteCells l) := by
      unfold Lib.byteCells
      simpa [List.map_map, Function.comp_def] using hown
    obtain ⟨A', c', rfl, hc1, hc2⟩ := own_cap h2
    exact ⟨A', c', rfl, hc1, hc2, h2, hb⟩

set_option maxHeartbeats 1000000 in
theorem takeNet_any (A : Option Addr) (n c : Nat) (l : List UInt8) (w : World) (hl : l.length = n) (hnc : n ≤ c) (h1 : n ≤ 1000000) (ha : Rd w w.heap.size A l) :
    Calls Tryd.prog 31 #[.slice A n c] w fun e w' => ∃ A1 c1 A2 c2, e = .returned (.tuple #[.slice A1 (tItem (takeL l)).length c1, .slice A2 (tRest (takeL l)).length c2, .bool (takeL l).isSome]) ∧
      (tItem (takeL l)).length ≤ c1 ∧ (tRest (takeL l)).length ≤ c2 ∧ Rd w' w'.heap.size A1 (tItem (takeL l)) ∧ Rd w' w'.heap.size A2 (tRest (takeL l)) ∧ Below w.heap.size w w' := by
  have hlen : (tItem (takeL l)).length ≤ 1000000 ∧ (tRest (takeL l)).length ≤ 1000000 := by
    unfold takeL
    cases rowLen l with
    | none => simp [tItem, tRest]
    | some x =>
      simp only
      split
      · simp [tItem, tRest]; omega
      · simp [tItem, tRest]
  go_enter Tryd.func31, Tryd.ntmps31
  go_wp2_with fail
  refine (cutNet_any A n c _ l _ hl hnc h1 ha).mono ?_
  rintro e w1 ⟨A1, c1, A2, c2, rfl, _, _, hr1, hr2, q, rfl⟩
  have hr1' := hr1.drewN q
  have hr2' := hr2.drewN q
  cases ht : takeL l with
  | none =>
    have hs : (none : Option (List UInt8 × List UInt8)).isSome = false := rfl
    rw [hs]
    have hb := below_drewN (Below.refl w.heap.size w) q
    have HTL := Lib.hid ht
    clear hr1' hr2' hlen hr1 hr2 ha hl ht
    go_wp2_with fail
    go_ret3
    rw [HTL.out]
    exact ⟨none, 0, none, 0, rfl, Nat.le_refl _, Nat.le_refl _, Rd.nil _ _ _, Rd.nil _ _ _, hb⟩
  | some x =>
    obtain ⟨I, R⟩ := x
    rw [ht] at hlen hr1 hr2
    obtain ⟨i, hi⟩ : ∃ i, I.length = i := ⟨_, rfl⟩
    obtain ⟨r, hr⟩ : ∃ r, R.length = r := ⟨_, rfl⟩
    have hlen1 : i ≤ 1000000 := by rw [← hi]; exact hlen.1
    have hlen2 : r ≤ 1000000 := by rw [← hr]; exact hlen.2
    have hs : (some (I, R) : Option (List UInt8 × List UInt8)).isSome = true := rfl
    rw [hs, show tItem (some (I, R)) = I from rfl, show tRest (some (I, R)) = R from rfl, hi, hr]
    have hb := below_drewN (Below.refl w.heap.size w) q
    have hI : Rd (w.drewN q) (w.drewN q).heap.size A1 I := hr1
    have hR : Rd (w.drewN q) (w.drewN q).heap.size A2 R := hr2
    have HI := Lib.hid hi
    have HR := Lib.hid hr
    have HTL := Lib.hid ht
    generalize w.drewN q = w1 at *
    clear hr1' hr2' hlen hr1 hr2 ha hl ht hi hr hs
    go_wp2_with fail
    refine (clone_any A1 i c1 _ I _ HI.out hlen1 hI).mono ?_
    rintro e w2 ⟨A3, c3, rfl, hc3, _, hown3, hb2⟩
    have hR2 := hR.on hb2
    have hI3 := Rd.of_own hown3
    have hbb := Below.then hb hb2
    clear hI hR hown3 hb hb2
    go_wp2_with fail
    refine (clone_any A2 r c2 _ R _ HR.out hlen2 hR2).mono ?_
    rintro e w3 ⟨A4, c4, rfl, hc4, _, hown4, hb3⟩
    have hI4 := Lib.hid (hI3.on hb3)
    have hR4 := Lib.hid (Rd.of_own hown4)
    have hbb3 := Below.then hbb hb3
    clear hI3 hown4 hbb hb3 hR2
    go_wp2_with fail
    go_ret3
    refine ⟨A3, c3, A4, c4, ?_⟩
    rw [HTL.out]
    exact ⟨ret_cut HI.out.symm HR.out.symm, by rw [tItem, HI.out]; exact hc3, by rw [tRest, HR.out]; exact hc4, hI4.out, hR4.out, hbb3⟩
end Go.Proofs.YtoidkaeomgglcaaDoor
