/- TakeNet and TakeNets of the program hand the rows out in new memory. TakeNets of the program hands just so many rows out, each in new memory, or tells that there are not just so many. Nets of the document writes all rows, one behind the other; Spoil turns a row's cells, its spare ones too. Rows that are written are taken all at once; one more or fewer is none; cut anywhere they are none. Lengths with noughts ahead, or too great ones, are none; more of rows whose mark stands behind their cells. -/
import Derived.Lib.AppendZerosOnto
import Derived.Test.YtndknifdajjalaaGreatDoorPNet
import Derived.Test.YtndknifdajjalaaGreatDoorPMakeA
import Derived.Test.YtndknifdajjalaaGreatDoorPShelf
namespace Go.Proofs.YtndknifdajjalaaGreatDoor
open Go.RowKit

/-- bytes.Clone of any bytes: the same bytes in new memory. -/
theorem clone_any (A : Option Addr) (n c C : Nat) (l : List UInt8) (w : World) (hn : l.length = n) (h1 : n ≤ 1000000) (hr : Rd w C A l) :
    Calls Tryz.prog 91 #[.slice A n c] w fun e w' => ∃ A' c', e = .returned (.slice A' n c') ∧ n ≤ c' ∧ c' ≤ maxLen ∧ w'.ownsRow w.heap.size 5 1 (.slice A' n c') n (Lib.byteCells l) ∧ Below w.heap.size w w' := by
  cases A with
  | none =>
    have h0 : l = [] := by
      rcases hr with rfl | ⟨b, off, e, _⟩
      · rfl
      · cases e
    subst h0
    subst hn
    refine (Tryz.bytes_Clone_nil _ c w).mono ?_
    rintro e w' ⟨rfl, rfl⟩
    exact ⟨none, 0, rfl, Nat.le_refl _, Nat.zero_le _, World.ownsRow_nil _ _ _ _, Below.refl _ _⟩
  | some ad =>
    have hcl := Tryz.bytes_Clone_at ad n c (l.map fun b => (b.toNat : Int)) w (by simpa using hn) (by omega) (fun i hi => by
      have hil : i < l.length := by omega
      rw [hr.cells i (.int .u8 (l[i].toNat : Int)) (by unfold Lib.byteCells; rw [List.getElem?_map, List.getElem?_eq_getElem hil]; rfl), List.getD_eq_getElem?_getD, List.getElem?_map, List.getElem?_eq_getElem hil]
      rfl)
    refine hcl.mono ?_
    rintro e w' ⟨v', rfl, hown, _, hb⟩
    have h2 : w'.ownsRow w.heap.size 5 1 v' n (Lib.byteCells l) := by
      unfold Lib.byteCells
      simpa [List.map_map, Function.comp_def] using hown
    obtain ⟨A', c', rfl, hc1, hc2⟩ := own_caps h2
    exact ⟨A', c', rfl, hc1, hc2, h2, hb⟩

set_option maxHeartbeats 1000000 in
theorem takeNet_any (A : Option Addr) (n c : Nat) (l : List UInt8) (w : World) (hl : l.length = n) (hnc : n ≤ c) (h1 : n ≤ 1000000) (ha : Rd w w.heap.size A l) :
    Calls Tryz.prog 92 #[.slice A n c] w fun e w' => ∃ A1 c1 A2 c2, e = .returned (.tuple #[.slice A1 (tItem (takeL l)).length c1, .slice A2 (tRest (takeL l)).length c2, .bool (takeL l).isSome]) ∧
      (tItem (takeL l)).length ≤ c1 ∧ (tRest (takeL l)).length ≤ c2 ∧ Rd w' w'.heap.size A1 (tItem (takeL l)) ∧ Rd w' w'.heap.size A2 (tRest (takeL l)) ∧ Below w.heap.size w w' := by
  have hlen : (tItem (takeL l)).length ≤ 1000000 ∧ (tRest (takeL l)).length ≤ 1000000 := by
    unfold takeL
    cases rowLen l with
    | none => simp [tItem, tRest]
    | some x =>
      simp only
      split
      · simp [tItem, tRest]; omega
      · simp [tItem, tRest]
  go_enter Tryz.func92, Tryz.ntmps92
  go_wp2_with fail
  refine (cutNet_any A n c _ l _ hl hnc h1 ha).mono ?_
  rintro e w1 ⟨A1, c1, A2, c2, rfl, _, _, hr1, hr2, q, rfl⟩
  have hr1' := hr1.drewN q
  have hr2' := hr2.drewN q
  cases ht : takeL l with
  | none =>
    have hs : (none : Option (List UInt8 × List UInt8)).isSome = false := rfl
    rw [hs]
    have hb := below_drewN (Below.refl w.heap.size w) q
    have HTL := Lib.hid ht
    clear hr1' hr2' hlen hr1 hr2 ha hl ht
    go_wp2_with fail
    go_ret3
    rw [HTL.out]
    exact ⟨none, 0, none, 0, rfl, Nat.le_refl _, Nat.le_refl _, Rd.nil _ _ _, Rd.nil _ _ _, hb⟩
  | some x =>
    obtain ⟨I, R⟩ := x
    rw [ht] at hlen hr1 hr2
    obtain ⟨i, hi⟩ : ∃ i, I.length = i := ⟨_, rfl⟩
    obtain ⟨r, hr⟩ : ∃ r, R.length = r := ⟨_, rfl⟩
    have hlen1 : i ≤ 1000000 := by rw [← hi]; exact hlen.1
    have hlen2 : r ≤ 1000000 := by rw [← hr]; exact hlen.2
    have hs : (some (I, R) : Option (List UInt8 × List UInt8)).isSome = true := rfl
    rw [hs, show tItem (some (I, R)) = I from rfl, show tRest (some (I, R)) = R from rfl, hi, hr]
    have hb := below_drewN (Below.refl w.heap.size w) q
    have hI : Rd (w.drewN q) (w.drewN q).heap.size A1 I := hr1
    have hR : Rd (w.drewN q) (w.drewN q).heap.size A2 R := hr2
    have HI := Lib.hid hi
    have HR := Lib.hid hr
    have HTL := Lib.hid ht
    generalize w.drewN q = w1 at *
    clear hr1' hr2' hlen hr1 hr2 ha hl ht hi hr hs
    go_wp2_with fail
    refine (clone_any A1 i c1 _ I _ HI.out hlen1 hI).mono ?_
    rintro e w2 ⟨A3, c3, rfl, hc3, _, hown3, hb2⟩
    have hR2 := hR.on hb2
    have hI3 := Rd.of_own hown3
    have hbb := Below.then hb hb2
    clear hI hR hown3 hb hb2
    go_wp2_with fail
    refine (clone_any A2 r c2 _ R _ HR.out hlen2 hR2).mono ?_
    rintro e w3 ⟨A4, c4, rfl, hc4, _, hown4, hb3⟩
    have hI4 := Lib.hid (hI3.on hb3)
    have hR4 := Lib.hid (Rd.of_own hown4)
    have hbb3 := Below.then hbb hb3
    clear hI3 hown4 hbb hb3 hR2
    go_wp2_with fail
    go_ret3
    refine ⟨A3, c3, A4, c4, ?_⟩
    rw [HTL.out]
    exact ⟨ret_cut HI.out.symm HR.out.symm, by rw [tItem, HI.out]; exact hc3, by rw [tRest, HR.out]; exact hc4, hI4.out, hR4.out, hbb3⟩

/-- Just so many rows. -/
def takesL : Nat → List UInt8 → Option (List (List UInt8))
  | 0, b => if b = [] then some [] else none
  | k + 1, b => match takeL b with
    | none => none
    | some x => (takesL k x.2).map fun y => x.1 :: y
/-- How far the taking is. -/
def Taken (b : List UInt8) (N k : Nat) (out : List (List UInt8)) (rest : List UInt8) : Prop := takesL N b = (takesL (N - k) rest).map fun y => out ++ y
theorem Taken.start (b : List UInt8) (N : Nat) : Taken b N 0 [] b := by
  unfold Taken; rw [Nat.sub_zero]; cases takesL N b <;> simp
theorem Taken.on {b : List UInt8} {N k : Nat} {out : List (List UInt8)} {rest x r : List UInt8} (h : Taken b N k out rest) (hk : k < N) (ht : takeL rest = some (x, r)) : Taken b N (k + 1) (out ++ [x]) r := by
  unfold Taken at h ⊢
  rw [h, show N - k = (N - (k + 1)) + 1 from by omega, takesL, ht]
  simp only [Option.map_map]
  cases takesL (N - (k + 1)) r <;> simp
theorem Taken.left {b : List UInt8} {N : Nat} {out : List (List UInt8)} {rest : List UInt8} (h : Taken b N N out rest) (hr : rest ≠ []) : takesL N b = none := by
  unfold Taken at h
  rw [h, Nat.sub_self, takesL, if_neg hr]; rfl
theorem Taken.done {b : List UInt8} {N : Nat} {out : List (List UInt8)} {rest : List UInt8} (h : Taken b N N out rest) (hr : rest = []) : takesL N b = some out := by
  unfold Taken at h
  rw [h, Nat.sub_self, takesL, if_pos hr]; simp

theorem takeL_less {l : List UInt8} {x r : List UInt8} (h : takeL l = some (x, r)) : x.length ≤ l.length ∧ r.length ≤ l.length := by
  unfold takeL at h
  cases hr : rowLen l with
  | none => rw [hr] at h; cases h
  | some y =>
    rw [hr] at h
    simp only at h
    split at h
    · simp only [Option.some.injEq, Prod.mk.injEq] at h
      obtain ⟨rfl, rfl⟩ := h
      simp; omega
    · cases h

set_option maxHeartbeats 1000000 in
theorem rnets_any (A : Option Addr) (n c : Nat) (ls : List (List UInt8)) (w : World) (hn : ls.length = n) (h1 : n ≤ 1000) (h2 : ∀ r ∈ ls, r.length ≤ 1000) (hr : RdR w w.heap.size A ls) :
    Calls Tryz.prog 105 #[.slice A n c] w fun e w' => ∃ A' c', e = .returned (.slice A' (netsL ls).length c') ∧ (netsL ls).length ≤ c' ∧ Rd w' w'.heap.size A' (netsL ls) ∧ Below w.heap.size w w' := by
  obtain ⟨i0, hi, hz0, hz1, hz2⟩ := info_parts info5
  have HN := Lib.hid hn
  have H2 := Lib.hid h2
  clear hn h2
  go_enter Tryz.func105, Tryz.ntmps105
  go_wp2
  go_loopw [3, 7] (fun v i wr => ∃ k m : Nat, k ≤ n ∧ i = .int .i64 k ∧ m ≤ 1022 * k ∧ Hid ((netsL (ls.take k)).length = m) ∧ Hid (wr.ownsRow w.heap.size 5 1 v m (Lib.byteCells (netsL (ls.take k)))) ∧ Below w.heap.size w wr) (fun _ i _ => n - (intOf i).toNat)
  case atStart => exact ⟨0, 0, Nat.zero_le _, rfl, by omega, Lib.hid (by simp [netsL]), Lib.hid (World.ownsRow_nil _ _ _ _), Below.refl _ _⟩
  case round =>
    obtain ⟨k, m, hk, rfl, hm, HM, HO, hbel⟩ := hrel
    by_cases hlt : k < n
    · have hl1 : k < ls.length := by rw [HN.out]; exact hlt
      obtain ⟨b, off, A', c', rfl, _, hc, hlc, _, hrd⟩ := (hr.below hbel (Nat.le_refl _)).at_ k hl1
      have HK := Lib.hid (netsL_take ls k hl1)
      have hlen : ls[k].length ≤ 1000 := H2.out _ (List.getElem_mem hl1)
      generalize ls[k] = l at *
      obtain ⟨q, hq⟩ : ∃ q, l.length = q := ⟨_, rfl⟩
      have HQ := Lib.hid hq
      rw [hq] at hc hlen
      clear hlc hq
      have hle := hbel.size
      have htl := netL_len l (by rw [HQ.out]; omega)
      rw [HQ.out] at htl
      have hki : (k : Int) < (n : Int) := by omega
      go_wp2_with fail
      refine (rnet_any q c' A' l _ HQ.out (by omega) (hrd.more hle)).mono ?_
      rintro e w1 ⟨A1, c1, rfl, hc1, hr1, hb1⟩
      have HO1 := Lib.hid (own_keep HO.out hb1)
      have hbel1 := Below.then hbel hb1
      have HR1 := Lib.hid hr1
      have HKL := Lib.hid (show (netsL (ls.take (k + 1))).length = m + (netL l).length by rw [HK.out, List.length_append, HM.out])
      generalize netL l = y at *
      obtain ⟨z, hz⟩ : ∃ z, y.length = z := ⟨_, rfl⟩
      rw [hz] at HKL htl
      have HYZ := Lib.hid hz
      rw [hz]
      clear hb1 hbel hrd hc hr1 HO hz
      go_wp2_with (at_builtin; refine wpList_append_rd rfl _ _ 35 rfl w.heap.size 5 i0 Tryz.underlying35 hi hz0 hz1 hz2 _ m _ rfl HO1.out _ A1 z c1 y rfl HYZ.out HR1.out (by omega) hbel1.size ?_)
      intro v2 w2 hown2 hg2
      have hbel2 : Below w.heap.size w w2 := hbel1.grown hg2 hbel1.size (fun k hk => (HO1.out.lt k hk).1)
      rw [← Lib.byteCells_append, ← HK.out] at hown2
      have HO2 := Lib.hid hown2
      clear hown2 hg2 hbel1
      go_wp2_with fail
      go_roundw
      case rel => exact ⟨k + 1, m + z, by omega, by go_num, by omega, HKL, HO2, hbel2⟩
      case measure => simp [intOf]; omega
    · have hge : ¬ (k : Int) < (n : Int) := by omega
      have ht : ls.take k = ls := List.take_of_length_le (by rw [HN.out]; omega)
      have ho := HO.out
      have hm' := HM.out
      rw [ht] at ho hm'
      obtain ⟨A1, c1, hv, hc1⟩ := own_slice ho
      subst hv
      have hrd := Rd.of_own ho
      rw [← hm'] at hc1
      have HM2 := Lib.hid hm'
      have HR := Lib.hid hrd
      have HC := Lib.hid hc1
      clear ho hm' hrd hc1 ht
      go_wp2_with fail
      go_ret
      exact ⟨A1, c1, by rw [HM2.out]; rfl, HC.out, HR.out, hbel⟩

/-- A row all of whose cells are bytes. -/
def AllB (w : World) (g : Nat) (e : TypeId) (full : List UInt8) : Prop := w.heap[g]? = some (.cells (Lib.byteCells full).toArray e (0, 0))

theorem AllB.cell {w : World} {g : Nat} {e : TypeId} {full : List UInt8} (h : AllB w g e full) (k : Nat) (hk : k < full.length) : w.cell? ⟨g, k, none⟩ = some (.int .u8 (full[k].toNat : Int)) ∧ w.frozen? ⟨g, k, none⟩ = false := by
  unfold AllB at h
  have hc : (Lib.byteCells full).toArray[k]? = some (.int .u8 (full[k].toNat : Int)) := by
    unfold Lib.byteCells
    simp [hk]
  constructor
  · rw [cell_of_row w g k _ e (0, 0) h, hc]
  · simp [World.frozen?, h]

theorem AllB.set {w : World} {g : Nat} {e : TypeId} {full : List UInt8} (h : AllB w g e full) (k : Nat) (x : UInt8) (y : Int) (hy : y = (x.toNat : Int)) : AllB (w.setCell ⟨g, k, none⟩ (.int .u8 y)) g e (full.set k x) := by
  subst hy
  unfold AllB at h ⊢
  rw [setCell_eq_setRow w g k _ e (0, 0) _ h, setRow_heap w g _ _ e (0, 0) h]
  congr 2
  apply Array.ext'
  unfold Lib.byteCells
  simp [List.map_set]

theorem netsL_ne (ls : List (List UInt8)) (h : ls ≠ []) : 0 < (netsL ls).length := by
  cases ls with
  | nil => exact absurd rfl h
  | cons x ls => rw [netsL_cons, netL_eq]; simp; omega

section
variable {w : World}
theorem OwnM.grown {base : Nat} {e : TypeId} {v : Value} {n : Nat} {l : List UInt8} (h : OwnM w base e v n l) {w' : World} (hg : w.grownBy w' none) : OwnM w' base e v n l := by
  obtain ⟨hl, g, cap, cur, fz, hv, hb, hgg, rest⟩ := h
  exact ⟨hl, g, cap, cur, fz, hv, hb, (hg.block g (Array.getElem?_eq_some_iff.1 hgg).1 (by simp)).trans hgg, rest⟩
theorem OwnM.on {base : Nat} {e : TypeId} {v : Value} {n : Nat} {l : List UInt8} (h : OwnM w base e v n l) {w' : World} (hb' : Below w.heap.size w w') : OwnM w' base e v n l := by
  obtain ⟨hl, g, cap, cur, fz, hv, hb, hgg, rest⟩ := h
  exact ⟨hl, g, cap, cur, fz, hv, hb, (hb'.block g (Array.getElem?_eq_some_iff.1 hgg).1).trans hgg, rest⟩
theorem OwnM.form {base : Nat} {e : TypeId} {v : Value} {n : Nat} {l : List UInt8} (h : OwnM w base e v n l) : ∃ g cap, v = .slice (some ⟨g, 0, none⟩) n cap ∧ n ≤ cap ∧ base ≤ g := by
  obtain ⟨_, g, cap, cur, fz, hv, hb, _, _, hc, _⟩ := h
  exact ⟨g, cap, hv, hc, hb⟩
theorem OwnM.cell {base : Nat} {e : TypeId} {g n cap : Nat} {l : List UInt8} (h : OwnM w base e (.slice (some ⟨g, 0, none⟩) n cap) n l) (j : Nat) (hj : j < l.length) : w.cell? ⟨g, j, none⟩ = some (.int .u8 (l[j].toNat : Int)) := by
  rcases h.rd with h0 | ⟨b, off, e', _, hc⟩
  · rw [h0] at hj; simp at hj
  · injection e' with e'
    injection e' with e1 e2
    subst e1 e2
    simpa using hc j hj
theorem OwnM.free {base : Nat} {e : TypeId} {g n cap : Nat} {l : List UInt8} (h : OwnM w base e (.slice (some ⟨g, 0, none⟩) n cap) n l) (j : Nat) (hj : j < n) : w.frozen? ⟨g, j, none⟩ = false := by
  obtain ⟨_, g', cap', cur, fz, hv, hb, hg, hfz, hnc, _⟩ := h
  injection hv with hv _ hcap
  injection hv with hv
  injection hv with hv
  subst hv hcap
  obtain ⟨lo, hi⟩ := fz
  simp only [World.frozen?, hg, Bool.and_eq_false_iff, decide_eq_false_iff_not]
  simp only at hfz
  omega

end
end Go.Proofs.YtndknifdajjalaaGreatDoor
