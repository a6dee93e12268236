/- TakeNet and TakeNets of the program hand the rows out in new memory. TakeNets of the program hands just so many rows out, each in new memory, or tells that there are not just so many. Nets of the document writes all rows, one behind the other; Spoil turns a row's cells, its spare ones too. Rows that are written are taken all at once; one more or fewer is none; cut anywhere they are none. Lengths with noughts ahead, or too great ones, are none; more of rows whose mark stands behind their cells. -/
import Derived.Test.YtkkokngdhhakdaaDoorNet
import Derived.Test.YtkkokngdhhakdaaDoorMakeA
import Derived.Test.YtkkokngdhhakdaaDoorShelf
import Derived.Lib.AppendZerosOnto
namespace Go.Proofs.YtkkokngdhhakdaaDoor
open Go.RowKit

/-- bytes.Clone of any bytes: the same bytes in new memory. -/
theorem clone_any (A : Option Addr) (n c C : Nat) (l : List UInt8) (w : World) (hn : l.length = n) (h1 : n ≤ 1000000) (hr : Rd w C A l) :
    Calls Tryd.prog 62 #[.slice A n c] w fun e w' => ∃ A' c', e = .returned (.slice A' n c') ∧ n ≤ c' ∧ c' ≤ maxLen ∧ w'.ownsRow w.heap.size 5 1 (.slice A' n c') n (Lib.byteCells l) ∧ Below w.heap.size w w' := by
  cases A with
  | none =>
    have h0 : l = [] := by
      rcases hr with rfl | ⟨b, off, e, _⟩
      · rfl
      · cases e
    subst h0
    subst hn
    refine (Tryd.bytes_Clone_nil _ c w).mono ?_
    rintro e w' ⟨rfl, rfl⟩
    exact ⟨none, 0, rfl, Nat.le_refl _, Nat.zero_le _, World.ownsRow_nil _ _ _ _, Below.refl _ _⟩
  | some ad =>
    have hcl := Tryd.bytes_Clone_at ad n c (l.map fun b => (b.toNat : Int)) w (by simpa using hn) (by omega) (fun i hi => by
      have hil : i < l.length := by omega
      rw [hr.cells i (.int .u8 (l[i].toNat : Int)) (by unfold Lib.byteCells; rw [List.getElem?_map, List.getElem?_eq_getElem hil]; rfl), List.getD_eq_getElem?_getD, List.getElem?_map, List.getElem?_eq_getElem hil]
      rfl)
    refine hcl.mono ?_
    rintro e w' ⟨v', rfl, hown, _, hb⟩
    have h2 : w'.ownsRow w.heap.size 5 1 v' n (Lib.byteCells l) := by
      unfold Lib.byteCells
      simpa [List.map_map, Function.comp_def] using hown
    obtain ⟨A', c', rfl, hc1, hc2⟩ := own_caps h2
    exact ⟨A', c', rfl, hc1, hc2, h2, hb⟩

end Go.Proofs.YtkkokngdhhakdaaDoor
namespace Go.Proofs.YtkkokngdhhakdaaDoor
open Go.RowKit

/-- Just so many rows. -/
def takesL : Nat → List UInt8 → Option (List (List UInt8))
  | 0, b => if b = [] then some [] else none
  | k + 1, b => match takeL b with
    | none => none
    | some x => (takesL k x.2).map fun y => x.1 :: y
def takesN (n : Int) (b : List UInt8) : Option (List (List UInt8)) := if n < 0 then none else takesL n.toNat b
/-- The rows (none of them beside a false). -/
def rowsOf (o : Option (List (List UInt8))) : List (List UInt8) := o.getD []

/-- How far the taking is. -/
def Taken (b : List UInt8) (N k : Nat) (out : List (List UInt8)) (rest : List UInt8) : Prop := takesL N b = (takesL (N - k) rest).map fun y => out ++ y
theorem Taken.start (b : List UInt8) (N : Nat) : Taken b N 0 [] b := by
  unfold Taken; rw [Nat.sub_zero]; cases takesL N b <;> simp
theorem Taken.bad {b : List UInt8} {N k : Nat} {out : List (List UInt8)} {rest : List UInt8} (h : Taken b N k out rest) (hk : k < N) (ht : takeL rest = none) : takesL N b = none := by
  unfold Taken at h
  rw [h, show N - k = (N - (k + 1)) + 1 from by omega, takesL, ht]
  rfl
theorem Taken.on {b : List UInt8} {N k : Nat} {out : List (List UInt8)} {rest x r : List UInt8} (h : Taken b N k out rest) (hk : k < N) (ht : takeL rest = some (x, r)) : Taken b N (k + 1) (out ++ [x]) r := by
  unfold Taken at h ⊢
  rw [h, show N - k = (N - (k + 1)) + 1 from by omega, takesL, ht]
  simp only [Option.map_map]
  cases takesL (N - (k + 1)) r <;> simp
theorem Taken.left {b : List UInt8} {N : Nat} {out : List (List UInt8)} {rest : List UInt8} (h : Taken b N N out rest) (hr : rest ≠ []) : takesL N b = none := by
  unfold Taken at h
  rw [h, Nat.sub_self, takesL, if_neg hr]; rfl
theorem Taken.done {b : List UInt8} {N : Nat} {out : List (List UInt8)} {rest : List UInt8} (h : Taken b N N out rest) (hr : rest = []) : takesL N b = some out := by
  unfold Taken at h
  rw [h, Nat.sub_self, takesL, if_pos hr]; simp

theorem takeL_less {l : List UInt8} {x r : List UInt8} (h : takeL l = some (x, r)) : x.length ≤ l.length ∧ r.length ≤ l.length := by
  unfold takeL at h
  cases hr : rowLen l with
  | none => rw [hr] at h; cases h
  | some y =>
    rw [hr] at h
    simp only at h
    split at h
    · simp only [Option.some.injEq, Prod.mk.injEq] at h
      obtain ⟨rfl, rfl⟩ := h
      simp; omega
    · cases h

theorem ret_rows {A1 : Option Addr} {c1 n1 m1 : Nat} {b : Bool} (h1 : n1 = m1) :
    Ending.returned (.tuple #[.slice A1 n1 c1, .bool b]) = Ending.returned (.tuple #[.slice A1 m1 c1, .bool b]) := by rw [h1]

end Go.Proofs.YtkkokngdhhakdaaDoor
namespace Go.Proofs.YtkkokngdhhakdaaDoor
open Go.RowKit

set_option maxHeartbeats 1000000 in
theorem rnets_any (A : Option Addr) (n c : Nat) (ls : List (List UInt8)) (w : World) (hn : ls.length = n) (h1 : n ≤ 1000) (h2 : ∀ r ∈ ls, r.length ≤ 1000) (hr : RdR w w.heap.size A ls) :
    Calls Tryd.prog 96 #[.slice A n c] w fun e w' => ∃ A' c', e = .returned (.slice A' (netsL ls).length c') ∧ (netsL ls).length ≤ c' ∧ Rd w' w'.heap.size A' (netsL ls) ∧ Below w.heap.size w w' := by
  obtain ⟨i0, hi, hz0, hz1, hz2⟩ := info_parts info5
  have HN := Lib.hid hn
  have H2 := Lib.hid h2
  clear hn h2
  go_enter Tryd.func96, Tryd.ntmps96
  go_wp2
  go_loopw [3, 7] (fun v i wr => ∃ k m : Nat, k ≤ n ∧ i = .int .i64 k ∧ m ≤ 1022 * k ∧ Hid ((netsL (ls.take k)).length = m) ∧ Hid (wr.ownsRow w.heap.size 5 1 v m (Lib.byteCells (netsL (ls.take k)))) ∧ Below w.heap.size w wr) (fun _ i _ => n - (intOf i).toNat)
  case atStart => exact ⟨0, 0, Nat.zero_le _, rfl, by omega, Lib.hid (by simp [netsL]), Lib.hid (World.ownsRow_nil _ _ _ _), Below.refl _ _⟩
  case round =>
    obtain ⟨k, m, hk, rfl, hm, HM, HO, hbel⟩ := hrel
    by_cases hlt : k < n
    · have hl1 : k < ls.length := by rw [HN.out]; exact hlt
      obtain ⟨b, off, A', c', rfl, _, hc, hlc, _, hrd⟩ := (hr.below hbel (Nat.le_refl _)).at_ k hl1
      have HK := Lib.hid (netsL_take ls k hl1)
      have hlen : ls[k].length ≤ 1000 := H2.out _ (List.getElem_mem hl1)
      generalize ls[k] = l at *
      obtain ⟨q, hq⟩ : ∃ q, l.length = q := ⟨_, rfl⟩
      have HQ := Lib.hid hq
      rw [hq] at hc hlen
      clear hlc hq
      have hle := hbel.size
      have htl := netL_len l (by rw [HQ.out]; omega)
      rw [HQ.out] at htl
      have hki : (k : Int) < (n : Int) := by omega
      go_wp2_with fail
      refine (rnet_any q c' A' l _ HQ.out (by omega) (hrd.more hle)).mono ?_
      rintro e w1 ⟨A1, c1, rfl, hc1, hr1, hb1⟩
      have HO1 := Lib.hid (own_keep HO.out hb1)
      have hbel1 := Below.then hbel hb1
      have HR1 := Lib.hid hr1
      have HKL := Lib.hid (show (netsL (ls.take (k + 1))).length = m + (netL l).length by rw [HK.out, List.length_append, HM.out])
      generalize netL l = y at *
      obtain ⟨z, hz⟩ : ∃ z, y.length = z := ⟨_, rfl⟩
      rw [hz] at HKL htl
      have HYZ := Lib.hid hz
      rw [hz]
      clear hb1 hbel hrd hc hr1 HO hz
      go_wp2_with (at_builtin; refine wpList_append_rd rfl _ _ 26 rfl w.heap.size 5 i0 Tryd.underlying26 hi hz0 hz1 hz2 _ m _ rfl HO1.out _ A1 z c1 y rfl HYZ.out HR1.out (by omega) hbel1.size ?_)
      intro v2 w2 hown2 hg2
      have hbel2 : Below w.heap.size w w2 := hbel1.grown hg2 hbel1.size (fun k hk => (HO1.out.lt k hk).1)
      rw [← Lib.byteCells_append, ← HK.out] at hown2
      have HO2 := Lib.hid hown2
      clear hown2 hg2 hbel1
      go_wp2_with fail
      go_roundw
      case rel => exact ⟨k + 1, m + z, by omega, by go_num, by omega, HKL, HO2, hbel2⟩
      case measure => simp [intOf]; omega
    · have hge : ¬ (k : Int) < (n : Int) := by omega
      have ht : ls.take k = ls := List.take_of_length_le (by rw [HN.out]; omega)
      have ho := HO.out
      have hm' := HM.out
      rw [ht] at ho hm'
      obtain ⟨A1, c1, hv, hc1⟩ := own_slice ho
      subst hv
      have hrd := Rd.of_own ho
      rw [← hm'] at hc1
      have HM2 := Lib.hid hm'
      have HR := Lib.hid hrd
      have HC := Lib.hid hc1
      clear ho hm' hrd hc1 ht
      go_wp2_with fail
      go_ret
      exact ⟨A1, c1, by rw [HM2.out]; rfl, HC.out, HR.out, hbel⟩

/-- A row all of whose cells are bytes. -/
def AllB (w : World) (g : Nat) (e : TypeId) (full : List UInt8) : Prop := w.heap[g]? = some (.cells (Lib.byteCells full).toArray e (0, 0))

theorem AllB.cell {w : World} {g : Nat} {e : TypeId} {full : List UInt8} (h : AllB w g e full) (k : Nat) (hk : k < full.length) : w.cell? ⟨g, k, none⟩ = some (.int .u8 (full[k].toNat : Int)) ∧ w.frozen? ⟨g, k, none⟩ = false := by
  unfold AllB at h
  have hc : (Lib.byteCells full).toArray[k]? = some (.int .u8 (full[k].toNat : Int)) := by
    unfold Lib.byteCells
    simp [hk]
  constructor
  · rw [cell_of_row w g k _ e (0, 0) h, hc]
  · simp [World.frozen?, h]

theorem AllB.set {w : World} {g : Nat} {e : TypeId} {full : List UInt8} (h : AllB w g e full) (k : Nat) (x : UInt8) (y : Int) (hy : y = (x.toNat : Int)) : AllB (w.setCell ⟨g, k, none⟩ (.int .u8 y)) g e (full.set k x) := by
  subst hy
  unfold AllB at h ⊢
  rw [setCell_eq_setRow w g k _ e (0, 0) _ h, setRow_heap w g _ _ e (0, 0) h]
  congr 2
  apply Array.ext'
  unfold Lib.byteCells
  simp [List.map_set]

theorem byte_of (n : Int) : ∃ y : UInt8, n % 256 = (y.toNat : Int) := ⟨UInt8.ofNat (n % 256).toNat, by rw [UInt8.toNat_ofNat']; omega⟩
theorem xor_byte (a b : Int) : ∃ y : UInt8, bits .xor .u8 a b = (y.toNat : Int) := by
  unfold bits
  simp only
  rw [IntKind.wrap_u8]
  exact byte_of _

end Go.Proofs.YtkkokngdhhakdaaDoor
namespace Go.Proofs.YtkkokngdhhakdaaDoor
open Go.RowKit

theorem takeL_nil : takeL [] = none := rfl

theorem takesL_nets : ∀ (k : Nat) (ls : List (List UInt8)), (∀ r ∈ ls, r.length ≤ 1000) → takesL k (netsL ls) = if k = ls.length then some ls else none
  | 0, [], _ => rfl
  | 0, x :: ls, _ => by
    rw [takesL, if_neg, if_neg (by simp)]
    rw [netsL_cons]
    exact fun e => netL_ne x (List.append_eq_nil_iff.1 e).1
  | k + 1, [], _ => by
    rw [if_neg (by simp), takesL, show netsL [] = [] from rfl, takeL_nil]
  | k + 1, x :: ls, h => by
    rw [takesL, netsL_cons, takeL_net x _ (by have := h x (List.mem_cons_self ..); omega)]
    simp only
    rw [takesL_nets k ls (fun r hr => h r (List.mem_cons_of_mem _ hr))]
    by_cases hk : k = ls.length
    · rw [if_pos hk, if_pos (by simp [hk])]; rfl
    · rw [if_neg hk, if_neg (by simpa using hk)]; rfl

theorem headNought_app (u : Nat) (r : List UInt8) : headNought (Lib.decDigits u ++ r) = false ∨ (Lib.decDigits u).length ≤ 1 := by
  by_cases h10 : u < 10
  · right
    rw [Lib.decDigits, dif_pos h10]; simp
  · left
    obtain ⟨h1, h2⟩ := dec_head u (by omega)
    cases hd : Lib.decDigits u with
    | nil => exact absurd hd h2
    | cons a t => rw [hd] at h1; simpa [headNought] using h1

theorem rowLen_dec (u : Nat) (r : List UInt8) (h : u ≤ 16384) : rowLen (Lib.decDigits u ++ 58 :: r) = some (u, (Lib.decDigits u).length) := by
  have hfold := dec_fold u
  have hdig := dec_all_digits u
  have hne := dec_ne u
  unfold rowLen
  rw [lenFrom_digits _ _ 0 0 _ hdig (by rcases headNought_app u (58 :: r) with h | h; exact .inl h; exact .inr (.inl ⟨rfl, h⟩)) (fun k _ => Nat.le_trans (fold_mono _ 0 k) (by rw [hfold]; exact h)), hfold, lenFrom, if_neg (by decide), if_neg, Nat.zero_add]
  rintro (h0 | h0)
  · rw [Nat.zero_add] at h0
    exact hne (List.eq_nil_of_length_eq_zero h0)
  · exact h0 rfl

theorem rowLen_some_digits (u p : Nat) (h : u ≤ 16384) (hp : p ≤ (Lib.decDigits u).length) : rowLen ((Lib.decDigits u).take p) = none := by
  have hfold := dec_fold u
  have hdig := dec_all_digits u
  unfold rowLen
  rw [← List.append_nil ((Lib.decDigits u).take p)]
  have hz : headNought ((Lib.decDigits u).take p ++ []) = false ∨ ((0 : Nat) = 0 ∧ ((Lib.decDigits u).take p).length ≤ 1) ∨ (Lib.decDigits u).take p = [] := by
    rcases headNought_app u [] with h' | h'
    · rw [List.append_nil] at h' ⊢
      cases p with
      | zero => right; right; simp
      | succ p =>
        left
        cases hd : Lib.decDigits u with
        | nil => rfl
        | cons a t => rw [hd] at h'; simpa [headNought] using h'
    · right; left
      refine ⟨rfl, ?_⟩
      rw [List.length_take]; omega
  rw [lenFrom_digits _ ((Lib.decDigits u).take p) 0 0 [] (fun x hx => hdig x (List.mem_of_mem_take hx)) hz (fun k _ => ?_)]
  · rfl
  · rw [List.take_take]
    exact Nat.le_trans (fold_mono _ 0 _) (by rw [hfold]; exact h)

theorem takeL_cut (l : List UInt8) (p : Nat) (h : l.length ≤ 1000) (hp : p < (netL l).length) : takeL ((netL l).take p) = none := by
  rw [netL_eq] at hp ⊢
  by_cases h1 : p ≤ (Lib.decDigits l.length).length
  · rw [List.take_append_of_le_length h1]
    exact takeL_none (rowLen_some_digits _ _ (by omega) h1)
  · obtain ⟨q, rfl⟩ : ∃ q, p = (Lib.decDigits l.length).length + (q + 1) := ⟨p - (Lib.decDigits l.length).length - 1, by omega⟩
    rw [List.take_length_add_append, List.take_succ_cons]
    refine takeL_short (rowLen_dec l.length _ (by omega)) ?_
    simp only [List.length_append, List.length_cons, List.length_take, List.length_nil] at hp ⊢
    omega

theorem takesL_cut : ∀ (ls : List (List UInt8)) (p : Nat), (∀ r ∈ ls, r.length ≤ 1000) → p < (netsL ls).length → takesL ls.length ((netsL ls).take p) = none
  | [], p, _, h => by simp [netsL] at h
  | x :: ls, p, h, hp => by
    have hx := h x (List.mem_cons_self ..)
    rw [netsL_cons] at hp ⊢
    rw [List.length_cons, takesL]
    by_cases h1 : p < (netL x).length
    · rw [List.take_append_of_le_length (by omega), takeL_cut x p hx h1]
    · obtain ⟨q, rfl⟩ : ∃ q, p = (netL x).length + q := ⟨p - (netL x).length, by omega⟩
      rw [List.take_length_add_append, takeL_net x _ (by omega)]
      simp only
      rw [takesL_cut ls q (fun r hr => h r (List.mem_cons_of_mem _ hr)) (by rw [List.length_append] at hp; omega)]
      rfl

/-- What stands behind the first k rows. -/
theorem netsL_drop (ls : List (List UInt8)) (k : Nat) (h : k < ls.length) : netsL (ls.drop k) = netL ls[k] ++ netsL (ls.drop (k + 1)) := by
  rw [List.drop_eq_getElem_cons h, netsL_cons]

theorem takeL_drop (ls : List (List UInt8)) (k : Nat) (h : k < ls.length) (hr : ∀ r ∈ ls, r.length ≤ 1000) : takeL (netsL (ls.drop k)) = some (ls[k], netsL (ls.drop (k + 1))) := by
  rw [netsL_drop ls k h, takeL_net _ _ (by have := hr ls[k] (List.getElem_mem h); omega)]
theorem netsL_ne (ls : List (List UInt8)) (h : ls ≠ []) : 0 < (netsL ls).length := by
  cases ls with
  | nil => exact absurd rfl h
  | cons x ls => rw [netsL_cons, netL_eq]; simp; omega
end Go.Proofs.YtkkokngdhhakdaaDoor
namespace Go.Proofs.YtkkokngdhhakdaaDoor
open Go.RowKit

theorem takeL_nought (u : Nat) (r : List UInt8) : takeL (48 :: (Lib.decDigits u ++ r)) = none := by
  refine takeL_none ?_
  have hne := dec_ne u
  have hdig := dec_all_digits u
  cases hd : Lib.decDigits u with
  | nil => exact absurd hd hne
  | cons a t =>
    have ha := hdig a (by rw [hd]; exact List.mem_cons_self ..)
    rw [List.cons_append]
    unfold rowLen
    rw [show headNought (48 :: a :: (t ++ r)) = true from rfl]
    rw [lenFrom_on (by decide) (by rintro ⟨h, _⟩; omega) (by decide)]
    exact lenFrom_first ha (by omega) rfl

theorem dec_over : Lib.decDigits 16385 = [49, 54, 51, 56, 53] := by
  rw [Lib.decDigits, dif_neg (by omega), Lib.decDigits, dif_neg (by omega), Lib.decDigits, dif_neg (by omega), Lib.decDigits, dif_neg (by omega), Lib.decDigits, dif_pos (by omega)]
  rfl

theorem takeL_long (r : List UInt8) : takeL (Lib.decDigits 16385 ++ r) = none := by
  refine takeL_none ?_
  rw [dec_over]
  unfold rowLen
  have hz : headNought ([49, 54, 51, 56, 53] ++ r) = false := rfl
  rw [hz]
  simp only [List.cons_append, List.nil_append]
  rw [lenFrom_on (by decide) (by simp) (by decide), lenFrom_on (by decide) (by simp) (by decide), lenFrom_on (by decide) (by simp) (by decide), lenFrom_on (by decide) (by simp) (by decide), lenFrom_great (by decide) (by simp) (by decide)]

theorem takeL_semi (z : List UInt8) (h : z.length ≤ 1000) : takeL (Lib.decDigits z.length ++ [58] ++ z ++ [59]) = none := by
  have e : Lib.decDigits z.length ++ [58] ++ z ++ [59] = Lib.decDigits z.length ++ 58 :: (z ++ [59]) := by simp
  have hr := rowLen_dec z.length (z ++ [59]) (by omega)
  rw [e]
  refine takeL_other hr (by simp; omega) ?_
  rw [List.getElem_append_right (by omega)]
  have : (Lib.decDigits z.length).length + 1 + z.length - (Lib.decDigits z.length).length = z.length + 1 := by omega
  simp only [this, List.getElem_cons_succ]
  rw [List.getElem_append_right (by omega)]
  simp

theorem netL_app (z : List UInt8) : Lib.decDigits z.length ++ [58] ++ z ++ [44] = netL z := by rw [netL_eq]; simp
theorem takeL_whole (z : List UInt8) (h : z.length ≤ 1000) : takeL (Lib.decDigits z.length ++ [58] ++ z ++ [44]) = some (z, []) := by
  rw [netL_app, ← List.append_nil (netL z), takeL_net z [] (by omega)]

theorem made_cells (n : Nat) : (madeCells (Value.int .u8 0).cells (n * 1)).toList = Lib.byteCells (List.replicate n 0) := by
  rw [Nat.mul_one, show (Value.int .u8 0).cells = #[Value.int .u8 0] from rfl, toList_madeCells_one]
  unfold Lib.byteCells
  rw [List.map_replicate]; rfl

section
variable {w : World}
theorem OwnM.grown {base : Nat} {e : TypeId} {v : Value} {n : Nat} {l : List UInt8} (h : OwnM w base e v n l) {w' : World} (hg : w.grownBy w' none) : OwnM w' base e v n l := by
  obtain ⟨hl, g, cap, cur, fz, hv, hb, hgg, rest⟩ := h
  exact ⟨hl, g, cap, cur, fz, hv, hb, (hg.block g (Array.getElem?_eq_some_iff.1 hgg).1 (by simp)).trans hgg, rest⟩
theorem OwnM.on {base : Nat} {e : TypeId} {v : Value} {n : Nat} {l : List UInt8} (h : OwnM w base e v n l) {w' : World} (hb' : Below w.heap.size w w') : OwnM w' base e v n l := by
  obtain ⟨hl, g, cap, cur, fz, hv, hb, hgg, rest⟩ := h
  exact ⟨hl, g, cap, cur, fz, hv, hb, (hb'.block g (Array.getElem?_eq_some_iff.1 hgg).1).trans hgg, rest⟩
theorem OwnM.form {base : Nat} {e : TypeId} {v : Value} {n : Nat} {l : List UInt8} (h : OwnM w base e v n l) : ∃ g cap, v = .slice (some ⟨g, 0, none⟩) n cap ∧ n ≤ cap ∧ base ≤ g := by
  obtain ⟨_, g, cap, cur, fz, hv, hb, _, _, hc, _⟩ := h
  exact ⟨g, cap, hv, hc, hb⟩
theorem OwnM.size_lt {base : Nat} {e : TypeId} {g n cap : Nat} {l : List UInt8} (h : OwnM w base e (.slice (some ⟨g, 0, none⟩) n cap) n l) : g < w.heap.size := by
  obtain ⟨_, g', cap', cur, fz, hv, hb, hg, _⟩ := h
  injection hv with hv
  injection hv with hv
  injection hv with hv
  subst hv
  exact (Array.getElem?_eq_some_iff.1 hg).1
theorem OwnM.cell {base : Nat} {e : TypeId} {g n cap : Nat} {l : List UInt8} (h : OwnM w base e (.slice (some ⟨g, 0, none⟩) n cap) n l) (j : Nat) (hj : j < l.length) : w.cell? ⟨g, j, none⟩ = some (.int .u8 (l[j].toNat : Int)) := by
  rcases h.rd with h0 | ⟨b, off, e', _, hc⟩
  · rw [h0] at hj; simp at hj
  · injection e' with e'
    injection e' with e1 e2
    subst e1 e2
    simpa using hc j hj
theorem OwnM.free {base : Nat} {e : TypeId} {g n cap : Nat} {l : List UInt8} (h : OwnM w base e (.slice (some ⟨g, 0, none⟩) n cap) n l) (j : Nat) (hj : j < n) : w.frozen? ⟨g, j, none⟩ = false := by
  obtain ⟨_, g', cap', cur, fz, hv, hb, hg, hfz, hnc, _⟩ := h
  injection hv with hv _ hcap
  injection hv with hv
  injection hv with hv
  subst hv hcap
  obtain ⟨lo, hi⟩ := fz
  simp only [World.frozen?, hg, Bool.and_eq_false_iff, decide_eq_false_iff_not]
  simp only at hfz
  omega

theorem zero_cells (n : Nat) : (Builtin.zeroCells (Value.int .u8 0).cells n).toList = Lib.byteCells (List.replicate n 0) := made_cells n
theorem zero_cells_arr (n : Nat) : Builtin.zeroCells (Value.int .u8 0).cells n = (Lib.byteCells (List.replicate n 0)).toArray := by rw [← zero_cells n]

/-- So many noughts behind such a row. -/
theorem run_append_Z {P : Program} (base : Nat) (t tn ty e : TypeId) (i : TypeInfo) (kq kn : IntKind) (ht : P.underlying t = some (.slice e)) (htn : P.underlying tn = some (.int kn)) (hi : P.info? e = some i) (hz : i.zero = some (.int .u8 0)) (hsize : i.size = 1) (hby : i.bytes = 1)
    (v : Value) (n : Nat) (xl : List UInt8) (hown : OwnM w base e v n xl) (k : Nat) (zl : List UInt8) (hzl : List.replicate k 0 = zl) (hlim : n + k ≤ 1000000) (hbase : base ≤ w.heap.size) :
    ∃ v' w', (Builtin.append_ #[t, tn] ty #[v, .int kq k]).run P w = .ok v' w' ∧ OwnM w' base e v' (n + k) (xl ++ zl) ∧ w.grownBy w' v.ownBlock := by
  subst hzl
  have hown0 := hown
  obtain ⟨hxl, g, cap, cur, fz, rfl, hb, hg, hfz, hnc, hcm, hcs, htake⟩ := hown
  have hw : IntKind.i64.wrap (k : Int) = k := by rw [IntKind.wrap_i64]; omega
  have hneg : ¬ ((k : Int) < 0) := by omega
  have h48i : ¬ (281474976710656 < (k : Int)) := by omega
  have hzlen : (Lib.byteCells (List.replicate k 0)).length = k := by rw [Lib.byteCells_length, List.length_replicate]
  by_cases hroom : n + k ≤ cap
  · have hst := run_storeCells_M P g n e fz (Lib.byteCells (List.replicate k 0)) 0 cur w hg (by rw [hcs]; exact hfz) (by rw [hzlen, hcs]; omega) (Lib.byteCells_one _)
    simp only [Nat.add_zero] at hst
    refine ⟨.slice (some ⟨g, 0, none⟩) (n + k) cap, w.setRow g (cur.toList.take n ++ Lib.byteCells (List.replicate k 0) ++ cur.toList.drop (n + (Lib.byteCells (List.replicate k 0)).length)).toArray, ?_, ⟨by simp [hxl], g, cap, _, fz, rfl, hb, setRow_heap w g cur _ e _ hg, hfz, hroom, hcm, ?_, ?_⟩, ⟨rfl, rfl, rfl, by simp, fun j _ hj => setRow_other w g j _ (fun e => hj (by simp [Value.ownBlock, e]))⟩⟩
    · by_cases hk0 : k = 0
      · subst hk0
        simp only [List.replicate_zero, show Lib.byteCells [] = [] from rfl] at hst ⊢
        have hw0 : IntKind.i64.wrap 0 = 0 := by rw [IntKind.wrap_i64]; omega
        simp [Builtin.append_, run_underlying ht, run_underlying htn, sizeOf, typeInfo, hi, hsize, hby, asInt, asIntOf, hw0, hnc, Addr.add_lit]
        have hst' : (storeCells ⟨g, n, none⟩ []).run P w = .ok () (w.setRow g cur) := by simpa using hst
        rw [hst']
        simp
      · simp [Builtin.append_, run_underlying ht, run_underlying htn, sizeOf, typeInfo, zeroValue, hi, hz, hsize, hby, asInt, asIntOf, hw, hneg, h48i, hk0, hroom, Addr.add_lit, zero_cells, hst]
    · simp only [List.size_toArray, List.length_append, List.length_take, List.length_drop, Array.length_toList, hzlen, hcs]
      omega
    · rw [htake, ← Lib.byteCells_append]
      have : (Lib.byteCells (xl ++ List.replicate k 0)).length = n + k := by rw [Lib.byteCells_length, List.length_append, hxl, List.length_replicate]
      rw [← this]
      exact List.take_left
  · have hf := run_firstCells_some (P := P) w.drew i.size n ⟨g, 0, none⟩ n cap (Lib.byteCells xl) (by rw [Lib.byteCells_length, hxl, hsize, Nat.mul_one]) (by simpa using Rd.cells hown0.rd)
    have hgr := Lib.run_append_grow_zeros (P := P) w t tn ty e i (.int .u8 0) kq kn ht htn hi hz (some ⟨g, 0, none⟩) n cap (Lib.byteCells xl) hf k (by omega) (by omega) (by omega) (by omega) (by rw [hby]; omega) (growslice_fits (by omega) (by rw [hby]; omega))
    have hge := grownCap_ge w (n + k) cap e
    have hcm2 : grownCap w (n + k) cap e ≤ maxLen := grownCap_le_maxLen w (n + k) cap e (by unfold maxLen; omega)
    rw [zero_cells_arr k] at hgr
    refine ⟨_, _, hgr, ⟨by simp [hxl], w.heap.size, _, _, (0, 0), rfl, hbase, heap_alloc_new w.drew _, .inl rfl, hge, hcm2, ?_, ?_⟩, ⟨rfl, rfl, rfl, by simp, fun k hk _ => Below.heap_alloc w.drew _ k hk⟩⟩
    · have hzc : (Value.int IntKind.u8 0).cells.size = 1 := rfl
      simp only [Array.size_append, List.size_toArray, size_zeroCells, hzc, hzlen, Lib.byteCells_length, hxl, Nat.mul_one]
      omega
    · simp only [Array.toList_append, List.append_assoc]
      rw [← List.append_assoc, ← Lib.byteCells_append]
      have : (Lib.byteCells (xl ++ List.replicate k 0)).length = n + k := by rw [Lib.byteCells_length, List.length_append, hxl, List.length_replicate]
      rw [← this]
      exact List.take_left

theorem wpList_append_Z {P : Program} {ops : Array Oper} {rest : List Oper} {o : Oper} {a : Act} {Q : Exit → Act → World → Prop} (hgd : o.guard = none) (s x : Operand) (t tn : TypeId)
    (ho : o.op = .call { callee := .builtin .append, args := #[s, x], argTypes := #[t, tn] })
    (base : Nat) (e : TypeId) (i : TypeInfo) (kq kn : IntKind) (ht : P.underlying t = some (.slice e)) (htn : P.underlying tn = some (.int kn)) (hi : P.info? e = some i) (hz : i.zero = some (.int .u8 0)) (hsize : i.size = 1) (hby : i.bytes = 1)
    (v : Value) (n : Nat) (xl : List UInt8) (hs : a.eval s = v) (hown : OwnM w base e v n xl) (k : Nat) (zl : List UInt8) (hx : a.eval x = .int kq k) (hzl : List.replicate k 0 = zl)
    (hlim : n + k ≤ 1000000) (hbase : base ≤ w.heap.size)
    (h : ∀ v' w', OwnM w' base e v' (n + k) (xl ++ zl) → w.grownBy w' v.ownBlock → wpList P ops Q rest (a.put o.dst v') w') : wpList P ops Q (o :: rest) a w := by
  refine wpList_plain hgd fun K hK => ?_
  obtain ⟨v', w', hrun, h2, h3⟩ := run_append_Z (P := P) base t tn o.type e i kq kn ht htn hi hz hsize hby v n xl hown k zl hzl hlim hbase
  unfold Oper.wp execOp
  simp only [ho, resolve, invoke, builtin, Sem.run_bind, Sem.run_pure, Result.andThen_ok, List.map_toArray, List.map_cons, List.map_nil, hs, hx, hrun]
  exact hK _ _ (h v' w' h2 h3)
end
end Go.Proofs.YtkkokngdhhakdaaDoor
