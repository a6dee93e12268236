/- Net and Nets of the program write each row's length in decimal digits, a colon, its bytes, a comma. -/
import Derived.Test.YtciflbkgfmbfdaaDoorAppend
import Derived.Test.YtciflbkgfmbfdaaDoorPut
import Derived.Test.YtciflbkgfmbfdaaDoorShelf
namespace Go.Proofs.YtciflbkgfmbfdaaDoor
open Go.RowKit

/-- A row's bytes. -/
def netL (l : List UInt8) : List UInt8 := Lib.itoa (l.length : Int) ++ [58] ++ l ++ [44]

abbrev Pow10 (B : Nat) (w : World) : Prop := Lib.TabBelow Tryd.prog B w "internal/strconv.uint64pow10" .u64 Lib.pow10Tab

/-- The table of powers of ten stands in every world that only has new things. -/
theorem tab_on {B B' : Nat} {w w' : World} (h : Pow10 B w) (hb : Below B w w') (hB : B ≤ B' := by simp) : Pow10 B' w' :=
  fun _ h' => (h.on hb) _ (h'.mono hB)

theorem decDigits_len (u : Nat) (h : u < 10 ^ 20) : (Lib.decDigits u).length ≤ 20 := by
  rw [Lib.decDigits_eq]
  simp
  rcases Nat.lt_or_ge 20 (Lib.nDigits u) with h' | h'
  · exfalso
    have hge : 10 ^ 20 ≤ u := by
      have : ∀ u, 10 ^ (Lib.nDigits u - 1) ≤ u ∨ u = 0 := by
        intro u
        induction u using Nat.strongRecOn with
        | _ u ih =>
          by_cases hu : u < 10
          · rw [Lib.nDigits_small hu]; omega
          · rw [Lib.nDigits_big hu]
            rcases ih (u / 10) (by omega) with h1 | h1
            · left
              have hp := Lib.nDigits_pos (u / 10)
              rw [show Lib.nDigits (u / 10) + 1 - 1 = (Lib.nDigits (u / 10) - 1) + 1 from by omega, Nat.pow_succ]
              omega
            · omega
      rcases this u with h1 | h1
      · exact Nat.le_trans (Nat.pow_le_pow_right (by omega) (by omega)) h1
      · subst h1; rw [Lib.nDigits_small (by omega)] at h'; omega
    omega
  · exact h'

theorem itoa_len (n : Nat) (h : n ≤ 1000000000) : (Lib.itoa (n : Int)).length ≤ 20 := by
  unfold Lib.itoa
  rw [if_neg (by omega)]
  exact decDigits_len _ (by simp; omega)

theorem netL_len (l : List UInt8) (h : l.length ≤ 1000000000) : (netL l).length ≤ l.length + 22 := by
  have := itoa_len l.length h
  simp [netL]; omega

set_option maxHeartbeats 1000000 in
theorem appendNet_any (B n m c : Nat) (sv : Value) (xs : List Value) (A : Option Addr) (l : List UInt8) (w : World) (hown : w.ownsRow B 5 1 sv n xs) (hB : B ≤ w.heap.size) (hl : l.length = m)
    (h1 : m ≤ 1000000000) (h2 : n ≤ 1000000000000) (hb : Rd w B A l) (htab : Pow10 B w) :
    Calls Tryd.prog 60 #[sv, .slice A m c] w fun e w' => ∃ v', e = .returned v' ∧ w'.ownsRow B 5 1 v' (n + (netL l).length) (xs ++ Lib.byteCells (netL l)) ∧ Below B w w' := by
  obtain ⟨i0, hi, hz0, hz1, hz2⟩ := info_parts info5
  have HL := Lib.hid hl
  have HT := Lib.hid htab
  have hd := itoa_len m h1
  clear hl htab
  go_enter Tryd.func60, Tryd.ntmps60
  go_wp2_with fail
  refine (Tryd.strconv_AppendInt_10 B n m (by omega) (by omega) sv xs _ hown hB (by omega) HT.out).mono ?_
  rintro e w1 ⟨v1, rfl, hown1, hbel1, _⟩
  clear hown HT
  generalize hdd : Lib.itoa (m : Int) = ds at *
  have HDD := Lib.hid hdd
  clear hdd
  go_wp2_with (at_builtin; refine wpList_append_rd rfl _ _ 24 rfl B 5 i0 Tryd.underlying24 hi hz0 hz1 hz2 _ _ _ rfl (hown1.alloc _) _ _ 1 1 [58] rfl rfl (Rd.one w1 5 58 58 rfl) (by omega) (by have := hbel1.size; simp; omega) ?_)
  intro v2 w2 hown2 hg2
  have hbel2 : Below B w w2 := (hbel1.alloc (by have := hbel1.size; omega) _).grown hg2 (by have := hbel1.size; simp; omega) (fun k hk => (hown1.lt k hk).1)
  clear hown1 hg2
  have hb2 := hb.below hbel2 (Nat.le_refl _)
  go_wp2_with (at_builtin; refine wpList_append_rd rfl _ _ 24 rfl B 5 i0 Tryd.underlying24 hi hz0 hz1 hz2 _ _ _ rfl hown2 B A m c l rfl HL.out hb2 (by omega) (by have := hbel2.size; omega) ?_)
  intro v3 w3 hown3 hg3
  have hbel3 : Below B w w3 := hbel2.grown hg3 (by have := hbel2.size; omega) (fun k hk => (hown2.lt k hk).1)
  clear hown2 hg3 hb2
  go_wp2_with (at_builtin; refine wpList_append_rd rfl _ _ 24 rfl B 5 i0 Tryd.underlying24 hi hz0 hz1 hz2 _ _ _ rfl (hown3.alloc _) _ _ 1 1 [44] rfl rfl (Rd.one w3 5 44 44 rfl) (by omega) (by have := hbel3.size; simp; omega) ?_)
  intro v4 w4 hown4 hg4
  have hbel4 : Below B w w4 := (hbel3.alloc (by have := hbel3.size; omega) _).grown hg4 (by have := hbel3.size; simp; omega) (fun k hk => (hown3.lt k hk).1)
  clear hown3 hg4
  have hlen : (netL l).length = ds.length + 1 + m + 1 := by unfold netL; rw [HL.out, HDD.out]; simp [HL.out]; omega
  have hcs : Lib.byteCells (netL l) = Lib.byteCells ds ++ Lib.byteCells [58] ++ Lib.byteCells l ++ Lib.byteCells [44] := by unfold netL; rw [HL.out, HDD.out]; simp only [Lib.byteCells_append]
  have HF := Lib.hid (show w4.ownsRow B 5 1 v4 (n + (netL l).length) (xs ++ Lib.byteCells (netL l)) by
    rw [hlen, hcs]
    simpa [Nat.add_assoc] using hown4)
  clear hown4 hlen hcs
  go_wp2
  go_ret
  exact ⟨_, rfl, HF.out, hbel4⟩

end Go.Proofs.YtciflbkgfmbfdaaDoor
