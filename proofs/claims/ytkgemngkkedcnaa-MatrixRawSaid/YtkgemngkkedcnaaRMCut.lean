/- At most 18 rows of at most 18 bytes, in memory of their own, as the statements of chapter 5 cut them. -/
import Derived.Test.YtkgemngkkedcnaaRMUnit
import Derived.Test.YtkgemngkkedcnaaKeep
namespace Go.Proofs.Ytkgemngkkedcnaa
open Go.RowKit

def cutL (ls : List (List UInt8)) : List (List UInt8) := (ls.take 18).map (·.take 18)
theorem cutL_len (ls : List (List UInt8)) : (cutL ls).length = min ls.length 18 := by simp [cutL, Nat.min_comm]
def cutTo (ls : List (List UInt8)) (i : Nat) : List (List UInt8) := (ls.take i).map (·.take 18)
theorem cutTo_succ (ls : List (List UInt8)) {i : Nat} (h : i < ls.length) : cutTo ls (i + 1) = cutTo ls i ++ [ls[i].take 18] := by
  unfold cutTo; rw [List.take_succ_eq_append_getElem h, List.map_append]; rfl

set_option maxRecDepth 100000 in
set_option maxHeartbeats 4000000 in
theorem cut5_any (A : Option Addr) (n c : Nat) (ls : List (List UInt8)) (w : World) (hn : ls.length = n) (hr : RdR w w.heap.size A ls) :
    Calls Try.prog 23 #[.slice A n c] w fun e w' => ∃ X cp, e = .returned (.slice X (min n 18) cp) ∧ min n 18 ≤ cp ∧ cp ≤ maxLen ∧ RdR w' w'.heap.size X (cutL ls) ∧ Below w.heap.size w w' := by
  obtain ⟨i1, hi', hz0', hz1', hz2'⟩ := info_parts infoSlice
  have HN := Lib.hid hn
  clear hn
  obtain ⟨m, hm⟩ : ∃ m, min n 18 = m := ⟨_, rfl⟩
  rw [hm]
  have hmn : m ≤ n := by omega
  have hm18 : m ≤ 18 := by omega
  have HMM := Lib.hid hm
  clear hm
  go_enter Try.func23, Try.ntmps23
  go_wp2_with fail
  go_loopw [3, 4] (fun v t wr => ∃ (i : Nat) (vs : List Value), i ≤ m ∧ t = .int .i64 i ∧ Hid (wr.ownsRow w.heap.size 22 1 v i vs) ∧ Hid (sliceOwn wr w.heap.size 5 vs (cutTo ls i)) ∧ Below w.heap.size w wr) (fun _ t _ => m - (intOf t).toNat)
  case atStart => exact ⟨0, [], by omega, rfl, Lib.hid (World.ownsRow_nil _ _ _ _), Lib.hid ⟨rfl, fun i hi => by simp [cutTo] at hi⟩, Below.refl _ _⟩
  case round =>
    obtain ⟨i, vs, him, rfl, HO, HS, hbel⟩ := hrel
    by_cases hlt : i < m
    · have hii : (i : Int) < (n : Int) := by omega
      have hi18 : (i : Int) < 18 := by omega
      have hil : i < ls.length := by rw [HN.out]; omega
      obtain ⟨b, off, A1, c1, rfl, hbs, hc, hlc, hcm, hrd⟩ := hr.at_ i hil
      have hc' := (hbel.cell (p := ⟨b, off + i, none⟩) hbs).trans hc
      have HSN := Lib.hid (cutTo_succ ls hil)
      obtain ⟨q, hq⟩ : ∃ q, ls[i].length = q := ⟨_, rfl⟩
      rw [hq] at hc' hlc
      have HQL := Lib.hid (show (ls[i].take 18).length = min q 18 by rw [List.length_take, hq, Nat.min_comm])
      have HCUT := Lib.hid (show ∀ W, Calls Try.prog 24 #[.slice A1 q c1, .int .i64 18] W fun e w' => e = .returned (.slice A1 (min q 18) c1) ∧ W = w' from fun W => cut_any A1 q c1 18 W hlc)
      have hq18 : min q 18 ≤ 18 := Nat.min_le_right _ _
      have HCP := Lib.hid (copy_any A1 (min q 18) c1 _ (ls[i].take 18) wr HQL.out (by omega) ((hrd.take 18).below hbel (Nat.le_refl _)))
      generalize min q 18 = s at *
      generalize ls[i].take 18 = l at *
      have hle := hbel.size
      clear hc hq hrd hil
      go_wp2_with fail
      with_reducible refine (HCUT.out _).mono ?_
      rintro e w4 ⟨rfl, rfl⟩
      go_wp2_with fail
      with_reducible refine (HCP.out).mono ?_
      rintro e w5 ⟨A2, c2, rfl, hc2, hcm2, hown, hb5⟩
      have hl5 := hb5.size
      have hsz : w.heap.size ≤ w5.heap.size := Nat.le_trans hle hl5
      have HOW := Lib.hid hown
      clear hown hc'
      go_wp2_with (at_builtin; refine wpList_append_one rfl _ _ 24 rfl w.heap.size 22 i1 Try.underlying24 hi' hz0' hz1' hz2' _ i vs rfl w5 A2 s c2 rfl (own_keep HO.out hb5) rfl (by omega) hsz ?_)
      intro v2 w2 hown2 hg2
      have hal : Below w5.heap.size w5 (w5.alloc (.cells #[.slice A2 s c2] 22)) := (Below.refl _ _).alloc (Nat.le_refl _) _
      have HS2 := Lib.hid (HS.out.grow (hb5.trans (hal.mono hl5)) (own_keep (own_keep HO.out hb5) hal) hg2 (own_keep (own_base HOW.out hle) hal) HQL.out hc2 hcm2)
      rw [← HSN.out] at HS2
      have HO2 := Lib.hid hown2
      have hbel2 : Below w.heap.size w w2 := (hbel.trans ((hb5.trans (hal.mono hl5)).mono hle)).grown hg2 (by simp; omega) (fun k hk => (HO.out.lt k hk).1)
      clear hown2 hg2 hal hbel HO HS HCP HOW
      go_wp2_with fail
      go_roundw
      case rel => exact ⟨i + 1, _, by omega, by go_num, HO2, HS2, hbel2⟩
      case measure => simp [intOf]; omega
    · obtain rfl : i = m := by omega
      obtain ⟨A', c', rfl, hkc, hcm⟩ := own_caps HO.out
      have hcl : cutTo ls i = cutL ls := by
        unfold cutTo cutL
        congr 1
        rw [← HMM.out, ← HN.out]
        by_cases h : ls.length ≤ 18
        · rw [Nat.min_eq_left h, List.take_of_length_le (Nat.le_refl _), List.take_of_length_le h]
        · rw [Nat.min_eq_right (by omega)]
      have HR := Lib.hid (show RdR wr wr.heap.size A' (cutL ls) by rw [← hcl]; exact RdR.of_own HO.out HS.out.vals (Nat.le_refl _))
      clear HO HS hcl
      by_cases hni : i < n
      · have hii : (i : Int) < (n : Int) := by omega
        have hi18 : ¬ (i : Int) < 18 := by have := HMM.out; omega
        go_wp2_with fail
        go_ret
        exact ⟨A', c', rfl, hkc, hcm, HR.out, hbel⟩
      · have hii : ¬ (i : Int) < (n : Int) := by omega
        go_wp2_with fail
        go_ret
        exact ⟨A', c', rfl, hkc, hcm, HR.out, hbel⟩
end Go.Proofs.Ytkgemngkkedcnaa
