/- cutRows: rows of at most 100 bytes, in a list of its own. -/
import Derived.Test.YtdjnaeifmeffoaaDoorKeep
import Derived.Test.YtdjnaeifmeffoaaDoorCopyRows
namespace Go.Proofs.YtdjnaeifmeffoaaDoor
open Go.RowKit

def cut100 (ls : List (List UInt8)) : List (List UInt8) := ls.map (·.take 100)
theorem cut100_len (ls : List (List UInt8)) : (cut100 ls).length = ls.length := by simp [cut100]
theorem cut100_rows (ls : List (List UInt8)) : ∀ r ∈ cut100 ls, r.length ≤ 100 := by
  intro r hr
  obtain ⟨x, _, rfl⟩ := List.mem_map.1 hr
  simp; omega
theorem cut100_step (ls : List (List UInt8)) (k : Nat) (h : k < ls.length) : cut100 (ls.take (k + 1)) = cut100 (ls.take k) ++ [ls[k].take 100] := by
  unfold cut100; rw [List.take_succ_eq_append_getElem h, List.map_append]; rfl

set_option maxHeartbeats 2000000 in
theorem cutRows_any (A : Option Addr) (n c : Nat) (ls : List (List UInt8)) (w : World) (hn : ls.length = n) (h1 : n ≤ 1000) (hr : RdR w w.heap.size A ls) :
    Calls Tryd.prog 17 #[.slice A n c] w fun e w' => ∃ A' c', e = .returned (.slice A' n c') ∧ n ≤ c' ∧ RdR w' w'.heap.size A' (cut100 ls) ∧ Below w.heap.size w w' := by
  obtain ⟨i1, hi, hz0, hz1, hz2⟩ := info_parts infoSlice
  have HN := Lib.hid hn
  clear hn
  go_enter Tryd.func17, Tryd.ntmps17
  go_wp2_with fail
  go_loopw [3, 7] (fun v i wr => ∃ (k : Nat) (vs : List Value), k ≤ n ∧ i = .int .i64 k ∧ Hid (wr.ownsRow w.heap.size 22 1 v k vs) ∧ Hid (sliceVals w w.heap.size vs (cut100 (ls.take k))) ∧ Below w.heap.size w wr) (fun _ i _ => n - (intOf i).toNat)
  case atStart => exact ⟨0, [], Nat.zero_le _, rfl, Lib.hid (World.ownsRow_nil _ _ _ _), Lib.hid (sliceVals.nil _ _), Below.refl _ _⟩
  case round =>
    obtain ⟨k, vs, hk, rfl, HO, HS, hbel⟩ := hrel
    by_cases hlt : k < n
    · have hl1 : k < ls.length := by rw [HN.out]; exact hlt
      obtain ⟨b, off, A1, c1, rfl, hbs, hc, hlc, hcm, hrd⟩ := hr.at_ k hl1
      have hc' : wr.cell? ⟨b, off + k, none⟩ = some (.slice A1 ls[k].length c1) := by rw [← hc]; exact hbel.cell hbs
      have HC := Lib.hid (cut100_step ls k hl1)
      have hrt := hrd.take 100
      obtain ⟨q, hq⟩ : ∃ q, ls[k].length = q := ⟨_, rfl⟩
      rw [hq] at hc' hlc
      have HQ := Lib.hid (show (ls[k].take 100).length = min q 100 by rw [List.length_take, hq, Nat.min_comm])
      have hmin : min q 100 ≤ c1 := Nat.le_trans (Nat.min_le_left _ _) hlc
      have HCUT := Lib.hid (fun W => cut_any A1 q c1 100 W hlc)
      have hki : (k : Int) < (n : Int) := by omega
      have HRT := Lib.hid hrt
      clear hc hq hrt hrd
      go_wp2_with fail
      refine (HCUT.out _).mono ?_
      rintro e w' ⟨rfl, rfl⟩
      have hle := hbel.size
      go_wp2_with (at_builtin; refine wpList_append_one rfl _ _ 36 rfl w.heap.size 22 i1 Tryd.underlying36 hi hz0 hz1 hz2 _ k vs rfl wr A1 (min q 100) c1 rfl HO.out rfl (by omega) hle ?_)
      intro v2 w2 hown2 hg2
      have HS2 := Lib.hid (HS.out.snoc HQ.out hmin hcm HRT.out)
      rw [← HC.out] at HS2
      have HO2 := Lib.hid hown2
      have hbel2 : Below w.heap.size w w2 := (hbel.alloc hle _).grown hg2 (by simp; omega) (fun k hk => (HO.out.lt k hk).1)
      clear hown2 hg2 hbel hle
      go_wp2_with fail
      go_roundw
      case rel => exact ⟨k + 1, _, by omega, by go_num, HO2, HS2, hbel2⟩
      case measure => simp [intOf]; omega
    · have hge : ¬ (k : Int) < (n : Int) := by omega
      obtain rfl : k = n := by omega
      have ht : ls.take k = ls := List.take_of_length_le (by rw [HN.out]; exact Nat.le_refl _)
      rw [ht] at HS
      obtain ⟨A', c', rfl, hkc, _⟩ := own_caps HO.out
      have HR := Lib.hid (RdR.of_own HO.out (HS.out.below hbel (Nat.le_refl _)) hbel.size)
      clear ht
      go_wp2_with fail
      go_ret
      exact ⟨A', c', rfl, hkc, HR.out, hbel⟩
end Go.Proofs.YtdjnaeifmeffoaaDoor
