/- Nets: the room of what is told is bounded. -/
import Derived.Test.YtobealijkbnojaaDoorNet
import Derived.Test.YtobealijkbnojaaDoorMakeA
namespace Go.Proofs.YtobealijkbnojaaDoor
open Go.RowKit
set_option maxRecDepth 100000

set_option maxHeartbeats 1000000 in
theorem netsM_any (A : Option Addr) (n c : Nat) (ls : List (List UInt8)) (w : World) (hn : ls.length = n) (h1 : n ≤ 1000) (h2 : ∀ r ∈ ls, r.length ≤ 1000) (hr : RdR w w.heap.size A ls) (htab : Pow10 w.heap.size w) :
    Calls Tryd.prog 48 #[.slice A n c] w fun e w' => ∃ A' c', e = .returned (.slice A' (netsL ls).length c') ∧ (netsL ls).length ≤ c' ∧ c' ≤ maxLen ∧ Rd w' w'.heap.size A' (netsL ls) ∧ Below w.heap.size w w' := by
  have HN := Lib.hid hn
  have H2 := Lib.hid h2
  have HT := Lib.hid htab
  clear hn h2 htab
  go_enter Tryd.func48, Tryd.ntmps48
  go_wp2
  go_loopw [3, 8] (fun v i wr => ∃ k m : Nat, k ≤ n ∧ i = .int .i64 k ∧ m ≤ 1022 * k ∧ Hid ((netsL (ls.take k)).length = m) ∧ Hid (wr.ownsRow w.heap.size 5 1 v m (Lib.byteCells (netsL (ls.take k)))) ∧ Below w.heap.size w wr) (fun _ i _ => n - (intOf i).toNat)
  case atStart => exact ⟨0, 0, Nat.zero_le _, rfl, by omega, Lib.hid (by simp [netsL]), Lib.hid (World.ownsRow_nil _ _ _ _), Below.refl _ _⟩
  case round =>
    obtain ⟨k, m, hk, rfl, hm, HM, HO, hbel⟩ := hrel
    by_cases hlt : k < n
    · have hl1 : k < ls.length := by rw [HN.out]; exact hlt
      obtain ⟨b, off, A', c', rfl, _, hc, hlc, _, hrd⟩ := (hr.below hbel (Nat.le_refl _)).at_ k hl1
      have HK := Lib.hid (netsL_take ls k hl1)
      have hlen : ls[k].length ≤ 1000 := H2.out _ (List.getElem_mem hl1)
      generalize ls[k] = l at *
      obtain ⟨q, hq⟩ : ∃ q, l.length = q := ⟨_, rfl⟩
      have HQ := Lib.hid hq
      rw [hq] at hc hlen
      clear hlc hq
      have hle := hbel.size
      have htl := netL_len l (by rw [HQ.out]; omega)
      rw [HQ.out] at htl
      go_wp2_with fail
      refine (appendNet_any w.heap.size m q c' _ _ A' l _ HO.out hle HQ.out (by omega) (by omega) hrd (tab_on HT.out hbel (Nat.le_refl _))).mono ?_
      rintro e w1 ⟨v1, rfl, hown1, hbel1⟩
      have hbel2 := hbel.trans hbel1
      rw [← Lib.byteCells_append, ← HK.out] at hown1
      have HL := Lib.hid (show (netsL (ls.take (k + 1))).length = m + (netL l).length by rw [HK.out, List.length_append, HM.out])
      have HO1 := Lib.hid hown1
      generalize (netL l).length = z at *
      clear hown1 hbel1 hbel hle hrd hc
      go_wp2_with fail
      go_roundw
      case rel => exact ⟨k + 1, m + z, by omega, by go_num, by omega, HL, HO1, hbel2⟩
      case measure => simp [intOf]; omega
    · have hge : ¬ (k : Int) < (n : Int) := by omega
      have ht : ls.take k = ls := List.take_of_length_le (by rw [HN.out]; omega)
      have ho := HO.out
      have hm' := HM.out
      rw [ht] at ho hm'
      obtain ⟨A1, c1, hv, hc1, hcm⟩ := own_caps ho
      subst hv
      have hrd := Rd.of_own ho
      rw [← hm'] at hc1
      have HM2 := Lib.hid hm'
      have HR := Lib.hid hrd
      have HC := Lib.hid hc1
      have HCM := Lib.hid hcm
      clear ho hm' hrd hc1 hcm ht
      go_wp2_with fail
      go_ret
      exact ⟨A1, c1, by rw [HM2.out]; rfl, HC.out, HCM.out, HR.out, hbel⟩
end Go.Proofs.YtobealijkbnojaaDoor
