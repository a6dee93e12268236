/- Nets of the document writes all rows, one behind the other; Spoil turns a row's cells, its spare ones too. -/
import Derived.Test.YtdjnaeifmeffoaaDoorRNet
import Derived.Test.YtdjnaeifmeffoaaDoorNets
import Derived.Test.YtdjnaeifmeffoaaDoorOwnB
import Derived.Test.YtdjnaeifmeffoaaDoorTakeNets
namespace Go.Proofs.YtdjnaeifmeffoaaDoor
open Go.RowKit

set_option maxHeartbeats 1000000 in
theorem rnets_any (A : Option Addr) (n c : Nat) (ls : List (List UInt8)) (w : World) (hn : ls.length = n) (h1 : n ≤ 1000) (h2 : ∀ r ∈ ls, r.length ≤ 1000) (hr : RdR w w.heap.size A ls) :
    Calls Tryd.prog 25 #[.slice A n c] w fun e w' => ∃ A' c', e = .returned (.slice A' (netsL ls).length c') ∧ (netsL ls).length ≤ c' ∧ Rd w' w'.heap.size A' (netsL ls) ∧ Below w.heap.size w w' := by
  obtain ⟨i0, hi, hz0, hz1, hz2⟩ := info_parts info5
  have HN := Lib.hid hn
  have H2 := Lib.hid h2
  clear hn h2
  go_enter Tryd.func25, Tryd.ntmps25
  go_wp2
  go_loopw [3, 7] (fun v i wr => ∃ k m : Nat, k ≤ n ∧ i = .int .i64 k ∧ m ≤ 1022 * k ∧ Hid ((netsL (ls.take k)).length = m) ∧ Hid (wr.ownsRow w.heap.size 5 1 v m (Lib.byteCells (netsL (ls.take k)))) ∧ Below w.heap.size w wr) (fun _ i _ => n - (intOf i).toNat)
  case atStart => exact ⟨0, 0, Nat.zero_le _, rfl, by omega, Lib.hid (by simp [netsL]), Lib.hid (World.ownsRow_nil _ _ _ _), Below.refl _ _⟩
  case round =>
    obtain ⟨k, m, hk, rfl, hm, HM, HO, hbel⟩ := hrel
    by_cases hlt : k < n
    · have hl1 : k < ls.length := by rw [HN.out]; exact hlt
      obtain ⟨b, off, A', c', rfl, _, hc, hlc, _, hrd⟩ := (hr.below hbel (Nat.le_refl _)).at_ k hl1
      have HK := Lib.hid (netsL_take ls k hl1)
      have hlen : ls[k].length ≤ 1000 := H2.out _ (List.getElem_mem hl1)
      generalize ls[k] = l at *
      obtain ⟨q, hq⟩ : ∃ q, l.length = q := ⟨_, rfl⟩
      have HQ := Lib.hid hq
      rw [hq] at hc hlen
      clear hlc hq
      have hle := hbel.size
      have htl := netL_len l (by rw [HQ.out]; omega)
      rw [HQ.out] at htl
      have hki : (k : Int) < (n : Int) := by omega
      go_wp2_with fail
      refine (rnet_any q c' A' l _ HQ.out (by omega) (hrd.more hle)).mono ?_
      rintro e w1 ⟨A1, c1, rfl, hc1, hr1, hb1⟩
      have HO1 := Lib.hid (own_keep HO.out hb1)
      have hbel1 := Below.then hbel hb1
      have HR1 := Lib.hid hr1
      have HKL := Lib.hid (show (netsL (ls.take (k + 1))).length = m + (netL l).length by rw [HK.out, List.length_append, HM.out])
      generalize netL l = y at *
      obtain ⟨z, hz⟩ : ∃ z, y.length = z := ⟨_, rfl⟩
      rw [hz] at HKL htl
      have HYZ := Lib.hid hz
      rw [hz]
      clear hb1 hbel hrd hc hr1 HO hz
      go_wp2_with (at_builtin; refine wpList_append_rd rfl _ _ 22 rfl w.heap.size 5 i0 Tryd.underlying22 hi hz0 hz1 hz2 _ m _ rfl HO1.out _ A1 z c1 y rfl HYZ.out HR1.out (by omega) hbel1.size ?_)
      intro v2 w2 hown2 hg2
      have hbel2 : Below w.heap.size w w2 := hbel1.grown hg2 hbel1.size (fun k hk => (HO1.out.lt k hk).1)
      rw [← Lib.byteCells_append, ← HK.out] at hown2
      have HO2 := Lib.hid hown2
      clear hown2 hg2 hbel1
      go_wp2_with fail
      go_roundw
      case rel => exact ⟨k + 1, m + z, by omega, by go_num, by omega, HKL, HO2, hbel2⟩
      case measure => simp [intOf]; omega
    · have hge : ¬ (k : Int) < (n : Int) := by omega
      have ht : ls.take k = ls := List.take_of_length_le (by rw [HN.out]; omega)
      have ho := HO.out
      have hm' := HM.out
      rw [ht] at ho hm'
      obtain ⟨A1, c1, hv, hc1⟩ := own_slice ho
      subst hv
      have hrd := Rd.of_own ho
      rw [← hm'] at hc1
      have HM2 := Lib.hid hm'
      have HR := Lib.hid hrd
      have HC := Lib.hid hc1
      clear ho hm' hrd hc1 ht
      go_wp2_with fail
      go_ret
      exact ⟨A1, c1, by rw [HM2.out]; rfl, HC.out, HR.out, hbel⟩

/-- A row all of whose cells are bytes. -/
def AllB (w : World) (g : Nat) (e : TypeId) (full : List UInt8) : Prop := w.heap[g]? = some (.cells (Lib.byteCells full).toArray e (0, 0))

theorem AllB.cell {w : World} {g : Nat} {e : TypeId} {full : List UInt8} (h : AllB w g e full) (k : Nat) (hk : k < full.length) : w.cell? ⟨g, k, none⟩ = some (.int .u8 (full[k].toNat : Int)) ∧ w.frozen? ⟨g, k, none⟩ = false := by
  unfold AllB at h
  have hc : (Lib.byteCells full).toArray[k]? = some (.int .u8 (full[k].toNat : Int)) := by
    unfold Lib.byteCells
    simp [hk]
  constructor
  · rw [cell_of_row w g k _ e (0, 0) h, hc]
  · simp [World.frozen?, h]

theorem AllB.set {w : World} {g : Nat} {e : TypeId} {full : List UInt8} (h : AllB w g e full) (k : Nat) (x : UInt8) (y : Int) (hy : y = (x.toNat : Int)) : AllB (w.setCell ⟨g, k, none⟩ (.int .u8 y)) g e (full.set k x) := by
  subst hy
  unfold AllB at h ⊢
  rw [setCell_eq_setRow w g k _ e (0, 0) _ h, setRow_heap w g _ _ e (0, 0) h]
  congr 2
  apply Array.ext'
  unfold Lib.byteCells
  simp [List.map_set]

theorem byte_of (n : Int) : ∃ y : UInt8, n % 256 = (y.toNat : Int) := ⟨UInt8.ofNat (n % 256).toNat, by rw [UInt8.toNat_ofNat']; omega⟩
theorem xor_byte (a b : Int) : ∃ y : UInt8, bits .xor .u8 a b = (y.toNat : Int) := by
  unfold bits
  simp only
  rw [IntKind.wrap_u8]
  exact byte_of _

end Go.Proofs.YtdjnaeifmeffoaaDoor
