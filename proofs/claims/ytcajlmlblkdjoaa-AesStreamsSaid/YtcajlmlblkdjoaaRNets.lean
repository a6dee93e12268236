/- Nets of the document writes all rows, one behind the other; Spoil turns a row's cells, its spare ones too. -/
import Derived.Test.YtcajlmlblkdjoaaRNet
import Derived.Test.YtcajlmlblkdjoaaNets
import Derived.Test.YtcajlmlblkdjoaaOwnB
import Derived.Test.YtcajlmlblkdjoaaTakeNets
namespace Go.Proofs.Ytcajlmlblkdjoaa
open Go.RowKit


/-- A row all of whose cells are bytes. -/
def AllB (w : World) (g : Nat) (e : TypeId) (full : List UInt8) : Prop := w.heap[g]? = some (.cells (Lib.byteCells full).toArray e (0, 0))

theorem AllB.cell {w : World} {g : Nat} {e : TypeId} {full : List UInt8} (h : AllB w g e full) (k : Nat) (hk : k < full.length) : w.cell? ⟨g, k, none⟩ = some (.int .u8 (full[k].toNat : Int)) ∧ w.frozen? ⟨g, k, none⟩ = false := by
  unfold AllB at h
  have hc : (Lib.byteCells full).toArray[k]? = some (.int .u8 (full[k].toNat : Int)) := by
    unfold Lib.byteCells
    simp [hk]
  constructor
  · rw [cell_of_row w g k _ e (0, 0) h, hc]
  · simp [World.frozen?, h]

theorem AllB.set {w : World} {g : Nat} {e : TypeId} {full : List UInt8} (h : AllB w g e full) (k : Nat) (x : UInt8) (y : Int) (hy : y = (x.toNat : Int)) : AllB (w.setCell ⟨g, k, none⟩ (.int .u8 y)) g e (full.set k x) := by
  subst hy
  unfold AllB at h ⊢
  rw [setCell_eq_setRow w g k _ e (0, 0) _ h, setRow_heap w g _ _ e (0, 0) h]
  congr 2
  apply Array.ext'
  unfold Lib.byteCells
  simp [List.map_set]

theorem byte_of (n : Int) : ∃ y : UInt8, n % 256 = (y.toNat : Int) := ⟨UInt8.ofNat (n % 256).toNat, by rw [UInt8.toNat_ofNat']; omega⟩
theorem xor_byte (a b : Int) : ∃ y : UInt8, bits .xor .u8 a b = (y.toNat : Int) := by
  unfold bits
  simp only
  rw [IntKind.wrap_u8]
  exact byte_of _

set_option maxHeartbeats 1000000 in
theorem spoil_any (g n cap B : Nat) (full : List UInt8) (w : World) (hf : full.length = cap) (hnc : n ≤ cap) (hcm : cap ≤ maxLen) (hg : AllB w g 5 full) (hB : B ≤ g) :
    Calls Try.prog 20 #[.slice (some ⟨g, 0, none⟩) n cap] w fun e w' => e = .returned (.tuple #[]) ∧ Below B w w' := by
  have HF := Lib.hid hf
  have HG := Lib.hid hg
  unfold maxLen at hcm
  clear hf hg
  go_enter Try.func20, Try.ntmps20
  go_wp2
  go_loopw [10] (fun i wr => ∃ (k : Nat) (fl : List UInt8), k ≤ cap ∧ i = .int .i64 k ∧ Hid (fl.length = cap) ∧ Hid (AllB wr g 5 fl) ∧ Below B w wr) (fun i _ => cap - (intOf i).toNat)
  case atStart => exact ⟨0, full, Nat.zero_le _, rfl, HF, HG, Below.refl _ _⟩
  case round =>
    clear HF HG
    obtain ⟨k, fl, hk, rfl, HF, HG, hbel⟩ := hrel
    by_cases hlt : k < cap
    · have hki : (k : Int) < (cap : Int) := by omega
      obtain ⟨hc, hfz⟩ := HG.out.cell k (by rw [HF.out]; exact hlt)
      generalize fl[k]'(by rw [HF.out]; exact hlt) = x at *
      have hx := x.toNat_lt
      go_wp2_with fail
      obtain ⟨y, hy⟩ := xor_byte (x.toNat : Int) 119
      have HG2 := Lib.hid (HG.out.set k y _ hy)
      have HF2 := Lib.hid (show (fl.set k y).length = cap by rw [List.length_set]; exact HF.out)
      have hbel2 : Below B w (wr.setCell ⟨g, k, none⟩ (.int .u8 (bits .xor .u8 (x.toNat : Int) 119))) := hbel.setCell hB _
      go_roundw
      case rel => exact ⟨k + 1, fl.set k y, by omega, by go_num, HF2, HG2, hbel2⟩
      case measure => simp [intOf]; omega
    · obtain rfl : k = cap := by omega
      have hki : ¬ (k : Int) < (k : Int) := by omega
      go_wp2_with fail
      go_end0
      exact ⟨rfl, hbel⟩
end Go.Proofs.Ytcajlmlblkdjoaa
