/- A slot's keys hang on its seed: mathematics. -/
import Derived.Test.YtkkokngdhhakdaaDoorCapP
namespace Go.Proofs.YtkkokngdhhakdaaDoor
open Go.RowKit

def keyW (sd : List UInt8) : List UInt8 := short13 wriTag [sd]
def keyR (sd : List UInt8) : List UInt8 := short13 readTag [keyW sd]
def keyI (sd : List UInt8) : List UInt8 := short13 indexTag [keyR sd]
theorem slot4_ok (k fp : List UInt8) : (⟨4, k, fp, 0, 0, 0, []⟩ : Cap13).ok := by
  unfold Cap13.ok
  rw [if_neg (show ¬ FileK 4 by decide), if_neg (show ¬ (4 : Int) = 3 by decide)]
  exact ⟨show (4 : Int) ≤ 4 ∧ (4 : Int) ≤ 9 by decide, ⟨rfl, rfl, rfl⟩, rfl⟩
theorem slot7_ok (k fp : List UInt8) : (⟨7, k, fp, 0, 0, 0, []⟩ : Cap13).ok := by
  unfold Cap13.ok
  rw [if_neg (show ¬ FileK 7 by decide), if_neg (show ¬ (7 : Int) = 3 by decide)]
  exact ⟨show (4 : Int) ≤ 7 ∧ (7 : Int) ≤ 9 by decide, ⟨rfl, rfl, rfl⟩, rfl⟩
theorem slot4_reads (k fp : List UInt8) : (⟨4, k, fp, 0, 0, 0, []⟩ : Cap13).reads := ⟨slot4_ok k fp, show ¬ VerK 4 by decide⟩
theorem slot7_reads (k fp : List UInt8) : (⟨7, k, fp, 0, 0, 0, []⟩ : Cap13).reads := ⟨slot7_ok k fp, show ¬ VerK 7 by decide⟩
theorem slot4_writes (k fp : List UInt8) : (⟨4, k, fp, 0, 0, 0, []⟩ : Cap13).writes := ⟨slot4_ok k fp, show WriK 4 by decide⟩
theorem slot7_writes (k fp : List UInt8) : (⟨7, k, fp, 0, 0, 0, []⟩ : Cap13).writes := ⟨slot7_ok k fp, show WriK 7 by decide⟩
theorem slot_ro (sd fp : List UInt8) : ro13 (slot13 sd fp) = ⟨5, keyR sd, fp, 0, 0, 0, []⟩ := by
  have h : (slot13 sd fp).writes := slot4_writes (keyW sd) fp
  unfold ro13
  rw [if_pos h]
  rfl
theorem slot_vo (sd fp : List UInt8) : vo13 (slot13 sd fp) = ⟨6, keyI sd, fp, 0, 0, 0, []⟩ := by
  have h : (slot13 sd fp).reads := slot4_reads (keyW sd) fp
  unfold vo13 idx13
  rw [if_pos h, slot_ro]
  rfl
theorem slot_dir (sd fp : List UInt8) : dir13 (slot13 sd fp) = ⟨7, keyW sd, fp, 0, 0, 0, []⟩ := rfl
theorem slot_dirOK (sd fp : List UInt8) : dirOK (slot13 sd fp) := dir_up.2 ⟨slot4_ok (keyW sd) fp, show (4 : Int) ≤ 4 by decide, show (4 : Int) ≤ 6 by decide⟩
theorem slot_idxOK (sd fp : List UInt8) : idxOK (slot13 sd fp) := ⟨slot4_ok (keyW sd) fp, show (4 : Int) ≠ 3 by decide⟩
theorem dir_idxOK (sd fp : List UInt8) : idxOK ⟨7, keyW sd, fp, 0, 0, 0, []⟩ := ⟨slot7_ok _ _, show (7 : Int) ≠ 3 by decide⟩
theorem dir_idx (sd fp : List UInt8) : idx13 ⟨7, keyW sd, fp, 0, 0, 0, []⟩ = keyI sd := by
  have h := slot7_reads (keyW sd) fp
  have h2 := slot7_writes (keyW sd) fp
  unfold idx13
  rw [if_pos h]
  unfold ro13
  rw [if_pos h2]
  rfl
end Go.Proofs.YtkkokngdhhakdaaDoor
