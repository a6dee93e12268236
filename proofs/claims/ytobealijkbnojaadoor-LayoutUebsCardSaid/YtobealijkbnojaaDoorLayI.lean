/- The document's print of a layout's bytes. -/
import Derived.Test.YtobealijkbnojaaDoorLayK
import Derived.Test.YtobealijkbnojaaDoorRShort
namespace Go.Proofs.YtobealijkbnojaaDoor
open Go.RowKit
set_option maxRecDepth 100000

set_option maxHeartbeats 4000000 in
theorem rprint14_any {w : World} {A : Option Addr} {n c : Nat} {l : List UInt8} (hl : l.length = n) (hnc : n ≤ c) (hcm : c ≤ maxLen) (h1 : n ≤ 1000) (ha : Rd w w.heap.size A l) :
    Calls Tryd.prog 21 #[.slice A n c] w fun e w' => e = .returned (.agg (u8A (uebH l))) ∧ Below w.heap.size w w' := by
  obtain ⟨Z, hZ⟩ : ∃ x, u8A (uebH l) = x := ⟨_, rfl⟩
  have HZZ := Lib.hid (show Z.size = 32 by rw [← hZ, u8A_size]; exact uebH_len _)
  have HZO := Lib.hid (show Z.all (·.oneCell') = true by rw [← hZ]; exact u8A_one _)
  have HTG := Lib.hid (fun (g : Nat) (W : World) (hW : Below w.heap.size w W) (hr : RdR W W.heap.size (some ⟨g, 0, none⟩) [l]) => (show Calls Tryd.prog 57 #[.string ⟨#[117, 101, 98]⟩, .slice (some ⟨g, 0, none⟩) 1 1] W fun e w' => e = .returned (.agg Z) ∧ Below W.heap.size W w' from by
    have h := rtagged_any [117, 101, 98] (some ⟨g, 0, none⟩) 1 1 [l] W (by decide) rfl (by decide) (fun r h => by simp at h; rw [h]; omega) hr
    rw [← hZ]
    exact h))
  have HRR := Lib.hid (fun (W : World) (hW : Below w.heap.size w W) => rdr_leaf14 W A hl hnc hcm (ha.on hW))
  rw [hZ]
  clear hZ ha hl hnc hcm
  go_enter Tryd.func21, Tryd.ntmps21
  go_upto_region 1 with fail
  generalize hw1 : World.alloc _ _ = w3
  obtain ⟨g2, hg2⟩ : ∃ g, w.heap.size = g := ⟨_, rfl⟩
  have hf : (∃ rs, Blk w3 g2 rs 26 ∧ rs.size = 32) ∧ Below w.heap.size w w3 := by
    obtain ⟨Y8, hw, hY8⟩ : ∃ Y8, w3 = (w.alloc (.cells Y8 26)) ∧ Y8.size = 32 := ⟨_, hw1.symm, rfl⟩
    rw [hw, ← hg2]
    exact ⟨⟨Y8, Blk.new _ _ _, hY8⟩, (Below.refl _ _).alloc (Nat.le_refl _) _⟩
  obtain ⟨rs2, hrs2, hrz2⟩ := hf.1
  have HG2 := Lib.hid (show w.heap.size ≤ g2 by omega)
  have HBW := Lib.hid hf.2
  have HB2 := Lib.hid hrs2
  have HRZ2 := Lib.hid hrz2
  have HR1 := Lib.hid (HRR.out w3 hf.2)
  have hal : Below w3.heap.size w3 (w3.alloc (.cells #[.slice A n c] 24)) := (Below.refl _ _).alloc (Nat.le_refl _) _
  have HAL := Lib.hid hal
  rw [show (Value.pointer (some ⟨w.heap.size, 0, none⟩)) = .pointer (some ⟨g2, 0, none⟩) by rw [hg2]]
  clear hf hw1 hrs2 hrz2 hg2 hal HRR
  go_wp2_with (first
    | ((with_reducible refine (HTG.out _ _ (HBW.out.trans (HAL.out.mono HBW.out.size)) HR1.out).mono ?_); rintro e w4 ⟨rfl, hb4⟩; have hb5 := Below.then HAL.out hb4; have HB4 := Lib.hid (HB2.out.below hb5 HB2.out.lt); have HBT := Lib.hid (HBW.out.trans (hb5.mono HBW.out.size)); clear hb4 hb5)
    | (with_reducible refine wpList_store_blkTo rfl 26 (.tmp 2) (.tmp 5) rfl rfl g2 Z rfl rfl 26 rs2 HB4.out (by rw [HZZ.out]; kernel_rfl) (by rw [HZZ.out, HRZ2.out]) HZO.out ?_))
  exact bodyPost_ret (v := .agg Z) (results_cell_row (p := 2) (ty := 26) (by kernel_rfl) _ _ g2 26 _ (0, 0) _ rfl (HB4.out.row Z) Tryd.underlying26 rfl (by rw [HZZ.out]; kernel_rfl)) rfl ⟨rfl, below_row HBT.out HBT.out.size HG2.out _⟩

end Go.Proofs.YtobealijkbnojaaDoor
