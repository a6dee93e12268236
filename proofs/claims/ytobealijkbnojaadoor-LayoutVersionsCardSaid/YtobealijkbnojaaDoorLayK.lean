/- The print of a layout's bytes; the example of the document. -/
import Derived.Test.YtobealijkbnojaaDoorLayC
import Derived.Test.YtobealijkbnojaaDoorLayJ
import Derived.Test.YtobealijkbnojaaDoorShaD
namespace Go.Proofs.YtobealijkbnojaaDoor
open Go.RowKit
set_option maxRecDepth 100000

def zeroH14 : List UInt8 := List.replicate 32 0
def uebH (l : List UInt8) : List UInt8 := shaL (netsL [[117, 101, 98], l])
theorem uebH_len (l : List UInt8) : (uebH l).length = 32 := shaL_len _
theorem uebH_ne : ¬ uebH [] = zeroH14 := by decide +kernel
theorem rdr_leaf14 (w : World) (A : Option Addr) {n c : Nat} {l : List UInt8} (hl : l.length = n) (hc : n ≤ c) (hcm : c ≤ maxLen) (h1 : Rd w w.heap.size A l) :
    RdR (w.alloc (.cells #[.slice A n c] 24)) (w.alloc (.cells #[.slice A n c] 24)).heap.size (some ⟨w.heap.size, 0, none⟩) [l] := by
  subst hl
  refine rdr_cells w _ _ _ fun i hi => ?_
  match i, hi with
  | 0, _ => exact ⟨A, c, rfl, hc, hcm, h1⟩
set_option maxHeartbeats 4000000 in
theorem pprint14_any {w : World} {A : Option Addr} {n c : Nat} {l : List UInt8} (hl : l.length = n) (hnc : n ≤ c) (hcm : c ≤ maxLen) (h1 : n ≤ 1000) (ha : Rd w w.heap.size A l) (htab : Pow10 w.heap.size w) :
    Calls Tryd.prog 20 #[.slice A n c] w fun e w' => e = .returned (.agg (u8A (uebH l))) ∧ Below w.heap.size w w' := by
  obtain ⟨Z, hZ⟩ : ∃ x, u8A (uebH l) = x := ⟨_, rfl⟩
  have HZZ := Lib.hid (show Z.size = 32 by rw [← hZ, u8A_size]; exact uebH_len _)
  have HZO := Lib.hid (show Z.all (·.oneCell') = true by rw [← hZ]; exact u8A_one _)
  have HTG := Lib.hid (fun (g : Nat) (W : World) (hW : Below w.heap.size w W) (hr : RdR W W.heap.size (some ⟨g, 0, none⟩) [l]) => (show Calls Tryd.prog 56 #[.string ⟨#[117, 101, 98]⟩, .slice (some ⟨g, 0, none⟩) 1 1] W fun e w' => e = .returned (.agg Z) ∧ Below W.heap.size W w' from by
    have h := tagged_any [117, 101, 98] (some ⟨g, 0, none⟩) 1 1 [l] W (by decide) rfl (by decide) (fun r h => by simp at h; rw [h]; omega) hr (tab_on htab hW hW.size)
    rw [← hZ]
    exact h))
  have HRR := Lib.hid (fun (W : World) (hW : Below w.heap.size w W) => rdr_leaf14 W A hl hnc hcm (ha.on hW))
  rw [hZ]
  clear hZ ha htab hl hnc hcm
  go_enter Tryd.func20, Tryd.ntmps20
  go_upto_region 1 with fail
  generalize hw1 : World.alloc _ _ = w3
  obtain ⟨g2, hg2⟩ : ∃ g, w.heap.size = g := ⟨_, rfl⟩
  have hf : (∃ rs, Blk w3 g2 rs 26 ∧ rs.size = 32) ∧ Below w.heap.size w w3 := by
    obtain ⟨Y8, hw, hY8⟩ : ∃ Y8, w3 = (w.alloc (.cells Y8 26)) ∧ Y8.size = 32 := ⟨_, hw1.symm, rfl⟩
    rw [hw, ← hg2]
    exact ⟨⟨Y8, Blk.new _ _ _, hY8⟩, (Below.refl _ _).alloc (Nat.le_refl _) _⟩
  obtain ⟨rs2, hrs2, hrz2⟩ := hf.1
  have HG2 := Lib.hid (show w.heap.size ≤ g2 by omega)
  have HBW := Lib.hid hf.2
  have HB2 := Lib.hid hrs2
  have HRZ2 := Lib.hid hrz2
  have HR1 := Lib.hid (HRR.out w3 hf.2)
  have hal : Below w3.heap.size w3 (w3.alloc (.cells #[.slice A n c] 24)) := (Below.refl _ _).alloc (Nat.le_refl _) _
  have HAL := Lib.hid hal
  rw [show (Value.pointer (some ⟨w.heap.size, 0, none⟩)) = .pointer (some ⟨g2, 0, none⟩) by rw [hg2]]
  clear hf hw1 hrs2 hrz2 hg2 hal HRR
  go_wp2_with (first
    | ((with_reducible refine (HTG.out _ _ (HBW.out.trans (HAL.out.mono HBW.out.size)) HR1.out).mono ?_); rintro e w4 ⟨rfl, hb4⟩; have hb5 := Below.then HAL.out hb4; have HB4 := Lib.hid (HB2.out.below hb5 HB2.out.lt); have HBT := Lib.hid (HBW.out.trans (hb5.mono HBW.out.size)); clear hb4 hb5)
    | (with_reducible refine wpList_store_blkTo rfl 26 (.tmp 2) (.tmp 5) rfl rfl g2 Z rfl rfl 26 rs2 HB4.out (by rw [HZZ.out]; kernel_rfl) (by rw [HZZ.out, HRZ2.out]) HZO.out ?_))
  exact bodyPost_ret (v := .agg Z) (results_cell_row (p := 2) (ty := 26) (by kernel_rfl) _ _ g2 26 _ (0, 0) _ rfl (HB4.out.row Z) Tryd.underlying26 rfl (by rw [HZZ.out]; kernel_rfl)) rfl ⟨rfl, below_row HBT.out HBT.out.size HG2.out _⟩

theorem built_h014 : Tryd.prog.built 26 [] = some (u8A zeroH14) := by kernel_rfl
theorem unU_nil : unU [] = none := by unfold unU un14; rw [show takesN 6 [] = none from rfl]
set_option maxHeartbeats 4000000 in
theorem wakes14_any {w : World} (htab : Pow10 w.heap.size w) : Calls Tryd.prog 11 #[] w fun e w' => e = .returned (.bool true) ∧ Below w.heap.size w w' := by
  obtain ⟨ZU, hZU⟩ : ∃ x, f14A (zero14 32) = x := ⟨_, rfl⟩
  have HUN := Lib.hid (show Calls Tryd.prog 12 #[.slice none 0 0] w fun e w' => e = .returned (.tuple #[.agg ZU, .bool false]) ∧ Below w.heap.size w w' from by
    have h := punpackU_any (A := none) (n := 0) (c := 0) (l := []) rfl (Nat.le_refl _) (by omega) (Rd.nil _ _ _) htab
    rw [unU_nil] at h
    rw [← hZU]
    exact h)
  obtain ⟨X, hX⟩ : ∃ x, u8A (uebH []) = x := ⟨_, rfl⟩
  obtain ⟨Z, hZ⟩ : ∃ x, u8A zeroH14 = x := ⟨_, rfl⟩
  have HZE := Lib.hid hZ
  have HPR := Lib.hid (fun (W : World) (hW : Below w.heap.size w W) => (show Calls Tryd.prog 20 #[.slice none 0 0] W fun e w' => e = .returned (.agg X) ∧ Below W.heap.size W w' from by
    have h := pprint14_any (A := none) (n := 0) (c := 0) (l := []) (w := W) rfl (Nat.le_refl _) (by decide) (by omega) (Rd.nil _ _ _) (tab_on htab hW hW.size)
    rw [hX] at h
    exact h))
  have hne := fun (W : World) => (show (Op.equalIn 10000 26 (.agg X) (.agg Z)).run Tryd.prog W = .ok false W by
    rw [← hX, ← hZ, run_hash_eq W _ _ (uebH_len _) rfl, decide_eq_false uebH_ne])
  have HZS := Lib.hid (show ZU.size = 68 ∧ ZU.all (·.oneCell') = true by rw [← hZU]; exact ⟨f14A_size (zero14_wf 32), f14A_one _⟩)
  clear hX hZ hZU htab
  go_enter Tryd.func11, Tryd.ntmps11
  go_upto_region 2 with (first
    | ((with_reducible refine HUN.out.mono ?_); rintro e w3 ⟨rfl, hb3⟩)
    | (with_reducible refine wpList_store_blkTo rfl 40 (.tmp 1) (.tmp 5) rfl rfl w3.heap.size ZU rfl rfl 40 _ (Blk.new _ _ _) (by rw [HZS.out.1]; kernel_rfl) (by rw [HZS.out.1]; kernel_rfl) HZS.out.2 ?_))
  generalize hw4 : World.setRow _ _ _ = w4
  have hb4 : Below w.heap.size w w4 := by
    rw [← hw4]
    exact below_row (hb3.alloc hb3.size _) (by have := hb3.size; simp; omega) hb3.size _
  have HB4 := Lib.hid hb4
  clear hw4 hb3 hb4
  go_wp2_with (first
    | ((with_reducible refine (HPR.out _ HB4.out).mono ?_); rintro e w5 ⟨rfl, hb5⟩; have HB5 := Lib.hid (HB4.out.trans (hb5.mono HB4.out.size)); clear hb5)
    | (refine wpList_build_14 ?_ 26 #[] rfl [] (by simp) Z _ built_h014 HZE.out ?_; · rfl))
  go_ret
  exact ⟨rfl, HB5.out⟩
end Go.Proofs.YtobealijkbnojaaDoor
