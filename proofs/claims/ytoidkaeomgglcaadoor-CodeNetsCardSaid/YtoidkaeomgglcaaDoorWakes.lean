/- The document's examples of chapter 1 hold. -/
import Derived.Test.YtoidkaeomgglcaaDoorNet
import Derived.Test.YtoidkaeomgglcaaDoorBase32
namespace Go.Proofs.YtoidkaeomgglcaaDoor
open Go.RowKit

theorem netL_ab : netL [97, 98] = [50, 58, 97, 98, 44] := by
  have h : Lib.decDigits 2 = [50] := by rw [Lib.decDigits, dif_pos (by omega)]; rfl
  have h2 : Lib.itoa 2 = [50] := by unfold Lib.itoa; rw [if_neg (by omega)]; exact h
  show Lib.itoa 2 ++ [58] ++ [97, 98] ++ [44] = _
  rw [h2]; rfl
theorem enc_nought : enc [0] = [97, 97] := by
  unfold enc
  rw [encFrom_cons (by omega), encFrom_drain (by omega), encFrom_last (by omega) (by omega)]
  decide
theorem rd_ab (w : World) (f : Nat × Nat) : Rd (w.alloc (.cells #[.int .u8 97, .int .u8 98] 5 f)) (w.heap.size + 1) (some ⟨w.heap.size, 0, none⟩) [97, 98] := by
  refine .inr ⟨w.heap.size, 0, rfl, by omega, fun i hi => ?_⟩
  match i, hi with
  | 0, _ => exact Lib.cell_of_heap (heap_alloc_new w _) _
  | 1, _ => exact Lib.cell_of_heap (heap_alloc_new w _) _

set_option maxHeartbeats 400000 in
theorem wakes_any (w : World) (htab : Pow10 w.heap.size w) :
    Calls Tryd.prog 19 #[] w fun e w' => e = .returned (.bool true) ∧ Below w.heap.size w w' := by
  have HT := Lib.hid htab
  clear htab
  have kc := fun (w : World) (C : Array Value) (n c : Nat) => Lib.run_convert_bytes_const (P := Tryd.prog) w 23 5 C n c Tryd.underlying23 Tryd.underlying5
  go_enter Tryd.func19, Tryd.ntmps19
  go_wp2_with fail
  have hb0 : Below w.heap.size w (w.alloc (.cells #[.int .u8 97, .int .u8 98] 5 (2, 3))) := (Below.refl _ _).alloc (Nat.le_refl _) _
  have hrd := rd_ab w (2, 3)
  refine (net_any 2 2 _ [97, 98] _ rfl (by omega) (hrd.more (by simp)) (tab_on HT.out hb0)).mono ?_
  rintro e w1 ⟨v1, rfl, hown1, hbel1⟩
  obtain ⟨A1, c1, rfl, _⟩ := own_slice hown1
  have hcv := run_string_rd (P := Tryd.prog) (w := w1) 23 9 5 Tryd.underlying23 Tryd.underlying5 Tryd.underlying9 _ A1 5 c1 [50, 58, 97, 98, 44] rfl (by rw [← netL_ab]; exact Rd.of_own hown1)
  have hb1 : Below w.heap.size w w1 := hb0.trans (hbel1.mono (by simp))
  clear kc hown1 hbel1 hb0 hrd
  rw [show (netL [97, 98]).length = 5 from by rw [netL_ab]; rfl]
  go_wp2_with fail
  refine (base32_any _ 1 1 (w1.heap.size + 1) [0] _ rfl (by omega) (Rd.one w1 5 0 0 rfl) (by simp)).mono ?_
  rintro e w2 ⟨rfl, hbel2⟩
  rw [enc_nought]
  have hb2 : Below w.heap.size w w2 := (hb1.alloc hb1.size (.cells #[.int .u8 0] 5)).trans (hbel2.mono (by have := hb1.size; simp; omega))
  clear hb1 hbel2
  go_wp2_with fail
  go_ret
  exact ⟨rfl, hb2⟩
end Go.Proofs.YtoidkaeomgglcaaDoor
