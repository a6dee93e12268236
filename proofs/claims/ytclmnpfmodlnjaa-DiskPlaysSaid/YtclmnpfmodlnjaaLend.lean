/- Bytes lent with room behind them that has bytes of its own, and the look whether they are as they were. -/
import Derived.Test.YtclmnpfmodlnjaaMem
import Derived.Test.YtclmnpfmodlnjaaPut
import Derived.Laws.CopyOwn
import Derived.Deep.DeepFit
namespace Go.Proofs.Ytclmnpfmodlnjaa
open Go.RowKit

/-- What lies behind lent bytes. -/
def tail3 : List UInt8 := [85, 85, 85]

theorem sizeByte : (Try.prog.info? 5).map (·.size) = some 1 := by kernel_rfl

set_option maxHeartbeats 1000000 in
theorem lendA_any (A : Option Addr) (n c : Nat) (l : List UInt8) (w : World) (hl : l.length = n) (h1 : n ≤ 1000000) (hr : Rd w w.heap.size A l) :
    Calls Try.prog 29 #[.slice A n c] w fun e w' => e = .returned (.slice (some ⟨w.heap.size, 0, none⟩) n (n + 3)) ∧ Rd w' w'.heap.size (some ⟨w.heap.size, 0, none⟩) (l ++ tail3) ∧ Below w.heap.size w w' := by
  obtain ⟨i0, hi, hz0, hz1, hz2⟩ := info_parts info5
  have hmk := fun W => run_make (P := Try.prog) W 22 5 i0 (.int .u8 0) Try.underlying22 hi hz0 .i64 .i64 (n : Int) ((n : Int) + 3) (by omega) (by omega) (by rw [hz2]; omega) (by omega)
  have HL := Lib.hid hl
  clear hl
  go_enter Try.func29, Try.ntmps29
  have hsz0 : (madeCells #[Value.int IntKind.u8 0] (n + 3)).size = n + 3 := size_madeCells _ _
  go_wp2_with (with_reducible refine wpList_copy_splice rfl (.tmp 12) (.tmp 13) 22 22 rfl 5 Try.underlying22 sizeByte _ _ _ _ _ _ rfl rfl w.heap.size 0 (madeCells #[Value.int IntKind.u8 0] (n + 3)).toList 5 ?hg (Lib.byteCells l) ?hn ?hpos ?hfit ?h1 w.heap.size w ?hb (Nat.le_refl _) ?_)
  case hg => rw [Array.toArray_toList]; exact heap_alloc_new w _
  case hn => rw [Lib.byteCells_length, HL.out]; exact (Nat.min_self n).symm
  case hpos =>
    intro hp
    have hr2 := hr.alloc (Nat.le_refl _) (.cells (madeCells #[Value.int IntKind.u8 0] (n + 3)) 5)
    rcases hr with rfl | ⟨b, off, rfl, hb, hc⟩
    · simp [Lib.byteCells] at hp
    · exact ⟨_, rfl, Rd.cells hr2⟩
  case hfit => rw [Lib.byteCells_length, HL.out]; simp [hsz0]
  case h1 => exact Lib.byteCells_one l
  case hb => exact (Below.refl _ _).alloc (Nat.le_refl _) _
  intro w1 hH hb1
  have hH' := hH.out
  unfold splice at hH'
  simp only [List.take_zero, List.nil_append, Nat.zero_add, Lib.byteCells_length, HL.out] at hH'
  have hxl : (Lib.byteCells l ++ (madeCells #[Value.int IntKind.u8 0] (n + 3)).toList.drop n).length = n + 3 := by
    rw [List.length_append, Lib.byteCells_length, HL.out, List.length_drop, Array.length_toList, hsz0]; omega
  have hxt : (Lib.byteCells l ++ (madeCells #[Value.int IntKind.u8 0] (n + 3)).toList.drop n).take n = Lib.byteCells (l ++ tail3.take 0) := by
    rw [List.take_append_of_le_length (by rw [Lib.byteCells_length, HL.out]; exact Nat.le_refl _), List.take_of_length_le (by rw [Lib.byteCells_length, HL.out]; exact Nat.le_refl _)]
    simp
  generalize Lib.byteCells l ++ (madeCells #[Value.int IntKind.u8 0] (n + 3)).toList.drop n = xs at hH' hxl hxt
  have HH := Lib.hid hH'
  have HXL := Lib.hid hxl
  have HXT := Lib.hid hxt
  clear hH hH' hxl hxt hmk hi hz0 hz1 hz2 hsz0 hr
  go_wp2_with fail
  go_loopw [5] (fun i wr => ∃ (t : Nat) (ys : List Value), t ≤ 3 ∧ i = .int .i64 ((n : Int) + (t : Int)) ∧ Hid (wr.heap[w.heap.size]? = some (.cells ys.toArray 5 (0, 0))) ∧ Hid (ys.length = n + 3) ∧ Hid (ys.take (n + t) = Lib.byteCells (l ++ tail3.take t)) ∧ Below w.heap.size w wr) (fun i _ => n + 3 - (intOf i).toNat)
  case atStart => exact ⟨0, xs, by omega, by simp, HH, HXL, HXT, hb1⟩
  case round =>
    obtain ⟨t, ys, ht, rfl, hH, hYL, hYT, hbel⟩ := hrel
    clear HH HXL HXT
    by_cases hlt : t < 3
    · have hc := Lib.cell_of_heap hH.out (n + t)
      rw [List.getElem?_toArray, List.getElem?_eq_getElem (by rw [hYL.out]; omega)] at hc
      have hf := Lib.frozen_of_heap hH.out (n + t)
      have HS := Lib.hid (heap_setCell_same _ w.heap.size (n + t) _ _ (.int .u8 85) hH.out)
      have hlt' : (n : Int) + (t : Int) < (n : Int) + 3 := by omega
      go_wp2_with fail
      go_roundw
      case rel =>
        refine ⟨t + 1, ys.set (n + t) (.int .u8 85), by omega, by go_num, Lib.hid ?_, Lib.hid (by rw [List.length_set]; exact hYL.out), Lib.hid ?_, hbel.setCell (Nat.le_refl _) _⟩
        · have := HS.out
          rw [List.setIfInBounds_toArray] at this
          exact this
        · rw [← Nat.add_assoc, List.take_succ_eq_append_getElem (by rw [List.length_set, hYL.out]; omega), List.take_set_of_le (Nat.le_refl _), hYT.out, List.getElem_set_self, Lib.byteCells_append, Lib.byteCells_append, List.append_assoc]
          congr 1
          match t, hlt with
          | 0, _ => rfl
          | 1, _ => rfl
          | 2, _ => rfl
      case measure => simp [intOf]; omega
    · obtain rfl : t = 3 := by omega
      have hge : ¬ (n : Int) + ((3 : Nat) : Int) < (n : Int) + 3 := by omega
      have hH' := hH.out
      have hy := hYT.out
      rw [List.take_of_length_le (by rw [hYL.out]; exact Nat.le_refl _)] at hy
      have hrd : Rd wr wr.heap.size (some ⟨w.heap.size, 0, none⟩) (l ++ tail3) := by
        refine .inr ⟨w.heap.size, 0, rfl, ?_, fun i hi => ?_⟩
        · rcases Nat.lt_or_ge w.heap.size wr.heap.size with h' | h'
          · exact h'
          · rw [Array.getElem?_eq_none h'] at hH'; cases hH'
        · rw [Lib.cell_of_heap hH', hy, Nat.zero_add]
          unfold Lib.byteCells
          rw [List.getElem?_toArray, List.getElem?_map]
          have hi' : i < (l ++ tail3.take 3).length := hi
          rw [List.getElem?_eq_getElem hi']
          rfl
      clear hH' hy
      have HRD := Lib.hid hrd
      clear hrd
      go_wp2_with fail
      go_ret
      exact ⟨rfl, HRD.out, hbel⟩
theorem lend_any (A : Option Addr) (n c : Nat) (l : List UInt8) (w : World) (hl : l.length = n) (h1 : n ≤ 1000000) (hr : Rd w w.heap.size A l) :
    Calls Try.prog 29 #[.slice A n c] w fun e w' => ∃ A', e = .returned (.slice A' n (n + 3)) ∧ Rd w' w'.heap.size A' (l ++ tail3) ∧ Below w.heap.size w w' :=
  (lendA_any A n c l w hl h1 hr).mono fun _ _ ⟨h1, h2, h3⟩ => ⟨_, h1, h2, h3⟩
end Go.Proofs.Ytclmnpfmodlnjaa
