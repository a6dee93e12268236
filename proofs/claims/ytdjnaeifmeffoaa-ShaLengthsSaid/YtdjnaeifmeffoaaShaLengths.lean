/- ShaLengths: the program's SHA-256 is the document's at each length. For all numbers. -/
import Derived.Test.YtdjnaeifmeffoaaLaw
import Derived.Test.YtdjnaeifmeffoaaOpen
import Derived.Test.YtdjnaeifmeffoaaKeep
import Derived.Test.YtdjnaeifmeffoaaHashEq
import Derived.Test.YtdjnaeifmeffoaaRSum
namespace Go.Proofs.Ytdjnaeifmeffoaa.shaLengths
open Go.ChangeShapes Go.WideShapes Go.ChangeAt Go.RowKit

theorem wrap_byte (x : Int) : ∃ y : UInt8, x % 256 = (y.toNat : Int) := by
  refine ⟨UInt8.ofNat (x % 256).toNat, ?_⟩
  rw [UInt8.toNat_ofNat']
  have h1 := Int.emod_nonneg x (show (256 : Int) ≠ 0 by omega)
  have h2 := Int.emod_lt_of_pos x (show (0 : Int) < 256 by omega)
  omega

theorem set_bytes (l : List UInt8) (k : Nat) (y : UInt8) : ((Lib.byteCells l).toArray.setIfInBounds k (.int .u8 (y.toNat : Int))) = (Lib.byteCells (l.set k y)).toArray := by
  rw [List.setIfInBounds_toArray]
  unfold Lib.byteCells
  rw [List.map_set]

set_option maxRecDepth 100000 in
set_option maxHeartbeats 4000000 in
theorem walk (a c : Int) (w : World) (h0 : -9223372036854775808 ≤ a) (h1 : a ≤ 9223372036854775807) :
    Calls Try.prog 5 #[.int .i64 a, .int .u8 c] w fun e w' => e = .returned (.bool true) ∧ Below w.heap.size w w' := by
  obtain ⟨i0, hi, hz0, hz1, hz2⟩ := info_parts info5
  go_enter Try.func5, Try.ntmps5
  go_wp2_with fail
  refine (within_any a 200 _ h0 h1 (by omega)).mono ?_
  rintro e w' ⟨rfl, rfl⟩
  obtain ⟨q1, q2⟩ := withinI_range a 200 (by omega)
  obtain ⟨M, hM⟩ : ∃ M : Nat, withinI a 200 = (M : Int) := ⟨(withinI a 200).toNat, by omega⟩
  rw [hM] at q1 q2 ⊢
  have hM2 : M < 200 := by omega
  clear hM q1 q2 h0 h1
  have hmk := fun W => run_make (P := Try.prog) W 22 5 i0 (.int .u8 0) Try.underlying22 hi hz0 .i64 .i64 (M : Int) (M : Int) (by omega) (by omega) (by rw [hz2]; omega) (by omega)
  go_wp2_with fail
  clear hmk hi hz0 hz1 hz2
  have hz : (madeCells #[Value.int IntKind.u8 0] M) = (Lib.byteCells (List.replicate M 0)).toArray := by
    apply Array.toList_inj.mp
    rw [toList_madeCells_one]
    unfold Lib.byteCells
    rw [List.map_replicate]
    rfl
  rw [hz]
  obtain ⟨bs0, hbs0⟩ : ∃ x : List UInt8, List.replicate M 0 = x := ⟨_, rfl⟩
  have hl0 : bs0.length = M := by rw [← hbs0]; simp
  rw [hbs0]
  have hb0 : Below w.heap.size w (w.alloc (.cells (Lib.byteCells bs0).toArray 5)) := (Below.refl _ _).alloc (Nat.le_refl _) _
  have hH0 : (w.alloc (.cells (Lib.byteCells bs0).toArray 5)).heap[w.heap.size]? = some (.cells (Lib.byteCells bs0).toArray 5 (0, 0)) := heap_alloc_new _ _
  generalize w.alloc (.cells (Lib.byteCells bs0).toArray 5) = w0 at hb0 hH0 ⊢
  have HH0 := Lib.hid hH0
  have HL0 := Lib.hid hl0
  clear hz hbs0 hl0 hH0
  go_loopw [12] (fun i wr => ∃ (k : Nat) (bs : List UInt8), k ≤ M ∧ i = .int .i64 (k : Int) ∧ Hid (wr.heap[w.heap.size]? = some (.cells (Lib.byteCells bs).toArray 5 (0, 0))) ∧ Hid (bs.length = M) ∧ Below w.heap.size w wr) (fun i _ => M - (intOf i).toNat)
  case atStart => exact ⟨0, bs0, by omega, rfl, HH0, HL0, hb0⟩
  case round =>
    obtain ⟨k, bs, hk, rfl, hH, hBL, hbel⟩ := hrel
    clear HH0 HL0 hb0
    by_cases hlt : k < M
    · have hlt' : (k : Int) < (M : Int) := by omega
      obtain ⟨y, hy⟩ := wrap_byte (c + (k : Int))
      have hc := Lib.cell_of_heap hH.out k
      rw [List.getElem?_toArray, List.getElem?_eq_getElem (by rw [Lib.byteCells_length, hBL.out]; omega)] at hc
      have hf := Lib.frozen_of_heap hH.out k
      have HS := Lib.hid (heap_setCell_same _ w.heap.size k _ _ (.int .u8 (y.toNat : Int)) hH.out)
      have HY := Lib.hid hy
      rw [set_bytes] at HS
      clear hy
      go_wp2_with fail
      rw [HY.out]
      go_roundw
      case rel => exact ⟨k + 1, bs.set k y, by omega, by go_num, HS, Lib.hid (by rw [List.length_set]; exact hBL.out), hbel.setCell (Nat.le_refl _) _⟩
      case measure => simp [intOf]; omega
    · obtain rfl : k = M := by omega
      have hge : ¬ (k : Int) < (k : Int) := by omega
      have hrd : Rd wr wr.heap.size (some ⟨w.heap.size, 0, none⟩) bs := by
        have hH' := hH.out
        refine .inr ⟨w.heap.size, 0, rfl, ?_, fun i hi => ?_⟩
        · rcases Nat.lt_or_ge w.heap.size wr.heap.size with h' | h'
          · exact h'
          · rw [Array.getElem?_eq_none h'] at hH'; cases hH'
        · rw [Lib.cell_of_heap hH', Nat.zero_add]
          unfold Lib.byteCells
          rw [List.getElem?_toArray, List.getElem?_map, List.getElem?_eq_getElem hi]
          rfl
      have HR := Lib.hid hrd
      clear hrd hH hge
      go_wp2_with fail
      refine (sum_any _ k k bs _ hBL.out (Nat.le_refl _) (by omega) HR.out).mono ?_
      rintro e w2 ⟨rfl, hb2⟩
      have hb02 := Below.then hbel hb2
      have HR2 := Lib.hid (HR.out.on hb2)
      clear HR hbel hb2
      have heq := fun W => run_hash_same W bs
      obtain ⟨fin, hfe⟩ : ∃ x, u8A (shaL bs) = x := ⟨_, rfl⟩
      rw [hfe] at heq ⊢
      have HFE := Lib.hid hfe
      clear hfe
      go_wp2_with fail
      refine (rsum_any _ k k bs _ hBL.out (by omega) HR2.out).mono ?_
      rintro e w3 ⟨rfl, hb3⟩
      rw [HFE.out]
      have hb03 := Below.then hb02 hb3
      clear HR2 hb02 hb3
      go_wp2_with fail
      refine (wakes2_any _).mono ?_
      rintro e w5 ⟨rfl, hb5⟩
      have hb05 := Below.then hb03 hb5
      clear hb5 hb03 heq
      go_wp2_with fail
      go_ret
      exact ⟨rfl, hb05⟩

theorem contract (H : Type) (enc : TypeId × Value → H) (W : World) (base : Nat) (args : Array Value) (ds gs : List (DataW H)) (before : List MemPlace)
    (hval : ∀ (j : Nat) t v, Try.f5.params[j]? = some t → args[j]? = some v → Value.okWide Try.prog W .any base t v)
    (hW : DataW.Whole enc Try.prog Try.f5.params.toList Rows.shaLengthsSpec.vars false W args.toList ds gs before) :
    Calls Try.prog 5 args W fun e W' => ∃ v, e = .returned v ∧ Rows.shaLengthsSpec.post enc Try.prog Try.f5 false true false false W args v W' := by
  have hW' := hW
  obtain ⟨p, q, hA0, hV, rfl, hfz, hnd⟩ := hW
  have hA : DataW.TrodAll enc Try.prog W 0 (fun _ => true) true Try.f5.params.toList args.toList ds p := hA0
  rw [Try.params5] at hA hval
  obtain ⟨v0, v1, d0, d1, p0, p1, rfl, rfl, rfl, h0, h1⟩ := trodAll_two hA
  obtain ⟨rfl, rfl⟩ := trodVars_none hV
  obtain ⟨n0, rfl, rfl, rfl, wf0⟩ := open_int Try.underlying3 (hval 0 3 v0 rfl rfl) h0
  have b0 := bounds_i64 wf0
  obtain ⟨n1, rfl, rfl, rfl, wf1⟩ := open_int Try.underlying5 (hval 1 5 v1 rfl rfl) h1
  have b1 := bounds_u8 wf1
  clear hA0
  refine (walk n0 n1 W b0.1 b0.2).mono fun e W' ⟨he, hb⟩ => ?_
  exact ⟨_, he, law_post hW' rfl (by kernel_rfl) rfl (by kernel_rfl) hb⟩

set_option maxRecDepth 100000 in
theorem lifted (os : Os) (started : os.Started) (H : Type) (enc : TypeId × Value → H) :
    ReturnsInHanded {} Try.checked os 5 .any (Rows.shaLengthsSpec.pre6 enc Try.prog Try.f5 Rows.shaLengthsRow.domain false) (Rows.shaLengthsSpec.post enc Try.prog Try.f5 false true false false) := by
  refine returnsInHanded_of_change (C := Try.checked) own started (by kernel_rfl) Try.func5
    (ChangeSpec.witness6 (enc := enc) (C := Try.checked) false ⟨#[], #[.int .i64 0, .int .u8 0], []⟩ 8 (by kernel_rfl) (by kernel_rfl) (by kernel_rfl) (by kernel_rfl)) ?_
  intro W base args ds gs before hval0 hW _ _
  have hval : ∀ (j : Nat) t v, Try.f5.params[j]? = some t → args[j]? = some v → Value.okWide Try.prog W .any base t v := hval0
  exact contract H enc W base args ds gs before hval hW

/-- The statement. -/
theorem card : Rows.ShaLengthsSaid :=
  OpenClaim.holds_of_wide 5 Try.f5 rfl rfl rfl rfl rfl rfl rfl ⟨rfl, rfl, rfl, rfl, rfl⟩ rfl rfl rfl rfl rfl (by kernel_rfl) Try.func5 (by kernel_rfl)
    (of_decide_eq_true (by kernel_rfl)) (by unfold Func.isWrapper; first | (rw [if_pos (by decide +kernel)]; kernel_rfl) | (rw [if_neg (by decide +kernel)]; exact ⟨rfl, rfl⟩))
    (fun os started H enc _ => lifted os started H enc)
end Go.Proofs.Ytdjnaeifmeffoaa.shaLengths
