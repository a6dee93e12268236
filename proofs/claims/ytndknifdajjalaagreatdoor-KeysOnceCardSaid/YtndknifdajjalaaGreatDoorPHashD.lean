/- Whether two rows of bytes, two rows of rows, are one. Whether two hashes, two rows of hashes, are one. Whether two hashes are one. -/
import Derived.DeepKeys
import Derived.Test.YtndknifdajjalaaGreatDoorPU8
import Derived.Test.YtndknifdajjalaaGreatDoorPShaD
namespace Go.Proofs.YtndknifdajjalaaGreatDoor
open Go.RowKit

theorem infoByte : ∃ i, Tryz.prog.info? 5 = some i ∧ i.size = 1 := by
  have hz : (Tryz.prog.info? 5).map (·.size) = some 1 := by kernel_rfl
  cases hq : Tryz.prog.info? 5 with
  | none => simp [hq] at hz
  | some j => exact ⟨j, rfl, by simpa [hq] using hz⟩
theorem run_part_byte (W : World) (x : List UInt8) (i : Nat) (hi : i < x.length) : (part 5 (u8A x) i).run Tryz.prog W = .ok (.int .u8 (x[i].toNat : Int)) W := by
  have h3 : Tryz.prog.underlying 5 = some (.int .u8) := Tryz.underlying5
  have hv : (u8A x)[i]? = some (.int .u8 (x[i].toNat : Int)) := by simp [u8A, Lib.byteCells, hi]
  simp [part, isAgg, run_underlying h3, hv]
theorem run_items (W : World) (x y : List UInt8) (d : Nat) : ∀ is : List Nat, (∀ i ∈ is, i < x.length ∧ i < y.length) → (Op.eqItems (d + 1) 5 1 (u8A x) (u8A y) is).run Tryz.prog W = .ok (is.all fun i => x[i]? == y[i]?) W
  | [], _ => by simp [Op.eqItems]
  | i :: is, h => by
    obtain ⟨h1, h2⟩ := h i (List.mem_cons_self ..)
    have ih := run_items W x y d is (fun j hj => h j (List.mem_cons_of_mem _ hj))
    have he : ((x[i].toNat : Int) == (y[i].toNat : Int)) = (x[i]? == y[i]?) := by
      rw [List.getElem?_eq_getElem h1, List.getElem?_eq_getElem h2, Bool.eq_iff_iff]
      simp only [beq_iff_eq, Option.some.injEq]
      constructor
      · intro e; exact UInt8.toNat_inj.1 (by omega)
      · intro e; rw [e]
    simp only [Op.eqItems, Nat.mul_one, Sem.run_bind, run_part_byte W x i h1, run_part_byte W y i h2, Result.andThen_ok, run_equalIn_int W d 5 .u8 .u8 _ _ Tryz.underlying5, he, List.all_cons]
    cases hb : (x[i]? == y[i]?) with
    | false => simp
    | true => simpa using ih

theorem all_range (x y : List UInt8) (hx : x.length = 32) (hy : y.length = 32) : ((List.range 32).all fun i => x[i]? == y[i]?) = decide (x = y) := by
  rw [Bool.eq_iff_iff, List.all_eq_true, decide_eq_true_iff]
  constructor
  · intro h
    apply List.ext_getElem?
    intro i
    by_cases hi : i < 32
    · exact beq_iff_eq.1 (h i (List.mem_range.2 hi))
    · rw [List.getElem?_eq_none (by omega), List.getElem?_eq_none (by omega)]
  · rintro rfl i _
    simp
theorem run_hash_eq (W : World) (x y : List UInt8) (hx : x.length = 32) (hy : y.length = 32) : (Op.equalIn 10000 44 (.agg (u8A x)) (.agg (u8A y))).run Tryz.prog W = .ok (decide (x = y)) W := by
  obtain ⟨i, hi, _⟩ := infoByte
  rw [show (10000 : Nat) = 9999 + 1 from rfl, run_equalIn_array W 9999 (u8A x) (u8A y) Tryz.underlying44 hi, show Tryz.prog.cellsOf 5 = 1 from by kernel_rfl, run_items W x y 9998 _ (fun j hj => by have := List.mem_range.1 hj; omega), all_range x y hx hy]

end Go.Proofs.YtndknifdajjalaaGreatDoor
