/- Whether two rows of bytes, two rows of rows, are one. Whether two hashes, two rows of hashes, are one. Whether two hashes are one. -/
import Derived.Test.YtkkokngdhhakdaaDoorU8
import Derived.DeepKeys
import Derived.Test.YtkkokngdhhakdaaDoorShaD
namespace Go.Proofs.YtkkokngdhhakdaaDoor
open Go.RowKit

theorem infoByte : ∃ i, Tryd.prog.info? 5 = some i ∧ i.size = 1 := by
  have hz : (Tryd.prog.info? 5).map (·.size) = some 1 := by kernel_rfl
  cases hq : Tryd.prog.info? 5 with
  | none => simp [hq] at hz
  | some j => exact ⟨j, rfl, by simpa [hq] using hz⟩
theorem run_part_byte (W : World) (x : List UInt8) (i : Nat) (hi : i < x.length) : (part 5 (u8A x) i).run Tryd.prog W = .ok (.int .u8 (x[i].toNat : Int)) W := by
  have h3 : Tryd.prog.underlying 5 = some (.int .u8) := Tryd.underlying5
  have hv : (u8A x)[i]? = some (.int .u8 (x[i].toNat : Int)) := by simp [u8A, Lib.byteCells, hi]
  simp [part, isAgg, run_underlying h3, hv]
theorem run_items (W : World) (x y : List UInt8) (d : Nat) : ∀ is : List Nat, (∀ i ∈ is, i < x.length ∧ i < y.length) → (Op.eqItems (d + 1) 5 1 (u8A x) (u8A y) is).run Tryd.prog W = .ok (is.all fun i => x[i]? == y[i]?) W
  | [], _ => by simp [Op.eqItems]
  | i :: is, h => by
    obtain ⟨h1, h2⟩ := h i (List.mem_cons_self ..)
    have ih := run_items W x y d is (fun j hj => h j (List.mem_cons_of_mem _ hj))
    have he : ((x[i].toNat : Int) == (y[i].toNat : Int)) = (x[i]? == y[i]?) := by
      rw [List.getElem?_eq_getElem h1, List.getElem?_eq_getElem h2, Bool.eq_iff_iff]
      simp only [beq_iff_eq, Option.some.injEq]
      constructor
      · intro e; exact UInt8.toNat_inj.1 (by omega)
      · intro e; rw [e]
    simp only [Op.eqItems, Nat.mul_one, Sem.run_bind, run_part_byte W x i h1, run_part_byte W y i h2, Result.andThen_ok, run_equalIn_int W d 5 .u8 .u8 _ _ Tryd.underlying5, he, List.all_cons]
    cases hb : (x[i]? == y[i]?) with
    | false => simp
    | true => simpa using ih
theorem all_upto (n : Nat) (x y : List UInt8) (hx : x.length = n) (hy : y.length = n) : ((List.range n).all fun i => x[i]? == y[i]?) = decide (x = y) := by
  rw [Bool.eq_iff_iff, List.all_eq_true, decide_eq_true_iff]
  constructor
  · intro h
    apply List.ext_getElem?
    intro i
    by_cases hi : i < n
    · exact beq_iff_eq.1 (h i (List.mem_range.2 hi))
    · rw [List.getElem?_eq_none (by omega), List.getElem?_eq_none (by omega)]
  · rintro rfl i _
    simp
theorem run_b16_eq (d : Nat) (W : World) (x y : List UInt8) (hx : x.length = 16) (hy : y.length = 16) : (Op.equalIn (d + 2) 22 (.agg (u8A x)) (.agg (u8A y))).run Tryd.prog W = .ok (decide (x = y)) W := by
  obtain ⟨i, hi, _⟩ := infoByte
  rw [run_equalIn_array W (d + 1) (u8A x) (u8A y) Tryd.underlying22 hi, show Tryd.prog.cellsOf 5 = 1 from by kernel_rfl, run_items W x y d _ (fun j hj => by have := List.mem_range.1 hj; omega), all_upto 16 x y hx hy]
theorem u8A_cut (x : List UInt8) (o n : Nat) : (u8A x).extract o (o + n) = u8A ((x.drop o).take n) := by
  apply Array.ext'
  simp [u8A, Lib.byteCells, List.map_take, List.map_drop]
theorem infoRow : ∃ i, Tryd.prog.info? 22 = some i ∧ i.size = 16 := by
  have hz : (Tryd.prog.info? 22).map (·.size) = some 16 := by kernel_rfl
  cases hq : Tryd.prog.info? 22 with
  | none => simp [hq] at hz
  | some j => exact ⟨j, rfl, by simpa [hq] using hz⟩
theorem run_part_row (W : World) (x : List UInt8) (o : Nat) : (part 22 (u8A x) o).run Tryd.prog W = .ok (.agg (u8A ((x.drop o).take 16))) W := by
  have hs2 : (sizeOf 22).run Tryd.prog W = .ok 16 W := by
    obtain ⟨j, hq, _⟩ := infoRow
    rw [run_sizeOf W hq, show Tryd.prog.cellsOf 22 = 16 from by kernel_rfl]
  simp only [part, isAgg, Sem.run_bind, run_underlying Tryd.underlying22, Result.andThen_ok, Sem.run_pure, if_true, hs2, u8A_cut]
theorem run_row_items (W : World) (x y : List UInt8) (d n : Nat) (hx : x.length = 16 * n) (hy : y.length = 16 * n) : ∀ is : List Nat, (∀ i ∈ is, i < n) → (Op.eqItems (d + 2) 22 16 (u8A x) (u8A y) is).run Tryd.prog W = .ok (is.all fun i => decide ((x.drop (i * 16)).take 16 = (y.drop (i * 16)).take 16)) W
  | [], _ => by simp [Op.eqItems]
  | i :: is, h => by
    have h1 := h i (List.mem_cons_self ..)
    have ih := run_row_items W x y d n hx hy is (fun j hj => h j (List.mem_cons_of_mem _ hj))
    simp only [Op.eqItems, Sem.run_bind, run_part_row, Result.andThen_ok, run_b16_eq d W _ _ (show ((x.drop (i * 16)).take 16).length = 16 by rw [List.length_take, List.length_drop]; omega) (show ((y.drop (i * 16)).take 16).length = 16 by rw [List.length_take, List.length_drop]; omega), List.all_cons]
    cases hb : decide ((x.drop (i * 16)).take 16 = (y.drop (i * 16)).take 16) with
    | false => simp
    | true => simpa using ih
theorem all_rows (n : Nat) (x y : List UInt8) (hx : x.length = 16 * n) (hy : y.length = 16 * n) : ((List.range n).all fun i => decide ((x.drop (i * 16)).take 16 = (y.drop (i * 16)).take 16)) = decide (x = y) := by
  rw [Bool.eq_iff_iff, List.all_eq_true, decide_eq_true_iff]
  constructor
  · intro h
    apply List.ext_getElem?
    intro j
    by_cases hj : j < 16 * n
    · have h1 := of_decide_eq_true (h (j / 16) (List.mem_range.2 (by omega)))
      have h2 : ((x.drop (j / 16 * 16)).take 16)[j % 16]? = ((y.drop (j / 16 * 16)).take 16)[j % 16]? := by rw [h1]
      rw [List.getElem?_take, List.getElem?_take, if_pos (Nat.mod_lt _ (by decide)), if_pos (Nat.mod_lt _ (by decide)), List.getElem?_drop, List.getElem?_drop] at h2
      rwa [show j / 16 * 16 + j % 16 = j by omega] at h2
    · rw [List.getElem?_eq_none (by omega), List.getElem?_eq_none (by omega)]
  · rintro rfl i _
    simp
theorem run_b16_10000 (W : World) (x y : List UInt8) (hx : x.length = 16) (hy : y.length = 16) : (Op.equalIn 10000 22 (.agg (u8A x)) (.agg (u8A y))).run Tryd.prog W = .ok (decide (x = y)) W := run_b16_eq 9998 W x y hx hy
end Go.Proofs.YtkkokngdhhakdaaDoor
namespace Go.Proofs.YtkkokngdhhakdaaDoor
open Go.RowKit

theorem all_range (x y : List UInt8) (hx : x.length = 32) (hy : y.length = 32) : ((List.range 32).all fun i => x[i]? == y[i]?) = decide (x = y) := by
  rw [Bool.eq_iff_iff, List.all_eq_true, decide_eq_true_iff]
  constructor
  · intro h
    apply List.ext_getElem?
    intro i
    by_cases hi : i < 32
    · exact beq_iff_eq.1 (h i (List.mem_range.2 hi))
    · rw [List.getElem?_eq_none (by omega), List.getElem?_eq_none (by omega)]
  · rintro rfl i _
    simp
theorem run_hash_eq (W : World) (x y : List UInt8) (hx : x.length = 32) (hy : y.length = 32) : (Op.equalIn 10000 25 (.agg (u8A x)) (.agg (u8A y))).run Tryd.prog W = .ok (decide (x = y)) W := by
  obtain ⟨i, hi, _⟩ := infoByte
  rw [show (10000 : Nat) = 9999 + 1 from rfl, run_equalIn_array W 9999 (u8A x) (u8A y) Tryd.underlying25 hi, show Tryd.prog.cellsOf 5 = 1 from by kernel_rfl, run_items W x y 9998 _ (fun j hj => by have := List.mem_range.1 hj; omega), all_range x y hx hy]
end Go.Proofs.YtkkokngdhhakdaaDoor
namespace Go.Proofs.YtkkokngdhhakdaaDoor
open Go.RowKit

theorem shaL_len (l : List UInt8) : (shaL l).length = 32 := outTo_len _ 8 (by omega)
theorem run_hash_same (W : World) (l : List UInt8) : (Op.equalIn 10000 25 (.agg (u8A (shaL l))) (.agg (u8A (shaL l)))).run Tryd.prog W = .ok true W := by
  rw [run_hash_eq W _ _ (shaL_len l) (shaL_len l), decide_eq_true rfl]
end Go.Proofs.YtkkokngdhhakdaaDoor
