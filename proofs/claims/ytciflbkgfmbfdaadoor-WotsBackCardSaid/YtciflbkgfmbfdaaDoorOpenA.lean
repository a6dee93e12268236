/- Arguments that are arrays of bytes, opened: they read as lists. -/
import Derived.Test.YtciflbkgfmbfdaaDoorOpen
import Derived.Test.YtciflbkgfmbfdaaDoorU8
namespace Go.Proofs.YtciflbkgfmbfdaaDoor
open Go.ChangeShapes Go.WideShapes Go.ChangeAt Go.RowKit Go.Deep

set_option maxRecDepth 100000 in
theorem open_array {H : Type} {enc : TypeId × Value → H} {W : World} {r : Reach} {base n : Nat} {T : TypeId} {v : Value} {d : DataW H} {p : List MemPlace} (hT : Tryd.prog.underlying T = some (.array n 5)) (hc : Tryd.prog.cellsOf T = n)
    (hval : Value.okWide Tryd.prog W r base T v) (h : DataW.Trod enc Tryd.prog W 0 (fun _ => true) true T v d p) :
    ∃ l : List UInt8, v = .agg (u8A l) ∧ l.length = n := by
  obtain ⟨cs, rfl, hsz⟩ : ∃ cs, v = .agg cs ∧ cs.size = Tryd.prog.cellsOf T := by
    unfold Value.okWide at hval
    rw [hT] at hval
    obtain ⟨cs, h1, h2, _⟩ := hval
    exact ⟨cs, h1, h2⟩
  rw [hc] at hsz
  obtain ⟨fuel, hf⟩ := h
  obtain ⟨xs, m, _, _, _, hl, hel⟩ := DataW.trod_array hT hf
  have each : ∀ i, ∃ b : UInt8, i < n → cs[i]? = some (.int .u8 (b.toNat : Int)) := by
    intro i
    by_cases hi : i < n
    · have h1 := hel i hi
      rw [cellsByte, Nat.mul_one, List.getElem?_eq_getElem (show i < xs.length by omega)] at h1
      obtain ⟨x, e, _, wf⟩ := DataW.trod_int Tryd.underlying5 h1
      have hb := bounds_u8 wf
      refine ⟨UInt8.ofNat x.toNat, fun _ => ?_⟩
      have h2 : (Value.agg cs).cells.toList[i]? = some (.int .u8 x) := by
        have := congrArg (fun l => l[0]?) e
        simpa [List.getElem?_take, List.getElem?_drop] using this
      rw [UInt8.toNat_ofNat_of_lt' (by simp; omega), show ((x.toNat : Nat) : Int) = x by omega]
      simpa [Value.cells] using h2
    · exact ⟨0, fun h => absurd h hi⟩
  obtain ⟨f, hf'⟩ := Classical.axiomOfChoice each
  refine ⟨(List.range n).map f, ?_, by simp⟩
  refine congrArg Value.agg ?_
  apply Array.ext_getElem?
  intro i
  by_cases hi : i < n
  · rw [hf' i hi]
    simp [u8A, Lib.byteCells, hi]
  · rw [Array.getElem?_eq_none (by omega), Array.getElem?_eq_none (by rw [u8A_size]; simp; omega)]
end Go.Proofs.YtciflbkgfmbfdaaDoor
