/- Arguments that are byte slices, or slices of them, opened: they read as lists. -/
import Derived.Test.YtciflbkgfmbfdaaDoorProg
import Derived.Test.YtciflbkgfmbfdaaDoorRowsMem
import Derived.ProofKit
import Derived.OpenShut
import Derived.Deep.Matrix
namespace Go.Proofs.YtciflbkgfmbfdaaDoor
open Go.ChangeShapes Go.WideShapes Go.ChangeAt Go.RowKit Go.Deep

theorem cellsByte : Tryd.prog.cellsOf 5 = 1 := by kernel_rfl
theorem cellsSlice : Tryd.prog.cellsOf 24 = 1 := by kernel_rfl

/-- Cells of bytes, as numbers, read as a list of bytes. -/
theorem rd_of_ints {W : World} {a : Addr} {zs : List Int} (hcell : ∀ i, i < zs.length → W.cell? (a.add i) = some (.int .u8 (zs.getD i 0))) (hwf : ∀ n ∈ zs, (Lit.int .u8 n).wf = true) (n : Nat) (hn : n ≤ zs.length) :
    ∃ l : List UInt8, l.length = n ∧ Rd W W.heap.size (some a) l := by
  rcases Nat.eq_zero_or_pos n with rfl | hp
  · exact ⟨[], rfl, .inl rfl⟩
  · obtain ⟨b, off, rfl, hc⟩ := ints_at hcell (by omega)
    refine ⟨(zs.take n).map fun z => UInt8.ofNat z.toNat, by simp; omega, .inr ⟨b, off, rfl, World.block_lt_of_cell? W _ (hc 0 (by omega)), fun i hi => ?_⟩⟩
    have hi' : i < n := by simp at hi; omega
    rw [hc i (by omega)]
    have hb := bounds_u8 (hwf (zs.getD i 0) (by rw [List.getD_eq_getElem?_getD, List.getElem?_eq_getElem (by omega)]; exact List.getElem_mem _))
    simp only [List.getElem_map, List.getElem_take]
    rw [List.getD_eq_getElem?_getD, List.getElem?_eq_getElem (by omega)] at hb ⊢
    simp only [Option.getD_some] at hb ⊢
    rw [UInt8.toNat_ofNat_of_lt' (by simp; omega)]
    congr 2
    omega

set_option maxRecDepth 100000 in
theorem open_bytes {H : Type} {enc : TypeId × Value → H} {W : World} {r : Reach} {base : Nat} {v : Value} {d : DataW H} {p : List MemPlace} (hval : Value.okWide Tryd.prog W r base 24 v) (h : DataW.Trod enc Tryd.prog W 0 (fun _ => true) true 24 v d p) :
    ∃ A n c l, v = .slice A n c ∧ l.length = n ∧ n ≤ c ∧ c ≤ maxLen ∧ Rd W W.heap.size A l := by
  obtain ⟨a0, len, cap, rfl⟩ := okWide_slice Tryd.underlying24 hval
  obtain ⟨fuel, hf⟩ := h
  rcases open_ints Tryd.underlying24 Tryd.underlying5 cellsByte hf with ⟨hcs, _⟩ | ⟨a, len', cap', zs, hcs, _, hl, hm, hz, _, hcell, hwz⟩
  · simp [Value.cells] at hcs
    obtain ⟨rfl, rfl, rfl⟩ := hcs
    exact ⟨none, 0, 0, [], rfl, rfl, Nat.le_refl _, Nat.zero_le _, .inl rfl⟩
  · simp [Value.cells] at hcs
    obtain ⟨rfl, rfl, rfl⟩ := hcs
    obtain ⟨l, h1, h2⟩ := rd_of_ints hcell hwz len (by simp at hz; omega)
    exact ⟨some a, len, cap, l, rfl, h1, hl, hm, h2⟩

set_option maxRecDepth 100000 in
theorem open_rows {H : Type} {enc : TypeId × Value → H} {W : World} {r : Reach} {base : Nat} {v : Value} {d : DataW H} {p : List MemPlace} (hval : Value.okWide Tryd.prog W r base 62 v) (h : DataW.Trod enc Tryd.prog W 0 (fun _ => true) true 62 v d p) :
    ∃ A n c ls, v = .slice A n c ∧ ls.length = n ∧ n ≤ c ∧ c ≤ maxLen ∧ RdR W W.heap.size A ls := by
  obtain ⟨a0, len, cap, rfl⟩ := okWide_slice Tryd.underlying62 hval
  obtain ⟨fuel, hf⟩ := h
  rcases open_int_rows Tryd.underlying62 Tryd.underlying24 Tryd.underlying5 cellsSlice cellsByte hf with ⟨hcs, _⟩ | ⟨a, len', cap', A, L, C, Z, hcs, _, hl, hm, _, hx⟩
  · simp [Value.cells] at hcs
    obtain ⟨rfl, rfl, rfl⟩ := hcs
    exact ⟨none, 0, 0, [], rfl, rfl, Nat.le_refl _, Nat.zero_le _, .inl rfl⟩
  · simp [Value.cells] at hcs
    obtain ⟨rfl, rfl, rfl⟩ := hcs
    have each : ∀ i, ∃ l : List UInt8, i < cap → l.length = L i ∧ Rd W W.heap.size (A i) l := by
      intro i
      by_cases hi : i < cap
      · obtain ⟨h1, h2, h3, h4, h5, h6, h7⟩ := hx i hi
        cases hA : A i with
        | none =>
          have := h6 hA
          exact ⟨[], fun _ => ⟨by simp; omega, .inl rfl⟩⟩
        | some a' =>
          obtain ⟨l, e1, e2⟩ := rd_of_ints (zs := Z i) (fun c hc => (h7 a' hA).2 c (by omega)) h5 (L i) (by omega)
          exact ⟨l, fun _ => ⟨e1, e2⟩⟩
      · exact ⟨[], fun h => absurd h hi⟩
    obtain ⟨f, hf'⟩ := Classical.axiomOfChoice each
    refine ⟨some a, len, cap, (List.range len).map f, rfl, by simp, hl, hm, ?_⟩
    rcases Nat.eq_zero_or_pos len with h0 | hp
    · subst h0; exact .inl rfl
    · obtain ⟨b, off, spot⟩ := a
      have hc0 := (hx 0 (by omega)).1
      have hspot : spot = none := by simpa [Addr.add] using World.cell?_spot hc0
      subst hspot
      refine .inr ⟨b, off, rfl, World.block_lt_of_cell? W _ hc0, fun i hi => ?_⟩
      have hi' : i < len := by simpa using hi
      obtain ⟨h1, h2, h3, _⟩ := hx i (by omega)
      obtain ⟨e1, e2⟩ := hf' i (by omega)
      refine ⟨A i, C i, ?_, ?_, h3, ?_⟩
      · rw [← Go.WideShapes.add_plain, h1]
        simp [e1]
      · simp [e1]; exact h2
      · simpa using e2
end Go.Proofs.YtciflbkgfmbfdaaDoor
