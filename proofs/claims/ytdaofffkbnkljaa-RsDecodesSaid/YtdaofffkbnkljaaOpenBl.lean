/- An argument that is a slice of blobs, opened. -/
import Derived.Test.YtdaofffkbnkljaaOpen
import Derived.Test.YtdaofffkbnkljaaBlobs
import Derived.Deep.SlicePairs
namespace Go.Proofs.Ytdaofffkbnkljaa
open Go.ChangeShapes Go.WideShapes Go.ChangeAt Go.RowKit Go.Deep

set_option maxRecDepth 100000 in
theorem open_blobs {H : Type} {enc : TypeId × Value → H} {W : World} {r : Reach} {base : Nat} {v : Value} {d : DataW H} {p : List MemPlace} (hval : Value.okWide Try.prog W r base 31 v) (h : DataW.Trod enc Try.prog W 0 (fun _ => true) true 31 v d p) :
    ∃ A n c bs, v = .slice A n c ∧ bs.length = n ∧ n ≤ c ∧ c ≤ maxLen ∧ RdBl W W.heap.size A bs := by
  obtain ⟨a0, len, cap, rfl⟩ := okWide_slice Try.underlying31 hval
  obtain ⟨fuel, hf⟩ := h
  rcases open_slice_pairs Try.underlying31 Try.underlying33 (by kernel_rfl) rfl rfl (by kernel_rfl) (by kernel_rfl) hf with ⟨hcs, _⟩ | ⟨a, len', cap', m, n, V0, V1, D0, D1, P0, P1, hcs, _, hl, hm, hmm, _, hx⟩
  · simp [Value.cells] at hcs
    obtain ⟨rfl, rfl, rfl⟩ := hcs
    exact ⟨none, 0, 0, [], rfl, rfl, Nat.le_refl _, Nat.zero_le _, .inl rfl⟩
  · simp [Value.cells] at hcs hmm
    obtain ⟨rfl, rfl, rfl⟩ := hcs
    subst hmm
    have each : ∀ i, ∃ x : Int × List UInt8, i < m → V0 i = .int .i64 x.1 ∧ ∃ A c, V1 i = .slice A x.2.length c ∧ x.2.length ≤ c ∧ c ≤ maxLen ∧ Rd W W.heap.size A x.2 := by
      intro i
      by_cases hi : i < m
      · obtain ⟨_, _, h3, h4⟩ := hx i hi
        obtain ⟨q, hq⟩ : ∃ q, V0 i = .int .i64 q := by
          obtain ⟨q, e, _⟩ := DataW.trod_int Try.underlying3 h3
          exact ⟨q, by simpa using e⟩
        rcases open_ints Try.underlying22 Try.underlying5 cellsByte h4 with ⟨e, _⟩ | ⟨b, len2, cap2, zs, e, _, hl2, hm2, hz2, _, hcell, hwz⟩
        · simp at e
          exact ⟨(q, []), fun _ => ⟨hq, none, 0, e, Nat.le_refl _, Nat.zero_le _, .inl rfl⟩⟩
        · simp at e
          obtain ⟨l, e1, e2⟩ := rd_of_ints hcell hwz len2 (by simp at hz2; omega)
          exact ⟨(q, l), fun _ => ⟨hq, some b, cap2, by rw [e, e1], by rw [e1]; exact hl2, hm2, e2⟩⟩
      · exact ⟨(0, []), fun h => absurd h hi⟩
    obtain ⟨f, hf'⟩ := Classical.axiomOfChoice each
    refine ⟨some a, len, m, (List.range len).map f, rfl, by simp, hl, hm, ?_⟩
    rcases Nat.eq_zero_or_pos len with h0 | hp
    · subst h0; exact .inl rfl
    · obtain ⟨b, off, spot⟩ := a
      have hc0 := (hx 0 (by omega)).1
      have hspot : spot = none := by simpa [Addr.add] using World.cell?_spot hc0
      subst hspot
      refine .inr ⟨b, off, rfl, World.block_lt_of_cell? W _ hc0, fun i hi => ?_⟩
      have hi' : i < len := by simpa using hi
      obtain ⟨h1, h2, _, _⟩ := hx i (by omega)
      obtain ⟨e1, A, c, e2, e3, e4, e5⟩ := hf' i (by omega)
      rw [Go.WideShapes.add_plain] at h1 h2
      rw [e1] at h1
      rw [e2, ← Nat.add_assoc] at h2
      simp only [List.getElem_map, List.getElem_range]
      exact ⟨h1, A, c, h2, e3, e4, e5⟩
end Go.Proofs.Ytdaofffkbnkljaa
