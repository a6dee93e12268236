/- A signature handed in. -/
import Derived.Test.YtfgieebccjoboaaDoorMpC
namespace Go.Proofs.YtfgieebccjoboaaDoor
open Go.ChangeShapes Go.WideShapes Go.ChangeAt Go.RowKit Go.Deep

theorem open_hashesS {H : Type} {enc : TypeId × Value → H} {W : World} {v : Value} {d : DataW H} {p : List MemPlace} (hval : ∃ a0 len cap, v = .slice a0 len cap) (h : DataW.Trod enc Tryd.prog W 0 (fun _ => true) true 33 v d p) :
    ∃ A n c hs, v = .slice A n c ∧ hs.length = n ∧ n ≤ c ∧ c ≤ maxLen ∧ (∀ r ∈ hs, r.length = 32) ∧ RdH W W.heap.size A hs := by
  obtain ⟨a0, len, cap, rfl⟩ := hval
  obtain ⟨fuel, hf⟩ := h
  rcases open_slice Tryd.underlying33 hf with ⟨hcs, _⟩ | ⟨a, len', cap', m, n, D, Pl, hcs, _, hl, hm, hmm, _, hx⟩
  · simp [Value.cells] at hcs
    obtain ⟨rfl, rfl, rfl⟩ := hcs
    exact ⟨none, 0, 0, [], rfl, rfl, Nat.le_refl _, Nat.zero_le _, (fun r hr => by cases hr), .inl rfl⟩
  · simp [Value.cells] at hcs hmm
    obtain ⟨rfl, rfl, rfl⟩ := hcs
    subst hmm
    have each : ∀ i, ∃ x : List UInt8, i < m → x.length = 32 ∧ ∀ j u, (Lib.byteCells x)[j]? = some u → W.cell? ((a.add (i * 32)).add j) = some u := by
      intro i
      by_cases hi : i < m
      · obtain ⟨cs, h1, h2⟩ := hx i hi
        rw [cellsHash] at h1
        obtain ⟨_, hlen, hcell⟩ := World.cells?_some h1
        obtain ⟨l, rfl, hl2⟩ := array_cells Tryd.underlying29 hlen h2
        refine ⟨l, fun _ => ⟨hl2, fun j u hu => ?_⟩⟩
        have hj : j < 32 := by
          have := (List.getElem?_eq_some_iff.1 hu).1
          rw [Lib.byteCells_length] at this
          omega
        rw [hcell j hj]
        exact hu
      · exact ⟨[], fun h => absurd h hi⟩
    obtain ⟨f, hf'⟩ := Classical.axiomOfChoice each
    refine ⟨some a, len, m, (List.range len).map f, rfl, by simp, hl, hm, fun r hr => ?_, ?_⟩
    · obtain ⟨i, hi, rfl⟩ := List.mem_map.1 hr
      exact (hf' i (by have := List.mem_range.1 hi; omega)).1
    · rcases Nat.eq_zero_or_pos len with h0 | hp
      · subst h0; exact .inl rfl
      · obtain ⟨b, off, spot⟩ := a
        obtain ⟨hl0, hc0⟩ := hf' 0 (by omega)
        have hc1 := hc0 0 _ (List.getElem?_eq_getElem (show 0 < (Lib.byteCells (f 0)).length by rw [Lib.byteCells_length]; omega))
        have hspot : spot = none := by simpa [Addr.add] using World.cell?_spot hc1
        subst hspot
        refine .inr ⟨b, off, rfl, World.block_lt_of_cell? W _ hc1, fun i hi => ?_⟩
        have hi' : i < len := by simpa using hi
        intro j u hu
        have h := (hf' i (by omega)).2 j u (by simpa using hu)
        rw [Go.WideShapes.add_plain, Go.WideShapes.add_plain] at h
        exact h
theorem slice_of_trod {H : Type} {enc : TypeId × Value → H} {W : World} {n : Nat} {c : Value} {x : DataW H × List MemPlace} (h : DataW.trod enc Tryd.prog W 0 (fun _ => true) true n 33 [c] = some x) : ∃ a l k, c = .slice a l k := by
  rcases open_slice Tryd.underlying33 h with ⟨hcs, _⟩ | ⟨a, len', cap', m, n, D, Pl, hcs, _⟩
  · simp at hcs
    exact ⟨_, _, _, hcs⟩
  · simp at hcs
    exact ⟨_, _, _, hcs⟩
set_option maxRecDepth 100000 in
theorem open_sig {H : Type} {enc : TypeId × Value → H} {W : World} {r : Reach} {base : Nat} {v : Value} {d : DataW H} {p : List MemPlace} (hval : Value.okWide Tryd.prog W r base 35 v) (h : DataW.Trod enc Tryd.prog W 0 (fun _ => true) true 35 v d p) :
    ∃ sh sl V nv cv P np cp vs ps, v = .agg (sigA sh sl V P nv cv np cp) ∧ (-9223372036854775808 ≤ sh ∧ sh ≤ 9223372036854775807) ∧ (-9223372036854775808 ≤ sl ∧ sl ≤ 9223372036854775807) ∧ HV W (.slice V nv cv) vs ∧ vs.length = nv ∧ nv ≤ cv ∧ HV W (.slice P np cp) ps ∧ ps.length = np ∧ np ≤ cp := by
  obtain ⟨cs, rfl, hsz⟩ : ∃ cs, v = .agg cs ∧ cs.size = Tryd.prog.cellsOf 35 := by
    unfold Value.okWide at hval
    rw [Tryd.underlying35] at hval
    obtain ⟨cs, h1, h2, _⟩ := hval
    exact ⟨cs, h1, h2⟩
  have h4 : Tryd.prog.cellsOf 35 = 4 := by kernel_rfl
  rw [h4] at hsz
  obtain ⟨c0, c1, c2, c3, rfl⟩ : ∃ c0 c1 c2 c3, cs = #[c0, c1, c2, c3] := by
    obtain ⟨l⟩ := cs
    rcases l with _ | ⟨c0, _ | ⟨c1, _ | ⟨c2, _ | ⟨c3, _ | ⟨c4, l⟩⟩⟩⟩⟩
    · simp at hsz
    · simp at hsz
    · simp at hsz
    · simp at hsz
    · exact ⟨c0, c1, c2, c3, rfl⟩
    · simp at hsz
  obtain ⟨fuel, hf⟩ := h
  obtain ⟨xs, n, _, hx, hl, hlen, hall⟩ := DataW.trod_struct Tryd.underlying35 hf
  have e1 : Tryd.prog.cellsOf 3 = 1 := by kernel_rfl
  have e2 : Tryd.prog.cellsOf 33 = 1 := by kernel_rfl
  have k0 : DataW.trod enc Tryd.prog W 0 (fun _ => true) true n 3 [c0] = xs[0]? := by
    have h := hall 0 _ rfl
    change DataW.trod enc Tryd.prog W 0 (fun _ => true) true n 3 (List.take (Tryd.prog.cellsOf 3) (List.drop 0 [c0, c1, c2, c3])) = xs[0]? at h
    rw [e1] at h
    exact h
  have k1 : DataW.trod enc Tryd.prog W 0 (fun _ => true) true n 3 [c1] = xs[1]? := by
    have h := hall 1 _ rfl
    change DataW.trod enc Tryd.prog W 0 (fun _ => true) true n 3 (List.take (Tryd.prog.cellsOf 3) (List.drop 1 [c0, c1, c2, c3])) = xs[1]? at h
    rw [e1] at h
    exact h
  have k2 : DataW.trod enc Tryd.prog W 0 (fun _ => true) true n 33 [c2] = xs[2]? := by
    have h := hall 2 _ rfl
    change DataW.trod enc Tryd.prog W 0 (fun _ => true) true n 33 (List.take (Tryd.prog.cellsOf 33) (List.drop 2 [c0, c1, c2, c3])) = xs[2]? at h
    rw [e2] at h
    exact h
  have k3 : DataW.trod enc Tryd.prog W 0 (fun _ => true) true n 33 [c3] = xs[3]? := by
    have h := hall 3 _ rfl
    change DataW.trod enc Tryd.prog W 0 (fun _ => true) true n 33 (List.take (Tryd.prog.cellsOf 33) (List.drop 3 [c0, c1, c2, c3])) = xs[3]? at h
    rw [e2] at h
    exact h
  match xs, hlen with
  | [y0, y1, y2, y3], _ =>
    simp at k0 k1 k2 k3
    obtain ⟨sh, q0, w0⟩ := DataW.trod_int Tryd.underlying3 k0
    obtain ⟨sl, q1, w1⟩ := DataW.trod_int Tryd.underlying3 k1
    simp at q0 q1
    subst q0 q1
    obtain ⟨V, nv, cv, rfl⟩ := slice_of_trod k2
    obtain ⟨P, np, cp, rfl⟩ := slice_of_trod k3
    obtain ⟨V', nv', cv', vs, ev, a1, a2, _, a4, a5⟩ := open_hashesS (d := y2.1) (p := y2.2) ⟨_, _, _, rfl⟩ ⟨n, by simpa [Value.cells] using k2⟩
    obtain ⟨P', np', cp', ps, ep, b1, b2, _, b4, b5⟩ := open_hashesS (d := y3.1) (p := y3.2) ⟨_, _, _, rfl⟩ ⟨n, by simpa [Value.cells] using k3⟩
    injection ev with v1 v2 v3
    injection ep with p1 p2 p3
    subst v1 v2 v3 p1 p2 p3
    exact ⟨sh, sl, V, nv, cv, P, np, cp, vs, ps, rfl, bounds_i64 w0.2, bounds_i64 w1.2, ⟨a4, V, cv, by rw [a1], by rw [a1]; exact a2, a5⟩, a1, a2, ⟨b4, P, cp, by rw [b1], by rw [b1]; exact b2, b5⟩, b1, b2⟩
end Go.Proofs.YtfgieebccjoboaaDoor
