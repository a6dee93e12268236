/- An argument that is a list of a keystore's calls, opened. -/
import Derived.ChangeArms
import Derived.Test.YtndknifdajjalaaGreatDoorPU8
namespace Go.Proofs.YtndknifdajjalaaGreatDoor
open Go.ChangeShapes Go.WideShapes Go.ChangeAt Go.RowKit Go.Deep

structure Act12 where
  what : Int
  at_ : Int
  keep : Int
  B : List UInt8
def Act12.ok (a : Act12) : Prop := (-9223372036854775808 ≤ a.what ∧ a.what ≤ 9223372036854775807) ∧ -9223372036854775808 ≤ a.at_ ∧ a.at_ ≤ 9223372036854775807
/-- The call lies in block b from offset o on; its bytes lie below block Bd. -/
def ActKy (w : World) (Bd b o : Nat) (a : Act12) : Prop :=
  w.cell? ⟨b, o, none⟩ = some (.int .i64 a.what) ∧ w.cell? ⟨b, o + 1, none⟩ = some (.int .i64 a.at_) ∧ w.cell? ⟨b, o + 2, none⟩ = some (.int .i64 a.keep) ∧
  ∃ A' c, w.cell? ⟨b, o + 3, none⟩ = some (.slice A' a.B.length c) ∧ a.B.length ≤ c ∧ c ≤ maxLen ∧ Rd w Bd A' a.B
def RdAk (w : World) (Bd : Nat) (A : Option Addr) (l : List Act12) : Prop := l = [] ∨ ∃ b off, A = some ⟨b, off, none⟩ ∧ b < Bd ∧ ∀ i (h : i < l.length), ActKy w Bd b (off + i * 4) l[i]
theorem RdAk.keep {w w' : World} {B : Nat} {A : Option Addr} {l : List Act12} (h : RdAk w B A l) (hk : ∀ p : Addr, p.block < B → w'.cell? p = w.cell? p) : RdAk w' B A l := by
  rcases h with rfl | ⟨b, off, rfl, hb, hc⟩
  · exact .inl rfl
  · refine .inr ⟨b, off, rfl, hb, fun i hi => ?_⟩
    obtain ⟨h0, h1, h2, A', c, h4, h5, h6, h7⟩ := hc i hi
    exact ⟨(hk _ hb).trans h0, (hk _ hb).trans h1, (hk _ hb).trans h2, A', c, (hk _ hb).trans h4, h5, h6, h7.keep hk⟩
theorem cellsActK : Tryz.prog.cellsOf 62 = 4 := by kernel_rfl
theorem bytes_trod {H : Type} {enc : TypeId × Value → H} {W : World} {n : Nat} {c : Value} {x : DataW H × List MemPlace} (h : DataW.trod enc Tryz.prog W 0 (fun _ => true) true n 35 [c] = some x) :
    ∃ A m k l, c = .slice A m k ∧ l.length = m ∧ m ≤ k ∧ k ≤ maxLen ∧ Rd W W.heap.size A l := by
  rcases open_ints Tryz.underlying35 Tryz.underlying5 cellsByte h with ⟨e, _⟩ | ⟨b, len2, cap2, zs, e, _, hl2, hm2, hz2, _, hcell, hwz⟩
  · simp at e
    exact ⟨none, 0, 0, [], e, rfl, Nat.le_refl _, Nat.zero_le _, .inl rfl⟩
  · simp at e
    obtain ⟨l, e1, e2⟩ := rd_of_ints hcell hwz len2 (by simp at hz2; omega)
    exact ⟨some b, len2, cap2, l, e, e1, hl2, hm2, e2⟩
set_option maxRecDepth 100000 in
theorem actK_trod {H : Type} {enc : TypeId × Value → H} {W : World} {n : Nat} {cs : List Value} {x : DataW H × List MemPlace} (hl : cs.length = 4) (hf : DataW.trod enc Tryz.prog W 0 (fun _ => true) true n 62 cs = some x) :
    ∃ (a : Act12) (A : Option Addr) (c : Nat), cs = [.int .i64 a.what, .int .i64 a.at_, .int .i64 a.keep, .slice A a.B.length c] ∧ a.ok ∧ a.B.length ≤ c ∧ c ≤ maxLen ∧ Rd W W.heap.size A a.B := by
  obtain ⟨c0, c1, c2, c3, rfl⟩ : ∃ c0 c1 c2 c3, cs = [c0, c1, c2, c3] := by
    rcases cs with _ | ⟨c0, _ | ⟨c1, _ | ⟨c2, _ | ⟨c3, _ | ⟨c5, l⟩⟩⟩⟩⟩ <;> simp at hl
    exact ⟨c0, c1, c2, c3, rfl⟩
  obtain ⟨xs, n', _, hx, hl', hlen, hall⟩ := DataW.trod_struct Tryz.underlying62 hf
  have e1 : Tryz.prog.cellsOf 3 = 1 := by kernel_rfl
  have k0 : DataW.trod enc Tryz.prog W 0 (fun _ => true) true n' 3 [c0] = xs[0]? := by
    have h := hall 0 _ rfl
    change DataW.trod enc Tryz.prog W 0 (fun _ => true) true n' 3 (List.take (Tryz.prog.cellsOf 3) (List.drop 0 [c0, c1, c2, c3])) = xs[0]? at h
    rw [e1] at h
    exact h
  have k1 : DataW.trod enc Tryz.prog W 0 (fun _ => true) true n' 3 [c1] = xs[1]? := by
    have h := hall 1 _ rfl
    change DataW.trod enc Tryz.prog W 0 (fun _ => true) true n' 3 (List.take (Tryz.prog.cellsOf 3) (List.drop 1 [c0, c1, c2, c3])) = xs[1]? at h
    rw [e1] at h
    exact h
  have k2 : DataW.trod enc Tryz.prog W 0 (fun _ => true) true n' 3 [c2] = xs[2]? := by
    have h := hall 2 _ rfl
    change DataW.trod enc Tryz.prog W 0 (fun _ => true) true n' 3 (List.take (Tryz.prog.cellsOf 3) (List.drop 2 [c0, c1, c2, c3])) = xs[2]? at h
    rw [e1] at h
    exact h
  have k3 : DataW.trod enc Tryz.prog W 0 (fun _ => true) true n' 35 [c3] = xs[3]? := by
    have h := hall 3 _ rfl
    change DataW.trod enc Tryz.prog W 0 (fun _ => true) true n' 35 (List.take (Tryz.prog.cellsOf 35) (List.drop 3 [c0, c1, c2, c3])) = xs[3]? at h
    rw [cellsSlice] at h
    exact h
  match xs, hlen with
  | [y0, y1, y2, y3], _ =>
    simp at k0 k1 k2 k3
    obtain ⟨z0, q0, w0⟩ := DataW.trod_int Tryz.underlying3 k0
    obtain ⟨z1, q1, w1⟩ := DataW.trod_int Tryz.underlying3 k1
    obtain ⟨z2, q2, w2⟩ := DataW.trod_int Tryz.underlying3 k2
    simp at q0 q1 q2
    subst q0 q1 q2
    obtain ⟨A, m, k, l, rfl, rfl, h1, h2, h3⟩ := bytes_trod k3
    exact ⟨⟨z0, z1, z2, l⟩, A, k, rfl, ⟨bounds_i64 w0.2, bounds_i64 w1.2⟩, h1, h2, h3⟩
set_option maxRecDepth 100000 in
theorem open_signs {H : Type} {enc : TypeId × Value → H} {W : World} {r : Reach} {base : Nat} {v : Value} {d : DataW H} {p : List MemPlace} (hval : Value.okWide Tryz.prog W r base 49 v) (h : DataW.Trod enc Tryz.prog W 0 (fun _ => true) true 49 v d p) :
    ∃ A n c ls, v = .slice A n c ∧ ls.length = n ∧ n ≤ c ∧ c ≤ maxLen ∧ (∀ a ∈ ls, a.ok) ∧ RdAk W W.heap.size A ls := by
  obtain ⟨a0, len, cap, rfl⟩ := okWide_slice Tryz.underlying49 hval
  obtain ⟨fuel, hf⟩ := h
  rcases open_slice Tryz.underlying49 hf with ⟨hcs, _⟩ | ⟨a, len', cap', m, n, D, Pl, hcs, _, hl, hm, hmm, _, hx⟩
  · simp [Value.cells] at hcs
    obtain ⟨rfl, rfl, rfl⟩ := hcs
    exact ⟨none, 0, 0, [], rfl, rfl, Nat.le_refl _, Nat.zero_le _, (fun r hr => by cases hr), .inl rfl⟩
  · simp [Value.cells] at hcs hmm
    obtain ⟨rfl, rfl, rfl⟩ := hcs
    subst hmm
    have each : ∀ i, ∃ x : Act12, i < m → x.ok ∧ ∃ A c, (∀ j u, [Value.int .i64 x.what, .int .i64 x.at_, .int .i64 x.keep, .slice A x.B.length c][j]? = some u → W.cell? ((a.add (i * 4)).add j) = some u) ∧ x.B.length ≤ c ∧ c ≤ maxLen ∧ Rd W W.heap.size A x.B := by
      intro i
      by_cases hi : i < m
      · obtain ⟨cs, h1, h2⟩ := hx i hi
        rw [cellsActK] at h1
        obtain ⟨_, hlen, hcell⟩ := World.cells?_some h1
        obtain ⟨x, A, c, rfl, h3, h4, h5, h6⟩ := actK_trod hlen h2
        refine ⟨x, fun _ => ⟨h3, A, c, fun j u hu => ?_, h4, h5, h6⟩⟩
        have hj : j < 4 := by
          have := (List.getElem?_eq_some_iff.1 hu).1
          simpa using this
        rw [hcell j hj]
        exact hu
      · exact ⟨⟨0, 0, 0, []⟩, fun h => absurd h hi⟩
    obtain ⟨f, hf'⟩ := Classical.axiomOfChoice each
    refine ⟨some a, len, m, (List.range len).map f, rfl, by simp, hl, hm, fun r hr => ?_, ?_⟩
    · obtain ⟨i, hi, rfl⟩ := List.mem_map.1 hr
      exact (hf' i (by have := List.mem_range.1 hi; omega)).1
    · rcases Nat.eq_zero_or_pos len with h0 | hp
      · subst h0; exact .inl rfl
      · obtain ⟨b, off, spot⟩ := a
        obtain ⟨_, A0, c0, hc0, _⟩ := hf' 0 (by omega)
        have hc1 := hc0 0 _ rfl
        have hspot : spot = none := by simpa [Addr.add] using World.cell?_spot hc1
        subst hspot
        refine .inr ⟨b, off, rfl, World.block_lt_of_cell? W _ hc1, fun i hi => ?_⟩
        have hi' : i < len := by simpa using hi
        obtain ⟨_, A1, c1, h1, h2, h3, h4⟩ := hf' i (by omega)
        rw [List.getElem_map, List.getElem_range]
        have h5 : ∀ j u, [Value.int .i64 (f i).what, .int .i64 (f i).at_, .int .i64 (f i).keep, .slice A1 (f i).B.length c1][j]? = some u → W.cell? ⟨b, off + i * 4 + j, none⟩ = some u := fun j u hu => by
          have h := h1 j u hu
          rw [Go.WideShapes.add_plain, Go.WideShapes.add_plain] at h
          exact h
        exact ⟨h5 0 _ rfl, h5 1 _ rfl, h5 2 _ rfl, A1, c1, h5 3 _ rfl, h2, h3, h4⟩
end Go.Proofs.YtndknifdajjalaaGreatDoor
