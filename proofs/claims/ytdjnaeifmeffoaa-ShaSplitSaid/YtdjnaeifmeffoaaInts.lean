/- Arguments that are slices of ints; parts of byte slices. -/
import Derived.Test.YtdjnaeifmeffoaaOpen
import Derived.Test.YtdjnaeifmeffoaaWrite
namespace Go.Proofs.Ytdjnaeifmeffoaa
open Go.ChangeShapes Go.WideShapes Go.ChangeAt Go.RowKit Go.Deep

def RdI (w : World) (B : Nat) (A : Option Addr) (ns : List Int) : Prop :=
  ns = [] ∨ ∃ b off, A = some ⟨b, off, none⟩ ∧ b < B ∧ ∀ i (h : i < ns.length), w.cell? ⟨b, off + i, none⟩ = some (.int .i64 ns[i])
theorem RdI.below {w w' : World} {B : Nat} {A : Option Addr} {ns : List Int} (h : RdI w B A ns) (hb : Below B w w') : RdI w' B A ns := by
  rcases h with h | ⟨b, off, hA, hl, hc⟩
  · exact .inl h
  · exact .inr ⟨b, off, hA, hl, fun i hi => (hb.cell (p := ⟨b, off + i, none⟩) hl).trans (hc i hi)⟩
theorem RdI.at_ {w : World} {B : Nat} {A : Option Addr} {ns : List Int} (h : RdI w B A ns) (k : Nat) (hk : k < ns.length) :
    ∃ b off, A = some ⟨b, off, none⟩ ∧ b < B ∧ w.cell? ⟨b, off + k, none⟩ = some (.int .i64 ns[k]) := by
  rcases h with rfl | ⟨b, off, hA, hb, hc⟩
  · simp at hk
  · exact ⟨b, off, hA, hb, hc k hk⟩

theorem cellsInt : Try.prog.cellsOf 3 = 1 := by kernel_rfl
theorem open_introw {H : Type} {enc : TypeId × Value → H} {W : World} {r : Reach} {base : Nat} {v : Value} {d : DataW H} {p : List MemPlace} (hval : Value.okWide Try.prog W r base 23 v) (h : DataW.Trod enc Try.prog W 0 (fun _ => true) true 23 v d p) :
    ∃ A n c l, v = .slice A n c ∧ l.length = n ∧ n ≤ c ∧ c ≤ maxLen ∧ RdI W W.heap.size A l ∧ ∀ z ∈ l, -9223372036854775808 ≤ z ∧ z ≤ 9223372036854775807 := by
  obtain ⟨a0, len, cap, rfl⟩ := okWide_slice Try.underlying23 hval
  obtain ⟨fuel, hf⟩ := h
  rcases open_ints Try.underlying23 Try.underlying3 cellsInt hf with ⟨hcs, _⟩ | ⟨a, len', cap', zs, hcs, _, hl, hm, hz, _, hcell, hwz⟩
  · simp [Value.cells] at hcs
    obtain ⟨rfl, rfl, rfl⟩ := hcs
    exact ⟨none, 0, 0, [], rfl, rfl, Nat.le_refl _, Nat.zero_le _, .inl rfl, fun z hz => by cases hz⟩
  · simp [Value.cells] at hcs
    obtain ⟨rfl, rfl, rfl⟩ := hcs
    have hzl : len ≤ zs.length := by simp at hz; omega
    refine ⟨some a, len, cap, zs.take len, rfl, by simp; omega, hl, hm, ?_, fun z hz => bounds_i64 (hwz z (List.mem_of_mem_take hz))⟩
    rcases Nat.eq_zero_or_pos len with rfl | hp
    · exact .inl (by simp)
    · obtain ⟨b, off, rfl, hc⟩ := ints_at hcell (by omega)
      refine .inr ⟨b, off, rfl, World.block_lt_of_cell? W _ (hc 0 (by omega)), fun i hi => ?_⟩
      have hi' : i < len := by simp at hi; omega
      rw [hc i (by omega), List.getElem_take, List.getD_eq_getElem?_getD, List.getElem?_eq_getElem (by omega)]
      rfl

/-- Where a part of a slice lies. -/
def subA (A : Option Addr) (l c : Nat) : Option Addr := if c = l then A else A.map (·.add l)
theorem sizeByte3 : (Try.prog.info? 5).map (·.size) = some 1 := by kernel_rfl
theorem run_sub_lh (A : Option Addr) (n c l h : Nat) (W : World) (L H : Int) (hL : L = (l : Int)) (hH : H = (h : Int)) (h1 : l ≤ h) (h2 : h ≤ c) :
    (Instr.slice 22 (.slice A n c) (some (.int .i64 L)) (some (.int .i64 H)) none).run Try.prog W = .ok (.slice (subA A l c) (h - l) (c - l)) W := by
  subst hL hH
  have hz := sizeByte3
  cases hq : Try.prog.info? 5 with
  | none => simp [hq] at hz
  | some j =>
    have hj : j.size = 1 := by simpa [hq] using hz
    rw [run_slice_lh W 22 A n c Try.underlying22 .i64 .i64 _ _ (by omega) (by omega) (by omega)]
    rw [show Try.prog.elem 22 = 5 from by kernel_rfl]
    simp [sizeOf, typeInfo, hq, hj, sliced, subA]
theorem run_sub_l (A : Option Addr) (n c l : Nat) (W : World) (L : Int) (hL : L = (l : Int)) (h1 : l ≤ n) (_hc : n ≤ c) :
    (Instr.slice 22 (.slice A n c) (some (.int .i64 L)) none none).run Try.prog W = .ok (.slice (subA A l c) (n - l) (c - l)) W := by
  subst hL
  have hz := sizeByte3
  cases hq : Try.prog.info? 5 with
  | none => simp [hq] at hz
  | some j =>
    have hj : j.size = 1 := by simpa [hq] using hz
    rw [run_slice_l W 22 A n c Try.underlying22 .i64 _ (by omega) (by omega)]
    rw [show Try.prog.elem 22 = 5 from by kernel_rfl]
    simp [sizeOf, typeInfo, hq, hj, sliced, subA]
theorem RdN.below {w w' : World} {B C g : Nat} {A : Option Addr} {l : List UInt8} (h : RdN w B g A l) (hb : Below C w w') (hBC : B ≤ C) : RdN w' B g A l := by
  rcases h with h | ⟨b, off, hA, hl, hn, hc⟩
  · exact .inl h
  · exact .inr ⟨b, off, hA, hl, hn, fun i hi => (hb.cell (p := ⟨b, off + i, none⟩) (show b < C by omega)).trans (hc i hi)⟩
theorem RdN.sub {w : World} {B g : Nat} {A : Option Addr} {L : List UInt8} (hr : RdN w B g A L) (l h c : Nat) (h1 : l ≤ h) (h2 : h ≤ c) : RdN w B g (subA A l c) ((L.take h).drop l) := by
  unfold subA
  by_cases hcl : c = l
  · exact .inl (List.drop_of_length_le (by rw [List.length_take]; omega))
  · rw [if_neg hcl]
    rcases hr with rfl | ⟨b, off, rfl, hb, hg, hc⟩
    · exact .inl (by simp)
    · refine .inr ⟨b, off + l, by simp [Addr.add_mid], hb, hg, fun i hi => ?_⟩
      simp only [List.length_drop, List.length_take] at hi
      rw [List.getElem_drop, List.getElem_take, Nat.add_assoc]
      exact hc (l + i) (by omega)
end Go.Proofs.Ytdjnaeifmeffoaa
