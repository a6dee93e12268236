/- Parts of a slice of bytes. -/
import Derived.Test.YtdaofffkbnkljaaProg
import Derived.Test.YtdaofffkbnkljaaOwnB
import Derived.Deep.MidRow
namespace Go.Proofs.Ytdaofffkbnkljaa
open Go.RowKit

/-- Where a part of a slice lies. -/
def partA (A : Option Addr) (l c : Nat) : Option Addr := if c = l then A else A.map (·.add l)
theorem sizeByte4 : (Try.prog.info? 5).map (·.size) = some 1 := by kernel_rfl
set_option maxRecDepth 100000 in
theorem run_part_lh (A : Option Addr) (n c l h : Nat) (W : World) (h1 : l ≤ h) (h2 : h ≤ c) :
    (Instr.slice 22 (.slice A n c) (some (.int .i64 (l : Int))) (some (.int .i64 (h : Int))) none).run Try.prog W = .ok (.slice (partA A l c) (h - l) (c - l)) W := by
  have hz := sizeByte4
  cases hq : Try.prog.info? 5 with
  | none => simp [hq] at hz
  | some j =>
    have hj : j.size = 1 := by simpa [hq] using hz
    rw [run_slice_lh W 22 A n c Try.underlying22 .i64 .i64 _ _ (by omega) (by omega) (by omega)]
    rw [show Try.prog.elem 22 = 5 from by kernel_rfl]
    simp [sizeOf, typeInfo, hq, hj, sliced, partA]
set_option maxRecDepth 100000 in
theorem run_part_l (A : Option Addr) (n c l : Nat) (W : World) (h1 : l ≤ n) :
    (Instr.slice 22 (.slice A n c) (some (.int .i64 (l : Int))) none none).run Try.prog W = .ok (.slice (partA A l c) (n - l) (c - l)) W := by
  have hz := sizeByte4
  cases hq : Try.prog.info? 5 with
  | none => simp [hq] at hz
  | some j =>
    have hj : j.size = 1 := by simpa [hq] using hz
    rw [run_slice_l W 22 A n c Try.underlying22 .i64 _ (by omega) (by omega)]
    rw [show Try.prog.elem 22 = 5 from by kernel_rfl]
    simp [sizeOf, typeInfo, hq, hj, sliced, partA]
set_option maxRecDepth 100000 in
theorem run_part_h (A : Option Addr) (n c h : Nat) (W : World) (h2 : h ≤ c) :
    (Instr.slice 22 (.slice A n c) none (some (.int .i64 (h : Int))) none).run Try.prog W = .ok (.slice A h c) W := by
  have hz := sizeByte4
  cases hq : Try.prog.info? 5 with
  | none => simp [hq] at hz
  | some j =>
    have hj : j.size = 1 := by simpa [hq] using hz
    rw [run_slice_h W 22 A n c Try.underlying22 .i64 _ (by omega) (by omega)]
    rw [show Try.prog.elem 22 = 5 from by kernel_rfl]
    simp [sizeOf, typeInfo, hq, hj, sliced]
    cases A with
    | none => simp
    | some ad =>
      intro _
      obtain ⟨b, o, s⟩ := ad
      cases s <;> simp [Addr.add]
theorem Rd.part {w : World} {B : Nat} {A : Option Addr} {L : List UInt8} (hr : Rd w B A L) (l h c : Nat) (h1 : l ≤ h) (h2 : h ≤ c) : Rd w B (partA A l c) ((L.take h).drop l) := by
  unfold partA
  by_cases hcl : c = l
  · exact .inl (List.drop_of_length_le (by rw [List.length_take]; omega))
  · rw [if_neg hcl]
    rcases hr with rfl | ⟨b, off, rfl, hb, hc⟩
    · exact .inl (by simp)
    · refine .inr ⟨b, off + l, by simp [Addr.add_mid], hb, fun i hi => ?_⟩
      simp only [List.length_drop, List.length_take] at hi
      rw [List.getElem_drop, List.getElem_take, Nat.add_assoc]
      exact hc (l + i) (by omega)
theorem Rd.rest {w : World} {B : Nat} {A : Option Addr} {L : List UInt8} {n : Nat} (hr : Rd w B A L) (l c : Nat) (hn : L.length = n) (h1 : l ≤ n) (h2 : n ≤ c) : Rd w B (partA A l c) (L.drop l) := by
  have := hr.part l n c h1 h2
  rwa [List.take_of_length_le (by omega)] at this
theorem OwnB.less {w : World} {B B' : Nat} {e : TypeId} {v : Value} {n : Nat} {l : List UInt8} (h : OwnB w B e v n l) (hB : B' ≤ B) : OwnB w B' e v n l := by
  refine ⟨h.1, ?_⟩
  rcases h.2 with h | ⟨g, cap, full, e1, e2, rest⟩
  · exact .inl h
  · exact .inr ⟨g, cap, full, e1, by omega, rest⟩
end Go.Proofs.Ytdaofffkbnkljaa
