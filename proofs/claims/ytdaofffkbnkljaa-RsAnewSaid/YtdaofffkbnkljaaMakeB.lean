/- In a region whose operations ahead only make memory: a new row of noughts; two arrays, one behind the other, in a new row. -/
import Derived.Test.YtdaofffkbnkljaaFreeL
import Derived.Test.YtdaofffkbnkljaaU8
import Derived.Test.YtdaofffkbnkljaaCopyRows
namespace Go.Proofs.Ytdaofffkbnkljaa
open Go.RowKit

theorem made_noughts (n : Nat) : (madeCells (Value.int .u8 0).cells (n * 1)).toList = Lib.byteCells (List.replicate n 0) := by
  apply List.ext_getElem
  · simp [madeCells, Lib.byteCells]
  · intro i h1 h2
    simp [madeCells, Lib.byteCells, Value.cells, Nat.mod_one]
theorem blk_of_made {w : World} {base n : Nat} {e : TypeId} {g : Nat} (h : w.ownsRow base e 1 (.slice (some ⟨g, 0, none⟩) n n) n (madeCells (Value.int .u8 0).cells (n * 1)).toList) : Blk w g (u8A (List.replicate n 0)) e ∧ base ≤ g := by
  rcases h.2 with ⟨e1, e2⟩ | ⟨g', cap, cur, e1, e2, e3, e4, _, e5, e6⟩
  · simp at e1
  · injection e1 with e1 e1b e1c
    injection e1 with e1
    injection e1 with e1
    subst e1 e1c
    refine ⟨?_, e2⟩
    have e7 := e6.trans (made_noughts n)
    rw [List.take_of_length_le (by simp; omega)] at e7
    have e8 : cur = u8A (List.replicate n 0) := by
      apply Array.ext'
      rw [e7]
      simp [u8A]
    rw [← e8]
    exact e3
theorem step_make {Q : Exit → Act → World → Prop} {o : Oper} {a : Act} {w : World} {l c : Operand} (hop : o.op = .makeSlice 22 l c) (n : Nat) (hl : a.eval l = .int .i64 (n : Int)) (hc : a.eval c = .int .i64 (n : Int)) (hn : n ≤ 1000000) :
    o.wp Try.prog a w (fun a' w' => ∃ v, a' = a.put o.dst v ∧ (∃ X c, v = .slice X n c ∧ n ≤ c ∧ Rd w' w'.heap.size X (List.replicate n 0)) ∧ Below w.heap.size w w') Q := by
  obtain ⟨i0, hi, hz0, hz1, hz2⟩ := info_parts info5
  obtain ⟨w', hrun, r1, r2⟩ := run_make_full (P := Try.prog) w w.heap.size 22 5 i0 (.int .u8 0) 1 Try.underlying22 hi hz0 hz1 .i64 .i64 n (by rw [hz2]; omega) (by unfold maxLen; omega) (Nat.le_refl _)
  rw [made_noughts] at r1
  exact step_value (w' := w') (v := .slice (some ⟨w.heap.size, 0, none⟩) n n) (Gi := fun v w' => ∃ X c, v = .slice X n c ∧ n ≤ c ∧ Rd w' w'.heap.size X (List.replicate n 0)) (by simp [execOp, hop, hl, hc, hrun, Result.andThen])
    ((Below.refl _ _).grown r2 (Nat.le_refl _) (fun k hk => by cases hk)) ⟨_, _, rfl, Nat.le_refl _, Rd.of_own r1⟩
theorem step_append_full {Q : Exit → Act → World → Prop} {o : Oper} {a : Act} {w : World} {s x : Operand} (hop : o.op = .call { callee := .builtin .append, args := #[s, x], argTypes := #[22, 22] })
    (b1 b2 n m : Nat) (T1 T2 : TypeId) (l k : List UInt8) (hs : a.eval s = .slice (some ⟨b1, 0, none⟩) n n) (hx : a.eval x = .slice (some ⟨b2, 0, none⟩) m m) (h1 : Blk w b1 (u8A l) T1) (h2 : Blk w b2 (u8A k) T2) (hl : l.length = n) (hk : k.length = m) (hm : 0 < m) (hlim : n + m ≤ 1000000) :
    o.wp Try.prog a w (fun a' w' => ∃ v, a' = a.put o.dst v ∧ (∃ X c, v = .slice X (n + m) c ∧ n + m ≤ c ∧ Rd w' w'.heap.size X (l ++ k)) ∧ Below w.heap.size w w') Q := by
  obtain ⟨i0, hi, hz0, hz1, hz2⟩ := info_parts info5
  have cells : ∀ {g : Nat} {T : TypeId} {bs : List UInt8}, Blk w g (u8A bs) T → ∀ j u, (Lib.byteCells bs)[j]? = some u → w.cell? ((⟨g, 0, none⟩ : Addr).add j) = some u := by
    intro g T bs h j u hj
    rw [Addr.add_lit, Nat.zero_add, h.cell j]
    simpa [u8A] using hj
  obtain ⟨v', w', hrun, r1, r2⟩ := run_append_arg_grows (P := Try.prog) w 22 o.type 5 i0 (.int .u8 0) 1 1 Try.underlying22 hi hz0 hz1 hz2 rfl (by decide) ⟨b1, 0, none⟩ n n (Lib.byteCells l) (by rw [Lib.byteCells_length, hl, Nat.mul_one]) (cells h1) ⟨b2, 0, none⟩ m m (Lib.byteCells k) (by rw [Lib.byteCells_length, hk, Nat.mul_one]) (cells h2) (by omega) (by unfold maxLen; omega) (by omega)
  rw [← Lib.byteCells_append] at r1
  obtain ⟨X, c, rfl, hc1, hc2⟩ := own_caps r1
  exact step_value (w' := w') (v := .slice X (n + m) c) (Gi := fun v w' => ∃ X c, v = .slice X (n + m) c ∧ n + m ≤ c ∧ Rd w' w'.heap.size X (l ++ k)) (by simp [execOp, hop, resolve, invoke, builtin, hs, hx, hrun, Result.andThen])
    ((Below.refl _ _).grown r2 (Nat.le_refl _) (fun k hk => by cases hk)) ⟨_, _, rfl, hc1, Rd.of_own r1⟩
end Go.Proofs.Ytdaofffkbnkljaa
