/- Rows of hashes in regions that draw their order: promises about them, a literal of one hash. -/
import Derived.Test.YtfgieebccjoboaaDoorHashB2
import Derived.Test.YtfgieebccjoboaaDoorFreeL
import Derived.Test.YtfgieebccjoboaaDoorTreeC
namespace Go.Proofs.YtfgieebccjoboaaDoor
open Go.RowKit

/-- The value is a slice that reads as the hashes. -/
def Spec.hv (n : Nat) (l : List (List UInt8)) : Spec := .any (fun v w => ∃ X c, v = .slice X n c ∧ n ≤ c ∧ HV w (.slice X n c) l) (fun _ _ _ h hb => by
  obtain ⟨X, c, h1, h2, h3⟩ := h
  exact ⟨X, c, h1, h2, h3.on hb⟩)
theorem HV.one {w : World} {h : List UInt8} (hl : h.length = 32) : HV (w.alloc (.cells (u8A h) 29)) (.slice (some ⟨w.heap.size, 0, none⟩) 1 1) [h] := by
  refine ⟨fun r hr => by rw [List.mem_singleton.1 hr]; exact hl, some ⟨w.heap.size, 0, none⟩, 1, rfl, Nat.le_refl _, .inr ⟨w.heap.size, 0, rfl, by simp, fun i hi => ?_⟩⟩
  obtain rfl : i = 0 := by simpa using hi
  intro j u hu
  have hb : Blk (w.alloc (.cells (u8A h) 29)) w.heap.size (u8A h) 29 := Blk.new _ _ _
  simp only [Nat.zero_mul, Nat.zero_add]
  rw [hb.cell j, ← Array.getElem?_toList]
  exact hu
theorem step_build_hash {Q : Exit → Act → World → Prop} {o : Oper} {a : Act} {w : World} {x : Operand} (ho : o.op = .buildSlice 33 1 #[(0, x)]) (h : List UInt8) (hl : h.length = 32) (hx : a.eval x = .agg (u8A h)) :
    o.wp Tryd.prog a w (fun a' w' => ∃ v, a' = a.put o.dst v ∧ (∃ X c, v = .slice X 1 c ∧ 1 ≤ c ∧ HV w' (.slice X 1 c) [h]) ∧ Below w.heap.size w w') Q := by
  obtain ⟨i, z, hi, hzz, hzs, hsz, hby⟩ := hash_parts
  refine wp_buildSlice (P := Tryd.prog) 33 29 1 #[(0, x)] ho (u8A h) i z Tryd.underlying33 hi hzz (by rw [hsz]; decide) (by rw [hsz]; decide) ?_
    ⟨_, rfl, ⟨_, _, rfl, Nat.le_refl _, HV.one hl⟩, (Below.refl _ _).alloc (Nat.le_refl _) _⟩
  rw [hsz]
  have e : ((#[(0, x)] : Array (Nat × Operand)).map fun (i, x) => (i, a.eval x)).toList = [(0, .agg (u8A h))] := by simp [hx]
  rw [e]
  exact fill_hash (u8A h) ((u8A_size _).trans hl) _ (by simp)
theorem run_load_hash {w : World} {ρ : Operand → Value} {o : Oper} (x : Operand) (ho : o.op = .load 29 x) (b off : Nat) (hx : ρ x = .pointer (some ⟨b, off, none⟩)) (h : List UInt8) (hl : h.length = 32) (hS : w.rangeAt b off (Lib.byteCells h)) {X : Array Value} (hX : u8A h = X) : (execOp ρ o).run Tryd.prog w = .ok (.value (.agg X)) w := by
  obtain ⟨i, z, hi, _, _, hsz, _⟩ := hash_parts
  exact run_load_row 29 x ho b off hx (Lib.byteCells h) _ hS Tryd.underlying29 rfl (by rw [hi, Option.map_some, hsz, Lib.byteCells_length, hl]) hX.symm
end Go.Proofs.YtfgieebccjoboaaDoor
