/- What the statements of chapter 9 have in common: signatures in memory. -/
import Derived.Test.YtfgieebccjoboaaDoorMpD
import Derived.Test.YtfgieebccjoboaaDoorMssB
import Derived.Test.YtfgieebccjoboaaDoorSub
import Derived.Test.YtfgieebccjoboaaDoorLaw
import Derived.Test.YtfgieebccjoboaaDoorFreeS
namespace Go.Proofs.YtfgieebccjoboaaDoor
open Go.RowKit

theorem proofV_len9 (sd : List UInt8) (k i : Nat) : (proofV (pubsL sd (2 ^ k)) i).length = k := by rw [proofV_len, pubsL_len, tree.high_pow]
/-- The value is a signature that reads so. -/
def Spec.sv (h l : Int) (K : Nat) (sg pv : List (List UInt8)) : Spec := .any (fun v w => ∃ V cv P cp, v = .agg (sigA h l V P 67 cv K cp) ∧ HV w (.slice V 67 cv) sg ∧ HV w (.slice P K cp) pv) (fun _ _ _ h hb => by
  obtain ⟨V, cv, P, cp, h1, h2, h3⟩ := h
  exact ⟨V, cv, P, cp, h1, h2.on hb, h3.on hb⟩)
theorem wpList_load_sw9 {w : World} {ops : Array Oper} {rest : List Oper} {o : Oper} {a : Act} {Q : Exit → Act → World → Prop} (x : Operand) (ho : o.op = .load 35 x)
    (g : Nat) (hx : a.eval x = .pointer (some ⟨g, 0, none⟩)) (cs : Array Value) (hg : Blk w g cs 35) (hz : cs.size = 4)
    (hw : Region.wanted o (yielded ops a.tmps) = true) (hk : wpList Tryd.prog ops Q rest (a.put o.dst (.agg cs)) w) : wpList Tryd.prog ops Q (o :: rest) a w :=
  wpList_load_when9 hw 35 x ho g hx 35 cs _ hg Tryd.underlying35 rfl (by rw [hz]; kernel_rfl) hk
theorem wpList_build_sig_w9 {w : World} {ops : Array Oper} {rest : List Oper} {o : Oper} {a : Act} {Q : Exit → Act → World → Prop} (ho : o.op = .build 35 #[])
    (hw : Region.wanted o (yielded ops a.tmps) = true) (hk : wpList Tryd.prog ops Q rest (a.put o.dst (.agg sig0)) w) : wpList Tryd.prog ops Q (o :: rest) a w := by
  have hb : Tryd.prog.built 35 ((#[] : Array (Nat × Operand)).map fun (i, x) => (i, a.eval x)).toList = some sig0 := by
    have h := built_sig9
    simp only [List.map_toArray, List.map_nil]
    exact h
  refine wpList_step fun K hK => ?_
  rw [if_pos hw]
  refine wp_build (P := Tryd.prog) 35 #[] ho (by rw [hb]; rfl) ?_
  rw [hb]
  exact hK _ _ hk
theorem hv_nil (w : World) : HV w (.slice none 0 0) [] := ⟨(fun _ h => by cases h), none, 0, rfl, Nat.le_refl _, .inl rfl⟩
end Go.Proofs.YtfgieebccjoboaaDoor
