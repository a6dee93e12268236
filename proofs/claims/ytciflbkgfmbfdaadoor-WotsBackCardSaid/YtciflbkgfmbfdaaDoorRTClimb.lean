/- The document's own tree: the root that a leaf and a proof make. -/
import Derived.Test.YtciflbkgfmbfdaaDoorTreeC
namespace Go.Proofs.YtciflbkgfmbfdaaDoor
open Go.RowKit

theorem results_cell_tmp {P : Program} {fn : Func} {p q : Tmp} {ty : TypeId} (h : fn.results = #[.cell p ty, .tmp q]) (tmps : Array Value) (w : World) (g : Nat) (t : TypeId) (cs : Array Value) (fr : Nat × Nat) (d : TypeDesc) (v : Value)
    (hp : tmps.getD p undef = .pointer (some ⟨g, 0, none⟩)) (hv : tmps.getD q undef = v) (hg : w.heap[g]? = some (.cells cs t fr))
    (hu : P.underlying ty = some d) (hd : (match d with | .struct _ | .array _ _ => true | _ => false) = true) (hi : (P.info? ty).map (·.size) = some cs.size) :
    (results fn tmps).run P w = .ok (.tuple #[.agg cs, v]) w := by
  have hp' : tmps[p]?.getD undef = .pointer (some ⟨g, 0, none⟩) := by simpa using hp
  have hv' : tmps[q]?.getD undef = v := by simpa using hv
  simp [results, h, hp', hv', asAddr, run_loadVar_row w g t ty cs fr d hg hu hd hi]
def zeroH : List UInt8 := List.replicate 32 0
theorem built_zero : Tryd.prog.built 34 [] = some (u8A zeroH) := by kernel_rfl
theorem wpList_build_zero {w : World} {ops : Array Oper} {rest : List Oper} {o : Oper} {a : Act} {Q : Exit → Act → World → Prop} (hgd : o.guard = none) (ho : o.op = .build 34 #[]) (Z : Array Value) (hZ : u8A zeroH = Z)
    (hk : wpList Tryd.prog ops Q rest (a.put o.dst (.agg Z)) w) : wpList Tryd.prog ops Q (o :: rest) a w := by
  subst hZ
  have hb : Tryd.prog.built 34 ((#[] : Array (Nat × Operand)).map fun (i, x) => (i, a.eval x)).toList = some (u8A zeroH) := by
    have h := built_zero
    simp only [List.map_toArray, List.map_nil]
    exact h
  refine wpList_build (P := Tryd.prog) hgd 34 #[] ho (by rw [hb]; rfl) ?_
  rw [hb]
  exact hk
/-- May it be climbed? -/
def climbOK (n i : Int) (len : Nat) : Prop := 0 ≤ i ∧ i < n ∧ n ≤ 256 ∧ len = tree.high n.toNat
instance (n i : Int) (len : Nat) : Decidable (climbOK n i len) := by unfold climbOK; infer_instance
def climbH (i : Nat) (a : List UInt8) (p : List (List UInt8)) : List UInt8 := tree.climb nodeT shaL i a p
/-- What is answered. -/
def climbV (n i : Int) (a : List UInt8) (p : List (List UInt8)) : List UInt8 := if climbOK n i p.length then climbH i.toNat a p else zeroH
def ClimbEnd (W : World) (n i : Int) (a : List UInt8) (p : List (List UInt8)) (e : Ending) (w' : World) : Prop :=
  e = .returned (.tuple #[.agg (u8A (climbV n i a p)), .bool (decide (climbOK n i p.length))]) ∧ Below W.heap.size W w'

theorem climb_snoc (p : List (List UInt8)) (x : List UInt8) : ∀ (i : Nat) (a : List UInt8), climbH i a (p ++ [x]) = shaL (tree.text nodeT (i / 2 ^ p.length) (climbH i a p) x) := by
  induction p with
  | nil => intro i a; simp [climbH, tree.climb]
  | cons y r ih =>
    intro i a
    have := ih (i / 2) (shaL (tree.text nodeT i a y))
    rw [List.cons_append, List.length_cons, Nat.pow_succ, Nat.mul_comm, ← Nat.div_div_eq_div_mul]
    exact this
theorem climbH_len {a : List UInt8} (ha : a.length = 32) : ∀ (p : List (List UInt8)) (i : Nat), (climbH i a p).length = 32 := fun p i => by
  rcases List.eq_nil_or_concat p with rfl | ⟨q, x, rfl⟩
  · exact ha
  · rw [List.concat_eq_append, climb_snoc]
    exact outTo_len _ 8 (by omega)
end Go.Proofs.YtciflbkgfmbfdaaDoor
