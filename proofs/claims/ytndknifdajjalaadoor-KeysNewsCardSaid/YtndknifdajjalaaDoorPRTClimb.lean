/- The document's own tree: the root that a leaf and a proof make. -/
import Derived.Deep.RegionHeld3
import Derived.Test.YtndknifdajjalaaDoorPTreeB
import Derived.Test.YtndknifdajjalaaDoorPHashB2
import Derived.Test.YtndknifdajjalaaDoorPFreeL
namespace Go.Proofs.YtndknifdajjalaaDoor
open Go.RowKit

theorem nodeH_len (a b : List UInt8) : (nodeH a b).length = 32 := outTo_len _ 8 (by omega)
/-- The row above. -/
def upH (l : List (List UInt8)) : List (List UInt8) := tree.up nodeT shaL l
theorem upH_len (l : List (List UInt8)) : (upH l).length = l.length / 2 := tree.up_len _ _ l
theorem upH_step (l : List (List UInt8)) {k : Nat} (h : 2 * k + 1 < l.length) : (upH l).take (k + 1) = (upH l).take k ++ [nodeH (l.getD (2 * k) []) (l.getD (2 * k + 1) [])] := by
  have hk : k < (upH l).length := by rw [upH_len]; omega
  rw [List.take_succ_eq_append_getElem hk]
  have e := tree.up_at nodeT shaL [] l k h
  have e2 : (upH l)[k] = (upH l).getD k [] := by simp [List.getD_eq_getElem?_getD, hk]
  rw [e2]
  unfold upH
  rw [e]
  rfl
theorem run_load_row {P : Program} {w : World} {ρ : Operand → Value} {o : Oper} (ty : TypeId) (x : Operand) (ho : o.op = .load ty x) (b off : Nat) (hx : ρ x = .pointer (some ⟨b, off, none⟩)) (cs : List Value) (d : TypeDesc) (hS : w.rangeAt b off cs)
    (hu : P.underlying ty = some d) (hd : d.isRow = true) (hi : (P.info? ty).map (·.size) = some cs.length) {X : Array Value} (hX : X = cs.toArray) : (execOp ρ o).run P w = .ok (.value (.agg X)) w := by
  subst hX
  unfold execOp
  simp only [ho, hx, Instr.loadAt, Instr.sureAddr, Sem.run_bind, Sem.run_pure, Result.andThen_ok, run_loadVar_mid w b off ty cs d hS hu hd hi]

/-- How long a slice is. -/
def lenW : Value → Nat
  | .slice _ n _ => n
  | _ => 0
def padH : List UInt8 := shaL (netsL [[112, 97, 100]])
theorem padH_len : padH.length = 32 := outTo_len _ 8 (by omega)
def rowH (l : List (List UInt8)) : List (List UInt8) := tree.row padH l
theorem rowH_len (l : List (List UInt8)) : (rowH l).length = 2 ^ tree.high l.length := tree.row_len _ _
theorem rowH_hash {l : List (List UInt8)} (h : ∀ r ∈ l, r.length = 32) : ∀ r ∈ rowH l, r.length = 32 := fun r hr => by
  rcases List.mem_append.1 hr with hr | hr
  · exact h r hr
  · rw [(List.mem_replicate.1 hr).2]; exact padH_len
theorem high_small {n : Nat} (h : n ≤ 1024) : 2 ^ tree.high n ≤ 1024 := show 2 ^ _ ≤ 2 ^ 10 from Nat.pow_le_pow_right (by omega) (tree.high_least 10 n (by simpa using h))

def rootH (k : Nat) (l : List (List UInt8)) : List UInt8 := tree.root nodeT shaL [] k l
def upNH (k : Nat) (l : List (List UInt8)) : List (List UInt8) := tree.upN nodeT shaL k l
theorem upNH_len (k : Nat) (l : List (List UInt8)) : (upNH k l).length = l.length / 2 ^ k := tree.upN_len _ _ k l
theorem upNH_succ (k : Nat) (l : List (List UInt8)) : upNH (k + 1) l = upH (upNH k l) := tree.upN_succ _ _ k l

def proofH (k i : Nat) (l : List (List UInt8)) : List (List UInt8) := tree.proof nodeT shaL [] k i l
theorem proofH_len (k i : Nat) (l : List (List UInt8)) : (proofH k i l).length = k := tree.proof_len _ _ _ _ _ _
theorem proofH_snoc (k i : Nat) (l : List (List UInt8)) : proofH (k + 1) i l = proofH k i l ++ [(upNH k l).getD (tree.beside (i / 2 ^ k)) []] := by
  unfold proofH tree.proof
  rw [List.range_succ, List.map_append]; rfl
theorem beside_lt {i m : Nat} (h : i < m) (he : m % 2 = 0) : tree.beside i < m := by
  unfold tree.beside
  by_cases h2 : i % 2 = 0
  · rw [if_pos h2]; omega
  · rw [if_neg h2]; omega
theorem xor_one {p : Nat} (h : p < 1024) : bits BinOp.xor IntKind.i64 (p : Int) 1 = (tree.beside p : Int) := by
  have ha : (List.range 1024).all (fun p : Nat => decide (bits BinOp.xor IntKind.i64 (p : Int) 1 = (tree.beside p : Int))) = true := by kernel_rfl
  have := List.all_eq_true.1 ha p (List.mem_range.2 h)
  simpa using this
theorem own_baseK {w : World} {base base' k : Nat} {e : TypeId} {v : Value} {n : Nat} {xs : List Value} (h : w.ownsRow base e k v n xs) (hb : base' ≤ base) : w.ownsRow base' e k v n xs := by
  refine ⟨h.1, ?_⟩
  rcases h.2 with h0 | ⟨g, cap, cur, h1, h2, h3⟩
  · exact .inl h0
  · exact .inr ⟨g, cap, cur, h1, Nat.le_trans hb h2, h3⟩

theorem results_cell_tmp {P : Program} {fn : Func} {p q : Tmp} {ty : TypeId} (h : fn.results = #[.cell p ty, .tmp q]) (tmps : Array Value) (w : World) (g : Nat) (t : TypeId) (cs : Array Value) (fr : Nat × Nat) (d : TypeDesc) (v : Value)
    (hp : tmps.getD p undef = .pointer (some ⟨g, 0, none⟩)) (hv : tmps.getD q undef = v) (hg : w.heap[g]? = some (.cells cs t fr))
    (hu : P.underlying ty = some d) (hd : (match d with | .struct _ | .array _ _ => true | _ => false) = true) (hi : (P.info? ty).map (·.size) = some cs.size) :
    (results fn tmps).run P w = .ok (.tuple #[.agg cs, v]) w := by
  have hp' : tmps[p]?.getD undef = .pointer (some ⟨g, 0, none⟩) := by simpa using hp
  have hv' : tmps[q]?.getD undef = v := by simpa using hv
  simp [results, h, hp', hv', asAddr, run_loadVar_row w g t ty cs fr d hg hu hd hi]
def zeroH : List UInt8 := List.replicate 32 0
/-- May it be climbed? -/
def climbOK (n i : Int) (len : Nat) : Prop := 0 ≤ i ∧ i < n ∧ n ≤ 256 ∧ len = tree.high n.toNat
instance (n i : Int) (len : Nat) : Decidable (climbOK n i len) := by unfold climbOK; infer_instance
def climbH (i : Nat) (a : List UInt8) (p : List (List UInt8)) : List UInt8 := tree.climb nodeT shaL i a p
/-- What is answered. -/
def climbV (n i : Int) (a : List UInt8) (p : List (List UInt8)) : List UInt8 := if climbOK n i p.length then climbH i.toNat a p else zeroH
end Go.Proofs.YtndknifdajjalaaDoor
