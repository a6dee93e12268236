/- Numbers picked, each one once; rows of the matrix of powers. -/
import Derived.Test.YtkgemngkkedcnaaMxV
import Derived.Test.YtkgemngkkedcnaaMake
namespace Go.Proofs.Ytkgemngkkedcnaa
open Go.RowKit

theorem infoNum : (Try.prog.info? 3).map (fun i => (i.zero, i.size, i.bytes)) = some (some (.int .i64 0), 1, 8) := by kernel_rfl
def intCells (ns : List Int) : List Value := ns.map (Value.int .i64)
theorem RdI.of_own {w : World} {base : Nat} {e : TypeId} {A : Option Addr} {n c : Nat} {ns : List Int} (h : w.ownsRow base e 1 (.slice A n c) n (intCells ns)) (hn : ns.length = n) : RdI w w.heap.size A ns := by
  rcases h.2 with ⟨e1, e2⟩ | ⟨g, cap, cur, e1, _, hg, _, _, _, ht⟩
  · injection e1 with e3 e4
    subst hn
    exact .inl (List.eq_nil_of_length_eq_zero e4)
  · injection e1 with e3
    subst e3
    refine .inr ⟨g, 0, rfl, (Array.getElem?_eq_some_iff.1 hg).1, fun i hi => ?_⟩
    have hb : Blk w g cur e := hg
    rw [Nat.zero_add, hb.cell i]
    have e := congrArg (fun l : List Value => l[i]?) ht
    simp only [Nat.mul_one, List.getElem?_take, intCells, List.getElem?_map, List.getElem?_eq_getElem hi, Option.map_some] at e
    rw [if_pos (by omega), Array.getElem?_toList] at e
    exact e
section
variable {P : Program} {w : World}
/-- append of one number onto a row of numbers of the call's own. -/
theorem wpList_append_num {ops : Array Oper} {rest : List Oper} {o : Oper} {a : Act} {Q : Exit → Act → World → Prop} (hgd : o.guard = none) (s x : Operand) (t : TypeId)
    (ho : o.op = .call { callee := .builtin .append, args := #[s, x], argTypes := #[t, t] })
    (base : Nat) (e : TypeId) (i : TypeInfo) (ht : P.underlying t = some (.slice e)) (hi : P.info? e = some i) (hz : i.zero = some (.int .i64 0)) (hsize : i.size = 1) (hby : i.bytes = 8)
    (v : Value) (n : Nat) (ns : List Int) (hs : a.eval s = v) (W : World) (y : Int) (hw : w = W.alloc (.cells #[.int .i64 y] e)) (hown : W.ownsRow base e 1 v n (intCells ns)) (hx : a.eval x = .slice (some ⟨W.heap.size, 0, none⟩) 1 1)
    (hlim : n + 1 ≤ 1000000) (hbase : base ≤ W.heap.size)
    (h : ∀ v' w', w'.ownsRow base e 1 v' (n + 1) (intCells (ns ++ [y])) → w.grownBy w' v.ownBlock → wpList P ops Q rest (a.put o.dst v') w') : wpList P ops Q (o :: rest) a w := by
  subst hw
  refine wpList_append_own (P := P) _ hgd s x t ho base e i (.int .i64 0) 1 8 ht hi hz hsize hby rfl (by omega) v n (intCells ns) hs (hown.alloc _) ⟨W.heap.size, 0, none⟩ 1 1 [.int .i64 y] hx rfl ?_ ?_ (by unfold maxLen; omega) (by omega) (by simp; omega) (fun v' w' h1 h2 _ => h v' w' (by rw [intCells, List.map_append]; exact h1) h2)
  · intro j u hj
    match j, hj with
    | 0, hj =>
      simp at hj
      subst hj
      simp [Addr.add]
  · intro u hu
    simp at hu
    subst hu
    rfl
end

/-- So many numbers below n, each one once. -/
def Picked (n k : Nat) (ws : List Nat) : Prop := ws.Nodup ∧ (∀ x ∈ ws, x < n) ∧ ws.length ≤ k
theorem Picked.snoc {n k j : Nat} {ws : List Nat} (h : Picked n k ws) (hj : j < n) (hk : ws.length < k) (hn : j ∉ ws) : Picked n k (ws ++ [j]) :=
  ⟨List.nodup_append.2 ⟨h.1, by simp, fun a ha b hb e => by
      rw [List.mem_singleton.1 hb] at e
      exact hn (e ▸ ha)⟩, fun x hx => by
      rcases List.mem_append.1 hx with hx | hx
      · exact h.2.1 x hx
      · rw [List.mem_singleton.1 hx]; exact hj, by simp; omega⟩
theorem pigeon : ∀ (n : Nat) (l : List Nat), (∀ x, x < n → x ∈ l) → n ≤ l.length
  | 0, _, _ => Nat.zero_le _
  | n + 1, l, h => by
    have hm := h n (Nat.lt_succ_self n)
    have := pigeon n (l.erase n) fun x hx => (List.mem_erase_of_ne (by omega)).2 (h x (by omega))
    rw [List.length_erase_of_mem hm] at this
    have := List.length_pos_of_mem hm
    omega
def natInts (ws : List Nat) : List Int := ws.map fun x : Nat => ((x : Nat) : Int)
theorem natInts_len (ws : List Nat) : (natInts ws).length = ws.length := by simp [natInts]
theorem natInts_snoc (ws : List Nat) (j : Nat) : natInts (ws ++ [j]) = natInts ws ++ [(j : Int)] := by simp [natInts]

theorem isMx_rows (f : Mx) {n m : Nat} (h1 : 1 ≤ n) (h2 : n ≤ 16) (h3 : 1 ≤ m) (h4 : m ≤ 16) : IsMx (rowsL f 0 m n) := by
  have hl : 0 < (rowsL f 0 m n).length := by rw [rowsL_len]; exact h1
  refine ⟨by rw [rowsL_len]; exact h1, by rw [rowsL_len]; exact h2, fun i hi => ?_⟩
  rw [rowsL_rows f 0 m n _ (List.getElem_mem hi), List.getD_eq_getElem?_getD, List.getElem?_eq_getElem hl]
  have := rowsL_rows f 0 m n _ (List.getElem_mem hl)
  unfold rowOK
  rw [show (some (rowsL f 0 m n)[0]).getD [] = (rowsL f 0 m n)[0] from rfl, this]
  exact ⟨h3, h4, rfl⟩
section
variable {n k : Nat} {ws : List Nat}
theorem pick_rowsOK (h1 : 1 ≤ n) (h2 : n ≤ 16) (h3 : 1 ≤ k) (h4 : k ≤ 16) (h : Picked n k ws) (hk : ws.length = k) : rowsOK (rowsL vdM 0 k n) (natInts ws) :=
  ⟨isMx_rows vdM h1 h2 h3 h4, by rw [natInts_len, hk]; exact h3, fun i hi => by
    rw [natInts_len] at hi
    have := h.2.1 _ (List.getElem_mem hi)
    simp only [natInts, List.getElem_map, rowsL_len]
    omega⟩
theorem pick_E (h1 : 1 ≤ n) (h2 : n ≤ 16) (h3 : 1 ≤ k) (h4 : k ≤ 16) (h : Picked n k ws) (hk : ws.length = k) : rowsE (rowsL vdM 0 k n) (natInts ws) = 0 := by
  unfold rowsE; rw [if_pos (pick_rowsOK h1 h2 h3 h4 h hk)]
theorem pick_S (h1 : 1 ≤ n) (h2 : n ≤ 16) (h3 : 1 ≤ k) (h4 : k ≤ 16) (h : Picked n k ws) (hk : ws.length = k) : rowsS (rowsL vdM 0 k n) (natInts ws) = ws.map fun x => (rowsL vdM 0 k n).getD x [] := by
  unfold rowsS
  rw [if_pos (pick_rowsOK h1 h2 h3 h4 h hk), natInts, List.map_map]
  rfl
theorem row_at (f : Mx) (m : Nat) {x : Nat} (hx : x < n) : (rowsL f 0 m n).getD x [] = rowL f 0 m x := by
  simp [rowsL, List.getD_eq_getElem?_getD, hx]
theorem pick_sq (h1 : 1 ≤ n) (h2 : n ≤ 16) (h3 : 1 ≤ k) (h4 : k ≤ 16) (h : Picked n k ws) (hk : ws.length = k) : SqL k (rowsS (rowsL vdM 0 k n) (natInts ws)) := by
  rw [pick_S h1 h2 h3 h4 h hk]
  refine ⟨by rw [List.length_map, hk], fun r hr => ?_⟩
  obtain ⟨x, hx, rfl⟩ := List.mem_map.1 hr
  rw [row_at vdM k (h.2.1 x hx), rowL_len]
/-- Any k rows of the matrix of powers have an inverse. -/
theorem pick_inv (h1 : 1 ≤ n) (h2 : n ≤ 16) (h3 : 1 ≤ k) (h4 : k ≤ 16) (h : Picked n k ws) (hk : ws.length = k) : Faithful k (entM (rowsS (rowsL vdM 0 k n) (natInts ws))) := by
  refine (faithful_iff k _).2 (powers_inverse (fun i => UInt8.ofNat (ws.getD i 0)) (fun i j hi hj e => ?_) fun i j hi hj => ?_)
  · have li : i < ws.length := by omega
    have lj : j < ws.length := by omega
    have bi := h.2.1 _ (List.getElem_mem li)
    have bj := h.2.1 _ (List.getElem_mem lj)
    have e2 := congrArg UInt8.toNat e
    simp only [List.getD_eq_getElem?_getD, List.getElem?_eq_getElem li, List.getElem?_eq_getElem lj, Option.getD_some, UInt8.toNat_ofNat'] at e2
    exact (List.getElem_inj h.1).1 (by omega)
  · have li : i < ws.length := by omega
    have bi := h.2.1 _ (List.getElem_mem li)
    rw [pick_S h1 h2 h3 h4 h hk]
    have e : (ws.map fun x => (rowsL vdM 0 k n).getD x []).getD i [] = rowL vdM 0 k ws[i] := by
      rw [List.getD_eq_getElem?_getD, List.getElem?_map, List.getElem?_eq_getElem li]
      exact row_at vdM k bi
    unfold entM
    rw [e, rowL_at vdM k ws[i] hj]
    simp [vdM, List.getD_eq_getElem?_getD, li]
end
end Go.Proofs.Ytkgemngkkedcnaa
