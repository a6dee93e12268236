/- Lengths with noughts ahead, or too great ones, are none; more of rows whose mark stands behind their cells. -/
import Derived.Test.YtciflbkgfmbfdaaDoorNetB
import Derived.Test.YtciflbkgfmbfdaaDoorNetC
import Derived.Lib.AppendZerosOnto
namespace Go.Proofs.YtciflbkgfmbfdaaDoor
open Go.RowKit

theorem takeL_nought (u : Nat) (r : List UInt8) : takeL (48 :: (Lib.decDigits u ++ r)) = none := by
  refine takeL_none ?_
  have hne := dec_ne u
  have hdig := dec_all_digits u
  cases hd : Lib.decDigits u with
  | nil => exact absurd hd hne
  | cons a t =>
    have ha := hdig a (by rw [hd]; exact List.mem_cons_self ..)
    rw [List.cons_append]
    unfold rowLen
    rw [show headNought (48 :: a :: (t ++ r)) = true from rfl]
    rw [lenFrom_on (by decide) (by rintro ⟨h, _⟩; omega) (by decide)]
    exact lenFrom_first ha (by omega) rfl

theorem dec_over : Lib.decDigits 16385 = [49, 54, 51, 56, 53] := by
  rw [Lib.decDigits, dif_neg (by omega), Lib.decDigits, dif_neg (by omega), Lib.decDigits, dif_neg (by omega), Lib.decDigits, dif_neg (by omega), Lib.decDigits, dif_pos (by omega)]
  rfl

theorem takeL_long (r : List UInt8) : takeL (Lib.decDigits 16385 ++ r) = none := by
  refine takeL_none ?_
  rw [dec_over]
  unfold rowLen
  have hz : headNought ([49, 54, 51, 56, 53] ++ r) = false := rfl
  rw [hz]
  simp only [List.cons_append, List.nil_append]
  rw [lenFrom_on (by decide) (by simp) (by decide), lenFrom_on (by decide) (by simp) (by decide), lenFrom_on (by decide) (by simp) (by decide), lenFrom_on (by decide) (by simp) (by decide), lenFrom_great (by decide) (by simp) (by decide)]

theorem takeL_semi (z : List UInt8) (h : z.length ≤ 1000) : takeL (Lib.decDigits z.length ++ [58] ++ z ++ [59]) = none := by
  have e : Lib.decDigits z.length ++ [58] ++ z ++ [59] = Lib.decDigits z.length ++ 58 :: (z ++ [59]) := by simp
  have hr := rowLen_dec z.length (z ++ [59]) (by omega)
  rw [e]
  refine takeL_other hr (by simp; omega) ?_
  rw [List.getElem_append_right (by omega)]
  have : (Lib.decDigits z.length).length + 1 + z.length - (Lib.decDigits z.length).length = z.length + 1 := by omega
  simp only [this, List.getElem_cons_succ]
  rw [List.getElem_append_right (by omega)]
  simp

theorem netL_app (z : List UInt8) : Lib.decDigits z.length ++ [58] ++ z ++ [44] = netL z := by rw [netL_eq]; simp
theorem takeL_whole (z : List UInt8) (h : z.length ≤ 1000) : takeL (Lib.decDigits z.length ++ [58] ++ z ++ [44]) = some (z, []) := by
  rw [netL_app, ← List.append_nil (netL z), takeL_net z [] (by omega)]

theorem made_cells (n : Nat) : (madeCells (Value.int .u8 0).cells (n * 1)).toList = Lib.byteCells (List.replicate n 0) := by
  rw [Nat.mul_one, show (Value.int .u8 0).cells = #[Value.int .u8 0] from rfl, toList_madeCells_one]
  unfold Lib.byteCells
  rw [List.map_replicate]; rfl

section
variable {w : World}
theorem OwnM.grown {base : Nat} {e : TypeId} {v : Value} {n : Nat} {l : List UInt8} (h : OwnM w base e v n l) {w' : World} (hg : w.grownBy w' none) : OwnM w' base e v n l := by
  obtain ⟨hl, g, cap, cur, fz, hv, hb, hgg, rest⟩ := h
  exact ⟨hl, g, cap, cur, fz, hv, hb, (hg.block g (Array.getElem?_eq_some_iff.1 hgg).1 (by simp)).trans hgg, rest⟩
theorem OwnM.on {base : Nat} {e : TypeId} {v : Value} {n : Nat} {l : List UInt8} (h : OwnM w base e v n l) {w' : World} (hb' : Below w.heap.size w w') : OwnM w' base e v n l := by
  obtain ⟨hl, g, cap, cur, fz, hv, hb, hgg, rest⟩ := h
  exact ⟨hl, g, cap, cur, fz, hv, hb, (hb'.block g (Array.getElem?_eq_some_iff.1 hgg).1).trans hgg, rest⟩
theorem OwnM.form {base : Nat} {e : TypeId} {v : Value} {n : Nat} {l : List UInt8} (h : OwnM w base e v n l) : ∃ g cap, v = .slice (some ⟨g, 0, none⟩) n cap ∧ n ≤ cap ∧ base ≤ g := by
  obtain ⟨_, g, cap, cur, fz, hv, hb, _, _, hc, _⟩ := h
  exact ⟨g, cap, hv, hc, hb⟩
theorem OwnM.size_lt {base : Nat} {e : TypeId} {g n cap : Nat} {l : List UInt8} (h : OwnM w base e (.slice (some ⟨g, 0, none⟩) n cap) n l) : g < w.heap.size := by
  obtain ⟨_, g', cap', cur, fz, hv, hb, hg, _⟩ := h
  injection hv with hv
  injection hv with hv
  injection hv with hv
  subst hv
  exact (Array.getElem?_eq_some_iff.1 hg).1
theorem OwnM.cell {base : Nat} {e : TypeId} {g n cap : Nat} {l : List UInt8} (h : OwnM w base e (.slice (some ⟨g, 0, none⟩) n cap) n l) (j : Nat) (hj : j < l.length) : w.cell? ⟨g, j, none⟩ = some (.int .u8 (l[j].toNat : Int)) := by
  rcases h.rd with h0 | ⟨b, off, e', _, hc⟩
  · rw [h0] at hj; simp at hj
  · injection e' with e'
    injection e' with e1 e2
    subst e1 e2
    simpa using hc j hj
theorem OwnM.free {base : Nat} {e : TypeId} {g n cap : Nat} {l : List UInt8} (h : OwnM w base e (.slice (some ⟨g, 0, none⟩) n cap) n l) (j : Nat) (hj : j < n) : w.frozen? ⟨g, j, none⟩ = false := by
  obtain ⟨_, g', cap', cur, fz, hv, hb, hg, hfz, hnc, _⟩ := h
  injection hv with hv _ hcap
  injection hv with hv
  injection hv with hv
  subst hv hcap
  obtain ⟨lo, hi⟩ := fz
  simp only [World.frozen?, hg, Bool.and_eq_false_iff, decide_eq_false_iff_not]
  simp only at hfz
  omega

theorem zero_cells (n : Nat) : (Builtin.zeroCells (Value.int .u8 0).cells n).toList = Lib.byteCells (List.replicate n 0) := made_cells n
theorem zero_cells_arr (n : Nat) : Builtin.zeroCells (Value.int .u8 0).cells n = (Lib.byteCells (List.replicate n 0)).toArray := by rw [← zero_cells n]

/-- So many noughts behind such a row. -/
theorem run_append_Z {P : Program} (base : Nat) (t tn ty e : TypeId) (i : TypeInfo) (kq kn : IntKind) (ht : P.underlying t = some (.slice e)) (htn : P.underlying tn = some (.int kn)) (hi : P.info? e = some i) (hz : i.zero = some (.int .u8 0)) (hsize : i.size = 1) (hby : i.bytes = 1)
    (v : Value) (n : Nat) (xl : List UInt8) (hown : OwnM w base e v n xl) (k : Nat) (zl : List UInt8) (hzl : List.replicate k 0 = zl) (hlim : n + k ≤ 1000000) (hbase : base ≤ w.heap.size) :
    ∃ v' w', (Builtin.append_ #[t, tn] ty #[v, .int kq k]).run P w = .ok v' w' ∧ OwnM w' base e v' (n + k) (xl ++ zl) ∧ w.grownBy w' v.ownBlock := by
  subst hzl
  have hown0 := hown
  obtain ⟨hxl, g, cap, cur, fz, rfl, hb, hg, hfz, hnc, hcm, hcs, htake⟩ := hown
  have hw : IntKind.i64.wrap (k : Int) = k := by rw [IntKind.wrap_i64]; omega
  have hneg : ¬ ((k : Int) < 0) := by omega
  have h48i : ¬ (281474976710656 < (k : Int)) := by omega
  have hzlen : (Lib.byteCells (List.replicate k 0)).length = k := by rw [Lib.byteCells_length, List.length_replicate]
  by_cases hroom : n + k ≤ cap
  · have hst := run_storeCells_M P g n e fz (Lib.byteCells (List.replicate k 0)) 0 cur w hg (by rw [hcs]; exact hfz) (by rw [hzlen, hcs]; omega) (Lib.byteCells_one _)
    simp only [Nat.add_zero] at hst
    refine ⟨.slice (some ⟨g, 0, none⟩) (n + k) cap, w.setRow g (cur.toList.take n ++ Lib.byteCells (List.replicate k 0) ++ cur.toList.drop (n + (Lib.byteCells (List.replicate k 0)).length)).toArray, ?_, ⟨by simp [hxl], g, cap, _, fz, rfl, hb, setRow_heap w g cur _ e _ hg, hfz, hroom, hcm, ?_, ?_⟩, ⟨rfl, rfl, rfl, by simp, fun j _ hj => setRow_other w g j _ (fun e => hj (by simp [Value.ownBlock, e]))⟩⟩
    · by_cases hk0 : k = 0
      · subst hk0
        simp only [List.replicate_zero, show Lib.byteCells [] = [] from rfl] at hst ⊢
        have hw0 : IntKind.i64.wrap 0 = 0 := by rw [IntKind.wrap_i64]; omega
        simp [Builtin.append_, run_underlying ht, run_underlying htn, sizeOf, typeInfo, hi, hsize, hby, asInt, asIntOf, hw0, hnc, Addr.add_lit]
        have hst' : (storeCells ⟨g, n, none⟩ []).run P w = .ok () (w.setRow g cur) := by simpa using hst
        rw [hst']
        simp
      · simp [Builtin.append_, run_underlying ht, run_underlying htn, sizeOf, typeInfo, zeroValue, hi, hz, hsize, hby, asInt, asIntOf, hw, hneg, h48i, hk0, hroom, Addr.add_lit, zero_cells, hst]
    · simp only [List.size_toArray, List.length_append, List.length_take, List.length_drop, Array.length_toList, hzlen, hcs]
      omega
    · rw [htake, ← Lib.byteCells_append]
      have : (Lib.byteCells (xl ++ List.replicate k 0)).length = n + k := by rw [Lib.byteCells_length, List.length_append, hxl, List.length_replicate]
      rw [← this]
      exact List.take_left
  · have hf := run_firstCells_some (P := P) w.drew i.size n ⟨g, 0, none⟩ n cap (Lib.byteCells xl) (by rw [Lib.byteCells_length, hxl, hsize, Nat.mul_one]) (by simpa using Rd.cells hown0.rd)
    have hgr := Lib.run_append_grow_zeros (P := P) w t tn ty e i (.int .u8 0) kq kn ht htn hi hz (some ⟨g, 0, none⟩) n cap (Lib.byteCells xl) hf k (by omega) (by omega) (by omega) (by omega) (by rw [hby]; omega) (growslice_fits (by omega) (by rw [hby]; omega))
    have hge := grownCap_ge w (n + k) cap e
    have hcm2 : grownCap w (n + k) cap e ≤ maxLen := grownCap_le_maxLen w (n + k) cap e (by unfold maxLen; omega)
    rw [zero_cells_arr k] at hgr
    refine ⟨_, _, hgr, ⟨by simp [hxl], w.heap.size, _, _, (0, 0), rfl, hbase, heap_alloc_new w.drew _, .inl rfl, hge, hcm2, ?_, ?_⟩, ⟨rfl, rfl, rfl, by simp, fun k hk _ => Below.heap_alloc w.drew _ k hk⟩⟩
    · have hzc : (Value.int IntKind.u8 0).cells.size = 1 := rfl
      simp only [Array.size_append, List.size_toArray, size_zeroCells, hzc, hzlen, Lib.byteCells_length, hxl, Nat.mul_one]
      omega
    · simp only [Array.toList_append, List.append_assoc]
      rw [← List.append_assoc, ← Lib.byteCells_append]
      have : (Lib.byteCells (xl ++ List.replicate k 0)).length = n + k := by rw [Lib.byteCells_length, List.length_append, hxl, List.length_replicate]
      rw [← this]
      exact List.take_left

theorem wpList_append_Z {P : Program} {ops : Array Oper} {rest : List Oper} {o : Oper} {a : Act} {Q : Exit → Act → World → Prop} (hgd : o.guard = none) (s x : Operand) (t tn : TypeId)
    (ho : o.op = .call { callee := .builtin .append, args := #[s, x], argTypes := #[t, tn] })
    (base : Nat) (e : TypeId) (i : TypeInfo) (kq kn : IntKind) (ht : P.underlying t = some (.slice e)) (htn : P.underlying tn = some (.int kn)) (hi : P.info? e = some i) (hz : i.zero = some (.int .u8 0)) (hsize : i.size = 1) (hby : i.bytes = 1)
    (v : Value) (n : Nat) (xl : List UInt8) (hs : a.eval s = v) (hown : OwnM w base e v n xl) (k : Nat) (zl : List UInt8) (hx : a.eval x = .int kq k) (hzl : List.replicate k 0 = zl)
    (hlim : n + k ≤ 1000000) (hbase : base ≤ w.heap.size)
    (h : ∀ v' w', OwnM w' base e v' (n + k) (xl ++ zl) → w.grownBy w' v.ownBlock → wpList P ops Q rest (a.put o.dst v') w') : wpList P ops Q (o :: rest) a w := by
  refine wpList_plain hgd fun K hK => ?_
  obtain ⟨v', w', hrun, h2, h3⟩ := run_append_Z (P := P) base t tn o.type e i kq kn ht htn hi hz hsize hby v n xl hown k zl hzl hlim hbase
  unfold Oper.wp execOp
  simp only [ho, resolve, invoke, builtin, Sem.run_bind, Sem.run_pure, Result.andThen_ok, List.map_toArray, List.map_cons, List.map_nil, hs, hx, hrun]
  exact hK _ _ (h v' w' h2 h3)
end
end Go.Proofs.YtciflbkgfmbfdaaDoor
