/- append of a hash onto a row of hashes of one's own. -/
import Derived.Test.YtpfhhbfjemmkaaaDoorHashB
import Derived.Test.YtpfhhbfjemmkaaaDoorU8
import Derived.Deep.AppendLies
import Derived.Great.BuildSlice
import Derived.Great.FillDense
namespace Go.Proofs.YtpfhhbfjemmkaaaDoor
open Go.RowKit

theorem hash_parts : ∃ i z, Tryd.prog.info? 25 = some i ∧ i.zero = some z ∧ z.cells.size = 32 ∧ i.size = 32 ∧ i.bytes = 32 := by
  have h := infoHash
  cases hi : Tryd.prog.info? 25 with
  | none => rw [hi] at h; simp at h
  | some i =>
    rw [hi] at h
    simp only [Option.map_some, Option.some.injEq, Prod.mk.injEq] at h
    obtain ⟨h1, h2, h3⟩ := h
    cases hz : i.zero with
    | none => rw [hz] at h1; simp at h1
    | some z =>
      rw [hz] at h1
      simp only [Option.map_some, Option.some.injEq] at h1
      exact ⟨i, z, rfl, hz, h1, h2, h3⟩
theorem OwnH.snoc {w w' : World} {base : Nat} {v v' : Value} {hs : List (List UInt8)} {h : List UInt8} (h1 : OwnH w base v hs) (hl : h.length = 32)
    (k1 : w'.ownsRow base 25 32 v' (hs.length + 1) (hs.flatMap Lib.byteCells ++ Lib.byteCells h)) : OwnH w' base v' (hs ++ [h]) := by
  refine ⟨fun r hr => ?_, by simpa using k1⟩
  rcases List.mem_append.1 hr with hr | hr
  · exact h1.1 r hr
  · rw [List.mem_singleton.1 hr]; exact hl
/-- In a region that draws its order: the hash lies in block b. -/
theorem step_append_hash {w : World} {ops : Array Oper} {o : Oper} {a : Act} {K : Act → World → Prop} {Q : Exit → Act → World → Prop} {E : Prop} (hgd : o.guard = none) (s x : Operand)
    (ho : o.op = .call { callee := .builtin .append, args := #[s, x], argTypes := #[23, 23] })
    (base : Nat) (v : Value) (hs : List (List UInt8)) (hv : a.eval s = v) (hown : OwnH w base v hs) (b : Nat) (h : List UInt8) (hl : h.length = 32) (hb : Blk w b (u8A h) 25) (hx : a.eval x = .slice (some ⟨b, 0, none⟩) 1 1)
    (hlim : hs.length ≤ 1000000) (hbase : base ≤ w.heap.size)
    (hk : ∀ v' w', OwnH w' base v' (hs ++ [h]) → Below base w w' → K (a.put o.dst v') w') :
    if Region.wanted o (yielded ops a.tmps) = true then Oper.wp Tryd.prog o a w K Q else E := by
  obtain ⟨i, z, hi, hz, hzs, hsz, hby⟩ := hash_parts
  refine step_append_lies (P := Tryd.prog) w hgd s x 23 ho base 25 i z 32 32 Tryd.underlying23 hi hz hsz hby hzs (by omega) v hs.length (hs.flatMap Lib.byteCells) hv hown.2 ⟨b, 0, none⟩ 1 1 (Lib.byteCells h) hx (by rw [Lib.byteCells_length, hl]) (fun j u hj => ?_) (Lib.byteCells_one h) (by omega) (by unfold maxLen; omega) (by omega) hbase w.heap.size rfl
    (fun g cap w' k1 k2 _ _ => hk _ w' (hown.snoc hl k1) ((Below.refl base w).grown k2 hbase hown.lt))
  · have e : (⟨b, 0, none⟩ : Addr).add j = ⟨b, j, none⟩ := by
      by_cases h0 : j = 0 <;> simp [Addr.add, h0]
    rw [e, hb.cell j]
    simpa [u8A] using hj
/-- In a plain region. -/
theorem wpList_append_hash {w : World} {ops : Array Oper} {rest : List Oper} {o : Oper} {a : Act} {Q : Exit → Act → World → Prop} (hgd : o.guard = none) (s x : Operand)
    (ho : o.op = .call { callee := .builtin .append, args := #[s, x], argTypes := #[23, 23] })
    (base : Nat) (v : Value) (hs : List (List UInt8)) (hv : a.eval s = v) (hown : OwnH w base v hs) (b : Nat) (h : List UInt8) (hl : h.length = 32) (hb : Blk w b (u8A h) 25) (hx : a.eval x = .slice (some ⟨b, 0, none⟩) 1 1)
    (hlim : hs.length ≤ 1000000) (hbase : base ≤ w.heap.size)
    (hk : ∀ v' w', OwnH w' base v' (hs ++ [h]) → Below base w w' → wpList Tryd.prog ops Q rest (a.put o.dst v') w') : wpList Tryd.prog ops Q (o :: rest) a w := by
  obtain ⟨i, z, hi, hz, hzs, hsz, hby⟩ := hash_parts
  refine wpList_append_own (P := Tryd.prog) _ hgd s x 23 ho base 25 i z 32 32 Tryd.underlying23 hi hz hsz hby hzs (by omega) v hs.length (hs.flatMap Lib.byteCells) hv hown.2 ⟨b, 0, none⟩ 1 1 (Lib.byteCells h) hx (by rw [Lib.byteCells_length, hl]) (fun j u hj => ?_) (Lib.byteCells_one h) (by unfold maxLen; omega) (by omega) hbase
    (fun v' w' k1 k2 _ => hk v' w' (hown.snoc hl k1) ((Below.refl base w).grown k2 hbase hown.lt))
  · have e : (⟨b, 0, none⟩ : Addr).add j = ⟨b, j, none⟩ := by
      by_cases h0 : j = 0 <;> simp [Addr.add, h0]
    rw [e, hb.cell j]
    simpa [u8A] using hj
/-- A slice literal of one hash. -/
theorem fill_hash (Z : Array Value) (hz : Z.size = 32) (cells : Array Value) (hc : cells.size = 32) : Instr.fill (fun i => some (i * 32, 32)) cells [(0, .agg Z)] = some Z := by
  have h := Great.fill_whole (s := 32) (by omega) [.agg Z] cells (fun v hv => by rw [List.mem_singleton.1 hv]; exact hz) (by rw [hc]; rfl)
  have e : ([Value.agg Z].flatMap fun v => v.cells.toList).toArray = Z := by
    simp only [List.flatMap_cons, List.flatMap_nil, List.append_nil]
    rfl
  rw [e] at h
  exact h
theorem wpList_build_hash {w : World} {ops : Array Oper} {rest : List Oper} {o : Oper} {a : Act} {Q : Exit → Act → World → Prop} (hgd : o.guard = none) (x : Operand)
    (ho : o.op = .buildSlice 23 1 #[(0, x)]) (Z : Array Value) (hx : a.eval x = .agg Z) (hz : Z.size = 32)
    (h : wpList Tryd.prog ops Q rest (a.put o.dst (.slice (some ⟨w.heap.size, 0, none⟩) 1 1)) (w.alloc (.cells Z 25))) : wpList Tryd.prog ops Q (o :: rest) a w := by
  obtain ⟨i, z, hi, hzz, hzs, hsz, hby⟩ := hash_parts
  refine wpList_buildSlice (P := Tryd.prog) hgd 23 25 1 #[(0, x)] ho Z i z Tryd.underlying23 hi hzz (by rw [hsz]; decide) (by rw [hsz]; decide) ?_ h
  rw [hsz]
  have e : ((#[(0, x)] : Array (Nat × Operand)).map fun (i, x) => (i, a.eval x)).toList = [(0, .agg Z)] := by simp [hx]
  rw [e]
  exact fill_hash Z hz _ (by simp)
/-- Hashes behind hashes. -/
theorem flat_len : ∀ (hs : List (List UInt8)), (∀ r ∈ hs, r.length = 32) → (hs.flatMap Lib.byteCells).length = hs.length * 32
  | [], _ => rfl
  | x :: r, hl => by
    rw [List.flatMap_cons, List.length_append, Lib.byteCells_length, hl x (List.mem_cons_self ..), flat_len r fun y hy => hl y (List.mem_cons_of_mem _ hy), List.length_cons]
    omega
theorem RdH.cells {w : World} {B : Nat} {ad : Addr} {hs : List (List UInt8)} (h : RdH w B (some ad) hs) (hl : ∀ r ∈ hs, r.length = 32) : ∀ j u, (hs.flatMap Lib.byteCells)[j]? = some u → w.cell? (ad.add j) = some u := by
  rcases h with rfl | ⟨b, off, e, _, hc⟩
  · intro j u hj; simp at hj
  · injection e with e
    subst e
    intro j u hj
    have hlt : j < hs.length * 32 := by
      have := (List.getElem?_eq_some_iff.1 hj).1
      rwa [flat_len hs hl] at this
    have h1 : j / 32 < hs.length := (Nat.div_lt_iff_lt_mul (by omega)).2 hlt
    have h2 := flat_at hs hl (j / 32) (j % 32) h1 (Nat.mod_lt _ (by omega))
    rw [show j / 32 * 32 + j % 32 = j by omega] at h2
    rw [h2] at hj
    have h3 := hc (j / 32) h1 (j % 32) u hj
    rw [show off + j / 32 * 32 + j % 32 = off + j by omega] at h3
    rw [Addr.add_mid]
    exact h3
theorem wpList_append_hashes {w : World} {ops : Array Oper} {rest : List Oper} {o : Oper} {a : Act} {Q : Exit → Act → World → Prop} (hgd : o.guard = none) (s x : Operand)
    (ho : o.op = .call { callee := .builtin .append, args := #[s, x], argTypes := #[23, 23] })
    (base : Nat) (v : Value) (hs : List (List UInt8)) (hv : a.eval s = v) (hown : OwnH w base v hs) (C : Nat) (A : Option Addr) (m c : Nat) (ks : List (List UInt8)) (hx : a.eval x = .slice A m c) (hm : ks.length = m) (hl : ∀ r ∈ ks, r.length = 32) (hr : RdH w C A ks)
    (hlim : hs.length + m ≤ 1000000) (hbase : base ≤ w.heap.size)
    (hk : ∀ v' w', OwnH w' base v' (hs ++ ks) → Below base w w' → wpList Tryd.prog ops Q rest (a.put o.dst v') w') : wpList Tryd.prog ops Q (o :: rest) a w := by
  obtain ⟨i, z, hi, hz, hzs, hsz, hby⟩ := hash_parts
  rcases A with _ | ad
  · have h0 : ks = [] := by
      rcases hr with rfl | ⟨b, off, e, _⟩
      · rfl
      · cases e
    subst h0
    obtain rfl : m = 0 := by simpa using hm.symm
    refine wpList_plain hgd fun K hK => ?_
    have hrun : (Builtin.append_ #[23, 23] o.type #[v, .slice none 0 c]).run Tryd.prog w = .ok v w := by
      rcases hown.2.2 with ⟨rfl, _⟩ | ⟨g, cap, cur, rfl, _, _, hnc, _⟩
      · simp [Builtin.append_, run_underlying Tryd.underlying23, sizeOf, typeInfo, hi, Builtin.lenOf, Builtin.firstCells]
      · simp [Builtin.append_, run_underlying Tryd.underlying23, sizeOf, typeInfo, hi, Builtin.lenOf, Builtin.firstCells, hnc, storeCells]
    unfold Oper.wp execOp
    simp only [ho, resolve, invoke, builtin, Sem.run_bind, Sem.run_pure, Result.andThen_ok, List.map_toArray, List.map_cons, List.map_nil, hv, hx, hrun]
    exact hK _ _ (hk v w (by simpa using hown) (Below.refl _ _))
  · refine wpList_append_own (P := Tryd.prog) _ hgd s x 23 ho base 25 i z 32 32 Tryd.underlying23 hi hz hsz hby hzs (by omega) v hs.length (hs.flatMap Lib.byteCells) hv hown.2 ad m c (ks.flatMap Lib.byteCells) hx (by rw [flat_len ks hl, hm]) (hr.cells hl) (fun u hu => ?_) (by unfold maxLen; omega) (by omega) hbase
      (fun v' w' k1 k2 _ => hk v' w' ⟨fun r hr => ?_, ?_⟩ ((Below.refl base w).grown k2 hbase hown.lt))
    · obtain ⟨y, _, hy⟩ := List.mem_flatMap.1 hu
      exact Lib.byteCells_one y u hy
    · rcases List.mem_append.1 hr with hr | hr
      · exact hown.1 r hr
      · exact hl r hr
    · rw [List.length_append, hm, List.flatMap_append]
      exact k1
/-- A hash is loaded from wherever it lies. -/
theorem wpList_load_hash {w : World} {ops : Array Oper} {rest : List Oper} {o : Oper} {a : Act} {Q : Exit → Act → World → Prop} (hgd : o.guard = none) (x : Operand) (ho : o.op = .load 25 x)
    (b off : Nat) (hx : a.eval x = .pointer (some ⟨b, off, none⟩)) (h : List UInt8) (hl : h.length = 32) (hc : w.rangeAt b off (Lib.byteCells h)) (X : Array Value) (hX : u8A h = X)
    (hk : wpList Tryd.prog ops Q rest (a.put o.dst (.agg X)) w) : wpList Tryd.prog ops Q (o :: rest) a w := by
  subst hX
  obtain ⟨i, z, hi, _, _, hsz, _⟩ := hash_parts
  exact wpList_load_mid (P := Tryd.prog) hgd 25 x ho b off hx (Lib.byteCells h) _ hc Tryd.underlying25 rfl (by rw [hi, Option.map_some, hsz, Lib.byteCells_length, hl]) hk
/-- append of a hash in a plain region: just the list's own block has changed. -/
theorem wpList_append_hashG {w : World} {ops : Array Oper} {rest : List Oper} {o : Oper} {a : Act} {Q : Exit → Act → World → Prop} (hgd : o.guard = none) (s x : Operand)
    (ho : o.op = .call { callee := .builtin .append, args := #[s, x], argTypes := #[23, 23] })
    (base : Nat) (v : Value) (hs : List (List UInt8)) (hv : a.eval s = v) (hown : OwnH w base v hs) (b : Nat) (h : List UInt8) (hl : h.length = 32) (hb : Blk w b (u8A h) 25) (hx : a.eval x = .slice (some ⟨b, 0, none⟩) 1 1)
    (hlim : hs.length ≤ 1000000) (hbase : base ≤ w.heap.size)
    (hk : ∀ v' w', OwnH w' base v' (hs ++ [h]) → w.grownBy w' v.ownBlock → wpList Tryd.prog ops Q rest (a.put o.dst v') w') : wpList Tryd.prog ops Q (o :: rest) a w := by
  obtain ⟨i, z, hi, hz, hzs, hsz, hby⟩ := hash_parts
  refine wpList_append_own (P := Tryd.prog) _ hgd s x 23 ho base 25 i z 32 32 Tryd.underlying23 hi hz hsz hby hzs (by omega) v hs.length (hs.flatMap Lib.byteCells) hv hown.2 ⟨b, 0, none⟩ 1 1 (Lib.byteCells h) hx (by rw [Lib.byteCells_length, hl]) (fun j u hj => ?_) (Lib.byteCells_one h) (by unfold maxLen; omega) (by omega) hbase
    (fun v' w' k1 k2 _ => hk v' w' (hown.snoc hl k1) k2)
  · have e : (⟨b, 0, none⟩ : Addr).add j = ⟨b, j, none⟩ := by
      by_cases h0 : j = 0 <;> simp [Addr.add, h0]
    rw [e, hb.cell j]
    simpa [u8A] using hj
theorem OwnH.inside {w : World} {B : Nat} {v : Value} {hs : List (List UInt8)} (h : OwnH w B v hs) : ∀ g, v.ownBlock = some g → g < w.heap.size := fun g hg => (h.2.lt g hg).2
theorem OwnH.apart {w w' : World} {B : Nat} {v : Value} {hs : List (List UInt8)} {row : Option Nat} (h : OwnH w B v hs) (hg : w.grownBy w' row) (hr : ∀ g, v.ownBlock = some g → row ≠ some g) : OwnH w' B v hs := by
  refine ⟨h.1, h.2.1, ?_⟩
  rcases h.2.2 with h0 | ⟨g, cap, cur, rfl, h2, h3, h4⟩
  · exact .inl h0
  · exact .inr ⟨g, cap, cur, rfl, h2, (hg.block g (Array.getElem?_eq_some_iff.1 h3).1 (fun e => hr g (by simp [Value.ownBlock]) e.symm)).trans h3, h4⟩
end Go.Proofs.YtpfhhbfjemmkaaaDoor
