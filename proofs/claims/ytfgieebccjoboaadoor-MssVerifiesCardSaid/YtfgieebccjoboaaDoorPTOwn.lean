/- Rows of hashes of one's own, made at once and written: a store of a hash, a copy of hashes. -/
import Derived.Test.YtfgieebccjoboaaDoorHashB2
import Derived.Test.YtfgieebccjoboaaDoorRTClimb
import Derived.Laws.OwnMore
import Derived.Laws.CopyRow
namespace Go.Proofs.YtfgieebccjoboaaDoor
open Go.RowKit

theorem flat_take : ∀ (hs : List (List UInt8)), (∀ r ∈ hs, r.length = 32) → ∀ i, (hs.flatMap Lib.byteCells).take (i * 32) = (hs.take i).flatMap Lib.byteCells
  | [], _, i => by simp
  | x :: r, _, 0 => by simp
  | x :: r, hl, i + 1 => by
    have hx : (Lib.byteCells x).length = 32 := by rw [Lib.byteCells_length]; exact hl x (List.mem_cons_self ..)
    rw [List.flatMap_cons, List.take_succ_cons, List.flatMap_cons, List.take_append, List.take_of_length_le (by omega), hx, show (i + 1) * 32 - 32 = i * 32 by omega, flat_take r (fun y hy => hl y (List.mem_cons_of_mem _ hy)) i]
theorem flat_drop : ∀ (hs : List (List UInt8)), (∀ r ∈ hs, r.length = 32) → ∀ i, (hs.flatMap Lib.byteCells).drop (i * 32) = (hs.drop i).flatMap Lib.byteCells
  | [], _, i => by simp
  | x :: r, _, 0 => by simp
  | x :: r, hl, i + 1 => by
    have hx : (Lib.byteCells x).length = 32 := by rw [Lib.byteCells_length]; exact hl x (List.mem_cons_self ..)
    rw [List.flatMap_cons, List.drop_succ_cons, List.drop_append, List.drop_of_length_le (by omega), hx, show (i + 1) * 32 - 32 = i * 32 by omega, List.nil_append, flat_drop r (fun y hy => hl y (List.mem_cons_of_mem _ hy)) i]
/-- Hashes laid over others, from place i on. -/
def overH (hs : List (List UInt8)) (i : Nat) (ks : List (List UInt8)) : List (List UInt8) := hs.take i ++ (ks ++ hs.drop (i + ks.length))
theorem overH_len {hs : List (List UInt8)} {i : Nat} {ks : List (List UInt8)} (h : i + ks.length ≤ hs.length) : (overH hs i ks).length = hs.length := by simp [overH]; omega
theorem overH_hash {hs ks : List (List UInt8)} {i : Nat} (h1 : ∀ r ∈ hs, r.length = 32) (h2 : ∀ r ∈ ks, r.length = 32) : ∀ r ∈ overH hs i ks, r.length = 32 := fun r hr => by
  unfold overH at hr
  rcases List.mem_append.1 hr with hr | hr
  · exact h1 r (List.mem_of_mem_take hr)
  · rcases List.mem_append.1 hr with hr | hr
    · exact h2 r hr
    · exact h1 r (List.mem_of_mem_drop hr)
theorem overH_one {hs : List (List UInt8)} {i : Nat} {h : List UInt8} (hi : i < hs.length) : overH hs i [h] = hs.set i h := by
  unfold overH
  rw [List.set_eq_take_append_cons_drop, if_pos hi]
  rfl
theorem overH_head (hs ks : List (List UInt8)) : overH hs 0 ks = ks ++ hs.drop ks.length := by simp [overH]
theorem OwnH.over {w : World} {B g n c : Nat} {hs ks : List (List UInt8)} {i : Nat} (h : OwnH w B (.slice (some ⟨g, 0, none⟩) n c) hs) (hn : hs.length = n) (hk : ∀ r ∈ ks, r.length = 32) (hi : i + ks.length ≤ n) :
    ∃ cur, w.heap[g]? = some (.cells cur 29 (0, 0)) ∧ B ≤ g ∧ i * 32 + ks.length * 32 ≤ cur.size ∧ OwnH (w.setRow g (cur.toList.take (i * 32) ++ ks.flatMap Lib.byteCells ++ cur.toList.drop (i * 32 + ks.length * 32)).toArray) B (.slice (some ⟨g, 0, none⟩) n c) (overH hs i ks) := by
  subst hn
  rcases h.2.2 with ⟨e, _⟩ | ⟨g', cap, cur, e, h2, h3, h4, h5, h6, h7⟩
  · cases e
  · injection e with e1 e2 e3
    injection e1 with e1
    injection e1 with e1
    subst e1 e3
    have hle : hs.length * 32 ≤ c * 32 := by omega
    have hik : i * 32 + ks.length * 32 ≤ hs.length * 32 := by omega
    have hkl : (ks.flatMap Lib.byteCells).length = ks.length * 32 := flat_len ks hk
    have hlen : (overH hs i ks).length = hs.length := overH_len hi
    have hoh := overH_hash (i := i) h.1 hk
    refine ⟨cur, h3, h2, by omega, hoh, ?_, .inr ⟨g, c, _, by rw [hlen], h2, setRow_heap w g cur _ _ _ h3, by rw [hlen]; exact h4, h5, ?_, ?_⟩⟩
    · rw [flat_len _ hoh]
    · simp [hkl]
      omega
    · have hc : cur.toList = hs.flatMap Lib.byteCells ++ cur.toList.drop (hs.length * 32) := by
        rw [← h7, List.take_append_drop]
      have hfl : (hs.flatMap Lib.byteCells).length = hs.length * 32 := flat_len hs h.1
      generalize cur.toList.drop (hs.length * 32) = R at hc
      have hA : cur.toList.take (i * 32) = (hs.take i).flatMap Lib.byteCells := by
        rw [hc, List.take_append_of_le_length (by omega), flat_take hs h.1]
      have hB : cur.toList.drop (i * 32 + ks.length * 32) = (hs.drop (i + ks.length)).flatMap Lib.byteCells ++ R := by
        rw [hc, List.drop_append_of_le_length (by omega), ← Nat.add_mul, flat_drop hs h.1]
      have e : (hs.take i).flatMap Lib.byteCells ++ ks.flatMap Lib.byteCells ++ ((hs.drop (i + ks.length)).flatMap Lib.byteCells ++ R) = (overH hs i ks).flatMap Lib.byteCells ++ R := by
        simp [overH, List.flatMap_append]
      simp only
      rw [hA, hB, e, List.take_append_of_le_length (by rw [flat_len _ hoh]; exact Nat.le_refl _), List.take_of_length_le (by rw [flat_len _ hoh]; exact Nat.le_refl _)]
theorem sizeHash : (Tryd.prog.info? 29).map (·.size) = some 32 := by kernel_rfl
/-- A hash is stored in a row of one's own. -/
theorem run_store_own {w : World} {B g n c : Nat} {hs : List (List UInt8)} {i : Nat} (h : OwnH w B (.slice (some ⟨g, 0, none⟩) n c) hs) (hn : hs.length = n) (hi : i < n) (x : List UInt8) (hx : x.length = 32) :
    ∃ w', (Instr.storeAt 29 (.pointer (some ⟨g, i * 32, none⟩)) (.agg (u8A x))).run Tryd.prog w = .ok () w' ∧ OwnH w' B (.slice (some ⟨g, 0, none⟩) n c) (hs.set i x) ∧ w.grownBy w' (some g) ∧ B ≤ g := by
  obtain ⟨cur, h1, h2, h3, h4⟩ := h.over (ks := [x]) (i := i) hn (fun r hr => by rw [List.mem_singleton.1 hr]; exact hx) (by simp; omega)
  rw [overH_one (by omega)] at h4
  obtain ⟨j, z, hj, _, _, hsz, _⟩ := hash_parts
  have hcl : (Lib.byteCells x).length = 32 := by rw [Lib.byteCells_length, hx]
  have e : ([x] : List (List UInt8)).flatMap Lib.byteCells = Lib.byteCells x := by simp
  rw [e] at h4
  have hst := run_storeCells_at Tryd.prog g (i * 32) 29 (Lib.byteCells x) 0 cur w h1 (by simp at h3; omega) (Lib.byteCells_one x)
  rw [Nat.add_zero, hcl] at hst
  refine ⟨_, ?_, h4, setRow_grown w g _, h2⟩
  have hs2 : (u8A x).size = j.size := by rw [u8A_size, hx, hsz]
  have hl2 : (u8A x).toList = Lib.byteCells x := by simp [u8A]
  simp [Instr.storeAt, Instr.sureAddr, storeVar, sizeOf, typeInfo, hj, Value.cells, hs2, hl2, hst]
theorem wpList_store_own {w : World} {ops : Array Oper} {rest : List Oper} {o : Oper} {a : Act} {Q : Exit → Act → World → Prop} (hgd : o.guard = none) (p y : Operand) (ho : o.op = .store 29 p y)
    {B g n c : Nat} {hs : List (List UInt8)} {i : Nat} (h : OwnH w B (.slice (some ⟨g, 0, none⟩) n c) hs) (hn : hs.length = n) (hi : i < n) (x : List UInt8) (hx : x.length = 32) (X : Array Value) (hX : u8A x = X)
    (hp : a.eval p = .pointer (some ⟨g, i * 32, none⟩)) (hy : a.eval y = .agg X)
    (hk : ∀ w', OwnH w' B (.slice (some ⟨g, 0, none⟩) n c) (hs.set i x) → w.grownBy w' (some g) → B ≤ g → wpList Tryd.prog ops Q rest (a.put o.dst undef) w') : wpList Tryd.prog ops Q (o :: rest) a w := by
  subst hX
  obtain ⟨w', hrun, h1, h2, h3⟩ := run_store_own h hn hi x hx
  refine wpList_plain hgd fun K hK => ?_
  unfold Oper.wp execOp
  simp only [ho, hp, hy, Sem.run_bind, Sem.run_pure, Result.andThen_ok, hrun]
  exact hK _ _ (hk w' h1 h2 h3)
/-- Hashes are copied into a row of one's own, from its head on. -/
theorem run_copy_own {w : World} {B g n c : Nat} {hs ks : List (List UInt8)} (h : OwnH w B (.slice (some ⟨g, 0, none⟩) n c) hs) (hn : hs.length = n) (A : Option Addr) (m d C : Nat) (hm : ks.length = m) (hmn : m ≤ n) (hl : ∀ r ∈ ks, r.length = 32) (hr : RdH w C A ks) (ty : TypeId) :
    ∃ w', (Builtin.copy_ #[33, 33] ty #[.slice (some ⟨g, 0, none⟩) n c, .slice A m d]).run Tryd.prog w = .ok (goInt m) w' ∧ OwnH w' B (.slice (some ⟨g, 0, none⟩) n c) (ks ++ hs.drop m) ∧ w.grownBy w' (some g) ∧ B ≤ g := by
  obtain ⟨cur, h1, h2, h3, h4⟩ := h.over (ks := ks) (i := 0) hn hl (by omega)
  rw [overH_head, hm] at h4
  obtain ⟨j, z, hj, _, _, hsz, _⟩ := hash_parts
  have hkl : (ks.flatMap Lib.byteCells).length = m * 32 := by rw [flat_len ks hl, hm]
  rw [Nat.zero_mul, Nat.zero_add, hm] at h3
  rw [Nat.zero_mul, Nat.zero_add] at h4
  have hst := run_storeCells_at Tryd.prog g 0 29 (ks.flatMap Lib.byteCells) 0 cur w h1 (by omega) (fun u hu => by
    obtain ⟨y, _, hy⟩ := List.mem_flatMap.1 hu
    exact Lib.byteCells_one y u hy)
  rw [Nat.add_zero, Nat.zero_add, hkl] at hst
  refine ⟨_, ?_, h4, setRow_grown w g _, h2⟩
  have hmin : Nat.min m n = m := Nat.min_eq_left hmn
  rcases A with _ | ad
  · have h0 : ks = [] := by
      rcases hr with rfl | ⟨b, off, e, _⟩
      · rfl
      · cases e
    subst h0
    obtain rfl : m = 0 := by simpa using hm.symm
    simp [Builtin.copy_, run_underlying Tryd.underlying33, Builtin.lenOf, Builtin.firstCells, sizeOf, typeInfo, hj, storeCells] at hst ⊢
    exact hst
  · have hld := run_loadCells_list (P := Tryd.prog) w ad (ks.flatMap Lib.byteCells) (hr.cells hl)
    rw [hkl] at hld
    simp [Builtin.copy_, run_underlying Tryd.underlying33, Builtin.lenOf, Builtin.firstCells, sizeOf, typeInfo, hj, hsz, hmin, hld, hst]
theorem wpList_copy_own {w : World} {ops : Array Oper} {rest : List Oper} {o : Oper} {a : Act} {Q : Exit → Act → World → Prop} (hgd : o.guard = none) (s x : Operand)
    (ho : o.op = .call { callee := .builtin .copy, args := #[s, x], argTypes := #[33, 33] })
    {B g n c : Nat} {hs ks : List (List UInt8)} (h : OwnH w B (.slice (some ⟨g, 0, none⟩) n c) hs) (hn : hs.length = n) (A : Option Addr) (m d C : Nat) (hm : ks.length = m) (hmn : m ≤ n) (hl : ∀ r ∈ ks, r.length = 32) (hr : RdH w C A ks)
    (hs' : a.eval s = .slice (some ⟨g, 0, none⟩) n c) (hx : a.eval x = .slice A m d)
    (hk : ∀ w', OwnH w' B (.slice (some ⟨g, 0, none⟩) n c) (ks ++ hs.drop m) → w.grownBy w' (some g) → B ≤ g → wpList Tryd.prog ops Q rest (a.put o.dst (goInt m)) w') : wpList Tryd.prog ops Q (o :: rest) a w := by
  obtain ⟨w', hrun, h1, h2, h3⟩ := run_copy_own h hn A m d C hm hmn hl hr o.type
  refine wpList_plain hgd fun K hK => ?_
  unfold Oper.wp
  simp [execOp, ho, resolve, invoke, builtin, hs', hx, hrun, Result.andThen]
  exact hK _ _ (hk w' h1 h2 h3)
/-- A new row of noughts. -/
theorem infoHash3 : ((Tryd.prog.info? 29).bind (·.zero)) = some (.agg (u8A zeroH)) := by kernel_rfl
theorem made_hashes (n : Nat) : (madeCells (u8A zeroH) (n * 32)).toList = (List.replicate n zeroH).flatMap Lib.byteCells := by
  have hl : ∀ r ∈ List.replicate n zeroH, r.length = 32 := fun r hr => by rw [(List.mem_replicate.1 hr).2]; rfl
  have hz : ∀ i, i < 32 → (u8A zeroH)[i]? = some (.int .u8 0) := fun i hi => by
    have e : u8A zeroH = (List.replicate 32 (Value.int .u8 0)).toArray := rfl
    rw [e, List.getElem?_toArray, List.getElem?_replicate, if_pos hi]
  apply List.ext_getElem?
  intro j
  by_cases hj : j < n * 32
  · have h1 : j / 32 < (List.replicate n zeroH).length := by rw [List.length_replicate]; omega
    have h2 := flat_at _ hl (j / 32) (j % 32) h1 (Nat.mod_lt _ (by omega))
    rw [show j / 32 * 32 + j % 32 = j by omega] at h2
    rw [h2]
    have h3 := hz (j % 32) (Nat.mod_lt _ (by omega))
    have h4 : (Lib.byteCells (List.replicate n zeroH)[j / 32])[j % 32]? = (u8A zeroH)[j % 32]? := by
      rw [List.getElem_replicate]; simp [u8A]
    rw [h4, h3]
    have h5 : (u8A zeroH).size = 32 := by rw [u8A_size]; rfl
    have hb : j % 32 < (u8A zeroH).size := by rw [h5]; exact Nat.mod_lt _ (by omega)
    have h6 : (u8A zeroH)[j % 32] = .int .u8 0 := by
      have := h3
      rw [Array.getElem?_eq_getElem hb] at this
      exact Option.some.inj this
    have h7 : (u8A zeroH)[j % 32]! = .int .u8 0 := by rw [getElem!_pos (u8A zeroH) (j % 32) hb]; exact h6
    simp [madeCells, hj, h5, h7]
  · rw [List.getElem?_eq_none (by simp [madeCells]; omega), List.getElem?_eq_none (by rw [flat_len _ hl, List.length_replicate]; omega)]
theorem run_make_hashes (w : World) (n : Nat) (hn : n ≤ 1000000) : ∃ w', (Instr.makeSlice 33 (.int .i64 (n : Int)) (.int .i64 (n : Int))).run Tryd.prog w = .ok (.slice (some ⟨w.heap.size, 0, none⟩) n n) w' ∧ OwnH w' w.heap.size (.slice (some ⟨w.heap.size, 0, none⟩) n n) (List.replicate n zeroH) ∧ Below w.heap.size w w' := by
  obtain ⟨i, z, hi, hz, hzs, hsz, hby⟩ := hash_parts
  have hzz : z = .agg (u8A zeroH) := by
    have h := infoHash3
    rw [hi] at h
    simp only [Option.bind_some] at h
    rw [hz] at h
    exact Option.some.inj h
  obtain ⟨w', hrun, r1, r2⟩ := run_make_full (P := Tryd.prog) w w.heap.size 33 29 i z 32 Tryd.underlying33 hi hz hsz .i64 .i64 n (by rw [hby]; omega) (by unfold maxLen; omega) (Nat.le_refl _)
  rw [hzz, show (Value.agg (u8A zeroH)).cells = u8A zeroH from rfl, made_hashes] at r1
  refine ⟨w', hrun, ⟨fun r hr => by rw [(List.mem_replicate.1 hr).2]; rfl, by rw [List.length_replicate]; exact r1⟩, (Below.refl _ _).grown r2 (Nat.le_refl _) (fun k hk => by cases hk)⟩
theorem wpList_make_hashes {w : World} {ops : Array Oper} {rest : List Oper} {o : Oper} {a : Act} {Q : Exit → Act → World → Prop} (hgd : o.guard = none) (l c : Operand) (ho : o.op = .makeSlice 33 l c)
    (n : Nat) (hn : n ≤ 1000000) (hl : a.eval l = .int .i64 (n : Int)) (hc : a.eval c = .int .i64 (n : Int))
    (hk : ∀ w', OwnH w' w.heap.size (.slice (some ⟨w.heap.size, 0, none⟩) n n) (List.replicate n zeroH) → Below w.heap.size w w' → wpList Tryd.prog ops Q rest (a.put o.dst (.slice (some ⟨w.heap.size, 0, none⟩) n n)) w') : wpList Tryd.prog ops Q (o :: rest) a w := by
  obtain ⟨w', hrun, h1, h2⟩ := run_make_hashes w n hn
  refine wpList_plain hgd fun K hK => ?_
  unfold Oper.wp
  simp [execOp, ho, hl, hc, hrun, Result.andThen]
  exact hK _ _ (hk w' h1 h2)
end Go.Proofs.YtfgieebccjoboaaDoor
