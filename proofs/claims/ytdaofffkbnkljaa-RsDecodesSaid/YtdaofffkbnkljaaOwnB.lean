/- Rows of bytes that the call owns, of which the spare cells are known to be bytes too. -/
import Derived.Test.YtdaofffkbnkljaaAppend
import Derived.Test.YtdaofffkbnkljaaMarked
import Derived.Deep.AppendSrc
namespace Go.Proofs.Ytdaofffkbnkljaa
open Go.RowKit

/-- The slice value v owns the bytes l; the cells behind them are bytes as well. -/
def OwnB (w : World) (base : Nat) (e : TypeId) (v : Value) (n : Nat) (l : List UInt8) : Prop :=
  l.length = n ∧ ((v = .slice none 0 0 ∧ n = 0) ∨ ∃ g cap full, v = .slice (some ⟨g, 0, none⟩) n cap ∧ base ≤ g ∧ w.heap[g]? = some (.cells (Lib.byteCells full).toArray e (0, 0)) ∧ n ≤ cap ∧ cap ≤ maxLen ∧ full.length = cap ∧ full.take n = l)

section
variable {P : Program} {w : World}

theorem OwnB.nil (w : World) (base : Nat) (e : TypeId) : OwnB w base e (.slice none 0 0) 0 [] := ⟨rfl, .inl ⟨rfl, rfl⟩⟩

theorem OwnB.own {base : Nat} {e : TypeId} {v : Value} {n : Nat} {l : List UInt8} (h : OwnB w base e v n l) : w.ownsRow base e 1 v n (Lib.byteCells l) := by
  obtain ⟨hl, h⟩ := h
  refine ⟨by rw [Lib.byteCells_length, hl, Nat.mul_one], ?_⟩
  rcases h with ⟨rfl, rfl⟩ | ⟨g, cap, full, rfl, hb, hg, hnc, hcm, hf, ht⟩
  · exact .inl ⟨rfl, rfl⟩
  · refine .inr ⟨g, cap, _, rfl, hb, hg, hnc, hcm, by rw [List.size_toArray, Lib.byteCells_length, hf, Nat.mul_one], ?_⟩
    rw [Nat.mul_one, ← ht]
    unfold Lib.byteCells
    simp [List.map_take]

theorem OwnB.lt {base : Nat} {e : TypeId} {v : Value} {n : Nat} {l : List UInt8} (h : OwnB w base e v n l) : ∀ k, v.ownBlock = some k → base ≤ k := by
  rcases h.2 with ⟨rfl, _⟩ | ⟨g, cap, full, rfl, hb, _⟩
  · intro k hk; simp [Value.ownBlock] at hk
  · intro k hk; simp [Value.ownBlock] at hk; omega

theorem OwnB.on {base : Nat} {e : TypeId} {v : Value} {n : Nat} {l : List UInt8} (h : OwnB w base e v n l) {w' : World} (hb' : Below w.heap.size w w') : OwnB w' base e v n l := by
  refine ⟨h.1, ?_⟩
  rcases h.2 with h | ⟨g, cap, full, rfl, hb, hg, rest⟩
  · exact .inl h
  · exact .inr ⟨g, cap, full, rfl, hb, (hb'.block g (Array.getElem?_eq_some_iff.1 hg).1).trans hg, rest⟩

theorem OwnB.alloc {base : Nat} {e : TypeId} {v : Value} {n : Nat} {l : List UInt8} (h : OwnB w base e v n l) (o : Obj) : OwnB (w.alloc o) base e v n l :=
  h.on ((Below.refl _ _).alloc (Nat.le_refl _) _)

theorem OwnB.rd {base : Nat} {e : TypeId} {A : Option Addr} {n c : Nat} {l : List UInt8} (h : OwnB w base e (.slice A n c) n l) : Rd w w.heap.size A l := Rd.of_own h.own

/-- What is appended may be a slice that reads as bytes .. -/
theorem Src.ofRd {tx e' : TypeId} (hk : P.underlying tx = some (.slice e')) (C : Nat) (A : Option Addr) (m c : Nat) (l : List UInt8) (hl : l.length = m) (hr : Rd w C A l) : Src P 1 tx (.slice A m c) m (Lib.byteCells l) w := by
  cases A with
  | none =>
    have h0 : l = [] := by
      rcases hr with rfl | ⟨b, off, e, _⟩
      · rfl
      · cases e
    subst h0
    obtain rfl : m = 0 := by simpa using hl.symm
    exact Src.ofNil w hk c
  | some ad => exact Src.ofSlice w hk ad m c _ (by rw [Lib.byteCells_length, hl, Nat.mul_one]) hr.cells (Lib.byteCells_one l)
/-- .. or a string. -/
theorem Src.ofStr {tx : TypeId} (hk : P.underlying tx = some .string) (l : List UInt8) : Src P 1 tx (.string ⟨l.toArray⟩) l.length (Lib.byteCells l) w :=
  Src.ofString w hk ⟨l.toArray⟩

theorem run_append_B (base : Nat) (t tx ty e : TypeId) (i : TypeInfo) (ht : P.underlying t = some (.slice e)) (hi : P.info? e = some i) (hz : i.zero = some (.int .u8 0)) (hsize : i.size = 1) (hby : i.bytes = 1)
    (v : Value) (n : Nat) (xl : List UInt8) (hown : OwnB w base e v n xl) (x : Value) (m : Nat) (l : List UInt8) (hl : l.length = m) (hs : Src P 1 tx x m (Lib.byteCells l) w)
    (hlim : n + m ≤ 140737488355328) (hbase : base ≤ w.heap.size) :
    ∃ v' w', (Builtin.append_ #[t, tx] ty #[v, x]).run P w = .ok v' w' ∧ OwnB w' base e v' (n + m) (xl ++ l) ∧ w.grownBy w' v.ownBlock := by
  obtain ⟨hxl, hform⟩ := hown
  have grow : ∀ (b : Option Addr) (cap : Nat) (hv : v = .slice b n cap), cap < n + m → (Builtin.firstCells i.size n (.slice b n cap)).run P w.drew = .ok (Lib.byteCells xl).toArray w.drew →
      ∃ v' w', (Builtin.append_ #[t, tx] ty #[v, x]).run P w = .ok v' w' ∧ OwnB w' base e v' (n + m) (xl ++ l) ∧ w.grownBy w' v.ownBlock := by
    rintro b cap rfl hlt hold
    have hgr := run_append_grow_src (P := P) w t tx ty e i (.int .u8 0) ht hi hz b n cap (Lib.byteCells xl) hold x m (Lib.byteCells l) (by rw [hsize]; exact hs) hlt (by omega) (growslice_fits (by omega) (by rw [hby]; omega))
    have hge := grownCap_ge w (n + m) cap e
    have hcm2 : grownCap w (n + m) cap e ≤ maxLen := grownCap_le_maxLen w (n + m) cap e (by unfold maxLen; omega)
    have hzc : ∀ k, (Builtin.zeroCells (Value.int .u8 0).cells k) = (Lib.byteCells (List.replicate k 0)).toArray := by
      intro k
      apply Array.ext'
      have : (Builtin.zeroCells (Value.int .u8 0).cells k).toList = List.replicate k (Value.int .u8 0) := by
        have h := toList_madeCells_one (Value.int .u8 0) k
        rw [← h]
        have hc : (Value.int .u8 0).cells = #[Value.int .u8 0] := rfl
        unfold Builtin.zeroCells madeCells
        simp [hc]
      rw [this]
      unfold Lib.byteCells
      rw [List.map_replicate]; rfl
    rw [hzc] at hgr
    have hrow : ((Lib.byteCells xl ++ Lib.byteCells l).toArray ++ (Lib.byteCells (List.replicate (grownCap w (n + m) cap e - (n + m)) 0)).toArray) = (Lib.byteCells (xl ++ l ++ List.replicate (grownCap w (n + m) cap e - (n + m)) 0)).toArray := by
      apply Array.ext'
      simp [Lib.byteCells_append]
    rw [hrow] at hgr
    refine ⟨_, _, hgr, ⟨by simp [hxl, hl], .inr ⟨w.heap.size, _, _, rfl, hbase, heap_alloc_new w.drew _, hge, hcm2, ?_, ?_⟩⟩, ⟨rfl, rfl, rfl, by simp, fun k hk _ => Below.heap_alloc w.drew _ k hk⟩⟩
    · simp only [List.length_append, List.length_replicate, hxl, hl]; omega
    · rw [← show (xl ++ l).length = n + m by rw [List.length_append, hxl, hl]]
      exact List.take_left
  rcases hform with ⟨rfl, rfl⟩ | ⟨g, cap, full, rfl, hb, hg, hnc, hcm, hf, htake⟩
  · have hx0 : xl = [] := List.eq_nil_of_length_eq_zero hxl
    subst hx0
    by_cases hm : m = 0
    · subst hm
      have hl0 : l = [] := List.eq_nil_of_length_eq_zero hl
      subst hl0
      refine ⟨.slice none 0 0, w, ?_, ⟨rfl, .inl ⟨rfl, rfl⟩⟩, World.grownBy.refl w _⟩
      have hlen := hs.len
      have hcell := hs.cells
      rw [show Lib.byteCells [] = [] from rfl] at hcell
      rcases hs.kind with ⟨e', hk⟩ | hk <;> simp [Builtin.append_, run_underlying ht, run_underlying hk, sizeOf, typeInfo, hi, hsize, hlen, hcell]
    · exact grow none 0 rfl (by omega) (by rw [hsize]; exact run_firstCells_none w.drew 1 0 0 0)
  · by_cases hroom : n + m ≤ cap
    · have hst := run_storeCells_M P g n e (0, 0) (Lib.byteCells l) 0 (Lib.byteCells full).toArray w hg (.inl rfl) (by rw [Lib.byteCells_length, hl, List.size_toArray, Lib.byteCells_length, hf]; omega) (Lib.byteCells_one l)
      simp only [Nat.add_zero, Lib.byteCells_length, hl] at hst
      have hrow : ((Lib.byteCells full).take n ++ Lib.byteCells l ++ (Lib.byteCells full).drop (n + m)).toArray = (Lib.byteCells (xl ++ l ++ full.drop (n + m))).toArray := by
        rw [Lib.byteCells_append, Lib.byteCells_append, ← htake]
        unfold Lib.byteCells
        rw [List.map_take, List.map_drop]
      rw [hrow] at hst
      refine ⟨.slice (some ⟨g, 0, none⟩) (n + m) cap, w.setRow g (Lib.byteCells (xl ++ l ++ full.drop (n + m))).toArray, ?_, ⟨by simp [hxl, hl], .inr ⟨g, cap, _, rfl, hb, setRow_heap w g _ _ e _ hg, hroom, hcm, ?_, ?_⟩⟩, ⟨rfl, rfl, rfl, by simp, fun k _ hk => setRow_other w g k _ (fun e => hk (by simp [Value.ownBlock, e]))⟩⟩
      · have hlen := hs.len
        have hcell := hs.cells
        rcases hs.kind with ⟨e', hk⟩ | hk <;> simp [Builtin.append_, run_underlying ht, run_underlying hk, sizeOf, typeInfo, hi, hsize, hlen, hcell, hroom, Addr.add_lit, hst]
      · simp only [List.length_append, List.length_drop, hxl, hl, hf]; omega
      · rw [← show (xl ++ l).length = n + m by rw [List.length_append, hxl, hl]]
        exact List.take_left
    · have hrd : Rd w w.heap.size (some ⟨g, 0, none⟩) xl := OwnB.rd (base := base) (e := e) (c := cap) (n := n) ⟨hxl, .inr ⟨g, cap, full, rfl, hb, hg, hnc, hcm, hf, htake⟩⟩
      exact grow (some ⟨g, 0, none⟩) cap rfl (by omega) (run_firstCells_some (P := P) w.drew i.size n ⟨g, 0, none⟩ n cap (Lib.byteCells xl) (by rw [Lib.byteCells_length, hxl, hsize, Nat.mul_one]) (by simpa using hrd.cells))

theorem wpList_append_B {ops : Array Oper} {rest : List Oper} {o : Oper} {a : Act} {Q : Exit → Act → World → Prop} (hgd : o.guard = none) (s x : Operand) (t tx : TypeId)
    (ho : o.op = .call { callee := .builtin .append, args := #[s, x], argTypes := #[t, tx] })
    (base : Nat) (e : TypeId) (i : TypeInfo) (ht : P.underlying t = some (.slice e)) (hi : P.info? e = some i) (hz : i.zero = some (.int .u8 0)) (hsize : i.size = 1) (hby : i.bytes = 1)
    (v : Value) (n : Nat) (xl : List UInt8) (hs : a.eval s = v) (hown : OwnB w base e v n xl) (y : Value) (hx : a.eval x = y) (m : Nat) (l : List UInt8) (hl : l.length = m) (hsrc : Src P 1 tx y m (Lib.byteCells l) w)
    (hlim : n + m ≤ 140737488355328) (hbase : base ≤ w.heap.size)
    (h : ∀ v' w', OwnB w' base e v' (n + m) (xl ++ l) → w.grownBy w' v.ownBlock → wpList P ops Q rest (a.put o.dst v') w') : wpList P ops Q (o :: rest) a w := by
  refine wpList_plain hgd fun K hK => ?_
  obtain ⟨v', w', hrun, h2, h3⟩ := run_append_B (P := P) base t tx o.type e i ht hi hz hsize hby v n xl hown y m l hl hsrc hlim hbase
  unfold Oper.wp execOp
  simp only [ho, resolve, invoke, builtin, Sem.run_bind, Sem.run_pure, Result.andThen_ok, List.map_toArray, List.map_cons, List.map_nil, hs, hx, hrun]
  exact hK _ _ (h v' w' h2 h3)
end
end Go.Proofs.Ytdaofffkbnkljaa
