/- Words on memory for all proofs of this seat: a slice value that reads as a list of bytes, and how that is kept. A slice of byte slices in memory that reads as a list of lists of bytes. append of a byte slice, nil and empty ones too, onto a row of the call's own. -/
import Derived.WalkKit
import Derived.Lib.Hide
import Derived.Lib.UnsafeStr
import Derived.Lib.AppendIntMem
import Derived.Deep.Draws
import Derived.Deep.AppendLies
import Derived.Deep.QuietTactic
import Derived.BigQuiet
import Derived.Lib.BufferWrite
import Derived.OwnWalk
import Derived.Lib.BufferRead
import Derived.Lib.SlBytesConst
namespace Go.Proofs.YtkkokngdhhakdaaDoor
open Go.RowKit

/-- The slice at A, of so many bytes as l has, reads as l, below block B. -/
def Rd (w : World) (B : Nat) (A : Option Addr) (l : List UInt8) : Prop :=
  l = [] ∨ ∃ b off, A = some ⟨b, off, none⟩ ∧ b < B ∧ ∀ i (h : i < l.length), w.cell? ⟨b, off + i, none⟩ = some (.int .u8 (l[i].toNat : Int))

theorem Rd.nil (w : World) (B : Nat) (A : Option Addr) : Rd w B A [] := .inl rfl

theorem Rd.at_ {w : World} {B : Nat} {A : Option Addr} {l : List UInt8} (h : Rd w B A l) (k : Nat) (hk : k < l.length) :
    ∃ b off, A = some ⟨b, off, none⟩ ∧ b < B ∧ w.cell? ⟨b, off + k, none⟩ = some (.int .u8 (l[k].toNat : Int)) := by
  rcases h with rfl | ⟨b, off, rfl, hb, hc⟩
  · simp at hk
  · exact ⟨b, off, rfl, hb, hc k hk⟩

theorem Rd.keep {w w' : World} {B : Nat} {A : Option Addr} {l : List UInt8} (h : Rd w B A l) (hk : ∀ p : Addr, p.block < B → w'.cell? p = w.cell? p) : Rd w' B A l := by
  rcases h with rfl | ⟨b, off, rfl, hb, hc⟩
  · exact .inl rfl
  · exact .inr ⟨b, off, rfl, hb, fun i hi => (hk _ hb).trans (hc i hi)⟩

theorem Rd.more {w : World} {B B' : Nat} {A : Option Addr} {l : List UInt8} (h : Rd w B A l) (hB : B ≤ B') : Rd w B' A l := by
  rcases h with rfl | ⟨b, off, rfl, hb, hc⟩
  · exact .inl rfl
  · exact .inr ⟨b, off, rfl, by omega, hc⟩

theorem Rd.below {w w' : World} {B C : Nat} {A : Option Addr} {l : List UInt8} (h : Rd w B A l) (hb : Below C w w') (hBC : B ≤ C) : Rd w' B A l :=
  h.keep fun _ hp => hb.cell (Nat.lt_of_lt_of_le hp hBC)

/-- What stands in a world stands in one that only has new things. -/
theorem Rd.on {w w' : World} {A : Option Addr} {l : List UInt8} (h : Rd w w.heap.size A l) (hb : Below w.heap.size w w') : Rd w' w'.heap.size A l :=
  (h.below hb (Nat.le_refl _)).more hb.size
theorem Below.then {w w1 w2 : World} (h : Below w.heap.size w w1) (k : Below w1.heap.size w1 w2) : Below w.heap.size w w2 := h.trans (k.mono h.size)
theorem Rd.drewN {w : World} {B : Nat} {A : Option Addr} {l : List UInt8} (h : Rd w B A l) (n : Nat) : Rd (w.drewN n) B A l := h
theorem Rd.drew {w : World} {B : Nat} {A : Option Addr} {l : List UInt8} (h : Rd w B A l) : Rd w.drew B A l := h

theorem Rd.alloc {w : World} {B : Nat} {A : Option Addr} {l : List UInt8} (h : Rd w B A l) (hB : B ≤ w.heap.size) (o : Obj) : Rd (w.alloc o) B A l :=
  h.keep fun p hp => World.cell?_alloc_lt w o p (by omega)

theorem Rd.grown {w w' : World} {B : Nat} {A : Option Addr} {l : List UInt8} (h : Rd w B A l) {row : Option Nat} (hg : w.grownBy w' row) (hB : B ≤ w.heap.size) (hr : ∀ g, row = some g → B ≤ g) : Rd w' B A l :=
  h.keep fun p hp => World.cell?_of_block (hg.block p.block (by omega) (fun e => by have := hr _ e.symm; omega))

/-- The first k bytes. -/
theorem Rd.take {w : World} {B : Nat} {A : Option Addr} {l : List UInt8} (h : Rd w B A l) (k : Nat) : Rd w B A (l.take k) := by
  rcases h with rfl | ⟨b, off, rfl, hb, hc⟩
  · simp [Rd]
  · refine .inr ⟨b, off, rfl, hb, fun i hi => ?_⟩
    rw [List.getElem_take]
    exact hc i (by simp at hi; omega)

/-- All but the first k bytes. -/
theorem Rd.drop {w : World} {B : Nat} {b off : Nat} {l : List UInt8} (h : Rd w B (some ⟨b, off, none⟩) l) (k : Nat) : Rd w B (some ⟨b, off + k, none⟩) (l.drop k) := by
  rcases h with rfl | ⟨b', off', e, hb, hc⟩
  · simp [Rd]
  · injection e with e
    injection e with e1 e2
    subst e1 e2
    refine .inr ⟨b, off + k, rfl, hb, fun i hi => ?_⟩
    rw [List.getElem_drop, Nat.add_assoc]
    exact hc (k + i) (by simp at hi; omega)

/-- A row of the call's own reads as its bytes. -/
theorem Rd.of_own {w : World} {base : Nat} {e : TypeId} {A : Option Addr} {n c : Nat} {l : List UInt8} (h : w.ownsRow base e 1 (.slice A n c) n (Lib.byteCells l)) : Rd w w.heap.size A l := by
  rcases l with _ | ⟨x, l⟩
  · exact .inl rfl
  · refine .inr ?_
    have hl := h.1
    have hpos : 0 < n := by simp [Lib.byteCells] at hl; omega
    obtain ⟨g, cap, hv, _, hlt⟩ := h.form hpos
    have hA : A = some ⟨g, 0, none⟩ := by injection hv
    subst hA
    refine ⟨g, 0, rfl, hlt, fun i hi => ?_⟩
    have hc := h.cells (g := g) rfl i (.int .u8 (((x :: l)[i]).toNat : Int)) (by unfold Lib.byteCells; rw [List.getElem?_map, List.getElem?_eq_getElem hi]; rfl)
    by_cases h0 : i = 0
    · subst h0; simpa [Addr.add] using hc
    · simpa [Addr.add, h0] using hc

theorem own_len {w : World} {base : Nat} {e : TypeId} {v : Value} {n : Nat} {l : List UInt8} (h : w.ownsRow base e 1 v n (Lib.byteCells l)) : n = l.length := by
  have := h.1
  simp [Lib.byteCells] at this
  omega

/-- What an owned row's value looks like. -/
theorem own_slice {w : World} {base : Nat} {e : TypeId} {v : Value} {n : Nat} {xs : List Value} (h : w.ownsRow base e 1 v n xs) : ∃ A c, v = .slice A n c ∧ n ≤ c := by
  rcases h.2 with ⟨rfl, rfl⟩ | ⟨g, cap, cur, rfl, _, _, hc, _⟩
  · exact ⟨none, 0, rfl, Nat.le_refl _⟩
  · exact ⟨_, cap, rfl, hc⟩

/-- A cell of an owned row holds something. -/
theorem own_cell {w : World} {base : Nat} {e : TypeId} {g n cap : Nat} {xs : List Value} (h : w.ownsRow base e 1 (.slice (some ⟨g, 0, none⟩) n cap) n xs) (j : Nat) (hj : j < n) : ∃ u, w.cell? ⟨g, j, none⟩ = some u := by
  have hl := h.1
  have hc := h.cellAt j (by omega)
  rw [List.getElem?_eq_getElem (by omega)] at hc
  exact ⟨_, hc⟩

theorem below_drewN {B : Nat} {a w : World} (h : Below B a w) (n : Nat) : Below B a (w.drewN n) := ⟨h.os, h.tape, h.output, h.size, h.block⟩

theorem toNat_lt (b : UInt8) : (b.toNat : Int) < 256 := by have := b.toNat_lt; omega
theorem toNat_ge (b : UInt8) : (0 : Int) ≤ (b.toNat : Int) := by omega

theorem ret_bool {a b : Bool} (h : a = b) : Ending.returned (.bool a) = .returned (.bool b) := by rw [h]
theorem ret_str {a b : List UInt8} (h : a = b) : Ending.returned (.string ⟨a.toArray⟩) = .returned (.string ⟨b.toArray⟩) := by rw [h]
theorem ret_int {k : IntKind} {a b : Int} (h : a = b) : Ending.returned (.int k a) = .returned (.int k b) := by rw [h]
end Go.Proofs.YtkkokngdhhakdaaDoor
namespace Go.Proofs.YtkkokngdhhakdaaDoor
open Go.RowKit

/-- The slice of byte slices at A reads as ls, below block B. -/
def RdR (w : World) (B : Nat) (A : Option Addr) (ls : List (List UInt8)) : Prop :=
  ls = [] ∨ ∃ b off, A = some ⟨b, off, none⟩ ∧ b < B ∧ ∀ i (h : i < ls.length), ∃ A' c, w.cell? ⟨b, off + i, none⟩ = some (.slice A' ls[i].length c) ∧ ls[i].length ≤ c ∧ c ≤ maxLen ∧ Rd w B A' ls[i]

theorem RdR.nil (w : World) (B : Nat) (A : Option Addr) : RdR w B A [] := .inl rfl

theorem RdR.at_ {w : World} {B : Nat} {A : Option Addr} {ls : List (List UInt8)} (h : RdR w B A ls) (k : Nat) (hk : k < ls.length) :
    ∃ b off A' c, A = some ⟨b, off, none⟩ ∧ b < B ∧ w.cell? ⟨b, off + k, none⟩ = some (.slice A' ls[k].length c) ∧ ls[k].length ≤ c ∧ c ≤ maxLen ∧ Rd w B A' ls[k] := by
  rcases h with rfl | ⟨b, off, rfl, hb, hc⟩
  · simp at hk
  · obtain ⟨A', c, h1, h2, h3, h4⟩ := hc k hk
    exact ⟨b, off, A', c, rfl, hb, h1, h2, h3, h4⟩

theorem RdR.keep {w w' : World} {B : Nat} {A : Option Addr} {ls : List (List UInt8)} (h : RdR w B A ls) (hk : ∀ p : Addr, p.block < B → w'.cell? p = w.cell? p) : RdR w' B A ls := by
  rcases h with rfl | ⟨b, off, rfl, hb, hc⟩
  · exact .inl rfl
  · refine .inr ⟨b, off, rfl, hb, fun i hi => ?_⟩
    obtain ⟨A', c, h1, h2, h3, h4⟩ := hc i hi
    exact ⟨A', c, (hk _ hb).trans h1, h2, h3, h4.keep hk⟩

theorem RdR.more {w : World} {B B' : Nat} {A : Option Addr} {ls : List (List UInt8)} (h : RdR w B A ls) (hB : B ≤ B') : RdR w B' A ls := by
  rcases h with rfl | ⟨b, off, rfl, hb, hc⟩
  · exact .inl rfl
  · refine .inr ⟨b, off, rfl, by omega, fun i hi => ?_⟩
    obtain ⟨A', c, h1, h2, h3, h4⟩ := hc i hi
    exact ⟨A', c, h1, h2, h3, h4.more hB⟩

theorem RdR.below {w w' : World} {B C : Nat} {A : Option Addr} {ls : List (List UInt8)} (h : RdR w B A ls) (hb : Below C w w') (hBC : B ≤ C) : RdR w' B A ls :=
  h.keep fun _ hp => hb.cell (Nat.lt_of_lt_of_le hp hBC)
theorem RdR.drewN {w : World} {B : Nat} {A : Option Addr} {ls : List (List UInt8)} (h : RdR w B A ls) (n : Nat) : RdR (w.drewN n) B A ls := h.keep fun _ _ => rfl

/-- A row of the call's own, of slice values each of which reads as its list. -/
def sliceVals (w : World) (B : Nat) (vs : List Value) (ls : List (List UInt8)) : Prop :=
  vs.length = ls.length ∧ ∀ i (h : i < ls.length), ∃ A' c, vs[i]? = some (.slice A' ls[i].length c) ∧ ls[i].length ≤ c ∧ c ≤ maxLen ∧ Rd w B A' ls[i]

theorem sliceVals.nil (w : World) (B : Nat) : sliceVals w B [] [] := ⟨rfl, fun i h => by simp at h⟩

theorem sliceVals.keep {w w' : World} {B : Nat} {vs : List Value} {ls : List (List UInt8)} (h : sliceVals w B vs ls) (hk : ∀ p : Addr, p.block < B → w'.cell? p = w.cell? p) : sliceVals w' B vs ls :=
  ⟨h.1, fun i hi => by
    obtain ⟨A', c, h1, h2, h3, h4⟩ := h.2 i hi
    exact ⟨A', c, h1, h2, h3, h4.keep hk⟩⟩
theorem sliceVals.more {w : World} {B B' : Nat} {vs : List Value} {ls : List (List UInt8)} (h : sliceVals w B vs ls) (hB : B ≤ B') : sliceVals w B' vs ls :=
  ⟨h.1, fun i hi => by
    obtain ⟨A', c, h1, h2, h3, h4⟩ := h.2 i hi
    exact ⟨A', c, h1, h2, h3, h4.more hB⟩⟩
theorem sliceVals.below {w w' : World} {B C : Nat} {vs : List Value} {ls : List (List UInt8)} (h : sliceVals w B vs ls) (hb : Below C w w') (hBC : B ≤ C) : sliceVals w' B vs ls :=
  h.keep fun _ hp => hb.cell (Nat.lt_of_lt_of_le hp hBC)
theorem sliceVals.snoc {w : World} {B : Nat} {vs : List Value} {ls : List (List UInt8)} (h : sliceVals w B vs ls) {A : Option Addr} {n c : Nat} {l : List UInt8} (hn : l.length = n) (hc : n ≤ c) (hm : c ≤ maxLen) (hr : Rd w B A l) :
    sliceVals w B (vs ++ [.slice A n c]) (ls ++ [l]) := by
  subst hn
  refine ⟨by simp [h.1], fun i hi => ?_⟩
  by_cases he : i < ls.length
  · obtain ⟨A', c', h1, h2⟩ := h.2 i he
    refine ⟨A', c', ?_, ?_⟩
    · rw [List.getElem?_append_left (by rw [h.1]; exact he)]
      simpa [List.getElem_append_left he] using h1
    · simpa [List.getElem_append_left he] using h2
  · have hi' : i = ls.length := by simp at hi; omega
    subst hi'
    refine ⟨A, c, ?_, ?_⟩
    · rw [List.getElem?_append_right (by rw [h.1]; exact Nat.le_refl _)]
      simp [h.1]
    · simpa using ⟨hc, hm, hr⟩

/-- Such a row reads as the lists. -/
theorem RdR.of_own {w : World} {base : Nat} {e : TypeId} {A : Option Addr} {n c B : Nat} {vs : List Value} {ls : List (List UInt8)} (h : w.ownsRow base e 1 (.slice A n c) n vs) (hs : sliceVals w B vs ls) (hB : B ≤ w.heap.size) : RdR w w.heap.size A ls := by
  rcases ls with _ | ⟨x, ls⟩
  · exact .inl rfl
  · refine .inr ?_
    have hl := h.1
    have hpos : 0 < n := by have := hs.1; simp at this; omega
    obtain ⟨g, cap, hv, _, hlt⟩ := h.form hpos
    have hA : A = some ⟨g, 0, none⟩ := by injection hv
    subst hA
    refine ⟨g, 0, rfl, hlt, fun i hi => ?_⟩
    obtain ⟨A', c', h1, h2, h3, h4⟩ := hs.2 i hi
    refine ⟨A', c', ?_, h2, h3, h4.more hB⟩
    have hc := h.cells (g := g) rfl i _ h1
    by_cases h0 : i = 0
    · subst h0; simpa [Addr.add] using hc
    · simpa [Addr.add, h0] using hc
end Go.Proofs.YtkkokngdhhakdaaDoor
namespace Go.Proofs.YtkkokngdhhakdaaDoor
open Go.RowKit

theorem Rd.cells {w : World} {B : Nat} {ad : Addr} {l : List UInt8} (h : Rd w B (some ad) l) : ∀ j u, (Lib.byteCells l)[j]? = some u → w.cell? (ad.add j) = some u := by
  rcases h with rfl | ⟨b, off, e, _, hc⟩
  · intro j u hj; simp [Lib.byteCells] at hj
  · injection e with e
    subst e
    intro j u hj
    have hlt : j < l.length := by
      rcases Nat.lt_or_ge j l.length with h' | h'
      · exact h'
      · rw [List.getElem?_eq_none (by rw [Lib.byteCells_length]; exact h')] at hj; cases hj
    have hv : (Lib.byteCells l)[j]? = some (.int .u8 (l[j].toNat : Int)) := by unfold Lib.byteCells; rw [List.getElem?_map, List.getElem?_eq_getElem hlt]; rfl
    rw [hv] at hj
    injection hj with hj
    subst hj
    have := hc j hlt
    by_cases h0 : j = 0
    · subst h0; simpa [Addr.add] using this
    · simpa [Addr.add, h0] using this

/-- One byte in a block that was just made. -/
theorem Rd.one (w : World) (T : TypeId) (x : UInt8) (k : Int) (hk : k = (x.toNat : Int)) : Rd (w.alloc (.cells #[.int .u8 k] T)) (w.heap.size + 1) (some ⟨w.heap.size, 0, none⟩) [x] := by
  refine .inr ⟨w.heap.size, 0, rfl, by omega, fun i hi => ?_⟩
  obtain rfl : i = 0 := by simpa using hi
  subst hk
  rw [World.cell?_alloc_at _ _ _ _ rfl]
  rfl

section
variable {P : Program} {w : World}

/-- A byte slice as a string. -/
theorem run_string_rd (src dst e : TypeId) (hs : P.underlying src = some (.slice e)) (he : P.underlying e = some (.int .u8)) (hd : P.underlying dst = some .string) (C : Nat) (A : Option Addr) (n c : Nat) (l : List UInt8) (hl : l.length = n) (hr : Rd w C A l) :
    (convert src dst (.slice A n c)).run P w = .ok (.string ⟨l.toArray⟩) w := by
  subst hl
  rcases A with _ | ad
  · have h0 : l = [] := by
      rcases hr with rfl | ⟨b, off, e, _⟩
      · rfl
      · cases e
    subst h0
    exact Lib.run_convert_nil_bytes w src dst e c hs he hd
  · exact run_convert_bytes_back w src dst e ad c l hs he hd (fun j hj => hr.cells j _ (by unfold Lib.byteCells; rw [List.getElem?_map, List.getElem?_eq_getElem hj]; rfl))

theorem run_append_rd (base : Nat) (t ty e : TypeId) (i : TypeInfo) (ht : P.underlying t = some (.slice e)) (hi : P.info? e = some i) (hz : i.zero = some (.int .u8 0)) (hsize : i.size = 1) (hby : i.bytes = 1)
    (v : Value) (n : Nat) (xs : List Value) (hown : w.ownsRow base e 1 v n xs) (C : Nat) (A : Option Addr) (m c : Nat) (l : List UInt8) (hl : l.length = m) (hr : Rd w C A l)
    (hlim : n + m ≤ 140737488355328) (hbase : base ≤ w.heap.size) :
    ∃ v' w', (Builtin.append_ #[t, t] ty #[v, .slice A m c]).run P w = .ok v' w' ∧ w'.ownsRow base e 1 v' (n + m) (xs ++ Lib.byteCells l) ∧ w.grownBy w' v.ownBlock := by
  rcases A with _ | ad
  · have h0 : l = [] := by
      rcases hr with rfl | ⟨b, off, e, _⟩
      · rfl
      · cases e
    subst h0
    obtain rfl : m = 0 := by simpa using hl.symm
    refine ⟨v, w, ?_, by simpa [Lib.byteCells] using hown, World.grownBy.refl w _⟩
    rcases hown.2 with ⟨rfl, rfl⟩ | ⟨g, cap, cur, rfl, _, _, hnc, _⟩
    · simp [Builtin.append_, run_underlying ht, sizeOf, typeInfo, hi, Builtin.lenOf, Builtin.firstCells]
    · simp [Builtin.append_, run_underlying ht, sizeOf, typeInfo, hi, Builtin.lenOf, Builtin.firstCells, hnc, storeCells]
  · obtain ⟨v', w', hrun, h2, h3, _⟩ := run_append_own (P := P) w base t ty e i (.int .u8 0) 1 1 ht hi hz hsize hby rfl (by omega) v n xs hown ad m c (Lib.byteCells l) (by rw [Lib.byteCells_length, hl, Nat.mul_one]) hr.cells (Lib.byteCells_one l) (by unfold maxLen; omega) (by omega) hbase
    exact ⟨v', w', hrun, h2, h3⟩

theorem wpList_append_rd {ops : Array Oper} {rest : List Oper} {o : Oper} {a : Act} {Q : Exit → Act → World → Prop} (hgd : o.guard = none) (s x : Operand) (t : TypeId)
    (ho : o.op = .call { callee := .builtin .append, args := #[s, x], argTypes := #[t, t] })
    (base : Nat) (e : TypeId) (i : TypeInfo) (ht : P.underlying t = some (.slice e)) (hi : P.info? e = some i) (hz : i.zero = some (.int .u8 0)) (hsize : i.size = 1) (hby : i.bytes = 1)
    (v : Value) (n : Nat) (xs : List Value) (hs : a.eval s = v) (hown : w.ownsRow base e 1 v n xs) (C : Nat) (A : Option Addr) (m c : Nat) (l : List UInt8) (hx : a.eval x = .slice A m c) (hl : l.length = m) (hr : Rd w C A l)
    (hlim : n + m ≤ 140737488355328) (hbase : base ≤ w.heap.size)
    (h : ∀ v' w', w'.ownsRow base e 1 v' (n + m) (xs ++ Lib.byteCells l) → w.grownBy w' v.ownBlock → wpList P ops Q rest (a.put o.dst v') w') : wpList P ops Q (o :: rest) a w := by
  refine wpList_plain hgd fun K hK => ?_
  obtain ⟨v', w', hrun, h2, h3⟩ := run_append_rd (P := P) base t o.type e i ht hi hz hsize hby v n xs hown C A m c l hl hr hlim hbase
  unfold Oper.wp execOp
  simp only [ho, resolve, invoke, builtin, Sem.run_bind, Sem.run_pure, Result.andThen_ok, List.map_toArray, List.map_cons, List.map_nil, hs, hx, hrun]
  exact hK _ _ (h v' w' h2 h3)
end
end Go.Proofs.YtkkokngdhhakdaaDoor
