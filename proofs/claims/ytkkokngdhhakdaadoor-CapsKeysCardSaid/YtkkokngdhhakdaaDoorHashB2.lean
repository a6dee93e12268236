/- Rows of hashes (arrays of 32 bytes) in memory. An argument that is a slice of hashes, opened. append of a hash onto a row of hashes of one's own. -/
import Derived.Test.YtkkokngdhhakdaaDoorProg
import Derived.Test.YtkkokngdhhakdaaDoorMem
import Derived.Deep.MidRow
import Derived.Test.YtkkokngdhhakdaaDoorU8
import Derived.Deep.Slices
import Derived.Deep.AppendLies
import Derived.Great.BuildSlice
import Derived.Great.FillDense
namespace Go.Proofs.YtkkokngdhhakdaaDoor
open Go.RowKit

theorem infoHash : (Tryd.prog.info? 25).map (fun i => (i.zero.map (·.cells.size), i.size, i.bytes)) = some (some 32, 32, 32) := by kernel_rfl

/-- The row of hashes at A reads as hs, below block B. -/
def RdH (w : World) (B : Nat) (A : Option Addr) (hs : List (List UInt8)) : Prop :=
  hs = [] ∨ ∃ b off, A = some ⟨b, off, none⟩ ∧ b < B ∧ ∀ i (h : i < hs.length), w.rangeAt b (off + i * 32) (Lib.byteCells hs[i])
theorem rangeAt_keep {w w' : World} {b o : Nat} {cs : List Value} (h : w.rangeAt b o cs) (hk : ∀ j, w'.cell? ⟨b, o + j, none⟩ = w.cell? ⟨b, o + j, none⟩) : w'.rangeAt b o cs := fun j v hv => (hk j).trans (h j v hv)
theorem RdH.keep {w w' : World} {B : Nat} {A : Option Addr} {hs : List (List UInt8)} (h : RdH w B A hs) (hk : ∀ p : Addr, p.block < B → w'.cell? p = w.cell? p) : RdH w' B A hs := by
  rcases h with rfl | ⟨b, off, rfl, hb, hc⟩
  · exact .inl rfl
  · exact .inr ⟨b, off, rfl, hb, fun i hi => rangeAt_keep (hc i hi) fun j => hk _ hb⟩
theorem RdH.more {w : World} {B B' : Nat} {A : Option Addr} {hs : List (List UInt8)} (h : RdH w B A hs) (hB : B ≤ B') : RdH w B' A hs := by
  rcases h with rfl | ⟨b, off, rfl, hb, hc⟩
  · exact .inl rfl
  · exact .inr ⟨b, off, rfl, by omega, hc⟩
theorem RdH.below {w w' : World} {B C : Nat} {A : Option Addr} {hs : List (List UInt8)} (h : RdH w B A hs) (hb : Below C w w') (hBC : B ≤ C) : RdH w' B A hs := h.keep fun _ hp => hb.cell (Nat.lt_of_lt_of_le hp hBC)
theorem RdH.take {w : World} {B : Nat} {A : Option Addr} {hs : List (List UInt8)} (h : RdH w B A hs) (k : Nat) : RdH w B A (hs.take k) := by
  rcases h with rfl | ⟨b, off, hA, hb, hc⟩
  · exact .inl (by simp)
  · exact .inr ⟨b, off, hA, hb, fun i hi => by
      rw [List.length_take] at hi
      rw [List.getElem_take]
      exact hc i (by omega)⟩
/-- The value reads as the hashes. -/
def HV (w : World) (v : Value) (hs : List (List UInt8)) : Prop := (∀ r ∈ hs, r.length = 32) ∧ ∃ X c, v = .slice X hs.length c ∧ hs.length ≤ c ∧ RdH w w.heap.size X hs
theorem HV.on {w w' : World} {v : Value} {hs : List (List UInt8)} (h : HV w v hs) (hb : Below w.heap.size w w') : HV w' v hs := by
  obtain ⟨h0, X, c, h1, h2, h3⟩ := h
  exact ⟨h0, X, c, h1, h2, (h3.below hb (Nat.le_refl _)).more hb.size⟩
theorem HV.form {w : World} {v : Value} {hs : List (List UInt8)} {n : Nat} (h : HV w v hs) (hn : hs.length = n) : ∃ X c, v = .slice X n c ∧ n ≤ c := by
  obtain ⟨_, X, c, h1, h2, _⟩ := h
  subst hn
  exact ⟨X, c, h1, h2⟩
theorem HV.at_ {w : World} {X : Option Addr} {n c i : Nat} {hs : List (List UInt8)} (h : HV w (.slice X n c) hs) (hi : i < n) :
    ∃ b off, X = some ⟨b, off, none⟩ ∧ b < w.heap.size ∧ w.rangeAt b (off + i * 32) (Lib.byteCells (hs.getD i [])) ∧ (hs.getD i []).length = 32 := by
  obtain ⟨h0, Y, d, e, h1, h2⟩ := h
  injection e with e1 e2 e3
  subst e1 e2 e3
  rcases h2 with rfl | ⟨b, off, hA, hb, hc⟩
  · simp at hi
  · have hg : hs.getD i [] = hs[i] := by simp [List.getD_eq_getElem?_getD, hi]
    rw [hg]
    exact ⟨b, off, hA, hb, hc i hi, h0 _ (List.getElem_mem _)⟩
/-- The value is a row of hashes of the call's own, from block B on. -/
def OwnH (w : World) (B : Nat) (v : Value) (hs : List (List UInt8)) : Prop := (∀ r ∈ hs, r.length = 32) ∧ w.ownsRow B 25 32 v hs.length (hs.flatMap Lib.byteCells)
theorem OwnH.nil (w : World) (B : Nat) : OwnH w B (.slice none 0 0) [] := ⟨(fun _ h => by cases h), World.ownsRow_nil _ _ _ _⟩
theorem own_keepK {w w' : World} {base k : Nat} {e : TypeId} {v : Value} {n : Nat} {xs : List Value} (h : w.ownsRow base e k v n xs) (hb : Below w.heap.size w w') : w'.ownsRow base e k v n xs := by
  refine ⟨h.1, ?_⟩
  rcases h.2 with h0 | ⟨g, cap, cur, h1, h2, h3, h4⟩
  · exact .inl h0
  · refine .inr ⟨g, cap, cur, h1, h2, ?_, h4⟩
    rw [hb.block g (Array.getElem?_eq_some_iff.1 h3).1]
    exact h3
theorem OwnH.on {w w' : World} {B : Nat} {v : Value} {hs : List (List UInt8)} (h : OwnH w B v hs) (hb : Below w.heap.size w w') : OwnH w' B v hs := ⟨h.1, own_keepK h.2 hb⟩
theorem OwnH.lt {w : World} {B : Nat} {v : Value} {hs : List (List UInt8)} (h : OwnH w B v hs) : ∀ k, v.ownBlock = some k → B ≤ k := fun k hk => (h.2.lt k hk).1
theorem OwnH.form {w : World} {B : Nat} {v : Value} {hs : List (List UInt8)} {n : Nat} (h : OwnH w B v hs) (hn : hs.length = n) : ∃ A c, v = .slice A n c ∧ n ≤ c ∧ c ≤ maxLen := by
  subst hn
  rcases h.2.2 with ⟨rfl, e⟩ | ⟨g, cap, cur, rfl, _, _, hc, hm, _⟩
  · exact ⟨none, 0, by rw [e], by omega, Nat.zero_le _⟩
  · exact ⟨_, cap, rfl, hc, hm⟩
theorem flat_at : ∀ (hs : List (List UInt8)), (∀ r ∈ hs, r.length = 32) → ∀ (i j : Nat) (h : i < hs.length), j < 32 → (hs.flatMap Lib.byteCells)[i * 32 + j]? = (Lib.byteCells hs[i])[j]?
  | [], _, i, j, h, _ => by simp at h
  | x :: r, hl, 0, j, _, hj => by
    have hx := hl x (List.mem_cons_self ..)
    rw [List.flatMap_cons, List.getElem?_append_left (by rw [Lib.byteCells_length, hx]; omega)]
    simp
  | x :: r, hl, i + 1, j, h, hj => by
    have hx := hl x (List.mem_cons_self ..)
    rw [List.flatMap_cons, List.getElem?_append_right (by rw [Lib.byteCells_length, hx]; omega), Lib.byteCells_length, hx, show (i + 1) * 32 + j - 32 = i * 32 + j by omega]
    exact flat_at r (fun y hy => hl y (List.mem_cons_of_mem _ hy)) i j (by simpa using h) hj
theorem OwnH.hv {w : World} {B : Nat} {v : Value} {hs : List (List UInt8)} (h : OwnH w B v hs) : HV w v hs := by
  refine ⟨h.1, ?_⟩
  rcases h.2.2 with ⟨rfl, e⟩ | ⟨g, cap, cur, rfl, _, hg, hc, _, hz, ht⟩
  · exact ⟨none, 0, by rw [e], by omega, .inl (List.eq_nil_of_length_eq_zero e)⟩
  · refine ⟨_, cap, rfl, hc, .inr ⟨g, 0, rfl, (Array.getElem?_eq_some_iff.1 hg).1, fun i hi j v hv => ?_⟩⟩
    have hj : j < 32 := by
      have := (List.getElem?_eq_some_iff.1 hv).1
      rwa [Lib.byteCells_length, h.1 _ (List.getElem_mem _)] at this
    rw [Nat.zero_add, Lib.cell_of_heap hg, ← Array.getElem?_toList]
    have e := congrArg (fun l : List Value => l[i * 32 + j]?) ht
    simp only [List.getElem?_take, if_pos (show i * 32 + j < hs.length * 32 by omega)] at e
    rw [e, flat_at hs h.1 i j hi hj]
    exact hv
end Go.Proofs.YtkkokngdhhakdaaDoor
namespace Go.Proofs.YtkkokngdhhakdaaDoor
open Go.ChangeShapes Go.WideShapes Go.ChangeAt Go.RowKit Go.Deep

theorem cellsHash : Tryd.prog.cellsOf 25 = 32 := by kernel_rfl
set_option maxRecDepth 100000 in
/-- Cells of an array of bytes read as bytes. -/
theorem array_cells {H : Type} {enc : TypeId × Value → H} {W : World} {n : Nat} {T : TypeId} {cs : List Value} {x : DataW H × List MemPlace} {base : Nat} {spare : Nat → Bool} {held : Bool} {k : Nat} (hT : Tryd.prog.underlying T = some (.array n 5)) (hsz : cs.length = n)
    (hf : DataW.trod enc Tryd.prog W base spare held k T cs = some x) : ∃ l : List UInt8, cs = Lib.byteCells l ∧ l.length = n := by
  obtain ⟨xs, m, _, _, _, hl, hel⟩ := DataW.trod_array hT hf
  have each : ∀ i, ∃ b : UInt8, i < n → cs[i]? = some (.int .u8 (b.toNat : Int)) := by
    intro i
    by_cases hi : i < n
    · have h1 := hel i hi
      rw [cellsByte, Nat.mul_one, List.getElem?_eq_getElem (show i < xs.length by omega)] at h1
      obtain ⟨x, e, _, wf⟩ := DataW.trod_int Tryd.underlying5 h1
      have hb := bounds_u8 wf
      refine ⟨UInt8.ofNat x.toNat, fun _ => ?_⟩
      have h2 : cs[i]? = some (.int .u8 x) := by
        have := congrArg (fun l => l[0]?) e
        simpa [List.getElem?_take, List.getElem?_drop] using this
      rw [UInt8.toNat_ofNat_of_lt' (by simp; omega), show ((x.toNat : Nat) : Int) = x by omega]
      exact h2
    · exact ⟨0, fun h => absurd h hi⟩
  obtain ⟨f, hf'⟩ := Classical.axiomOfChoice each
  refine ⟨(List.range n).map f, ?_, by simp⟩
  apply List.ext_getElem?
  intro i
  by_cases hi : i < n
  · rw [hf' i hi]
    simp [Lib.byteCells, hi]
  · rw [List.getElem?_eq_none (by omega), List.getElem?_eq_none (by rw [Lib.byteCells_length]; simp; omega)]
end Go.Proofs.YtkkokngdhhakdaaDoor
namespace Go.Proofs.YtkkokngdhhakdaaDoor
open Go.RowKit

theorem hash_parts : ∃ i z, Tryd.prog.info? 25 = some i ∧ i.zero = some z ∧ z.cells.size = 32 ∧ i.size = 32 ∧ i.bytes = 32 := by
  have h := infoHash
  cases hi : Tryd.prog.info? 25 with
  | none => rw [hi] at h; simp at h
  | some i =>
    rw [hi] at h
    simp only [Option.map_some, Option.some.injEq, Prod.mk.injEq] at h
    obtain ⟨h1, h2, h3⟩ := h
    cases hz : i.zero with
    | none => rw [hz] at h1; simp at h1
    | some z =>
      rw [hz] at h1
      simp only [Option.map_some, Option.some.injEq] at h1
      exact ⟨i, z, rfl, hz, h1, h2, h3⟩
theorem OwnH.snoc {w w' : World} {base : Nat} {v v' : Value} {hs : List (List UInt8)} {h : List UInt8} (h1 : OwnH w base v hs) (hl : h.length = 32)
    (k1 : w'.ownsRow base 25 32 v' (hs.length + 1) (hs.flatMap Lib.byteCells ++ Lib.byteCells h)) : OwnH w' base v' (hs ++ [h]) := by
  refine ⟨fun r hr => ?_, by simpa using k1⟩
  rcases List.mem_append.1 hr with hr | hr
  · exact h1.1 r hr
  · rw [List.mem_singleton.1 hr]; exact hl
/-- A slice literal of one hash. -/
theorem fill_hash (Z : Array Value) (hz : Z.size = 32) (cells : Array Value) (hc : cells.size = 32) : Instr.fill (fun i => some (i * 32, 32)) cells [(0, .agg Z)] = some Z := by
  have h := Great.fill_whole (s := 32) (by omega) [.agg Z] cells (fun v hv => by rw [List.mem_singleton.1 hv]; exact hz) (by rw [hc]; rfl)
  have e : ([Value.agg Z].flatMap fun v => v.cells.toList).toArray = Z := by
    simp only [List.flatMap_cons, List.flatMap_nil, List.append_nil]
    rfl
  rw [e] at h
  exact h
/-- Hashes behind hashes. -/
theorem flat_len : ∀ (hs : List (List UInt8)), (∀ r ∈ hs, r.length = 32) → (hs.flatMap Lib.byteCells).length = hs.length * 32
  | [], _ => rfl
  | x :: r, hl => by
    rw [List.flatMap_cons, List.length_append, Lib.byteCells_length, hl x (List.mem_cons_self ..), flat_len r fun y hy => hl y (List.mem_cons_of_mem _ hy), List.length_cons]
    omega
theorem RdH.cells {w : World} {B : Nat} {ad : Addr} {hs : List (List UInt8)} (h : RdH w B (some ad) hs) (hl : ∀ r ∈ hs, r.length = 32) : ∀ j u, (hs.flatMap Lib.byteCells)[j]? = some u → w.cell? (ad.add j) = some u := by
  rcases h with rfl | ⟨b, off, e, _, hc⟩
  · intro j u hj; simp at hj
  · injection e with e
    subst e
    intro j u hj
    have hlt : j < hs.length * 32 := by
      have := (List.getElem?_eq_some_iff.1 hj).1
      rwa [flat_len hs hl] at this
    have h1 : j / 32 < hs.length := (Nat.div_lt_iff_lt_mul (by omega)).2 hlt
    have h2 := flat_at hs hl (j / 32) (j % 32) h1 (Nat.mod_lt _ (by omega))
    rw [show j / 32 * 32 + j % 32 = j by omega] at h2
    rw [h2] at hj
    have h3 := hc (j / 32) h1 (j % 32) u hj
    rw [show off + j / 32 * 32 + j % 32 = off + j by omega] at h3
    rw [Addr.add_mid]
    exact h3
/-- A hash is loaded from wherever it lies. -/
theorem wpList_load_hash {w : World} {ops : Array Oper} {rest : List Oper} {o : Oper} {a : Act} {Q : Exit → Act → World → Prop} (hgd : o.guard = none) (x : Operand) (ho : o.op = .load 25 x)
    (b off : Nat) (hx : a.eval x = .pointer (some ⟨b, off, none⟩)) (h : List UInt8) (hl : h.length = 32) (hc : w.rangeAt b off (Lib.byteCells h)) (X : Array Value) (hX : u8A h = X)
    (hk : wpList Tryd.prog ops Q rest (a.put o.dst (.agg X)) w) : wpList Tryd.prog ops Q (o :: rest) a w := by
  subst hX
  obtain ⟨i, z, hi, _, _, hsz, _⟩ := hash_parts
  exact wpList_load_mid (P := Tryd.prog) hgd 25 x ho b off hx (Lib.byteCells h) _ hc Tryd.underlying25 rfl (by rw [hi, Option.map_some, hsz, Lib.byteCells_length, hl]) hk
theorem OwnH.inside {w : World} {B : Nat} {v : Value} {hs : List (List UInt8)} (h : OwnH w B v hs) : ∀ g, v.ownBlock = some g → g < w.heap.size := fun g hg => (h.2.lt g hg).2
theorem OwnH.apart {w w' : World} {B : Nat} {v : Value} {hs : List (List UInt8)} {row : Option Nat} (h : OwnH w B v hs) (hg : w.grownBy w' row) (hr : ∀ g, v.ownBlock = some g → row ≠ some g) : OwnH w' B v hs := by
  refine ⟨h.1, h.2.1, ?_⟩
  rcases h.2.2 with h0 | ⟨g, cap, cur, rfl, h2, h3, h4⟩
  · exact .inl h0
  · exact .inr ⟨g, cap, cur, rfl, h2, (hg.block g (Array.getElem?_eq_some_iff.1 h3).1 (fun e => hr g (by simp [Value.ownBlock]) e.symm)).trans h3, h4⟩
end Go.Proofs.YtkkokngdhhakdaaDoor
