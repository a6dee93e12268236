/- A matrix of bytes in memory of one's own: a row of slices, each in a block of its own; read, written, its rows exchanged. A matrix of bytes that is being made, row by row. -/
import Derived.Test.YtdaofffkbnkljaaGauss
import Derived.Test.YtdaofffkbnkljaaU8
import Derived.Test.YtdaofffkbnkljaaCopyRows
namespace Go.Proofs.Ytdaofffkbnkljaa
open Go.RowKit

/-- At block g there are n slices; the i-th lies at block β i, has m bytes (room for γ i), and they are f i. -/
structure MxW (w : World) (B g : Nat) (β γ : Nat → Nat) (n m : Nat) (f : Mx) : Prop where
  base : B ≤ g
  head : ∃ cur, Blk w g cur 22 ∧ ∀ i, i < n → cur[i]? = some (.slice (some ⟨β i, 0, none⟩) m (γ i))
  rows : ∀ i, i < n → B ≤ β i ∧ m ≤ γ i ∧ γ i ≤ maxLen ∧ ∃ rc, Blk w (β i) rc 5 ∧ ∀ j, j < m → rc[j]? = some (.int .u8 ((f i j).toNat : Int))
  apart : ∀ i k, i < n → k < n → β i = β k → i = k

section
variable {w : World} {B g n m : Nat} {β γ : Nat → Nat} {f : Mx}
theorem tys_ne : (22 : TypeId) ≠ 5 := by decide
theorem blk_apart {w : World} {g k : Nat} {cs ds : Array Value} {S T : TypeId} (h : Blk w g cs S) (h' : Blk w k ds T) (hne : S ≠ T) : g ≠ k := fun e => by
  subst e
  have := h.symm.trans h'
  injection this with h1
  injection h1 with _ h2
  exact hne h2
theorem MxW.header (h : MxW w B g β γ n m f) {i : Nat} (hi : i < n) : w.cell? ⟨g, i, none⟩ = some (.slice (some ⟨β i, 0, none⟩) m (γ i)) := by
  obtain ⟨cur, h1, h2⟩ := h.head
  rw [h1.cell, h2 i hi]
theorem MxW.headFree (h : MxW w B g β γ n m f) (i : Nat) : w.frozen? ⟨g, i, none⟩ = false := by
  obtain ⟨cur, h1, _⟩ := h.head
  exact h1.frozen i
theorem MxW.byte (h : MxW w B g β γ n m f) {i j : Nat} (hi : i < n) (hj : j < m) : w.cell? ⟨β i, j, none⟩ = some (.int .u8 ((f i j).toNat : Int)) := by
  obtain ⟨_, _, _, rc, h1, h2⟩ := h.rows i hi
  rw [h1.cell, h2 j hj]
theorem MxW.byteFree (h : MxW w B g β γ n m f) {i : Nat} (hi : i < n) (j : Nat) : w.frozen? ⟨β i, j, none⟩ = false := by
  obtain ⟨_, _, _, rc, h1, _⟩ := h.rows i hi
  exact h1.frozen j
theorem MxW.rowBase (h : MxW w B g β γ n m f) {i : Nat} (hi : i < n) : B ≤ β i := (h.rows i hi).1
theorem MxW.ne (h : MxW w B g β γ n m f) {i : Nat} (hi : i < n) : g ≠ β i := by
  obtain ⟨cur, h1, _⟩ := h.head
  obtain ⟨_, _, _, rc, h2, _⟩ := h.rows i hi
  exact blk_apart h1 h2 tys_ne
theorem MxW.congr (h : MxW w B g β γ n m f) {f' : Mx} (e : ∀ i j, i < n → j < m → f i j = f' i j) : MxW w B g β γ n m f' :=
  ⟨h.base, h.head, fun i hi => by
    obtain ⟨h1, h2, h3, rc, h4, h5⟩ := h.rows i hi
    exact ⟨h1, h2, h3, rc, h4, fun j hj => by rw [h5 j hj, e i j hi hj]⟩, h.apart⟩
theorem MxW.drewN (h : MxW w B g β γ n m f) (q : Nat) : MxW (w.drewN q) B g β γ n m f :=
  ⟨h.base, h.head, h.rows, h.apart⟩
theorem MxW.drew (h : MxW w B g β γ n m f) : MxW w.drew B g β γ n m f := h.drewN 1
/-- A byte written. -/
def putM (i j : Nat) (x : UInt8) (f : Mx) : Mx := fun a b => if a = i ∧ b = j then x else f a b
theorem MxW.store (h : MxW w B g β γ n m f) {i j : Nat} (hi : i < n) (hj : j < m) (x : UInt8) : MxW (w.setCell ⟨β i, j, none⟩ (.int .u8 (x.toNat : Int))) B g β γ n m (putM i j x f) := by
  refine ⟨h.base, ?_, fun k hk => ?_, h.apart⟩
  · obtain ⟨cur, h1, h2⟩ := h.head
    exact ⟨cur, h1.other (h.ne hi) _, h2⟩
  · obtain ⟨h1, h2, h3, rc, h4, h5⟩ := h.rows k hk
    by_cases e : k = i
    · subst e
      refine ⟨h1, h2, h3, _, h4.set j _, fun b hb => ?_⟩
      unfold putM
      by_cases eb : b = j
      · subst eb
        rw [if_pos ⟨rfl, rfl⟩, Array.getElem?_setIfInBounds_self_of_lt]
        exact (Array.getElem?_eq_some_iff.1 (h5 b hb)).1
      · rw [if_neg (by omega), Array.getElem?_setIfInBounds_ne (fun e => eb e.symm), h5 b hb]
    · refine ⟨h1, h2, h3, rc, h4.other (fun e2 => e (h.apart k i hk hi e2)) _, fun b hb => ?_⟩
      unfold putM
      rw [if_neg (by omega), h5 b hb]
/-- Two slices exchanged. -/
theorem MxW.swap (h : MxW w B g β γ n m f) {c p : Nat} (hc : c < n) (hp : p < n) :
    MxW ((w.setCell ⟨g, c, none⟩ (.slice (some ⟨β p, 0, none⟩) m (γ p))).setCell ⟨g, p, none⟩ (.slice (some ⟨β c, 0, none⟩) m (γ c))) B g (fun i => β (swI c p i)) (fun i => γ (swI c p i)) n m (swM c p f) := by
  refine ⟨h.base, ?_, fun k hk => ?_, fun i k hi hk e => ?_⟩
  · obtain ⟨cur, h1, h2⟩ := h.head
    refine ⟨_, (h1.set c _).set p _, fun i hi => ?_⟩
    have hcl : c < cur.size := (Array.getElem?_eq_some_iff.1 (h2 c hc)).1
    have hpl : p < cur.size := (Array.getElem?_eq_some_iff.1 (h2 p hp)).1
    unfold swI
    by_cases ep : i = p
    · subst ep
      rw [Array.getElem?_setIfInBounds_self_of_lt (by rw [Array.size_setIfInBounds]; exact hpl)]
      by_cases ec : i = c
      · subst ec; rw [if_pos rfl]
      · rw [if_neg ec, if_pos rfl]
    · rw [Array.getElem?_setIfInBounds_ne (fun e => ep e.symm)]
      by_cases ec : i = c
      · subst ec
        rw [if_pos rfl, Array.getElem?_setIfInBounds_self_of_lt hcl]
      · rw [if_neg ec, if_neg ep, Array.getElem?_setIfInBounds_ne (fun e => ec e.symm), h2 i hi]
  · obtain ⟨h1, h2, h3, rc, h4, h5⟩ := h.rows _ (swI_lt hc hp hk)
    refine ⟨h1, h2, h3, rc, (h4.other (fun e => h.ne (swI_lt hc hp hk) e.symm) _).other (fun e => h.ne (swI_lt hc hp hk) e.symm) _, fun j hj => ?_⟩
    rw [h5 j hj, swM_at]
  · have := h.apart _ _ (swI_lt hc hp hi) (swI_lt hc hp hk) e
    rw [← swI_swI c p i, this, swI_swI]
/-- A row's bytes from o on, m of them; n rows of such. -/
def rowL (f : Mx) (o m r : Nat) : List UInt8 := (List.range m).map fun j => f r (o + j)
def rowsL (f : Mx) (o m n : Nat) : List (List UInt8) := (List.range n).map fun r => rowL f o m r
theorem rowL_len (f : Mx) (o m r : Nat) : (rowL f o m r).length = m := by simp [rowL]
theorem rowsL_len (f : Mx) (o m n : Nat) : (rowsL f o m n).length = n := by simp [rowsL]
theorem rowsL_succ (f : Mx) (o m n : Nat) : rowsL f o m (n + 1) = rowsL f o m n ++ [rowL f o m n] := by simp [rowsL, List.range_succ]
theorem rowsL_rows (f : Mx) (o m n : Nat) : ∀ r ∈ rowsL f o m n, r.length = m := by
  intro r hr
  obtain ⟨x, _, rfl⟩ := List.mem_map.1 hr
  exact rowL_len _ _ _ _
def entM (a : List (List UInt8)) : Mx := fun i j => (a.getD i []).getD j 0
theorem rowsL_ent (f : Mx) (o m n : Nat) {i j : Nat} (hi : i < n) (hj : j < m) : entM (rowsL f o m n) i j = f i (o + j) := by
  simp [entM, rowsL, rowL, List.getD_eq_getElem?_getD, hi, hj]
theorem rowL_drop (f : Mx) (o m r k : Nat) : (rowL f o m r).drop k = rowL f (o + k) (m - k) r := by
  apply List.ext_getElem (by rw [List.length_drop, rowL_len, rowL_len])
  intro i h1 h2
  simp [rowL, Nat.add_assoc]
theorem MxW.row (h : MxW w B g β γ n m f) {i : Nat} (hi : i < n) : Rd w w.heap.size (some ⟨β i, 0, none⟩) (rowL f 0 m i) := by
  obtain ⟨_, _, _, rc, h1, h2⟩ := h.rows i hi
  refine .inr ⟨β i, 0, rfl, h1.lt, fun j hj => ?_⟩
  rw [rowL_len] at hj
  rw [Nat.zero_add, h1.cell, h2 j hj]
  simp [rowL]
theorem MxW.below (h : MxW w B g β γ n m f) {w' : World} (hb : Below w.heap.size w w') : MxW w' B g β γ n m f :=
  ⟨h.base, by
    obtain ⟨cur, h1, h2⟩ := h.head
    exact ⟨cur, h1.below hb h1.lt, h2⟩, fun i hi => by
    obtain ⟨a1, a2, a3, rc, a4, a5⟩ := h.rows i hi
    exact ⟨a1, a2, a3, rc, a4.below hb a4.lt, a5⟩, h.apart⟩
end
end Go.Proofs.Ytdaofffkbnkljaa
namespace Go.Proofs.Ytdaofffkbnkljaa
open Go.RowKit

/-- The slices at β, each with m bytes and room for γ. -/
def hdrs (β γ : Nat → Nat) (n m : Nat) : List Value := (List.range n).map fun k => .slice (some ⟨β k, 0, none⟩) m (γ k)
theorem hdrs_get (β γ : Nat → Nat) {n i : Nat} (m : Nat) (h : i < n) : (hdrs β γ n m)[i]? = some (.slice (some ⟨β i, 0, none⟩) m (γ i)) := by
  unfold hdrs
  rw [List.getElem?_map, List.getElem?_range h]; rfl
theorem hdrs_succ (β γ : Nat → Nat) (n m k cp : Nat) : hdrs (fun i => if i = n then k else β i) (fun i => if i = n then cp else γ i) (n + 1) m = hdrs β γ n m ++ [.slice (some ⟨k, 0, none⟩) m cp] := by
  unfold hdrs
  rw [List.range_succ, List.map_append]
  congr 1
  · refine List.map_congr_left fun i hi => ?_
    have := List.mem_range.1 hi
    simp only [if_neg (show ¬ i = n by omega)]
  · simp
/-- The slice value v owns n slices, at β, each with m bytes of its own, which are f. -/
structure MxG (w : World) (B : Nat) (v : Value) (β γ : Nat → Nat) (n m : Nat) (f : Mx) : Prop where
  own : w.ownsRow B 22 1 v n (hdrs β γ n m)
  rows : ∀ i, i < n → B ≤ β i ∧ m ≤ γ i ∧ γ i ≤ maxLen ∧ ∃ rc, Blk w (β i) rc 5 ∧ ∀ j, j < m → rc[j]? = some (.int .u8 ((f i j).toNat : Int))
  apart : ∀ i k, i < n → k < n → β i = β k → i = k
def MxB (w : World) (B : Nat) (v : Value) (n m : Nat) (f : Mx) : Prop := ∃ β γ : Nat → Nat, MxG w B v β γ n m f
theorem MxB.nil (w : World) (B m : Nat) (f : Mx) : MxB w B (.slice none 0 0) 0 m f :=
  ⟨fun _ => 0, fun _ => 0, World.ownsRow_nil _ _ _ _, fun i hi => by omega, fun i k hi => by omega⟩
theorem MxB.opened {w : World} {B n m : Nat} {v : Value} {f : Mx} (h : MxB w B v n m f) (hn : 0 < n) : ∃ g cap β γ, v = .slice (some ⟨g, 0, none⟩) n cap ∧ n ≤ cap ∧ cap ≤ maxLen ∧ MxW w B g β γ n m f := by
  obtain ⟨β, γ, h1, h2, h3⟩ := h
  rcases h1.2 with ⟨rfl, e⟩ | ⟨g, cap, cur, rfl, hb, hg, hc, hm, hs, ht⟩
  · omega
  · refine ⟨g, cap, β, γ, rfl, hc, hm, hb, ⟨cur, hg, fun i hi => ?_⟩, h2, h3⟩
    have e := congrArg (fun l : List Value => l[i]?) ht
    simp only [hdrs_get β γ m hi, Nat.mul_one] at e
    rw [List.getElem?_take, if_pos hi, Array.getElem?_toList] at e
    exact e
/-- One row more. -/
theorem MxG.snoc {w w' : World} {B n m k cp : Nat} {v v' : Value} {β γ : Nat → Nat} {f : Mx} (h : MxG w B v β γ n m f) (hown : w'.ownsRow B 22 1 v' (n + 1) (hdrs β γ n m ++ [.slice (some ⟨k, 0, none⟩) m cp]))
    (hkeep : ∀ b rc, Blk w b rc 5 → Blk w' b rc 5) (hk : B ≤ k) (hc : m ≤ cp) (hcm : cp ≤ maxLen) (hnew : w.heap.size ≤ k) {rc : Array Value} (hr : Blk w' k rc 5) (hf : ∀ j, j < m → rc[j]? = some (.int .u8 ((f n j).toNat : Int))) :
    MxB w' B v' (n + 1) m f := by
  refine ⟨fun i => if i = n then k else β i, fun i => if i = n then cp else γ i, by rw [hdrs_succ]; exact hown, fun i hi => ?_, fun i j hi hj e => ?_⟩
  · by_cases e : i = n
    · subst e
      simp only [if_pos]
      exact ⟨hk, hc, hcm, rc, hr, hf⟩
    · simp only [if_neg e]
      obtain ⟨a1, a2, a3, rc', a4, a5⟩ := h.rows i (by omega)
      exact ⟨a1, a2, a3, rc', hkeep _ _ a4, a5⟩
  · have lt : ∀ i, i < n → β i < k := fun i hi => by
      obtain ⟨_, _, _, rc', a4, _⟩ := h.rows i hi
      exact Nat.lt_of_lt_of_le a4.lt hnew
    have e : (if i = n then k else β i) = (if j = n then k else β j) := e
    by_cases ei : i = n
    · by_cases ej : j = n
      · omega
      · rw [if_pos ei, if_neg ej] at e
        have := lt j (by omega); omega
    · by_cases ej : j = n
      · rw [if_neg ei, if_pos ej] at e
        have := lt i (by omega); omega
      · rw [if_neg ei, if_neg ej] at e
        exact h.apart i j (by omega) (by omega) e
theorem MxW.more {w : World} {B B' g n m : Nat} {β γ : Nat → Nat} {f : Mx} (h : MxW w B g β γ n m f) (hB : B' ≤ B) : MxW w B' g β γ n m f :=
  ⟨Nat.le_trans hB h.base, h.head, fun i hi => by
    obtain ⟨a1, a2⟩ := h.rows i hi
    exact ⟨Nat.le_trans hB a1, a2⟩, h.apart⟩
theorem MxG.below {w w' : World} {B n m : Nat} {v : Value} {β γ : Nat → Nat} {f : Mx} (h : MxG w B v β γ n m f) (hb : Below w.heap.size w w') : MxG w' B v β γ n m f :=
  ⟨own_keep h.own hb, fun i hi => by
    obtain ⟨a1, a2, a3, rc, a4, a5⟩ := h.rows i hi
    exact ⟨a1, a2, a3, rc, a4.below hb a4.lt, a5⟩, h.apart⟩
theorem below_arm {B : Nat} {w w' w'' : World} {row : Option Nat} {p q : Prop} (hg : w'.grownBy w'' row) (h : p ∧ q ∧ Below B w w') (hB : B ≤ w'.heap.size) (hr : ∀ k, row = some k → B ≤ k) : Below B w w'' := h.2.2.grown hg hB hr
/-- A row of bytes that stands at the head of a block. -/
theorem u8A_head {full l : List UInt8} {k j : Nat} (h : full.take k = l) (hj : j < k) (hl : l.length = k) : (u8A full)[j]? = some (.int .u8 ((l.getD j 0).toNat : Int)) := by
  have e : full[j]? = l[j]? := by rw [← h, List.getElem?_take, if_pos hj]
  have hj2 : j < l.length := by omega
  rw [List.getElem?_eq_getElem hj2] at e
  simp [u8A, Lib.byteCells, e, List.getD_eq_getElem?_getD, hj2]
theorem grown_apart {w w' : World} {v : Value} {b B n : Nat} {xs : List Value} {rc : Array Value} {e e' : TypeId} (hown : w.ownsRow B e 1 v n xs) (hg : w.grownBy w' v.ownBlock) (h : Blk w b rc e') (hne : e ≠ e') : Blk w' b rc e' := by
  have hb : some b ≠ v.ownBlock := by
    rcases hown.2 with ⟨rfl, _⟩ | ⟨g, cap, cur, rfl, _, h3, _⟩
    · simp [Value.ownBlock]
    · simp only [Value.ownBlock, ne_eq, Option.some.injEq]
      rintro rfl
      exact blk_apart h3 h hne rfl
  exact (hg.block b h.lt hb).trans h
end Go.Proofs.Ytdaofffkbnkljaa
