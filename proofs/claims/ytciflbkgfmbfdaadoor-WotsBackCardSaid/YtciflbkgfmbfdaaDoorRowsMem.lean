/- A slice of byte slices in memory that reads as a list of lists of bytes. -/
import Derived.Test.YtciflbkgfmbfdaaDoorMem
namespace Go.Proofs.YtciflbkgfmbfdaaDoor
open Go.RowKit

/-- The slice of byte slices at A reads as ls, below block B. -/
def RdR (w : World) (B : Nat) (A : Option Addr) (ls : List (List UInt8)) : Prop :=
  ls = [] ∨ ∃ b off, A = some ⟨b, off, none⟩ ∧ b < B ∧ ∀ i (h : i < ls.length), ∃ A' c, w.cell? ⟨b, off + i, none⟩ = some (.slice A' ls[i].length c) ∧ ls[i].length ≤ c ∧ c ≤ maxLen ∧ Rd w B A' ls[i]

theorem RdR.nil (w : World) (B : Nat) (A : Option Addr) : RdR w B A [] := .inl rfl

theorem RdR.at_ {w : World} {B : Nat} {A : Option Addr} {ls : List (List UInt8)} (h : RdR w B A ls) (k : Nat) (hk : k < ls.length) :
    ∃ b off A' c, A = some ⟨b, off, none⟩ ∧ b < B ∧ w.cell? ⟨b, off + k, none⟩ = some (.slice A' ls[k].length c) ∧ ls[k].length ≤ c ∧ c ≤ maxLen ∧ Rd w B A' ls[k] := by
  rcases h with rfl | ⟨b, off, rfl, hb, hc⟩
  · simp at hk
  · obtain ⟨A', c, h1, h2, h3, h4⟩ := hc k hk
    exact ⟨b, off, A', c, rfl, hb, h1, h2, h3, h4⟩

theorem RdR.keep {w w' : World} {B : Nat} {A : Option Addr} {ls : List (List UInt8)} (h : RdR w B A ls) (hk : ∀ p : Addr, p.block < B → w'.cell? p = w.cell? p) : RdR w' B A ls := by
  rcases h with rfl | ⟨b, off, rfl, hb, hc⟩
  · exact .inl rfl
  · refine .inr ⟨b, off, rfl, hb, fun i hi => ?_⟩
    obtain ⟨A', c, h1, h2, h3, h4⟩ := hc i hi
    exact ⟨A', c, (hk _ hb).trans h1, h2, h3, h4.keep hk⟩

theorem RdR.more {w : World} {B B' : Nat} {A : Option Addr} {ls : List (List UInt8)} (h : RdR w B A ls) (hB : B ≤ B') : RdR w B' A ls := by
  rcases h with rfl | ⟨b, off, rfl, hb, hc⟩
  · exact .inl rfl
  · refine .inr ⟨b, off, rfl, by omega, fun i hi => ?_⟩
    obtain ⟨A', c, h1, h2, h3, h4⟩ := hc i hi
    exact ⟨A', c, h1, h2, h3, h4.more hB⟩

theorem RdR.below {w w' : World} {B C : Nat} {A : Option Addr} {ls : List (List UInt8)} (h : RdR w B A ls) (hb : Below C w w') (hBC : B ≤ C) : RdR w' B A ls :=
  h.keep fun _ hp => hb.cell (Nat.lt_of_lt_of_le hp hBC)
theorem RdR.drewN {w : World} {B : Nat} {A : Option Addr} {ls : List (List UInt8)} (h : RdR w B A ls) (n : Nat) : RdR (w.drewN n) B A ls := h.keep fun _ _ => rfl

/-- A row of the call's own, of slice values each of which reads as its list. -/
def sliceVals (w : World) (B : Nat) (vs : List Value) (ls : List (List UInt8)) : Prop :=
  vs.length = ls.length ∧ ∀ i (h : i < ls.length), ∃ A' c, vs[i]? = some (.slice A' ls[i].length c) ∧ ls[i].length ≤ c ∧ c ≤ maxLen ∧ Rd w B A' ls[i]

theorem sliceVals.nil (w : World) (B : Nat) : sliceVals w B [] [] := ⟨rfl, fun i h => by simp at h⟩

theorem sliceVals.keep {w w' : World} {B : Nat} {vs : List Value} {ls : List (List UInt8)} (h : sliceVals w B vs ls) (hk : ∀ p : Addr, p.block < B → w'.cell? p = w.cell? p) : sliceVals w' B vs ls :=
  ⟨h.1, fun i hi => by
    obtain ⟨A', c, h1, h2, h3, h4⟩ := h.2 i hi
    exact ⟨A', c, h1, h2, h3, h4.keep hk⟩⟩
theorem sliceVals.more {w : World} {B B' : Nat} {vs : List Value} {ls : List (List UInt8)} (h : sliceVals w B vs ls) (hB : B ≤ B') : sliceVals w B' vs ls :=
  ⟨h.1, fun i hi => by
    obtain ⟨A', c, h1, h2, h3, h4⟩ := h.2 i hi
    exact ⟨A', c, h1, h2, h3, h4.more hB⟩⟩
theorem sliceVals.below {w w' : World} {B C : Nat} {vs : List Value} {ls : List (List UInt8)} (h : sliceVals w B vs ls) (hb : Below C w w') (hBC : B ≤ C) : sliceVals w' B vs ls :=
  h.keep fun _ hp => hb.cell (Nat.lt_of_lt_of_le hp hBC)
theorem sliceVals.snoc {w : World} {B : Nat} {vs : List Value} {ls : List (List UInt8)} (h : sliceVals w B vs ls) {A : Option Addr} {n c : Nat} {l : List UInt8} (hn : l.length = n) (hc : n ≤ c) (hm : c ≤ maxLen) (hr : Rd w B A l) :
    sliceVals w B (vs ++ [.slice A n c]) (ls ++ [l]) := by
  subst hn
  refine ⟨by simp [h.1], fun i hi => ?_⟩
  by_cases he : i < ls.length
  · obtain ⟨A', c', h1, h2⟩ := h.2 i he
    refine ⟨A', c', ?_, ?_⟩
    · rw [List.getElem?_append_left (by rw [h.1]; exact he)]
      simpa [List.getElem_append_left he] using h1
    · simpa [List.getElem_append_left he] using h2
  · have hi' : i = ls.length := by simp at hi; omega
    subst hi'
    refine ⟨A, c, ?_, ?_⟩
    · rw [List.getElem?_append_right (by rw [h.1]; exact Nat.le_refl _)]
      simp [h.1]
    · simpa using ⟨hc, hm, hr⟩

/-- Such a row reads as the lists. -/
theorem RdR.of_own {w : World} {base : Nat} {e : TypeId} {A : Option Addr} {n c B : Nat} {vs : List Value} {ls : List (List UInt8)} (h : w.ownsRow base e 1 (.slice A n c) n vs) (hs : sliceVals w B vs ls) (hB : B ≤ w.heap.size) : RdR w w.heap.size A ls := by
  rcases ls with _ | ⟨x, ls⟩
  · exact .inl rfl
  · refine .inr ?_
    have hl := h.1
    have hpos : 0 < n := by have := hs.1; simp at this; omega
    obtain ⟨g, cap, hv, _, hlt⟩ := h.form hpos
    have hA : A = some ⟨g, 0, none⟩ := by injection hv
    subst hA
    refine ⟨g, 0, rfl, hlt, fun i hi => ?_⟩
    obtain ⟨A', c', h1, h2, h3, h4⟩ := hs.2 i hi
    refine ⟨A', c', ?_, h2, h3, h4.more hB⟩
    have hc := h.cells (g := g) rfl i _ h1
    by_cases h0 : i = 0
    · subst h0; simpa [Addr.add] using hc
    · simpa [Addr.add, h0] using hc
end Go.Proofs.YtciflbkgfmbfdaaDoor
