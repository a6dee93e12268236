/- Both disks: what they read, whatever they are asked; worlds in which just both disks have changed. -/
import Derived.ChangeArms
import Derived.Test.YtndknifdajjalaaGreatDoorPU8
import Derived.Test.YtndknifdajjalaaGreatDoorPDskT
namespace Go.Proofs.YtndknifdajjalaaGreatDoor
open Go.ChangeShapes Go.WideShapes Go.ChangeAt Go.RowKit Go.Deep

structure Act5 where
  what : Int
  i : Int
  at_ : Int
  keep : Int
  B : List UInt8
def Act5.ok (a : Act5) : Prop := (-9223372036854775808 ≤ a.what ∧ a.what ≤ 9223372036854775807) ∧ a.at_ ≤ 9223372036854775807
/-- The call lies in block b from offset o on; its bytes lie below block Bd. -/
def ActAt (w : World) (Bd b o : Nat) (a : Act5) : Prop :=
  w.cell? ⟨b, o, none⟩ = some (.int .i64 a.what) ∧ w.cell? ⟨b, o + 1, none⟩ = some (.int .i64 a.i) ∧ w.cell? ⟨b, o + 2, none⟩ = some (.int .i64 a.at_) ∧ w.cell? ⟨b, o + 3, none⟩ = some (.int .i64 a.keep) ∧
  ∃ A' c, w.cell? ⟨b, o + 4, none⟩ = some (.slice A' a.B.length c) ∧ a.B.length ≤ c ∧ c ≤ maxLen ∧ Rd w Bd A' a.B
def RdAc (w : World) (Bd : Nat) (A : Option Addr) (l : List Act5) : Prop := l = [] ∨ ∃ b off, A = some ⟨b, off, none⟩ ∧ b < Bd ∧ ∀ i (h : i < l.length), ActAt w Bd b (off + i * 5) l[i]
theorem RdAc.keep {w w' : World} {B : Nat} {A : Option Addr} {l : List Act5} (h : RdAc w B A l) (hk : ∀ p : Addr, p.block < B → w'.cell? p = w.cell? p) : RdAc w' B A l := by
  rcases h with rfl | ⟨b, off, rfl, hb, hc⟩
  · exact .inl rfl
  · refine .inr ⟨b, off, rfl, hb, fun i hi => ?_⟩
    obtain ⟨h0, h1, h2, h3, A', c, h4, h5, h6, h7⟩ := hc i hi
    exact ⟨(hk _ hb).trans h0, (hk _ hb).trans h1, (hk _ hb).trans h2, (hk _ hb).trans h3, A', c, (hk _ hb).trans h4, h5, h6, h7.keep hk⟩
theorem bytes_trod {H : Type} {enc : TypeId × Value → H} {W : World} {n : Nat} {c : Value} {x : DataW H × List MemPlace} (h : DataW.trod enc Tryz.prog W 0 (fun _ => true) true n 35 [c] = some x) :
    ∃ A m k l, c = .slice A m k ∧ l.length = m ∧ m ≤ k ∧ k ≤ maxLen ∧ Rd W W.heap.size A l := by
  rcases open_ints Tryz.underlying35 Tryz.underlying5 cellsByte h with ⟨e, _⟩ | ⟨b, len2, cap2, zs, e, _, hl2, hm2, hz2, _, hcell, hwz⟩
  · simp at e
    exact ⟨none, 0, 0, [], e, rfl, Nat.le_refl _, Nat.zero_le _, .inl rfl⟩
  · simp at e
    obtain ⟨l, e1, e2⟩ := rd_of_ints hcell hwz len2 (by simp at hz2; omega)
    exact ⟨some b, len2, cap2, l, e, e1, hl2, hm2, e2⟩
open Go.RowKit
set_option maxRecDepth 100000

def four (p g q h : Nat) : Nat → Prop := fun k => k = p ∨ k = g ∨ k = q ∨ k = h
/-- The blocks of both disks are apart. -/
structure Apart4 (p g q h : Nat) : Prop where
  pq : p ≠ q
  ph : p ≠ h
  gq : g ≠ q
  gh : g ≠ h
theorem RdA.take {S : Nat → Prop} {w : World} {A : Option Addr} {l : List UInt8} (h : RdA S w A l) (k : Nat) : RdA S w A (l.take k) := by
  rcases h with rfl | ⟨b, off, rfl, h1, h2, h3⟩
  · exact .inl (by simp)
  · refine .inr ⟨b, off, rfl, h1, h2, fun i hi => ?_⟩
    rw [List.getElem_take]
    exact h3 i (by simp at hi; omega)
end Go.Proofs.YtndknifdajjalaaGreatDoor
