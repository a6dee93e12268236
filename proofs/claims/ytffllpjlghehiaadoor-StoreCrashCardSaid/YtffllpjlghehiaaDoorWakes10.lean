/- The document's example of chapter 10 holds. -/
import Derived.Test.YtffllpjlghehiaaDoorDskV
namespace Go.Proofs.YtffllpjlghehiaaDoor
open Go.RowKit
set_option maxRecDepth 100000

theorem two_ge {p g B : Nat} (hp : B ≤ p) (hg : B ≤ g) : ∀ k, two p g k → B ≤ k := fun k h => by
  rcases h with rfl | rfl
  · exact hp
  · exact hg
theorem pnew_at (n : Nat) (k : Int) (hk : k = n) (w : World) (h1 : 1 ≤ n) (h2 : n ≤ 4096) : Calls Tryd.prog 9 #[.int .i64 k] w fun e w' => ∃ p, e = .returned (.tuple #[.pointer (some ⟨p, 0, none⟩), .int .i64 0]) ∧ w.heap.size ≤ p ∧ ∃ g, w.heap.size ≤ g ∧ DP w' p g n n (newD n) ∧ Below w.heap.size w w' := by
  subst hk
  exact pnew_any n w h1 h2
theorem Rd.of_blk {w : World} {g : Nat} {T : TypeId} {bs : List UInt8} (h : Blk w g (u8A bs) T) : Rd w w.heap.size (some ⟨g, 0, none⟩) bs :=
  .inr ⟨g, 0, rfl, h.lt, fun i hi => by
    rw [Nat.zero_add, h.byteAt hi, List.getD_eq_getElem?_getD, List.getElem?_eq_getElem hi]
    rfl⟩
theorem pread_at {w : World} {p g n c : Nat} {s : Dsk} (h : DP w p g n c s) (i : Nat) (k : Int) (hk : k = i) (hi : i < n) (hd : s.dead = false) : Calls Tryd.prog 52 #[.pointer (some ⟨p, 0, none⟩), .int .i64 k] w fun e w' =>
    ∃ A' c', e = .returned (.tuple #[.slice A' 32 c', .int .i64 0]) ∧ 32 ≤ c' ∧ c' ≤ maxLen ∧ OwnB w' w.heap.size 5 (.slice A' 32 c') 32 (s.sec i) ∧ Below w.heap.size w w' := by
  subst hk
  exact pread_any h i hi hd
theorem Rd.two {w : World} {B : Nat} {A : Option Addr} {l : List UInt8} (h : Rd w B A l) (hl : 2 ≤ l.length) : ∃ b off, A = some ⟨b, off, none⟩ ∧ w.cell? ⟨b, off, none⟩ = some (.int .u8 ((l.getD 0 0).toNat : Int)) ∧ w.cell? ⟨b, off + 1, none⟩ = some (.int .u8 ((l.getD 1 0).toNat : Int)) := by
  rcases h with rfl | ⟨b, off, rfl, _, hc⟩
  · simp at hl
  · refine ⟨b, off, rfl, ?_, ?_⟩
    · have := hc 0 (by omega)
      rw [List.getD_eq_getElem?_getD, List.getElem?_eq_getElem (show 0 < l.length by omega)]
      exact this
    · have := hc 1 (by omega)
      rw [List.getD_eq_getElem?_getD, List.getElem?_eq_getElem (show 1 < l.length by omega)]
      exact this
def wk1 : Dsk := (newD 1).stop 0 1
theorem wk_code : wk1.code 1 0 2 = 8 := by decide
def wk2 : Dsk := (wk1.next 1 0 [5, 5]).start
theorem wk_dead : wk2.dead = false := rfl
theorem wk_sec : (wk2.sec 0).getD 0 0 = 5 ∧ (wk2.sec 0).getD 1 0 = 0 := by decide +kernel
end Go.Proofs.YtffllpjlghehiaaDoor
