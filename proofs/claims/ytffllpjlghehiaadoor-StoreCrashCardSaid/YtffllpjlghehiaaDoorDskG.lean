/- Both disks: what they read, whatever they are asked; worlds in which just both disks have changed. -/
import Derived.Test.YtffllpjlghehiaaDoorWakes10
import Derived.Test.YtffllpjlghehiaaDoorOpenAc
namespace Go.Proofs.YtffllpjlghehiaaDoor
open Go.RowKit
set_option maxRecDepth 100000

def Dsk.rcode (s : Dsk) (n : Nat) (i : Int) : Int := if ¬ (0 ≤ i ∧ i < n) then 1 else if s.dead = true then 8 else 0
def Dsk.rbytes (s : Dsk) (n : Nat) (i : Int) : List UInt8 := if ¬ (0 ≤ i ∧ i < n) then [] else if s.dead = true then [] else s.sec i.toNat
theorem Like.rcode {s r : Dsk} (h : Like s r) (n : Nat) (i : Int) : r.rcode n i = s.rcode n i := by unfold Dsk.rcode; rw [h.dead]
theorem Like.rbytes {s r : Dsk} (h : Like s r) (n : Nat) (i : Int) : r.rbytes n i = s.rbytes n i := by unfold Dsk.rbytes; rw [h.dead, h.sec]
/-- What a read hands out. -/
def ReadPost (w : World) (E : Int) (l : List UInt8) (e : Ending) (w' : World) : Prop := ∃ A c, e = .returned (.tuple #[.slice A l.length c, .int .i64 E]) ∧ OwnB w' w.heap.size 5 (.slice A l.length c) l.length l ∧ l.length ≤ 32 ∧ Below w.heap.size w w'
theorem preadA {w : World} {p g n c : Nat} {s : Dsk} (h : DP w p g n c s) (i : Int) : Calls Tryd.prog 52 #[.pointer (some ⟨p, 0, none⟩), .int .i64 i] w (ReadPost w (s.rcode n i) (s.rbytes n i)) := by
  unfold Dsk.rcode Dsk.rbytes
  by_cases h1 : 0 ≤ i ∧ i < n
  · rw [if_neg (show ¬ ¬ (0 ≤ i ∧ i < n) from fun k => k h1), if_neg (show ¬ ¬ (0 ≤ i ∧ i < n) from fun k => k h1)]
    obtain ⟨j, rfl⟩ : ∃ j : Nat, i = (j : Int) := ⟨i.toNat, by omega⟩
    have hj : j < n := by omega
    by_cases hd : s.dead = true
    · rw [if_pos hd, if_pos hd]
      refine (pread_dead h j hj hd).mono ?_
      rintro e w' ⟨rfl, rfl⟩
      exact ⟨none, 0, rfl, OwnB.nil _ _ _, Nat.zero_le _, Below.refl _ _⟩
    · rw [if_neg hd, if_neg hd, Int.toNat_natCast]
      refine (pread_any h j hj (by simpa using hd)).mono ?_
      rintro e w' ⟨A, c', rfl, _, _, hO, hb⟩
      have hl := h.sec_len hj
      refine ⟨A, c', by rw [hl], by rw [hl]; exact hO, by omega, hb⟩
  · rw [if_pos h1, if_pos h1]
    refine (pread_bad h i h1).mono ?_
    rintro e w' ⟨rfl, rfl⟩
    exact ⟨none, 0, rfl, OwnB.nil _ _ _, Nat.zero_le _, Below.refl _ _⟩
theorem rdreadA {w : World} {p g n c : Nat} {s : Dsk} (h : RP w p g n c s) (i : Int) : Calls Tryd.prog 53 #[.pointer (some ⟨p, 0, none⟩), .int .i64 i] w (ReadPost w (s.rcode n i) (s.rbytes n i)) := by
  unfold Dsk.rcode Dsk.rbytes
  by_cases h1 : 0 ≤ i ∧ i < n
  · rw [if_neg (show ¬ ¬ (0 ≤ i ∧ i < n) from fun k => k h1), if_neg (show ¬ ¬ (0 ≤ i ∧ i < n) from fun k => k h1)]
    obtain ⟨j, rfl⟩ : ∃ j : Nat, i = (j : Int) := ⟨i.toNat, by omega⟩
    have hj : j < n := by omega
    by_cases hd : s.dead = true
    · rw [if_pos hd, if_pos hd]
      refine (rdread_dead h j hj hd).mono ?_
      rintro e w' ⟨rfl, rfl⟩
      exact ⟨none, 0, rfl, OwnB.nil _ _ _, Nat.zero_le _, Below.refl _ _⟩
    · rw [if_neg hd, if_neg hd, Int.toNat_natCast]
      refine (rdread_any h j hj (by simpa using hd)).mono ?_
      rintro e w' ⟨A, c', rfl, _, _, hO, hb⟩
      have hl := h.sec_len hj
      refine ⟨A, c', by rw [hl], by rw [hl]; exact hO, by omega, hb⟩
  · rw [if_pos h1, if_pos h1]
    refine (rdread_bad h i h1).mono ?_
    rintro e w' ⟨rfl, rfl⟩
    exact ⟨none, 0, rfl, OwnB.nil _ _ _, Nat.zero_le _, Below.refl _ _⟩

def four (p g q h : Nat) : Nat → Prop := fun k => k = p ∨ k = g ∨ k = q ∨ k = h
theorem two_four1 {p g q h : Nat} : ∀ k, two p g k → four p g q h k := fun k hk => by
  rcases hk with rfl | rfl
  · exact .inl rfl
  · exact .inr (.inl rfl)
theorem two_four2 {p g q h : Nat} : ∀ k, two q h k → four p g q h k := fun k hk => by
  rcases hk with rfl | rfl
  · exact .inr (.inr (.inl rfl))
  · exact .inr (.inr (.inr rfl))
theorem four_ge {p g q h B : Nat} (h1 : B ≤ p) (h2 : B ≤ g) (h3 : B ≤ q) (h4 : B ≤ h) : ∀ k, four p g q h k → B ≤ k := fun k hk => by
  rcases hk with rfl | rfl | rfl | rfl <;> assumption
/-- The blocks of both disks are apart. -/
structure Apart4 (p g q h : Nat) : Prop where
  pq : p ≠ q
  ph : p ≠ h
  gq : g ≠ q
  gh : g ≠ h
theorem Apart4.dp {w w' : World} {p g q h n c : Nat} {s : Dsk} (ha : Apart4 p g q h) (hd : DP w p g n c s) (hc : Chg (two q h) w w') : DP w' p g n c s :=
  hd.chg hc (fun k => by rcases k with k | k; exact ha.pq k; exact ha.ph k) (fun k => by rcases k with k | k; exact ha.gq k; exact ha.gh k)
theorem Apart4.rp {w w' : World} {p g q h n c : Nat} {s : Dsk} (ha : Apart4 p g q h) (hd : RP w q h n c s) (hc : Chg (two p g) w w') : RP w' q h n c s :=
  hd.chg hc (fun k => by rcases k with k | k; exact ha.pq k.symm; exact ha.gq k.symm) (fun k => by rcases k with k | k; exact ha.ph k.symm; exact ha.gh k.symm)
theorem RdA.of_rd_at {S : Nat → Prop} {w : World} {C b o : Nat} {l : List UInt8} (h : Rd w C (some ⟨b, o, none⟩) l) (hC : C ≤ w.heap.size) (hb : ¬ S b) : RdA S w (some ⟨b, o, none⟩) l := by
  rcases h with rfl | ⟨b', o', e, h1, h2⟩
  · exact .inl rfl
  · injection e with e
    injection e with e1 e2
    subst e1 e2
    exact .inr ⟨b, o, rfl, by omega, hb, h2⟩
theorem RdA.take {S : Nat → Prop} {w : World} {A : Option Addr} {l : List UInt8} (h : RdA S w A l) (k : Nat) : RdA S w A (l.take k) := by
  rcases h with rfl | ⟨b, off, rfl, h1, h2, h3⟩
  · exact .inl (by simp)
  · refine .inr ⟨b, off, rfl, h1, h2, fun i hi => ?_⟩
    rw [List.getElem_take]
    exact h3 i (by simp at hi; omega)
/-- What play leaves. -/
def PlayPost (w : World) (p g q h n c d : Nat) (e : Ending) (w' : World) : Prop := e = .returned (.bool true) ∧ ∃ s r, DP w' p g n c s ∧ RP w' q h n d r ∧ Like s r ∧ Chg (four p g q h) w w'
theorem next_at {s : Dsk} {n : Nat} {i : Int} {b : List UInt8} : (s.next n i b).dead = true ∨ (s.next n i b).dead = false := by cases (s.next n i b).dead <;> simp
end Go.Proofs.YtffllpjlghehiaaDoor
