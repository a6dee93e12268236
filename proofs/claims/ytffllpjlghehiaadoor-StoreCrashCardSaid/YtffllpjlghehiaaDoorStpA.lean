/- The program's store in memory; where a slot's sectors lie; a write. -/
import Derived.Test.YtffllpjlghehiaaDoorStpM
import Derived.Test.YtffllpjlghehiaaDoorDskG
namespace Go.Proofs.YtffllpjlghehiaaDoor
open Go.RowKit

def entsV (died : Bool) (b n : Nat) : Value := if died then .slice none 0 0 else .slice (some ⟨b, 0, none⟩) n n
/-- The program's store at q, on the disk p (sectors at g); its entries at b, while it lives. -/
structure SP (w : World) (q p g b c : Nat) (s : Dsk) (R n : Nat) (E : Nat → Ent) (died : Bool) : Prop where
  disk : DP w p g (n * (R + 1)) c s
  head : Blk w q #[.pointer (some ⟨p, 0, none⟩), .int .i64 (R : Int), entsV died b n, .bool died] 73
  ents : died = false → Blk w b (entA n E) 80
  qp : q ≠ p
  qg : q ≠ g
  bp : b ≠ p
  bg : b ≠ g
  bq : b ≠ q
  room : 1 ≤ R
def three (q p g : Nat) : Nat → Prop := fun k => k = q ∨ k = p ∨ k = g
def fourS (q p g b : Nat) : Nat → Prop := fun k => k = q ∨ k = p ∨ k = g ∨ k = b
theorem three_four {q p g b : Nat} : ∀ k, three q p g k → fourS q p g b k := fun k hk => by
  rcases hk with rfl | rfl | rfl
  · exact .inl rfl
  · exact .inr (.inl rfl)
  · exact .inr (.inr (.inl rfl))
theorem two_three {q p g : Nat} : ∀ k, two p g k → three q p g k := fun k hk => by
  rcases hk with rfl | rfl
  · exact .inr (.inl rfl)
  · exact .inr (.inr rfl)
theorem two_fourS {q p g b : Nat} : ∀ k, two p g k → fourS q p g b k := fun k hk => three_four k (two_three k hk)
theorem SP.not_q {w : World} {q p g b c : Nat} {s : Dsk} {R n : Nat} {E : Nat → Ent} {died : Bool} (h : SP w q p g b c s R n E died) : ¬ two p g q := fun k => by
  rcases k with k | k
  · exact h.qp k
  · exact h.qg k
theorem SP.not_b {w : World} {q p g b c : Nat} {s : Dsk} {R n : Nat} {E : Nat → Ent} {died : Bool} (h : SP w q p g b c s R n E died) : ¬ three q p g b := fun k => by
  rcases k with k | k | k
  · exact h.bq k
  · exact h.bp k
  · exact h.bg k
theorem SP.below {w w' : World} {q p g b c : Nat} {s : Dsk} {R n : Nat} {E : Nat → Ent} {died : Bool} (h : SP w q p g b c s R n E died) (hb : Below w.heap.size w w') : SP w' q p g b c s R n E died :=
  ⟨h.disk.below hb, h.head.below hb h.head.lt, fun e => (h.ents e).below hb (h.ents e).lt, h.qp, h.qg, h.bp, h.bg, h.bq, h.room⟩
theorem SP.size {w : World} {q p g b c : Nat} {s : Dsk} {R n : Nat} {E : Nat → Ent} {died : Bool} (h : SP w q p g b c s R n E died) : 1 ≤ n ∧ n ≤ 4096 ∧ R ≤ 4095 ∧ n * (R + 1) ≤ 4096 := by
  have hs := h.disk.small
  have h1 : 1 ≤ n := by
    rcases Nat.eq_zero_or_pos n with rfl | k
    · rw [Nat.zero_mul] at hs; omega
    · exact k
  have h2 : n * 1 ≤ n * (R + 1) := Nat.mul_le_mul_left n (by omega)
  have h3 : 1 * (R + 1) ≤ n * (R + 1) := Nat.mul_le_mul_right _ h1
  omega
theorem SP.place {w : World} {q p g b c : Nat} {s : Dsk} {R n : Nat} {E : Nat → Ent} {died : Bool} (h : SP w q p g b c s R n E died) {i k : Nat} (hi : i < n) (hk : k ≤ R) : i * (R + 1) + k < n * (R + 1) ∧ i * (R + 1) ≤ 4096 := by
  have h1 := geo_lt hi hk
  have := h.size
  omega
theorem SP.cells {w : World} {q p g b c : Nat} {s : Dsk} {R n : Nat} {E : Nat → Ent} {died : Bool} (h : SP w q p g b c s R n E died) : w.cell? ⟨q, 0, none⟩ = some (.pointer (some ⟨p, 0, none⟩)) ∧ w.cell? ⟨q, 1, none⟩ = some (.int .i64 (R : Int)) ∧ w.cell? ⟨q, 2, none⟩ = some (entsV died b n) ∧ w.cell? ⟨q, 3, none⟩ = some (.bool died) :=
  ⟨h.head.cell 0, h.head.cell 1, h.head.cell 2, h.head.cell 3⟩
theorem SP.cellE {w : World} {q p g b c : Nat} {s : Dsk} {R n : Nat} {E : Nat → Ent} (h : SP w q p g b c s R n E false) {i j : Nat} (hi : i < n) (hj : j < 3) : w.cell? ⟨b, i * 3 + j, none⟩ = some ((entV (E i)).getD j (.bool false)) :=
  ((h.ents rfl).cell _).trans (entA_at E hi hj)
theorem SP.cell0 {w : World} {q p g b c : Nat} {s : Dsk} {R n : Nat} {E : Nat → Ent} (h : SP w q p g b c s R n E false) {i : Nat} (hi : i < n) : w.cell? ⟨b, i * 3, none⟩ = some ((entV (E i)).getD 0 (.bool false)) := h.cellE hi (j := 0) (by omega)
/-- Other things than the store have changed, and its disk with them. -/
theorem SP.with_disk {w w' : World} {q p g b c : Nat} {s s' : Dsk} {R n : Nat} {E : Nat → Ent} {died : Bool} (h : SP w q p g b c s R n E died) (hd : DP w' p g (n * (R + 1)) c s') (hc : Chg (two p g) w w') : SP w' q p g b c s' R n E died :=
  ⟨hd, hc.blk h.head h.not_q, fun e => hc.blk (h.ents e) fun k => h.not_b (two_three _ k), h.qp, h.qg, h.bp, h.bg, h.bq, h.room⟩
theorem SP.geo {w : World} {q p g b c : Nat} {s : Dsk} {R n : Nat} {E : Nat → Ent} {died : Bool} (h : SP w q p g b c s R n E died) : Geo s R n := ⟨h.disk.len, h.disk.keep⟩
theorem SP.congr {w : World} {q p g b c : Nat} {s : Dsk} {R n : Nat} {E F : Nat → Ent} {died : Bool} (h : SP w q p g b c s R n E died) (he : died = false → ∀ i, i < n → E i = F i) : SP w q p g b c s R n F died :=
  ⟨h.disk, h.head, fun e => by rw [← entA_congr (he e)]; exact h.ents e, h.qp, h.qg, h.bp, h.bg, h.bq, h.room⟩

theorem psstate_any {w : World} {q p g b c : Nat} {s : Dsk} {R n : Nat} {E : Nat → Ent} {died : Bool} (h : SP w q p g b c s R n E died) {i : Nat} (hi : i < n) :
    Calls Tryd.prog 55 #[.pointer (some ⟨q, 0, none⟩), .int .i64 (i : Int)] w fun e w' => e = .returned (.int .i64 ((i * (R + 1) : Nat) : Int)) ∧ w = w' := by
  obtain ⟨_, c1, _⟩ := h.cells
  have hp := (h.place hi (Nat.zero_le R)).2
  have hs := h.size
  have e1 : ((i * (R + 1) : Nat) : Int) = (i : Int) * ((R : Int) + 1) := by rw [Int.natCast_mul]; rfl
  have hb : (i : Int) * ((R : Int) + 1) ≤ 4096 := by omega
  have hb0 : 0 ≤ (i : Int) * ((R : Int) + 1) := by omega
  rw [e1]
  clear h e1 hp
  go_enter Tryd.func55, Tryd.ntmps55
  go_wp2
  go_ret
  exact ⟨rfl, rfl⟩

theorem code_cases (s : Dsk) (N : Nat) (i : Int) (m : Nat) : s.code N i m = 0 ∨ s.code N i m = 1 ∨ s.code N i m = 8 := by
  unfold Dsk.code
  split
  · exact .inr (.inl rfl)
  · split
    · exact .inr (.inr rfl)
    · split
      · exact .inr (.inr rfl)
      · exact .inl rfl

/-- A write that has died takes the entries away. -/
theorem SP.die {w : World} {q p g b c : Nat} {s : Dsk} {R n : Nat} {E : Nat → Ent} (h : SP w q p g b c s R n E false) :
    SP ((w.setCell ⟨q, 3, none⟩ (.bool true)).setCell ⟨q, 2, none⟩ (.slice none 0 0)) q p g b c s R n E true ∧ Chg (three q p g) w ((w.setCell ⟨q, 3, none⟩ (.bool true)).setCell ⟨q, 2, none⟩ (.slice none 0 0)) := by
  have k := (h.head.set 3 (.bool true)).set 2 (.slice none 0 0)
  have hc : Chg (fun j => j = q) w ((w.setCell ⟨q, 3, none⟩ (.bool true)).setCell ⟨q, 2, none⟩ (.slice none 0 0)) := ((Chg.refl (fun j => j = q) w).setCell (fun _ => rfl) _).setCell (fun _ => rfl) _
  exact ⟨⟨h.disk.chg hc (fun e => h.qp e.symm) (fun e => h.qg e.symm), k, (fun e => by cases e), h.qp, h.qg, h.bp, h.bg, h.bq, h.room⟩, hc.more fun k e => .inl e⟩

theorem pswrite_any {w : World} {q p g b c : Nat} {s : Dsk} {R n : Nat} {E : Nat → Ent} (h : SP w q p g b c s R n E false) (i : Int) (A : Option Addr) (m d : Nat) (l : List UInt8) (hl : l.length = m) (hr : Rd w w.heap.size A l) :
    Calls Tryd.prog 57 #[.pointer (some ⟨q, 0, none⟩), .int .i64 i, .slice A m d] w fun e w' => e = .returned (.int .i64 (s.code (n * (R + 1)) i m)) ∧ SP w' q p g b c (s.next (n * (R + 1)) i l) R n E (decide (s.code (n * (R + 1)) i m ≠ 0)) ∧ Chg (three q p g) w w' := by
  have HC := Lib.hid (pwrite_any h.disk i A m d l hl hr)
  obtain ⟨c0, c1, c2, c3⟩ := h.cells
  have H := Lib.hid h
  clear h hr
  have hk := code_cases s (n * (R + 1)) i m
  generalize s.code (n * (R + 1)) i m = K at *
  rcases hk with rfl | rfl | rfl
  · go_enter Tryd.func57, Tryd.ntmps57
    go_wp2_with fail
    with_reducible refine HC.out.mono ?_
    rintro e w1 ⟨rfl, D1, C1⟩
    have D1 := Lib.hid D1
    have C1 := Lib.hid C1
    go_wp2_with fail
    go_ret
    exact ⟨rfl, H.out.with_disk D1.out C1.out, C1.out.more two_three⟩
  · go_enter Tryd.func57, Tryd.ntmps57
    go_wp2_with fail
    with_reducible refine HC.out.mono ?_
    rintro e w1 ⟨rfl, D1, C1⟩
    have S1 := Lib.hid (H.out.with_disk D1 C1)
    have C1 := Lib.hid C1
    have f2 := S1.out.head.frozen 2
    have f3 := S1.out.head.frozen 3
    obtain ⟨d0, d1, d2, d3⟩ := S1.out.cells
    clear c0 c1 c2 c3 D1
    go_wp2_with fail
    go_ret
    exact ⟨rfl, S1.out.die.1, (C1.out.more two_three).trans S1.out.die.2⟩
  · go_enter Tryd.func57, Tryd.ntmps57
    go_wp2_with fail
    with_reducible refine HC.out.mono ?_
    rintro e w1 ⟨rfl, D1, C1⟩
    have S1 := Lib.hid (H.out.with_disk D1 C1)
    have C1 := Lib.hid C1
    have f2 := S1.out.head.frozen 2
    have f3 := S1.out.head.frozen 3
    obtain ⟨d0, d1, d2, d3⟩ := S1.out.cells
    clear c0 c1 c2 c3 D1
    go_wp2_with fail
    go_ret
    exact ⟨rfl, S1.out.die.1, (C1.out.more two_three).trans S1.out.die.2⟩

/-! ### A slot is freed -/
theorem SP.putE {w w' : World} {q p g b c : Nat} {s : Dsk} {R n : Nat} {E : Nat → Ent} (h : SP w q p g b c s R n E false) (x : Ent) {i : Nat} {v0 v1 v2 : Value} (hi : i < n) (hx : entV x = [v0, v1, v2])
    (hw : w' = ((w.setCell ⟨b, i * 3, none⟩ v0).setCell ⟨b, i * 3 + 1, none⟩ v1).setCell ⟨b, i * 3 + 2, none⟩ v2) :
    SP w' q p g b c s R n (updE E i x) false ∧ Chg (fun k => k = b) w w' := by
  have k := (((h.ents rfl).set (i * 3) v0).set (i * 3 + 1) v1).set (i * 3 + 2) v2
  rw [entA_put E x hi hx, ← hw] at k
  have hc : Chg (fun j => j = b) w w' := by rw [hw]; exact (((Chg.refl (fun j => j = b) w).setCell (fun _ => rfl) _).setCell (fun _ => rfl) _).setCell (fun _ => rfl) _
  exact ⟨⟨h.disk.chg hc (fun e => h.bp e.symm) (fun e => h.bg e.symm), hc.blk h.head (fun e => h.bq e.symm), fun _ => k, h.qp, h.qg, h.bp, h.bg, h.bq, h.room⟩, hc⟩
end Go.Proofs.YtffllpjlghehiaaDoor
