/- The program's store: a record's bytes. -/
import Derived.Test.YtndknifdajjalaaGreatDoorPStpM
import Derived.Test.YtndknifdajjalaaGreatDoorPDskG
import Derived.Test.YtndknifdajjalaaGreatDoorPNetB
namespace Go.Proofs.YtndknifdajjalaaGreatDoor
open Go.RowKit

def entsV (died : Bool) (b n : Nat) : Value := if died then .slice none 0 0 else .slice (some ⟨b, 0, none⟩) n n
/-- The program's store at q, on the disk p (sectors at g); its entries at b, while it lives. -/
structure SP (w : World) (q p g b c : Nat) (s : Dsk) (R n : Nat) (E : Nat → Ent) (died : Bool) : Prop where
  disk : DP w p g (n * (R + 1)) c s
  head : Blk w q #[.pointer (some ⟨p, 0, none⟩), .int .i64 (R : Int), entsV died b n, .bool died] 76
  ents : died = false → Blk w b (entA n E) 114
  qp : q ≠ p
  qg : q ≠ g
  bp : b ≠ p
  bg : b ≠ g
  bq : b ≠ q
  room : 1 ≤ R
def three (q p g : Nat) : Nat → Prop := fun k => k = q ∨ k = p ∨ k = g
def fourS (q p g b : Nat) : Nat → Prop := fun k => k = q ∨ k = p ∨ k = g ∨ k = b
theorem three_four {q p g b : Nat} : ∀ k, three q p g k → fourS q p g b k := fun k hk => by
  rcases hk with rfl | rfl | rfl
  · exact .inl rfl
  · exact .inr (.inl rfl)
  · exact .inr (.inr (.inl rfl))
theorem two_three {q p g : Nat} : ∀ k, two p g k → three q p g k := fun k hk => by
  rcases hk with rfl | rfl
  · exact .inr (.inl rfl)
  · exact .inr (.inr rfl)
theorem two_fourS {q p g b : Nat} : ∀ k, two p g k → fourS q p g b k := fun k hk => three_four k (two_three k hk)
theorem SP.not_q {w : World} {q p g b c : Nat} {s : Dsk} {R n : Nat} {E : Nat → Ent} {died : Bool} (h : SP w q p g b c s R n E died) : ¬ two p g q := fun k => by
  rcases k with k | k
  · exact h.qp k
  · exact h.qg k
theorem SP.not_b {w : World} {q p g b c : Nat} {s : Dsk} {R n : Nat} {E : Nat → Ent} {died : Bool} (h : SP w q p g b c s R n E died) : ¬ three q p g b := fun k => by
  rcases k with k | k | k
  · exact h.bq k
  · exact h.bp k
  · exact h.bg k
theorem SP.below {w w' : World} {q p g b c : Nat} {s : Dsk} {R n : Nat} {E : Nat → Ent} {died : Bool} (h : SP w q p g b c s R n E died) (hb : Below w.heap.size w w') : SP w' q p g b c s R n E died :=
  ⟨h.disk.below hb, h.head.below hb h.head.lt, fun e => (h.ents e).below hb (h.ents e).lt, h.qp, h.qg, h.bp, h.bg, h.bq, h.room⟩
theorem SP.size {w : World} {q p g b c : Nat} {s : Dsk} {R n : Nat} {E : Nat → Ent} {died : Bool} (h : SP w q p g b c s R n E died) : 1 ≤ n ∧ n ≤ 4096 ∧ R ≤ 4095 ∧ n * (R + 1) ≤ 4096 := by
  have hs := h.disk.small
  have h1 : 1 ≤ n := by
    rcases Nat.eq_zero_or_pos n with rfl | k
    · rw [Nat.zero_mul] at hs; omega
    · exact k
  have h2 : n * 1 ≤ n * (R + 1) := Nat.mul_le_mul_left n (by omega)
  have h3 : 1 * (R + 1) ≤ n * (R + 1) := Nat.mul_le_mul_right _ h1
  omega
theorem SP.place {w : World} {q p g b c : Nat} {s : Dsk} {R n : Nat} {E : Nat → Ent} {died : Bool} (h : SP w q p g b c s R n E died) {i k : Nat} (hi : i < n) (hk : k ≤ R) : i * (R + 1) + k < n * (R + 1) ∧ i * (R + 1) ≤ 4096 := by
  have h1 := geo_lt hi hk
  have := h.size
  omega
theorem SP.cells {w : World} {q p g b c : Nat} {s : Dsk} {R n : Nat} {E : Nat → Ent} {died : Bool} (h : SP w q p g b c s R n E died) : w.cell? ⟨q, 0, none⟩ = some (.pointer (some ⟨p, 0, none⟩)) ∧ w.cell? ⟨q, 1, none⟩ = some (.int .i64 (R : Int)) ∧ w.cell? ⟨q, 2, none⟩ = some (entsV died b n) ∧ w.cell? ⟨q, 3, none⟩ = some (.bool died) :=
  ⟨h.head.cell 0, h.head.cell 1, h.head.cell 2, h.head.cell 3⟩
theorem SP.cellE {w : World} {q p g b c : Nat} {s : Dsk} {R n : Nat} {E : Nat → Ent} (h : SP w q p g b c s R n E false) {i j : Nat} (hi : i < n) (hj : j < 3) : w.cell? ⟨b, i * 3 + j, none⟩ = some ((entV (E i)).getD j (.bool false)) :=
  ((h.ents rfl).cell _).trans (entA_at E hi hj)
theorem SP.cell0 {w : World} {q p g b c : Nat} {s : Dsk} {R n : Nat} {E : Nat → Ent} (h : SP w q p g b c s R n E false) {i : Nat} (hi : i < n) : w.cell? ⟨b, i * 3, none⟩ = some ((entV (E i)).getD 0 (.bool false)) := h.cellE hi (j := 0) (by omega)
/-- Other things than the store have changed, and its disk with them. -/
theorem SP.with_disk {w w' : World} {q p g b c : Nat} {s s' : Dsk} {R n : Nat} {E : Nat → Ent} {died : Bool} (h : SP w q p g b c s R n E died) (hd : DP w' p g (n * (R + 1)) c s') (hc : Chg (two p g) w w') : SP w' q p g b c s' R n E died :=
  ⟨hd, hc.blk h.head h.not_q, fun e => hc.blk (h.ents e) fun k => h.not_b (two_three _ k), h.qp, h.qg, h.bp, h.bg, h.bq, h.room⟩
theorem SP.geo {w : World} {q p g b c : Nat} {s : Dsk} {R n : Nat} {E : Nat → Ent} {died : Bool} (h : SP w q p g b c s R n E died) : Geo s R n := ⟨h.disk.len, h.disk.keep⟩
theorem SP.congr {w : World} {q p g b c : Nat} {s : Dsk} {R n : Nat} {E F : Nat → Ent} {died : Bool} (h : SP w q p g b c s R n E died) (he : died = false → ∀ i, i < n → E i = F i) : SP w q p g b c s R n F died :=
  ⟨h.disk, h.head, fun e => by rw [← entA_congr (he e)]; exact h.ents e, h.qp, h.qg, h.bp, h.bg, h.bq, h.room⟩

theorem psstate_any {w : World} {q p g b c : Nat} {s : Dsk} {R n : Nat} {E : Nat → Ent} {died : Bool} (h : SP w q p g b c s R n E died) {i : Nat} (hi : i < n) :
    Calls Tryz.prog 53 #[.pointer (some ⟨q, 0, none⟩), .int .i64 (i : Int)] w fun e w' => e = .returned (.int .i64 ((i * (R + 1) : Nat) : Int)) ∧ w = w' := by
  obtain ⟨_, c1, _⟩ := h.cells
  have hp := (h.place hi (Nat.zero_le R)).2
  have hs := h.size
  have e1 : ((i * (R + 1) : Nat) : Int) = (i : Int) * ((R : Int) + 1) := by rw [Int.natCast_mul]; rfl
  have hb : (i : Int) * ((R : Int) + 1) ≤ 4096 := by omega
  have hb0 : 0 ≤ (i : Int) * ((R : Int) + 1) := by omega
  rw [e1]
  clear h e1 hp
  go_enter Tryz.func53, Tryz.ntmps53
  go_wp2
  go_ret
  exact ⟨rfl, rfl⟩

theorem code_cases (s : Dsk) (N : Nat) (i : Int) (m : Nat) : s.code N i m = 0 ∨ s.code N i m = 1 ∨ s.code N i m = 8 := by
  unfold Dsk.code
  split
  · exact .inr (.inl rfl)
  · split
    · exact .inr (.inr rfl)
    · split
      · exact .inr (.inr rfl)
      · exact .inl rfl

/-- A write that has died takes the entries away. -/
theorem SP.die {w : World} {q p g b c : Nat} {s : Dsk} {R n : Nat} {E : Nat → Ent} (h : SP w q p g b c s R n E false) :
    SP ((w.setCell ⟨q, 3, none⟩ (.bool true)).setCell ⟨q, 2, none⟩ (.slice none 0 0)) q p g b c s R n E true ∧ Chg (three q p g) w ((w.setCell ⟨q, 3, none⟩ (.bool true)).setCell ⟨q, 2, none⟩ (.slice none 0 0)) := by
  have k := (h.head.set 3 (.bool true)).set 2 (.slice none 0 0)
  have hc : Chg (fun j => j = q) w ((w.setCell ⟨q, 3, none⟩ (.bool true)).setCell ⟨q, 2, none⟩ (.slice none 0 0)) := ((Chg.refl (fun j => j = q) w).setCell (fun _ => rfl) _).setCell (fun _ => rfl) _
  exact ⟨⟨h.disk.chg hc (fun e => h.qp e.symm) (fun e => h.qg e.symm), k, (fun e => by cases e), h.qp, h.qg, h.bp, h.bg, h.bq, h.room⟩, hc.more fun k e => .inl e⟩

theorem pswrite_any {w : World} {q p g b c : Nat} {s : Dsk} {R n : Nat} {E : Nat → Ent} (h : SP w q p g b c s R n E false) (i : Int) (A : Option Addr) (m d : Nat) (l : List UInt8) (hl : l.length = m) (hr : Rd w w.heap.size A l) :
    Calls Tryz.prog 93 #[.pointer (some ⟨q, 0, none⟩), .int .i64 i, .slice A m d] w fun e w' => e = .returned (.int .i64 (s.code (n * (R + 1)) i m)) ∧ SP w' q p g b c (s.next (n * (R + 1)) i l) R n E (decide (s.code (n * (R + 1)) i m ≠ 0)) ∧ Chg (three q p g) w w' := by
  have HC := Lib.hid (pwrite_any h.disk i A m d l hl hr)
  obtain ⟨c0, c1, c2, c3⟩ := h.cells
  have H := Lib.hid h
  clear h hr
  have hk := code_cases s (n * (R + 1)) i m
  generalize s.code (n * (R + 1)) i m = K at *
  rcases hk with rfl | rfl | rfl
  · go_enter Tryz.func93, Tryz.ntmps93
    go_wp2_with fail
    with_reducible refine HC.out.mono ?_
    rintro e w1 ⟨rfl, D1, C1⟩
    have D1 := Lib.hid D1
    have C1 := Lib.hid C1
    go_wp2_with fail
    go_ret
    exact ⟨rfl, H.out.with_disk D1.out C1.out, C1.out.more two_three⟩
  · go_enter Tryz.func93, Tryz.ntmps93
    go_wp2_with fail
    with_reducible refine HC.out.mono ?_
    rintro e w1 ⟨rfl, D1, C1⟩
    have S1 := Lib.hid (H.out.with_disk D1 C1)
    have C1 := Lib.hid C1
    have f2 := S1.out.head.frozen 2
    have f3 := S1.out.head.frozen 3
    obtain ⟨d0, d1, d2, d3⟩ := S1.out.cells
    clear c0 c1 c2 c3 D1
    go_wp2_with fail
    go_ret
    exact ⟨rfl, S1.out.die.1, (C1.out.more two_three).trans S1.out.die.2⟩
  · go_enter Tryz.func93, Tryz.ntmps93
    go_wp2_with fail
    with_reducible refine HC.out.mono ?_
    rintro e w1 ⟨rfl, D1, C1⟩
    have S1 := Lib.hid (H.out.with_disk D1 C1)
    have C1 := Lib.hid C1
    have f2 := S1.out.head.frozen 2
    have f3 := S1.out.head.frozen 3
    obtain ⟨d0, d1, d2, d3⟩ := S1.out.cells
    clear c0 c1 c2 c3 D1
    go_wp2_with fail
    go_ret
    exact ⟨rfl, S1.out.die.1, (C1.out.more two_three).trans S1.out.die.2⟩

/-! ### A slot is freed -/
theorem SP.putE {w w' : World} {q p g b c : Nat} {s : Dsk} {R n : Nat} {E : Nat → Ent} (h : SP w q p g b c s R n E false) (x : Ent) {i : Nat} {v0 v1 v2 : Value} (hi : i < n) (hx : entV x = [v0, v1, v2])
    (hw : w' = ((w.setCell ⟨b, i * 3, none⟩ v0).setCell ⟨b, i * 3 + 1, none⟩ v1).setCell ⟨b, i * 3 + 2, none⟩ v2) :
    SP w' q p g b c s R n (updE E i x) false ∧ Chg (fun k => k = b) w w' := by
  have k := (((h.ents rfl).set (i * 3) v0).set (i * 3 + 1) v1).set (i * 3 + 2) v2
  rw [entA_put E x hi hx, ← hw] at k
  have hc : Chg (fun j => j = b) w w' := by rw [hw]; exact (((Chg.refl (fun j => j = b) w).setCell (fun _ => rfl) _).setCell (fun _ => rfl) _).setCell (fun _ => rfl) _
  exact ⟨⟨h.disk.chg hc (fun e => h.bp e.symm) (fun e => h.bg e.symm), hc.blk h.head (fun e => h.bq e.symm), fun _ => k, h.qp, h.qg, h.bp, h.bg, h.bq, h.room⟩, hc⟩
set_option maxRecDepth 100000

set_option maxHeartbeats 1000000 in
theorem psfree_any {w : World} {q p g b c : Nat} {s : Dsk} {R n : Nat} {E : Nat → Ent} (h : SP w q p g b c s R n E false) {i : Nat} (hi : i < n) :
    Calls Tryz.prog 56 #[.pointer (some ⟨q, 0, none⟩), .int .i64 (i : Int)] w fun e w' => e = .returned (.int .i64 (s.code (n * (R + 1)) ((i * (R + 1) : Nat) : Int) 0)) ∧
      SP w' q p g b c (s.next (n * (R + 1)) ((i * (R + 1) : Nat) : Int) []) R n (updE E i none) (decide (s.code (n * (R + 1)) ((i * (R + 1) : Nat) : Int) 0 ≠ 0)) ∧ Chg (fourS q p g b) w w' := by
  have HS := Lib.hid (psstate_any h hi)
  have HW := Lib.hid (pswrite_any h ((i * (R + 1) : Nat) : Int) none 0 0 [] rfl (Rd.nil _ _ _))
  have hn := h.size
  have H := Lib.hid h
  clear h
  have hk := code_cases s (n * (R + 1)) ((i * (R + 1) : Nat) : Int) 0
  generalize s.code (n * (R + 1)) ((i * (R + 1) : Nat) : Int) 0 = K at *
  generalize ((i * (R + 1) : Nat) : Int) = at_ at *
  rcases hk with rfl | rfl | rfl
  · go_enter Tryz.func56, Tryz.ntmps56
    go_wp2_with fail
    with_reducible refine HS.out.mono ?_
    rintro e w' ⟨rfl, rfl⟩
    go_wp2_with fail
    with_reducible refine HW.out.mono ?_
    rintro e w1 ⟨rfl, S1, C1⟩
    have S1' : SP w1 q p g b c (s.next (n * (R + 1)) at_ []) R n E false := S1
    have S1 := Lib.hid S1'
    have C1 := Lib.hid C1
    obtain ⟨d0, d1, d2, d3⟩ := S1'.cells
    have d2' : w1.cell? ⟨q, 2, none⟩ = some (.slice (some ⟨b, 0, none⟩) n n) := d2
    obtain ⟨v0, e0⟩ : ∃ v, w1.cell? ⟨b, i * 3, none⟩ = some v := ⟨_, S1'.cell0 hi⟩
    obtain ⟨v1, e1⟩ : ∃ v, w1.cell? ⟨b, i * 3 + 1, none⟩ = some v := ⟨_, S1'.cellE hi (j := 1) (by omega)⟩
    obtain ⟨v2, e2⟩ : ∃ v, w1.cell? ⟨b, i * 3 + 2, none⟩ = some v := ⟨_, S1'.cellE hi (j := 2) (by omega)⟩
    have f0 := (S1'.ents rfl).frozen (i * 3)
    have f1 := (S1'.ents rfl).frozen (i * 3 + 1)
    have f2 := (S1'.ents rfl).frozen (i * 3 + 2)
    clear S1' d2 HS HW H
    go_wp2_with fail
    go_ret
    obtain ⟨S2, C2⟩ := S1.out.putE none hi rfl rfl
    exact ⟨rfl, S2, (C1.out.more three_four).trans (C2.more fun k e => .inr (.inr (.inr e)))⟩
  · go_enter Tryz.func56, Tryz.ntmps56
    go_wp2_with fail
    with_reducible refine HS.out.mono ?_
    rintro e w' ⟨rfl, rfl⟩
    go_wp2_with fail
    with_reducible refine HW.out.mono ?_
    rintro e w1 ⟨rfl, S1, C1⟩
    have S1 := Lib.hid (show SP w1 q p g b c (s.next (n * (R + 1)) at_ []) R n E true from S1)
    have C1 := Lib.hid C1
    go_wp2_with fail
    go_ret
    exact ⟨rfl, S1.out.congr (fun e => by cases e), C1.out.more three_four⟩
  · go_enter Tryz.func56, Tryz.ntmps56
    go_wp2_with fail
    with_reducible refine HS.out.mono ?_
    rintro e w' ⟨rfl, rfl⟩
    go_wp2_with fail
    with_reducible refine HW.out.mono ?_
    rintro e w1 ⟨rfl, S1, C1⟩
    have S1 := Lib.hid (show SP w1 q p g b c (s.next (n * (R + 1)) at_ []) R n E true from S1)
    have C1 := Lib.hid C1
    go_wp2_with fail
    go_ret
    exact ⟨rfl, S1.out.congr (fun e => by cases e), C1.out.more three_four⟩

/-! ### Looking for a slot -/
def idxE : Option Nat → Int
  | none => -1
  | some i => (i : Int)
/-- A closure that tells p of each entry. -/
def TellsE (f : Nat) (lb : Array Value) (p : Ent → Bool) (w : World) : Prop := ∀ (W : World) (x : Ent), Below w.heap.size w W → Calls Tryz.prog f (#[.agg (entV x).toArray] ++ lb) W fun e W' => e = .returned (.bool (p x)) ∧ Below W.heap.size W W'
set_option maxRecDepth 100000

theorem firstE_first {p : Nat → Bool} {k : Nat} : ∀ {n : Nat}, k < n → p k = true → (∀ j, j < k → p j = false) → firstE n p = some k
  | 0, h, _, _ => by omega
  | n + 1, h, hp, hb => by
    unfold firstE
    rw [List.range_succ, List.find?_append]
    by_cases e : k = n
    · subst e
      have h1 : (List.range k).find? p = none := firstE_none hb
      rw [h1, List.find?_cons_of_pos hp]; rfl
    · have h1 : (List.range n).find? p = some k := firstE_first (by omega) hp hb
      rw [h1]; rfl

set_option maxHeartbeats 1000000 in
theorem pindex_live {w : World} {b n : Nat} {E : Nat → Ent} (h : Blk w b (entA n E) 114) (hn : n ≤ 4096) (f : Nat) (lb : Array Value) (p : Ent → Bool)
    (eg : ∀ args w, (callFunc f args).run Tryz.prog w = .ok (.enter f args) w) (hp : TellsE f lb p w) :
    Calls Tryz.prog 61 #[.slice (some ⟨b, 0, none⟩) n n, .func (.func f) #[] lb] w fun e w' => e = .returned (.int .i64 (idxE (firstE n fun i => p (E i)))) ∧ Below w.heap.size w w' := by
  have HB := Lib.hid h
  have HP := Lib.hid hp
  have hblt := h.lt
  obtain ⟨r, hr⟩ : ∃ r, idxE (firstE n fun i => p (E i)) = r := ⟨_, rfl⟩
  have HR := Lib.hid hr
  rw [hr]
  clear h hp hr
  go_enter Tryz.func61, Tryz.ntmps61
  go_wp2
  go_loopw [8] (fun i wr => ∃ k : Nat, k ≤ n ∧ i = .int .i64 k ∧ Hid (∀ j, j < k → p (E j) = false) ∧ Below w.heap.size w wr) (fun i _ => n - (intOf i).toNat)
  case atStart => exact ⟨0, Nat.zero_le _, rfl, Lib.hid (fun j hj => by omega), Below.refl _ _⟩
  case round =>
    obtain ⟨k, hk, rfl, HN, hbel⟩ := hrel
    by_cases hlt : k < n
    · have hki : (k : Int) < (n : Int) := by omega
      have hB := HB.out.below hbel hblt
      obtain ⟨v0, v1, v2, hv⟩ : ∃ v0 v1 v2, entV (E k) = [v0, v1, v2] := by cases E k <;> exact ⟨_, _, _, rfl⟩
      have e0 : wr.cell? ⟨b, k * 3, none⟩ = some v0 := (hB.cell _).trans ((entA_at E hlt (j := 0) (by omega)).trans (by rw [hv]; rfl))
      have e1 : wr.cell? ⟨b, k * 3 + 1, none⟩ = some v1 := (hB.cell _).trans ((entA_at E hlt (j := 1) (by omega)).trans (by rw [hv]; rfl))
      have e2 : wr.cell? ⟨b, k * 3 + 2, none⟩ = some v2 := (hB.cell _).trans ((entA_at E hlt (j := 2) (by omega)).trans (by rw [hv]; rfl))
      have HC := Lib.hid (HP.out wr (E k) hbel)
      rw [hv] at HC
      have HE := Lib.hid (show p (E k) = true → r = (k : Int) from fun hp => by
        rw [← HR.out, firstE_first hlt hp HN.out]; rfl)
      obtain ⟨t, ht⟩ : ∃ t, p (E k) = t := ⟨_, rfl⟩
      rw [ht] at HC HE
      have HT := Lib.hid ht
      clear ht
      clear hv hB
      go_wp2_with fail
      with_reducible refine HC.out.mono ?_
      rintro e w1 ⟨rfl, hb1⟩
      have hbel1 := Below.then hbel hb1
      cases t with
      | true =>
        obtain rfl := HE.out rfl
        go_wp2_with fail
        go_ret
        exact ⟨rfl, hbel1⟩
      | false =>
        go_wp2_with fail
        go_roundw
        case rel => exact ⟨k + 1, by omega, by go_num, Lib.hid (fun j hj => by
          by_cases e : j = k
          · subst e; exact HT.out
          · exact HN.out j (by omega)), hbel1⟩
        case measure => simp [intOf]; omega
    · have hge : ¬ (k : Int) < (n : Int) := by omega
      have e : firstE n (fun i => p (E i)) = none := firstE_none fun j hj => HN.out j (by omega)
      obtain rfl : r = -1 := by rw [← HR.out, e]; rfl
      clear e
      go_wp2
      go_ret
      exact ⟨rfl, hbel⟩
theorem pindex_nil (f : Nat) (lb : Array Value) (w : World) :
    Calls Tryz.prog 61 #[.slice none 0 0, .func (.func f) #[] lb] w fun e w' => e = .returned (.int .i64 (-1)) ∧ w = w' := by
  go_enter Tryz.func61, Tryz.ntmps61
  go_wp2
  go_loopw [8] (fun i wr => i = .int .i64 0 ∧ w = wr) (fun i _ => 0)
  case atStart => exact ⟨rfl, rfl⟩
  case round =>
    obtain ⟨rfl, rfl⟩ := hrel
    go_wp2
    go_ret
    exact ⟨rfl, rfl⟩

/-! ### find, and its closure -/
theorem tells_has (name : List UInt8) (B : Nat) (w : World) (hB : B < w.heap.size) (hc : w.cell? ⟨B, 0, none⟩ = some (.string ⟨name.toArray⟩)) :
    TellsE 94 #[.pointer (some ⟨B, 0, none⟩)] (hasName name) w := fun W x hb => by
  have hc' : W.cell? ⟨B, 0, none⟩ = some (.string ⟨name.toArray⟩) := (hb.cell (p := ⟨B, 0, none⟩) hB).trans hc
  have hBW : B < W.heap.size := Nat.lt_of_lt_of_le hB hb.size
  have hne : B ≠ W.heap.size := by omega
  have hbn : Below W.heap.size W W := Below.refl _ _
  cases x with
  | none =>
    show Calls _ _ #[.agg #[.bool false, .string ⟨#[]⟩, .int .i64 0], .pointer (some ⟨B, 0, none⟩)] W _
    go_enter Tryz.func94, Tryz.ntmps94
    go_wp2
    go_ret
    exact ⟨rfl, hbn.alloc (Nat.le_refl _) _⟩
  | some x =>
    show Calls _ _ #[.agg #[.bool true, .string ⟨x.1.toArray⟩, .int .i64 (x.2 : Int)], .pointer (some ⟨B, 0, none⟩)] W _
    go_enter Tryz.func94, Tryz.ntmps94
    go_wp2
    go_ret
    exact ⟨congrArg (fun t => Ending.returned (.bool t)) (show (x.1 == name) = hasName name (some x) from by simp only [hasName]; exact Bool.eq_iff_iff.2 (by simp)), hbn.alloc (Nat.le_refl _) _⟩
theorem tells_free (w : World) : TellsE 62 #[] (fun x => x.isNone) w := fun W x hb => by
  have hbn : Below W.heap.size W W := Below.refl _ _
  cases x with
  | none =>
    show Calls _ _ #[.agg #[.bool false, .string ⟨#[]⟩, .int .i64 0]] W _
    go_enter Tryz.func62, Tryz.ntmps62
    go_wp2
    go_ret
    exact ⟨rfl, hbn.alloc (Nat.le_refl _) _⟩
  | some x =>
    show Calls _ _ #[.agg #[.bool true, .string ⟨x.1.toArray⟩, .int .i64 (x.2 : Int)]] W _
    go_enter Tryz.func62, Tryz.ntmps62
    go_wp2
    go_ret
    exact ⟨rfl, hbn.alloc (Nat.le_refl _) _⟩
set_option maxHeartbeats 1000000 in
theorem psfind_live {w : World} {q p g b c : Nat} {s : Dsk} {R n : Nat} {E : Nat → Ent} (h : SP w q p g b c s R n E false) (name : List UInt8) :
    Calls Tryz.prog 63 #[.pointer (some ⟨q, 0, none⟩), .string ⟨name.toArray⟩] w fun e w' => e = .returned (.int .i64 (idxE (firstE n fun i => hasName name (E i)))) ∧ Below w.heap.size w w' := by
  have hb1 : Below w.heap.size w (w.alloc (.cells #[.string ⟨name.toArray⟩] 9)) := (Below.refl _ _).alloc (Nat.le_refl _) _
  have h1 := h.below hb1
  have HC := Lib.hid (pindex_live (h1.ents rfl) h.size.2.1 94 #[.pointer (some ⟨w.heap.size, 0, none⟩)] (hasName name) (enters_of Tryz.func94 (by kernel_rfl) rfl) (tells_has name w.heap.size _ (by simp) (by simp)))
  obtain ⟨d0, d1, d2, d3⟩ := h1.cells
  have d2' : (w.alloc (.cells #[.string ⟨name.toArray⟩] 9)).cell? ⟨q, 2, none⟩ = some (.slice (some ⟨b, 0, none⟩) n n) := d2
  have HB1 := Lib.hid hb1
  clear h h1 hb1 d0 d1 d2 d3
  go_enter Tryz.func63, Tryz.ntmps63
  go_wp2_with fail
  with_reducible refine HC.out.mono ?_
  rintro e w1 ⟨rfl, hb2⟩
  go_wp2_with fail
  go_ret
  exact ⟨rfl, Below.then HB1.out hb2⟩
theorem psfind_dead {w : World} {q p g b c : Nat} {s : Dsk} {R n : Nat} {E : Nat → Ent} (h : SP w q p g b c s R n E true) (name : List UInt8) :
    Calls Tryz.prog 63 #[.pointer (some ⟨q, 0, none⟩), .string ⟨name.toArray⟩] w fun e w' => e = .returned (.int .i64 (-1)) ∧ Below w.heap.size w w' := by
  have hb1 : Below w.heap.size w (w.alloc (.cells #[.string ⟨name.toArray⟩] 9)) := (Below.refl _ _).alloc (Nat.le_refl _) _
  have h1 := h.below hb1
  have HC := Lib.hid (pindex_nil 94 #[.pointer (some ⟨w.heap.size, 0, none⟩)] (w.alloc (.cells #[.string ⟨name.toArray⟩] 9)))
  obtain ⟨d0, d1, d2, d3⟩ := h1.cells
  have d2' : (w.alloc (.cells #[.string ⟨name.toArray⟩] 9)).cell? ⟨q, 2, none⟩ = some (.slice none 0 0) := d2
  have HB1 := Lib.hid hb1
  clear h h1 hb1 d0 d1 d2 d3
  go_enter Tryz.func63, Tryz.ntmps63
  go_wp2_with fail
  with_reducible refine HC.out.mono ?_
  rintro e w1 ⟨rfl, rfl⟩
  go_wp2_with fail
  go_ret
  exact ⟨rfl, HB1.out⟩
set_option maxRecDepth 100000

set_option maxHeartbeats 1000000 in
theorem nets_own (A : Option Addr) (n c : Nat) (ls : List (List UInt8)) (w : World) (hn : ls.length = n) (h1 : n ≤ 1000) (h2 : ∀ r ∈ ls, r.length ≤ 1000) (hr : RdR w w.heap.size A ls) (htab : Pow10 w.heap.size w) :
    Calls Tryz.prog 96 #[.slice A n c] w fun e w' => ∃ A' c', e = .returned (.slice A' (netsL ls).length c') ∧ w'.ownsRow w.heap.size 5 1 (.slice A' (netsL ls).length c') (netsL ls).length (Lib.byteCells (netsL ls)) ∧ Below w.heap.size w w' := by
  have HN := Lib.hid hn
  have H2 := Lib.hid h2
  have HT := Lib.hid htab
  clear hn h2 htab
  go_enter Tryz.func96, Tryz.ntmps96
  go_wp2
  go_loopw [3, 8] (fun v i wr => ∃ k m : Nat, k ≤ n ∧ i = .int .i64 k ∧ m ≤ 1022 * k ∧ Hid ((netsL (ls.take k)).length = m) ∧ Hid (wr.ownsRow w.heap.size 5 1 v m (Lib.byteCells (netsL (ls.take k)))) ∧ Below w.heap.size w wr) (fun _ i _ => n - (intOf i).toNat)
  case atStart => exact ⟨0, 0, Nat.zero_le _, rfl, by omega, Lib.hid (by simp [netsL]), Lib.hid (World.ownsRow_nil _ _ _ _), Below.refl _ _⟩
  case round =>
    obtain ⟨k, m, hk, rfl, hm, HM, HO, hbel⟩ := hrel
    by_cases hlt : k < n
    · have hl1 : k < ls.length := by rw [HN.out]; exact hlt
      obtain ⟨b, off, A', c', rfl, _, hc, hlc, _, hrd⟩ := (hr.below hbel (Nat.le_refl _)).at_ k hl1
      have HK := Lib.hid (netsL_take ls k hl1)
      have hlen : ls[k].length ≤ 1000 := H2.out _ (List.getElem_mem hl1)
      generalize ls[k] = l at *
      obtain ⟨q, hq⟩ : ∃ q, l.length = q := ⟨_, rfl⟩
      have HQ := Lib.hid hq
      rw [hq] at hc hlen
      clear hlc hq
      have hle := hbel.size
      have htl := netL_len l (by rw [HQ.out]; omega)
      rw [HQ.out] at htl
      go_wp2_with fail
      refine (appendNet_any w.heap.size m q c' _ _ A' l _ HO.out hle HQ.out (by omega) (by omega) hrd (tab_on HT.out hbel (Nat.le_refl _))).mono ?_
      rintro e w1 ⟨v1, rfl, hown1, hbel1⟩
      have hbel2 := hbel.trans hbel1
      rw [← Lib.byteCells_append, ← HK.out] at hown1
      have HL := Lib.hid (show (netsL (ls.take (k + 1))).length = m + (netL l).length by rw [HK.out, List.length_append, HM.out])
      have HO1 := Lib.hid hown1
      generalize (netL l).length = z at *
      clear hown1 hbel1 hbel hle hrd hc
      go_wp2_with fail
      go_roundw
      case rel => exact ⟨k + 1, m + z, by omega, by go_num, by omega, HL, HO1, hbel2⟩
      case measure => simp [intOf]; omega
    · have hge : ¬ (k : Int) < (n : Int) := by omega
      have ht : ls.take k = ls := List.take_of_length_le (by rw [HN.out]; omega)
      have ho := HO.out
      have hm' := HM.out
      rw [ht] at ho hm'
      obtain ⟨A1, c1, hv, hc1⟩ := own_slice ho
      subst hv
      rw [← hm'] at ho
      have HM2 := Lib.hid hm'
      have HO2 := Lib.hid ho
      clear ho hm' hc1 ht HO
      go_wp2_with fail
      go_ret
      exact ⟨A1, c1, by rw [HM2.out]; rfl, HO2.out, hbel⟩

set_option maxHeartbeats 1000000 in
theorem pspack_any (name data : List UInt8) (num : Nat) (A : Option Addr) (m d : Nat) (w : World) (hl : data.length = m) (hmd : m ≤ d) (hdm : d ≤ maxLen) (hr : Rd w w.heap.size A data) (htab : Pow10 w.heap.size w) (h1 : name.length ≤ 1000) (h2 : m ≤ 1000) (h3 : num ≤ 9223372036854775807) :
    Calls Tryz.prog 65 #[.string ⟨name.toArray⟩, .int .i64 (num : Int), .slice A m d] w fun e w' => ∃ g' c', e = .returned (.slice (some ⟨g', 0, none⟩) (recL ⟨name, num, data⟩).length c') ∧ w.heap.size ≤ g' ∧ (recL ⟨name, num, data⟩).length ≤ c' ∧ c' ≤ maxLen ∧ Rd w' w'.heap.size (some ⟨g', 0, none⟩) (recL ⟨name, num, data⟩) ∧ Below w.heap.size w w' := by
  obtain ⟨i0, hi, hz0, hz1, hz2⟩ := info_parts info5
  obtain ⟨v1, w1, hcv, hown1, hb1⟩ := run_bytes_M (P := Tryz.prog) (w := w) 9 35 5 name (by omega) Tryz.underlying9 Tryz.underlying35 Tryz.underlying5
  obtain ⟨A1, c1, rfl, hc1, hm1⟩ : ∃ A1 c1, v1 = .slice A1 name.length c1 ∧ name.length ≤ c1 ∧ c1 ≤ maxLen := by
    obtain ⟨_, g, cap, _, _, e, _, _, _, h1, h2, _⟩ := hown1
    exact ⟨_, _, e, h1, h2⟩
  have hr1 : Rd w1 w1.heap.size A1 name := hown1.rd
  have HP := Lib.hid (put_any (num : Int) 4 w1 (by omega))
  have hp4 : putW 4 = 4 := rfl
  have hpn : putN (num : Int) = num := by unfold putN; split <;> omega
  rw [hp4, hpn] at HP
  have HT := Lib.hid htab
  have HR := Lib.hid hr
  have HR1 := Lib.hid hr1
  have HB1 := Lib.hid hb1
  have hq : num = num := rfl
  obtain ⟨nl, hnl⟩ : ∃ nl, name.length = nl := ⟨_, rfl⟩
  rw [hnl] at hcv hc1 h1
  have HNL := Lib.hid hnl
  have HML := Lib.hid hl
  clear hown1 hr hr1 hb1 htab hnl hl
  go_enter Tryz.func65, Tryz.ntmps65
  go_wp2_with fail
  clear hcv
  with_reducible refine HP.out.mono ?_
  rintro e w2 ⟨A2, c2, rfl, hown2, hb2⟩
  obtain ⟨X, Y, eXY, hc2, hm2⟩ := own_caps hown2
  obtain ⟨rfl, rfl⟩ : A2 = X ∧ c2 = Y := by injection eXY with e1 e2 e3; exact ⟨e1, e3⟩
  have hb2' := Below.then HB1.out hb2
  have HR2 := Lib.hid (Rd.of_own hown2)
  have HB2 := Lib.hid hb2
  have HBA := Lib.hid hb2'
  clear hown2 hb2 hb2' HP eXY
  go_wp2_with fail
  have hb3 : Below w2.heap.size w2 (w2.alloc (.cells #[.slice A1 nl c1, .slice A2 4 c2, .slice A m d] 35)) := (Below.refl _ _).alloc (Nat.le_refl _) _
  have hk := Blk.new w2 #[.slice A1 nl c1, .slice A2 4 c2, .slice A m d] 35
  have k1 := ((HR1.out.on HB2.out).on hb3)
  have k2 := HR2.out.on hb3
  have k3 := ((HR.out.on HBA.out).on hb3)
  have HB3 := Lib.hid (Below.then HBA.out hb3)
  have ht := tab_on HT.out HB3.out HB3.out.size
  generalize w2.alloc (.cells #[.slice A1 nl c1, .slice A2 4 c2, .slice A m d] 35) = w3 at *
  have hlt := hk.lt
  have hrr : RdR w3 w3.heap.size (some ⟨w2.heap.size, 0, none⟩) [name, putL num 4, data] := by
    unfold RdR
    refine .inr ⟨w2.heap.size, 0, rfl, hlt, fun i hi => ?_⟩
    match i, hi with
    | 0, _ => exact ⟨A1, c1, by rw [hk.cell]; show _ = some (Value.slice A1 name.length c1); rw [HNL.out]; rfl, by show name.length ≤ c1; rw [HNL.out]; exact hc1, hm1, k1⟩
    | 1, _ => exact ⟨A2, c2, by rw [hk.cell]; show _ = some (Value.slice A2 (putL num 4).length c2); rw [putL_length]; rfl, by show (putL num 4).length ≤ c2; rw [putL_length]; exact hc2, hm2, k2⟩
    | 2, _ => exact ⟨A, d, by rw [hk.cell]; show _ = some (Value.slice A data.length d); rw [HML.out]; rfl, by show data.length ≤ d; rw [HML.out]; exact hmd, hdm, k3⟩
    | i + 3, h => simp at h; omega
  with_reducible refine (nets_own (some ⟨w2.heap.size, 0, none⟩) 3 3 [name, putL num 4, data] w3 rfl (by omega) (fun r hr => by
      have e4 := putL_length num 4
      have e1 := HNL.out
      have e2 := HML.out
      rcases List.mem_cons.1 hr with rfl | hr
      · omega
      · rcases List.mem_cons.1 hr with rfl | hr
        · omega
        · rw [List.mem_singleton.1 hr]; omega) hrr ht).mono ?_
  rintro e w4 ⟨A', c', rfl, ho', hb'⟩
  have hpos : 0 < (netsL [name, putL num 4, data]).length := netsL_ne _ (by simp)
  obtain ⟨g', cap, hv', hg', _⟩ := ho'.form hpos
  injection hv' with e1 _ e2
  subst e1 e2
  obtain ⟨hc', hm'⟩ : (netsL [name, putL num 4, data]).length ≤ c' ∧ c' ≤ maxLen := by
    obtain ⟨X, Y, eXY, h1, h2⟩ := own_caps ho'
    injection eXY with e1 e2 e3
    subst e3
    exact ⟨h1, h2⟩
  have HR' := Lib.hid (Rd.of_own ho')
  have hle3 := HB3.out.size
  have HB' := Lib.hid (Below.then HB3.out hb')
  clear hrr ho' hb' hk k1 k2 k3 ht hlt hb3
  go_wp2_with fail
  go_ret
  exact ⟨g', c', rfl, by omega, hc', hm', HR'.out, HB'.out⟩

theorem takeNet_yes (A : Option Addr) (n c : Nat) (l : List UInt8) (w : World) (hl : l.length = n) (hnc : n ≤ c) (h1 : n ≤ 1000000) (ha : Rd w w.heap.size A l) {x r : List UInt8} (ht : takeL l = some (x, r)) :
    Calls Tryz.prog 92 #[.slice A n c] w fun e w' => ∃ A1 c1 A2 c2, e = .returned (.tuple #[.slice A1 x.length c1, .slice A2 r.length c2, .bool true]) ∧ x.length ≤ c1 ∧ r.length ≤ c2 ∧ Rd w' w'.heap.size A1 x ∧ Rd w' w'.heap.size A2 r ∧ Below w.heap.size w w' := by
  have h := takeNet_any A n c l w hl hnc h1 ha
  rw [ht] at h
  exact h
theorem takeNet_no (A : Option Addr) (n c : Nat) (l : List UInt8) (w : World) (hl : l.length = n) (hnc : n ≤ c) (h1 : n ≤ 1000000) (ha : Rd w w.heap.size A l) (ht : takeL l = none) :
    Calls Tryz.prog 92 #[.slice A n c] w fun e w' => ∃ A1 c1 A2 c2, e = .returned (.tuple #[.slice A1 0 c1, .slice A2 0 c2, .bool false]) ∧ Below w.heap.size w w' := by
  have h := takeNet_any A n c l w hl hnc h1 ha
  rw [ht] at h
  refine h.mono ?_
  rintro e w' ⟨A1, c1, A2, c2, rfl, _, _, _, _, hb⟩
  exact ⟨A1, c1, A2, c2, rfl, hb⟩
theorem str_rd (A : Option Addr) (n c : Nat) (l : List UInt8) (w : World) (hn : l.length = n) (ha : Rd w w.heap.size A l) :
    (convert 35 9 (.slice A n c)).run Tryz.prog w = .ok (.string ⟨l.toArray⟩) w :=
  run_string_rd (P := Tryz.prog) 35 9 5 Tryz.underlying35 Tryz.underlying5 Tryz.underlying9 _ _ n c l hn ha

theorem results_cell_tmp2 {P : Program} {fn : Func} {p q r : Tmp} {ty : TypeId} (h : fn.results = #[.cell p ty, .tmp q, .tmp r]) (tmps : Array Value) (w : World) (g : Nat) (t : TypeId) (cs : Array Value) (fr : Nat × Nat) (d : TypeDesc) (v u : Value)
    (hp : tmps.getD p undef = .pointer (some ⟨g, 0, none⟩)) (hv : tmps.getD q undef = v) (hz : tmps.getD r undef = u) (hg : w.heap[g]? = some (.cells cs t fr))
    (hu : P.underlying ty = some d) (hd : (match d with | .struct _ | .array _ _ => true | _ => false) = true) (hi : (P.info? ty).map (·.size) = some cs.size) :
    (results fn tmps).run P w = .ok (.tuple #[.agg cs, v, u]) w := by
  have hp' : tmps[p]?.getD undef = .pointer (some ⟨g, 0, none⟩) := by simpa using hp
  have hv' : tmps[q]?.getD undef = v := by simpa using hv
  have hz' : tmps[r]?.getD undef = u := by simpa using hz
  simp [results, h, hp', hv', hz', asAddr, run_loadVar_row w g t ty cs fr d hg hu hd hi]

/-- Bytes lie elsewhere than an entry, which is written. -/
theorem Rd.past {w : World} {g : Nat} {A : Option Addr} {l : List UInt8} {x : Bool} {y : ByteArray} {z : Int} {T : TypeId} (h : Rd w w.heap.size A l) (hk : Blk w g #[.bool x, .string y, .int .i64 z] T) (v0 v1 v2 : Value) :
    Rd (((w.setCell ⟨g, 0, none⟩ v0).setCell ⟨g, 1, none⟩ v1).setCell ⟨g, 2, none⟩ v2) (((w.setCell ⟨g, 0, none⟩ v0).setCell ⟨g, 1, none⟩ v1).setCell ⟨g, 2, none⟩ v2).heap.size A l := by
  rcases h with rfl | ⟨b, off, rfl, hb, hc⟩
  · exact .inl rfl
  · by_cases he : l.length = 0
    · exact .inl (List.length_eq_zero_iff.1 he)
    · refine .inr ⟨b, off, rfl, by simpa using hb, fun i hi => ?_⟩
      have hne : b ≠ g := by
        intro e
        subst e
        have h1 := hc 0 (by omega)
        rw [hk.cell] at h1
        match off + 0, h1 with
        | 0, h1 => cases h1
        | 1, h1 => cases h1
        | 2, h1 => cases h1
        | k + 3, h1 => simp at h1
      rw [World.cell?_setCell_other _ _ _ _ (fun e => hne (congrArg Addr.block e).symm), World.cell?_setCell_other _ _ _ _ (fun e => hne (congrArg Addr.block e).symm), World.cell?_setCell_other _ _ _ _ (fun e => hne (congrArg Addr.block e).symm)]
      exact hc i hi

/-- What is told of a record that has no form. -/
def unkV : Value := .tuple #[.agg #[.bool false, .string ⟨#[]⟩, .int .i64 0], .slice none 0 0, .bool false]
set_option maxHeartbeats 1000000 in
theorem psunpack_1 (A : Option Addr) (n c : Nat) (l : List UInt8) (w : World) (hl : l.length = n) (hnc : n ≤ c) (h1 : n ≤ 1000000) (ha : Rd w w.heap.size A l) (t1 : takeL l = none) :
    Calls Tryz.prog 55 #[.slice A n c] w fun e w' => Below w.heap.size w w' ∧ e = .returned unkV := by
  have HL := Lib.hid hl
  have HA := Lib.hid ha
  have HT1 := Lib.hid t1
  clear ha hl t1
  go_enter Tryz.func55, Tryz.ntmps55
  go_wp2_with fail
  with_reducible refine (takeNet_no A n c l _ HL.out hnc h1 (HA.out.on ((Below.refl _ _).alloc (Nat.le_refl _) _)) HT1.out).mono ?_
  rintro e w1 ⟨A1, c1, B1, d1, rfl, hb1⟩
  have hb0 : Below w.heap.size w w1 := ((Below.refl _ w).alloc (Nat.le_refl _) _).trans (hb1.mono (by simp))
  have hk := (Blk.new w #[.bool false, .string ⟨#[]⟩, .int .i64 0] 114).below hb1 (by simp)
  clear hb1
  have x0 : w1.cell? ⟨w.heap.size, 0, none⟩ = some (.bool false) := hk.cell 0
  have x1 : w1.cell? ⟨w.heap.size, 1, none⟩ = some (.string ⟨#[]⟩) := hk.cell 1
  have x2 : w1.cell? ⟨w.heap.size, 2, none⟩ = some (.int .i64 0) := hk.cell 2
  have f0 := hk.frozen 0
  have f1 := hk.frozen 1
  have f2 := hk.frozen 2
  have HK := Lib.hid hk
  have HB := Lib.hid hb0
  clear hk hb0
  go_wp2_with fail
  refine bodyPost_ret (v := unkV) (results_cell_tmp2 (p := 2) (q := 3) (r := 4) (ty := 114) (by kernel_rfl) _ _ w.heap.size 114 #[.bool false, .string ⟨#[]⟩, .int .i64 0] (0, 0) _ (.slice none 0 0) (.bool false) rfl rfl rfl (((HK.out.set 0 _).set 1 _).set 2 _) Tryz.underlying114 rfl (by kernel_rfl)) rfl ?_
  exact ⟨((HB.out.setCell (Nat.le_refl _) _).setCell (Nat.le_refl _) _).setCell (Nat.le_refl _) _, rfl⟩
set_option maxHeartbeats 1000000 in
theorem psunpack_2 (A : Option Addr) (n c : Nat) (l : List UInt8) (w : World) (hl : l.length = n) (hnc : n ≤ c) (h1 : n ≤ 1000000) (ha : Rd w w.heap.size A l) {nm b1 : List UInt8} (t1 : takeL l = some (nm, b1)) (t2 : takeL b1 = none) :
    Calls Tryz.prog 55 #[.slice A n c] w fun e w' => Below w.heap.size w w' ∧ e = .returned unkV := by
  have HL := Lib.hid hl
  have HA := Lib.hid ha
  have HT1 := Lib.hid t1
  have HT2 := Lib.hid t2
  have hlb := (takeL_less t1).2
  have hb1l : b1.length ≤ 1000000 := by omega
  clear ha hl t1 t2 hlb
  go_enter Tryz.func55, Tryz.ntmps55
  go_wp2_with fail
  with_reducible refine (takeNet_yes A n c l _ HL.out hnc h1 (HA.out.on ((Below.refl _ _).alloc (Nat.le_refl _) _)) HT1.out).mono ?_
  rintro e w1 ⟨A1, c1, B1, d1, rfl, hc1, hd1, hr1, hs1, hb1⟩
  have HR1 := Lib.hid hr1
  have HS1 := Lib.hid hs1
  clear hr1 hs1
  have hb0 : Below w.heap.size w w1 := ((Below.refl _ w).alloc (Nat.le_refl _) _).trans (hb1.mono (by simp))
  have hk := (Blk.new w #[.bool false, .string ⟨#[]⟩, .int .i64 0] 114).below hb1 (by simp)
  clear hb1
  have HK := Lib.hid hk
  have HB := Lib.hid hb0
  clear hk hb0
  go_wp2_with fail
  with_reducible refine (takeNet_no B1 _ d1 b1 _ rfl hd1 hb1l HS1.out HT2.out).mono ?_
  rintro e w2 ⟨A2, c2, B2, d2, rfl, hb2⟩
  have HB := Lib.hid (Below.then HB.out hb2)
  have hk := HK.out.below hb2 HK.out.lt
  have HR1 := Lib.hid (HR1.out.on hb2)
  clear HK hb2 
  have x0 : w2.cell? ⟨w.heap.size, 0, none⟩ = some (.bool false) := hk.cell 0
  have x1 : w2.cell? ⟨w.heap.size, 1, none⟩ = some (.string ⟨#[]⟩) := hk.cell 1
  have x2 : w2.cell? ⟨w.heap.size, 2, none⟩ = some (.int .i64 0) := hk.cell 2
  have f0 := hk.frozen 0
  have f1 := hk.frozen 1
  have f2 := hk.frozen 2
  have HK := Lib.hid hk
  clear hk
  go_wp2_with fail
  refine bodyPost_ret (v := unkV) (results_cell_tmp2 (p := 2) (q := 3) (r := 4) (ty := 114) (by kernel_rfl) _ _ w.heap.size 114 #[.bool false, .string ⟨#[]⟩, .int .i64 0] (0, 0) _ (.slice none 0 0) (.bool false) rfl rfl rfl (((HK.out.set 0 _).set 1 _).set 2 _) Tryz.underlying114 rfl (by kernel_rfl)) rfl ?_
  exact ⟨((HB.out.setCell (Nat.le_refl _) _).setCell (Nat.le_refl _) _).setCell (Nat.le_refl _) _, rfl⟩
set_option maxHeartbeats 1000000 in
theorem psunpack_3 (A : Option Addr) (n c : Nat) (l : List UInt8) (w : World) (hl : l.length = n) (hnc : n ≤ c) (h1 : n ≤ 1000000) (ha : Rd w w.heap.size A l) {nm b1 nu b2 : List UInt8} (t1 : takeL l = some (nm, b1)) (t2 : takeL b1 = some (nu, b2)) (h4 : nu.length ≠ 4) :
    Calls Tryz.prog 55 #[.slice A n c] w fun e w' => Below w.heap.size w w' ∧ e = .returned unkV := by
  have HL := Lib.hid hl
  have HA := Lib.hid ha
  have HT1 := Lib.hid t1
  have HT2 := Lib.hid t2
  have hlb := (takeL_less t1).2
  have hb1l : b1.length ≤ 1000000 := by omega
  have hlb2 := (takeL_less t2).2
  have hb2l : b2.length ≤ 1000000 := by omega
  have h4i : ¬ (nu.length : Int) = 4 := by omega
  clear ha hl t1 t2 hlb hlb2
  go_enter Tryz.func55, Tryz.ntmps55
  go_wp2_with fail
  with_reducible refine (takeNet_yes A n c l _ HL.out hnc h1 (HA.out.on ((Below.refl _ _).alloc (Nat.le_refl _) _)) HT1.out).mono ?_
  rintro e w1 ⟨A1, c1, B1, d1, rfl, hc1, hd1, hr1, hs1, hb1⟩
  have HR1 := Lib.hid hr1
  have HS1 := Lib.hid hs1
  clear hr1 hs1
  have hb0 : Below w.heap.size w w1 := ((Below.refl _ w).alloc (Nat.le_refl _) _).trans (hb1.mono (by simp))
  have hk := (Blk.new w #[.bool false, .string ⟨#[]⟩, .int .i64 0] 114).below hb1 (by simp)
  clear hb1
  have HK := Lib.hid hk
  have HB := Lib.hid hb0
  clear hk hb0
  go_wp2_with fail
  with_reducible refine (takeNet_yes B1 _ d1 b1 _ rfl hd1 hb1l HS1.out HT2.out).mono ?_
  rintro e w2 ⟨A2, c2, B2, d2, rfl, hc2, hd2, hr2, hs2, hb2⟩
  have HR2 := Lib.hid hr2
  have HS2 := Lib.hid hs2
  have HB := Lib.hid (Below.then HB.out hb2)
  have hk := HK.out.below hb2 HK.out.lt
  have HR1 := Lib.hid (HR1.out.on hb2)
  clear HK hb2 hr2 hs2
  have x0 : w2.cell? ⟨w.heap.size, 0, none⟩ = some (.bool false) := hk.cell 0
  have x1 : w2.cell? ⟨w.heap.size, 1, none⟩ = some (.string ⟨#[]⟩) := hk.cell 1
  have x2 : w2.cell? ⟨w.heap.size, 2, none⟩ = some (.int .i64 0) := hk.cell 2
  have f0 := hk.frozen 0
  have f1 := hk.frozen 1
  have f2 := hk.frozen 2
  have HK := Lib.hid hk
  clear hk
  go_wp2_with fail
  refine bodyPost_ret (v := unkV) (results_cell_tmp2 (p := 2) (q := 3) (r := 4) (ty := 114) (by kernel_rfl) _ _ w.heap.size 114 #[.bool false, .string ⟨#[]⟩, .int .i64 0] (0, 0) _ (.slice none 0 0) (.bool false) rfl rfl rfl (((HK.out.set 0 _).set 1 _).set 2 _) Tryz.underlying114 rfl (by kernel_rfl)) rfl ?_
  exact ⟨((HB.out.setCell (Nat.le_refl _) _).setCell (Nat.le_refl _) _).setCell (Nat.le_refl _) _, rfl⟩
set_option maxHeartbeats 1000000 in
theorem psunpack_4 (A : Option Addr) (n c : Nat) (l : List UInt8) (w : World) (hl : l.length = n) (hnc : n ≤ c) (h1 : n ≤ 1000000) (ha : Rd w w.heap.size A l) {nm b1 nu b2 : List UInt8} (t1 : takeL l = some (nm, b1)) (t2 : takeL b1 = some (nu, b2)) (h4 : nu.length = 4) (t3 : takeL b2 = none) :
    Calls Tryz.prog 55 #[.slice A n c] w fun e w' => Below w.heap.size w w' ∧ e = .returned unkV := by
  have HL := Lib.hid hl
  have HA := Lib.hid ha
  have HT1 := Lib.hid t1
  have HT2 := Lib.hid t2
  have HT3 := Lib.hid t3
  have hlb := (takeL_less t1).2
  have hb1l : b1.length ≤ 1000000 := by omega
  have hlb2 := (takeL_less t2).2
  have hb2l : b2.length ≤ 1000000 := by omega
  clear ha hl t1 t2 hlb hlb2 t3
  go_enter Tryz.func55, Tryz.ntmps55
  go_wp2_with fail
  with_reducible refine (takeNet_yes A n c l _ HL.out hnc h1 (HA.out.on ((Below.refl _ _).alloc (Nat.le_refl _) _)) HT1.out).mono ?_
  rintro e w1 ⟨A1, c1, B1, d1, rfl, hc1, hd1, hr1, hs1, hb1⟩
  have HR1 := Lib.hid hr1
  have HS1 := Lib.hid hs1
  clear hr1 hs1
  have hb0 : Below w.heap.size w w1 := ((Below.refl _ w).alloc (Nat.le_refl _) _).trans (hb1.mono (by simp))
  have hk := (Blk.new w #[.bool false, .string ⟨#[]⟩, .int .i64 0] 114).below hb1 (by simp)
  clear hb1
  have HK := Lib.hid hk
  have HB := Lib.hid hb0
  clear hk hb0
  go_wp2_with fail
  with_reducible refine (takeNet_yes B1 _ d1 b1 _ rfl hd1 hb1l HS1.out HT2.out).mono ?_
  rintro e w2 ⟨A2, c2, B2, d2, rfl, hc2, hd2, hr2, hs2, hb2⟩
  have HR2 := Lib.hid hr2
  have HS2 := Lib.hid hs2
  have HB := Lib.hid (Below.then HB.out hb2)
  have hk := HK.out.below hb2 HK.out.lt
  have HR1 := Lib.hid (HR1.out.on hb2)
  clear HK hb2 hr2 hs2
  have HK := Lib.hid hk
  clear hk
  rw [h4]
  go_wp2_with fail
  with_reducible refine (takeNet_no B2 _ d2 b2 _ rfl hd2 hb2l HS2.out HT3.out).mono ?_
  rintro e w3 ⟨A3, c3, B3, d3, rfl, hb3⟩
  have HB := Lib.hid (Below.then HB.out hb3)
  have hk := HK.out.below hb3 HK.out.lt
  have HR1 := Lib.hid (HR1.out.on hb3)
  have HR2 := Lib.hid (HR2.out.on hb3)
  clear HK hb3 
  have x0 : w3.cell? ⟨w.heap.size, 0, none⟩ = some (.bool false) := hk.cell 0
  have x1 : w3.cell? ⟨w.heap.size, 1, none⟩ = some (.string ⟨#[]⟩) := hk.cell 1
  have x2 : w3.cell? ⟨w.heap.size, 2, none⟩ = some (.int .i64 0) := hk.cell 2
  have f0 := hk.frozen 0
  have f1 := hk.frozen 1
  have f2 := hk.frozen 2
  have HK := Lib.hid hk
  clear hk
  go_wp2_with fail
  refine bodyPost_ret (v := unkV) (results_cell_tmp2 (p := 2) (q := 3) (r := 4) (ty := 114) (by kernel_rfl) _ _ w.heap.size 114 #[.bool false, .string ⟨#[]⟩, .int .i64 0] (0, 0) _ (.slice none 0 0) (.bool false) rfl rfl rfl (((HK.out.set 0 _).set 1 _).set 2 _) Tryz.underlying114 rfl (by kernel_rfl)) rfl ?_
  exact ⟨((HB.out.setCell (Nat.le_refl _) _).setCell (Nat.le_refl _) _).setCell (Nat.le_refl _) _, rfl⟩
set_option maxHeartbeats 1000000 in
theorem psunpack_5 (A : Option Addr) (n c : Nat) (l : List UInt8) (w : World) (hl : l.length = n) (hnc : n ≤ c) (h1 : n ≤ 1000000) (ha : Rd w w.heap.size A l) {nm b1 nu b2 da b3 : List UInt8} (t1 : takeL l = some (nm, b1)) (t2 : takeL b1 = some (nu, b2)) (h4 : nu.length = 4) (t3 : takeL b2 = some (da, b3)) :
    Calls Tryz.prog 55 #[.slice A n c] w fun e w' => Below w.heap.size w w' ∧ ∃ A' c', e = .returned (.tuple #[.agg #[.bool true, .string ⟨nm.toArray⟩, .int .i64 (getL nu : Int)], .slice A' da.length c', .bool true]) ∧ da.length ≤ c' ∧ Rd w' w'.heap.size A' da := by
  have HL := Lib.hid hl
  have HA := Lib.hid ha
  have HT1 := Lib.hid t1
  have HT2 := Lib.hid t2
  have HT3 := Lib.hid t3
  have hlb := (takeL_less t1).2
  have hb1l : b1.length ≤ 1000000 := by omega
  have hlb2 := (takeL_less t2).2
  have hb2l : b2.length ≤ 1000000 := by omega
  clear ha hl t1 t2 hlb hlb2 t3
  go_enter Tryz.func55, Tryz.ntmps55
  go_wp2_with fail
  with_reducible refine (takeNet_yes A n c l _ HL.out hnc h1 (HA.out.on ((Below.refl _ _).alloc (Nat.le_refl _) _)) HT1.out).mono ?_
  rintro e w1 ⟨A1, c1, B1, d1, rfl, hc1, hd1, hr1, hs1, hb1⟩
  have HR1 := Lib.hid hr1
  have HS1 := Lib.hid hs1
  clear hr1 hs1
  have hb0 : Below w.heap.size w w1 := ((Below.refl _ w).alloc (Nat.le_refl _) _).trans (hb1.mono (by simp))
  have hk := (Blk.new w #[.bool false, .string ⟨#[]⟩, .int .i64 0] 114).below hb1 (by simp)
  clear hb1
  have HK := Lib.hid hk
  have HB := Lib.hid hb0
  clear hk hb0
  go_wp2_with fail
  with_reducible refine (takeNet_yes B1 _ d1 b1 _ rfl hd1 hb1l HS1.out HT2.out).mono ?_
  rintro e w2 ⟨A2, c2, B2, d2, rfl, hc2, hd2, hr2, hs2, hb2⟩
  have HR2 := Lib.hid hr2
  have HS2 := Lib.hid hs2
  have HB := Lib.hid (Below.then HB.out hb2)
  have hk := HK.out.below hb2 HK.out.lt
  have HR1 := Lib.hid (HR1.out.on hb2)
  clear HK hb2 hr2 hs2
  have HK := Lib.hid hk
  clear hk
  rw [h4]
  go_wp2_with fail
  with_reducible refine (takeNet_yes B2 _ d2 b2 _ rfl hd2 hb2l HS2.out HT3.out).mono ?_
  rintro e w3 ⟨A3, c3, B3, d3, rfl, hc3, hd3, hr3, hs3, hb3⟩
  have HR3 := Lib.hid hr3
  have HS3 := Lib.hid hs3
  have HB := Lib.hid (Below.then HB.out hb3)
  have hk := HK.out.below hb3 HK.out.lt
  have HR1 := Lib.hid (HR1.out.on hb3)
  have HR2 := Lib.hid (HR2.out.on hb3)
  clear HK hb3 hr3 hs3
  have HK := Lib.hid hk
  have HG := Lib.hid (get_any A2 4 c2 w3.heap.size nu w3 h4 (by unfold maxLen; omega) HR2.out)
  have hcv := str_rd A1 nm.length c1 nm w3 rfl HR1.out
  have x0 : w3.cell? ⟨w.heap.size, 0, none⟩ = some (.bool false) := hk.cell 0
  have x1 : w3.cell? ⟨w.heap.size, 1, none⟩ = some (.string ⟨#[]⟩) := hk.cell 1
  have x2 : w3.cell? ⟨w.heap.size, 2, none⟩ = some (.int .i64 0) := hk.cell 2
  have f0 := hk.frozen 0
  have f1 := hk.frozen 1
  have f2 := hk.frozen 2
  clear hk
  go_wp2_with fail
  with_reducible refine HG.out.mono ?_
  rintro e w' ⟨rfl, rfl⟩
  rw [if_pos (show 4 ≤ 7 by omega), show decide (4 ≤ 7) = true from rfl]
  go_wp2_with fail
  refine bodyPost_ret (v := .tuple #[.agg #[.bool true, .string ⟨nm.toArray⟩, .int .i64 (getL nu : Int)], .slice A3 da.length c3, .bool true]) (results_cell_tmp2 (p := 2) (q := 3) (r := 4) (ty := 114) (by kernel_rfl) _ _ w.heap.size 114 #[.bool true, .string ⟨nm.toArray⟩, .int .i64 (getL nu : Int)] (0, 0) _ (.slice A3 da.length c3) (.bool true) rfl rfl rfl (((HK.out.set 0 _).set 1 _).set 2 _) Tryz.underlying114 rfl (by kernel_rfl)) rfl ?_
  refine ⟨((HB.out.setCell (Nat.le_refl _) _).setCell (Nat.le_refl _) _).setCell (Nat.le_refl _) _, A3, c3, rfl, hc3, ?_⟩
  exact HR3.out.past HK.out _ _ _
/-- What unpack tells: the record at the beginning of bytes, or that it has no form. -/
def UnPost (w : World) (o : Option Rec11) (e : Ending) (w' : World) : Prop := Below w.heap.size w w' ∧ match o with
  | none => e = .returned unkV
  | some r => ∃ A' c', e = .returned (.tuple #[.agg #[.bool true, .string ⟨r.name.toArray⟩, .int .i64 (r.num : Int)], .slice A' r.data.length c', .bool true]) ∧ r.data.length ≤ c' ∧ Rd w' w'.heap.size A' r.data
theorem psunpack_any (A : Option Addr) (n c : Nat) (l : List UInt8) (w : World) (hl : l.length = n) (hnc : n ≤ c) (h1 : n ≤ 1000000) (ha : Rd w w.heap.size A l) :
    Calls Tryz.prog 55 #[.slice A n c] w (UnPost w (readR l)) := by
  unfold UnPost readR
  cases t1 : takeL l with
  | none => exact psunpack_1 A n c l w hl hnc h1 ha t1
  | some x1 =>
    obtain ⟨nm, b1⟩ := x1
    dsimp only
    cases t2 : takeL b1 with
    | none => exact psunpack_2 A n c l w hl hnc h1 ha t1 t2
    | some x2 =>
      obtain ⟨nu, b2⟩ := x2
      dsimp only
      by_cases h4 : nu.length = 4
      · rw [if_neg (fun k => k h4)]
        cases t3 : takeL b2 with
        | none => exact psunpack_4 A n c l w hl hnc h1 ha t1 t2 h4 t3
        | some x3 => exact psunpack_5 A n c l w hl hnc h1 ha t1 t2 h4 t3
      · rw [if_pos h4]
        exact psunpack_3 A n c l w hl hnc h1 ha t1 t2 h4
end Go.Proofs.YtndknifdajjalaaGreatDoor
