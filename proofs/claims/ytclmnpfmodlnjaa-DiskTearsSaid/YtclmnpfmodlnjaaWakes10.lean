/- The document's example of chapter 10 holds. -/
import Derived.Test.YtclmnpfmodlnjaaDskV
namespace Go.Proofs.Ytclmnpfmodlnjaa
open Go.RowKit

theorem two_ge {p g B : Nat} (hp : B ≤ p) (hg : B ≤ g) : ∀ k, two p g k → B ≤ k := fun k h => by
  rcases h with rfl | rfl
  · exact hp
  · exact hg
theorem pnew_at (n : Nat) (k : Int) (hk : k = n) (w : World) (h1 : 1 ≤ n) (h2 : n ≤ 4096) : Calls Try.prog 8 #[.int .i64 k] w fun e w' => ∃ p, e = .returned (.tuple #[.pointer (some ⟨p, 0, none⟩), .int .i64 0]) ∧ w.heap.size ≤ p ∧ ∃ g, w.heap.size ≤ g ∧ DP w' p g n n (newD n) ∧ Below w.heap.size w w' := by
  subst hk
  exact pnew_any n w h1 h2
theorem Rd.of_blk {w : World} {g : Nat} {T : TypeId} {bs : List UInt8} (h : Blk w g (u8A bs) T) : Rd w w.heap.size (some ⟨g, 0, none⟩) bs :=
  .inr ⟨g, 0, rfl, h.lt, fun i hi => by
    rw [Nat.zero_add, h.byteAt hi, List.getD_eq_getElem?_getD, List.getElem?_eq_getElem hi]
    rfl⟩
theorem pread_at {w : World} {p g n c : Nat} {s : Dsk} (h : DP w p g n c s) (i : Nat) (k : Int) (hk : k = i) (hi : i < n) (hd : s.dead = false) : Calls Try.prog 10 #[.pointer (some ⟨p, 0, none⟩), .int .i64 k] w fun e w' =>
    ∃ A' c', e = .returned (.tuple #[.slice A' 32 c', .int .i64 0]) ∧ 32 ≤ c' ∧ c' ≤ maxLen ∧ OwnB w' w.heap.size 5 (.slice A' 32 c') 32 (s.sec i) ∧ Below w.heap.size w w' := by
  subst hk
  exact pread_any h i hi hd
theorem Rd.two {w : World} {B : Nat} {A : Option Addr} {l : List UInt8} (h : Rd w B A l) (hl : 2 ≤ l.length) : ∃ b off, A = some ⟨b, off, none⟩ ∧ w.cell? ⟨b, off, none⟩ = some (.int .u8 ((l.getD 0 0).toNat : Int)) ∧ w.cell? ⟨b, off + 1, none⟩ = some (.int .u8 ((l.getD 1 0).toNat : Int)) := by
  rcases h with rfl | ⟨b, off, rfl, _, hc⟩
  · simp at hl
  · refine ⟨b, off, rfl, ?_, ?_⟩
    · have := hc 0 (by omega)
      rw [List.getD_eq_getElem?_getD, List.getElem?_eq_getElem (show 0 < l.length by omega)]
      exact this
    · have := hc 1 (by omega)
      rw [List.getD_eq_getElem?_getD, List.getElem?_eq_getElem (show 1 < l.length by omega)]
      exact this
def wk1 : Dsk := (newD 1).stop 0 1
theorem wk_code : wk1.code 1 0 2 = 8 := by decide
def wk2 : Dsk := (wk1.next 1 0 [5, 5]).start
theorem wk_dead : wk2.dead = false := rfl
theorem wk_sec : (wk2.sec 0).getD 0 0 = 5 ∧ (wk2.sec 0).getD 1 0 = 0 := by decide +kernel
set_option maxHeartbeats 1000000 in
theorem wakes10_any (w : World) : Calls Try.prog 14 #[] w fun e w' => e = .returned (.bool true) ∧ Below w.heap.size w w' := by
  go_enter Try.func14, Try.ntmps14
  go_wp2_with fail
  with_reducible refine (pnew_at 1 1 rfl w (by omega) (by omega)).mono ?_
  rintro e w1 ⟨p, rfl, hp, g, hg, D1, hb1⟩
  have HD1 := Lib.hid D1
  clear D1
  go_wp2_with fail
  with_reducible refine (pstop_any HD1.out 0 1 (by omega)).mono ?_
  rintro e w2 ⟨rfl, D2, C2⟩
  have HD2 := Lib.hid (show DP w2 p g 1 1 wk1 from D2)
  have hb2 := hb1.trans (C2.below hb1.size (two_ge hp hg))
  clear D2 C2 HD1 hb1
  go_wp2_with fail
  have hl : Rd (w2.alloc (.cells #[.int .u8 5, .int .u8 5] 5)) (w2.alloc (.cells #[.int .u8 5, .int .u8 5] 5)).heap.size (some ⟨w2.heap.size, 0, none⟩) [5, 5] := Rd.of_blk (bs := [5, 5]) (Blk.new w2 _ 5)
  have hb3 : Below w2.heap.size w2 (w2.alloc (.cells #[.int .u8 5, .int .u8 5] 5)) := (Below.refl _ _).alloc (Nat.le_refl _) _
  generalize w2.alloc (.cells #[.int .u8 5, .int .u8 5] 5) = w3 at hl hb3 ⊢
  with_reducible refine (pwrite_any (HD2.out.below hb3) 0 _ 2 2 [5, 5] rfl hl).mono ?_
  rw [show Dsk.code wk1 1 0 2 = 8 from wk_code]
  rintro e w4 ⟨rfl, D4, C4⟩
  have hb4 := (hb2.trans (hb3.mono hb2.size)).trans (C4.below (Nat.le_trans hb2.size hb3.size) (two_ge hp hg))
  have HD4 := Lib.hid D4
  clear D4 C4 hl hb3 hb2 HD2
  go_wp2_with fail
  with_reducible refine (pstart_any HD4.out).mono ?_
  rintro e w5 ⟨rfl, D5, C5⟩
  have HD5 := Lib.hid (show DP w5 p g 1 1 wk2 from D5)
  have hb5 := hb4.trans (C5.below hb4.size (two_ge hp hg))
  clear D5 C5 HD4 hb4
  go_wp2_with fail
  with_reducible refine (pread_at HD5.out 0 0 rfl (by omega) wk_dead).mono ?_
  rintro e w6 ⟨A', c', rfl, hc1, hc2, O6, hb6⟩
  have hb7 := hb5.trans (hb6.mono hb5.size)
  obtain ⟨b, off, rfl, k0, k1⟩ := O6.rd.two (by rw [O6.1]; omega)
  rw [wk_sec.1] at k0
  rw [wk_sec.2] at k1
  have k0' : w6.cell? ⟨b, off, none⟩ = some (.int .u8 5) := k0
  have k1' : w6.cell? ⟨b, off + 1, none⟩ = some (.int .u8 0) := k1
  clear k0 k1 hb6 O6 HD5 hb5
  go_wp2_with fail
  go_ret
  exact ⟨rfl, hb7⟩
end Go.Proofs.Ytclmnpfmodlnjaa
