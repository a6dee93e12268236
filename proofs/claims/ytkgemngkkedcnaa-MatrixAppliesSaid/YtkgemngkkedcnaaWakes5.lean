/- The document's example of chapter 5; helps of its statements. -/
import Derived.Test.YtkgemngkkedcnaaPMx
import Derived.Test.YtkgemngkkedcnaaRMSq
import Derived.Test.YtkgemngkkedcnaaRowsCmp
import Derived.Test.YtkgemngkkedcnaaKeep
namespace Go.Proofs.Ytkgemngkkedcnaa
open Go.RowKit

theorem mvrows {w : World} {x y : Value} {ls ks : List (List UInt8)} (hx : MV w x ls) (hy : MV w y ks) (h1 : ls.length ≤ 1000) (h2 : ∀ r ∈ ls, r.length ≤ 1000) :
    Calls Try.prog 17 #[x, y] w fun e w' => e = .returned (.bool (decide (ls = ks))) ∧ Below w.heap.size w w' := by
  obtain ⟨X, c, rfl, _, hX⟩ := hx
  obtain ⟨Y, d, rfl, _, hY⟩ := hy
  exact (rows_any X Y _ _ c d _ _ ls ks w rfl rfl (Nat.le_trans h1 (by decide)) hX hY (fun r hr => Nat.le_trans (h2 r hr) (by decide))).mono fun _ _ ⟨he, q, hq⟩ => ⟨he, by rw [hq]; exact below_drewN (Below.refl _ _) q⟩
theorem SqL.small {N : Nat} {ls : List (List UInt8)} (h : SqL N ls) (hN : N ≤ 16) : ls.length ≤ 1000 ∧ ∀ r ∈ ls, r.length ≤ 1000 := ⟨by rw [h.1]; omega, fun r hr => by rw [h.2 r hr]; omega⟩
theorem sqrows {w : World} {N : Nat} {x y : Value} {ls ks : List (List UInt8)} (hs : SqL N ls) (hN : N ≤ 16) (he : ls = ks) (hx : MV w x ls) (hy : MV w y ks) :
    Calls Try.prog 17 #[x, y] w fun e w' => e = .returned (.bool true) ∧ Below w.heap.size w w' := by
  have := mvrows hx hy (hs.small hN).1 (hs.small hN).2
  rwa [decide_eq_true he] at this
/-- Any bytes as a square of N. -/
def sqr (l : List UInt8) (N : Nat) : List (List UInt8) := rowsL (sqM l N) 0 N N
theorem sqr_sq (l : List UInt8) (N : Nat) : SqL N (sqr l N) := sqL_rows _ _ _
theorem msquare (A : Option Addr) (z c N : Nat) (l : List UInt8) (w : World) (hl : l.length = z) (hz : z ≤ maxLen) (hN : N ≤ 16) (hr : Rd w w.heap.size A l) :
    Calls Try.prog 11 #[.slice A z c, .int .i64 (N : Int), .int .i64 (N : Int)] w fun e w' => ∃ v, e = .returned v ∧ MV w' v (sqr l N) ∧ Below w.heap.size w w' :=
  (square_any A z c N N l w hl hz (by omega) (by omega) hr).mono fun _ _ ⟨_, _, he, hc, hR, hb⟩ => ⟨_, he, MV.mk (rowsL_len _ _ _ _) hc hR, hb⟩
theorem unitL_nat {N : Nat} (h1 : 1 ≤ N) (h16 : N ≤ 16) : unitL (N : Int) = rowsL unitM 0 N N := by
  unfold unitL
  rw [if_pos (by omega), Int.toNat_natCast]
theorem unit_inv {N : Nat} {rs : List (List UInt8)} {er : Int} (h1 : 1 ≤ N) (h16 : N ≤ 16) (h : InvSpec (rowsL unitM 0 N N) er rs) : er = 0 ∧ rs = rowsL unitM 0 N N := by
  have hu : IsInv N (entM (rowsL unitM 0 N N)) unitM := by
    have h0 : IsInv N unitM unitM := ⟨fun i j hi hj => unit_mm hi _ _, fun i j hi hj => unit_mm hi _ _⟩
    exact h0.of_alike (rows_alike _ _ _).symm (fun _ _ _ _ => rfl)
  rcases inv_cases (sqL_rows _ _ _) h1 h16 h with ⟨a, b, c⟩ | ⟨_, _, c⟩
  · exact ⟨a, b.ext (sqL_rows _ _ _) ((hu.only c.2).trans (rows_alike _ _ _).symm)⟩
  · exact absurd ((faithful_iff N _).2 ⟨_, hu⟩) c

set_option maxRecDepth 100000 in
set_option maxHeartbeats 2000000 in
theorem wakes5_any (w : World) : Calls Try.prog 18 #[] w fun e w' => e = .returned (.bool true) ∧ Below w.heap.size w w' := by
  have HU := Lib.hid (show Calls Try.prog 15 #[.int .i64 3] w fun e w' => ∃ v, e = .returned v ∧ MV w' v (rowsL unitM 0 3 3) ∧ Below w.heap.size w w' from punit_any 3 w)
  go_enter Try.func18, Try.ntmps18
  go_wp2_with fail
  with_reducible refine (HU.out).mono ?_
  rintro e w1 ⟨u, rfl, hu, hb1⟩
  have HM := Lib.hid hu
  obtain ⟨X, c, rfl, hc, hX⟩ := hu
  rw [rowsL_len] at HM hc ⊢
  clear hX HU
  go_wp2_with fail
  with_reducible refine (pinv_any HM.out).mono ?_
  rintro e w2 ⟨v, er, rs, rfl, hs, hv, hb2⟩
  obtain ⟨rfl, rfl⟩ := unit_inv (by omega) (by omega) hs
  have HM2 := Lib.hid (HM.out.on hb2)
  have HV := Lib.hid hv
  have hb := hb1.trans (hb2.mono hb1.size)
  clear hs hv hb1 hb2 HM
  go_wp2_with fail
  with_reducible refine (sqrows (sqL_rows unitM 0 3) (by omega) rfl HM2.out HV.out).mono ?_
  rintro e w3 ⟨rfl, hb3⟩
  have hb := hb.trans (hb3.mono hb.size)
  go_wp2_with fail
  go_ret
  exact ⟨rfl, hb⟩
end Go.Proofs.Ytkgemngkkedcnaa
