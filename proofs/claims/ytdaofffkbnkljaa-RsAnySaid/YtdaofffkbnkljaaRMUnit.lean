/- The document's own matrix that changes nothing. -/
import Derived.Test.YtdaofffkbnkljaaMxB
import Derived.Test.YtdaofffkbnkljaaMakeB
namespace Go.Proofs.Ytdaofffkbnkljaa
open Go.RowKit

theorem made_zeros (k : Nat) : madeCells #[Value.int .u8 0] k = u8A (List.replicate k 0) := by
  have := made_noughts k
  rw [Nat.mul_one] at this
  apply Array.ext'
  rw [u8A, List.toList_toArray]
  exact this
theorem unit_row {n i : Nat} (_ : i < n) : (List.replicate n (0 : UInt8)).set i 1 = rowL unitM 0 n i := by
  apply List.ext_getElem (by simp [rowL])
  intro j h1 h2
  rw [List.getElem_set]
  simp only [rowL, List.getElem_map, List.getElem_range, List.getElem_replicate, Nat.zero_add]
  by_cases h : i = j
  · rw [if_pos h, h, unitM_same]
  · rw [if_neg h, unitM_else h]
theorem own_of_blk {w : World} {B g n cap : Nat} {l : List UInt8} {T : TypeId} (h : Blk w g (u8A l) T) (hB : B ≤ g) (hl : l.length = n) (hn : n = cap) (hm : cap ≤ maxLen) : w.ownsRow B T 1 (.slice (some ⟨g, 0, none⟩) n cap) n (Lib.byteCells l) := by
  subst hn
  refine ⟨by rw [Lib.byteCells_length, hl, Nat.mul_one], .inr ⟨g, n, _, rfl, hB, h, Nat.le_refl _, hm, by rw [u8A_size, hl, Nat.mul_one], ?_⟩⟩
  rw [u8A, List.toList_toArray, Nat.mul_one, List.take_of_length_le (by rw [Lib.byteCells_length, hl]; exact Nat.le_refl _)]
theorem tys_ne' : (5 : TypeId) ≠ 22 := by decide
/-- Rows of one's own, and one more, that is new. -/
theorem sliceOwn.grow {w w1 w2 : World} {B n k cap : Nat} {v : Value} {vs : List Value} {ls : List (List UInt8)} {l : List UInt8} (h : sliceOwn w B 5 vs ls) (hb : Below w.heap.size w w1) (hown : w1.ownsRow B 22 1 v k vs) (hg : w1.grownBy w2 v.ownBlock)
    {A : Option Addr} (hr : w1.ownsRow B 5 1 (.slice A n cap) n (Lib.byteCells l)) (hl : l.length = n) (hc : n ≤ cap) (hm : cap ≤ maxLen) : sliceOwn w2 B 5 (vs ++ [.slice A n cap]) (ls ++ [l]) :=
  ((h.map fun _ _ _ hh => own_keep hh hb).map fun _ _ _ hh => own_apart hh hown tys_ne' hg).snoc hl hc hm (own_apart hr hown tys_ne' hg)

set_option maxRecDepth 100000 in
set_option maxHeartbeats 2000000 in
theorem runit_any (n : Nat) (w : World) (h16 : n ≤ 16) :
    Calls Try.prog 64 #[.int .i64 (n : Int)] w fun e w' => ∃ X cp, e = .returned (.slice X n cp) ∧ n ≤ cp ∧ RdR w' w'.heap.size X (rowsL unitM 0 n n) ∧ Below w.heap.size w w' := by
  obtain ⟨i0, hi, hz0, hz1, hz2⟩ := info_parts info5
  obtain ⟨i1, hi', hz0', hz1', hz2'⟩ := info_parts infoSlice
  have hmk := fun W => run_make (P := Try.prog) W 22 5 i0 (.int .u8 0) Try.underlying22 hi hz0 .i64 .i64 (n : Int) (n : Int) (by omega) (by omega) (by rw [hz2]; omega) (by omega)
  simp only [hz1, Nat.mul_one] at hmk
  clear hi hz0 hz1 hz2
  have h16i : (n : Int) ≤ 16 := by omega
  go_enter Try.func64, Try.ntmps64
  go_wp2_with fail
  go_loopw [3, 4] (fun v t wr => ∃ (i : Nat) (vs : List Value), i ≤ n ∧ t = .int .i64 i ∧ Hid (wr.ownsRow w.heap.size 22 1 v i vs) ∧ Hid (sliceOwn wr w.heap.size 5 vs (rowsL unitM 0 n i)) ∧ Below w.heap.size w wr) (fun _ t _ => n - (intOf t).toNat)
  case atStart => exact ⟨0, [], by omega, rfl, Lib.hid (World.ownsRow_nil _ _ _ _), Lib.hid ⟨rfl, fun i hi => by simp [rowsL] at hi⟩, Below.refl _ _⟩
  case round =>
    obtain ⟨i, vs, hin, rfl, HO, HS, hbel⟩ := hrel
    by_cases hlt : i < n
    · have hii : (i : Int) < (n : Int) := by omega
      have HRW := Lib.hid (unit_row hlt)
      have HSN := Lib.hid (rowsL_succ unitM 0 n i)
      have hm0 : (madeCells #[Value.int .u8 0] n)[i]? = some (.int .u8 0) := by
        rw [made_zeros, u8A_at (by rw [List.length_replicate]; exact hlt)]
        simp [List.getD_eq_getElem?_getD, hlt]
      have hle := hbel.size
      have hset : (madeCells #[Value.int .u8 0] n).setIfInBounds i (.int .u8 1) = u8A (rowL unitM 0 n i) := by
        rw [made_zeros, ← HRW.out]
        exact u8A_set _ i 1
      have HSET := Lib.hid hset
      clear hset
      go_wp2_with (at_builtin; refine wpList_append_one rfl _ _ 29 rfl w.heap.size 22 i1 Try.underlying29 hi' hz0' hz1' hz2' _ i vs rfl (wr.alloc (.cells ((madeCells #[Value.int .u8 0] n).setIfInBounds i (.int .u8 1)) 5)) (some ⟨wr.heap.size, 0, none⟩) n n rfl (HO.out.alloc _) (by rw [World.size_alloc]; rfl) (by omega) (by simp; omega) ?_)
      intro v2 w2 hown2 hg2
      rw [HSET.out] at hg2
      have hb1 : Below wr.heap.size wr ((wr.alloc (.cells (u8A (rowL unitM 0 n i)) 5)).alloc (.cells #[.slice (some ⟨wr.heap.size, 0, none⟩) n n] 22)) := ((Below.refl _ _).alloc (Nat.le_refl _) _).alloc (by simp) _
      have hr := own_of_blk (B := w.heap.size) (((Blk.new wr (u8A (rowL unitM 0 n i)) 5)).alloc (.cells #[.slice (some ⟨wr.heap.size, 0, none⟩) n n] 22)) hle (rowL_len _ _ _ _) rfl (by unfold maxLen; omega)
      have HS2 := Lib.hid (HS.out.grow hb1 (own_keep HO.out hb1) hg2 hr (rowL_len _ _ _ _) (Nat.le_refl _) (by unfold maxLen; omega))
      rw [← HSN.out] at HS2
      have HO2 := Lib.hid hown2
      have hbel2 : Below w.heap.size w w2 := (hbel.trans (hb1.mono hle)).grown hg2 (by simp; omega) (fun k hk => (HO.out.lt k hk).1)
      clear hown2 hg2 hb1 hr hbel hm0 HSET HRW HO HS
      go_wp2_with fail
      go_roundw
      case rel => exact ⟨i + 1, _, by omega, by go_num, HO2, HS2, hbel2⟩
      case measure => simp [intOf]; omega
    · obtain rfl : i = n := by omega
      obtain ⟨A', c', rfl, hkc, _⟩ := own_caps HO.out
      have HR := Lib.hid (RdR.of_own HO.out HS.out.vals (Nat.le_refl _))
      have hni : ¬ (i : Int) < (i : Int) := by omega
      clear hmk HO HS
      go_wp2_with fail
      go_ret
      exact ⟨A', c', rfl, hkc, HR.out, hbel⟩
end Go.Proofs.Ytdaofffkbnkljaa
namespace Go.Proofs.Ytdaofffkbnkljaa
open Go.RowKit
theorem runit_no (n : Int) (w : World) (h : n < 1 ∨ 16 < n) :
    Calls Try.prog 64 #[.int .i64 n] w fun e w' => e = .returned (.slice none 0 0) ∧ w = w' := by
  by_cases h1 : n < 1
  · have hn : ¬ (0 : Int) < n := by omega
    clear h
    go_enter Try.func64, Try.ntmps64
    go_wp2_with fail
    go_loopw [3, 4] (fun v t wr => v = .slice none 0 0 ∧ t = .int .i64 0 ∧ w = wr) (fun _ _ _ => 0)
    case atStart => exact ⟨rfl, rfl, rfl⟩
    case round =>
      obtain ⟨rfl, rfl, rfl⟩ := hrel
      go_wp2_with fail
      go_ret
      exact ⟨rfl, rfl⟩
  · have hn : (0 : Int) < n := by omega
    have h2 : (16 : Int) < n := by omega
    have h3 : ¬ n ≤ 16 := by omega
    clear h
    go_enter Try.func64, Try.ntmps64
    go_wp2_with fail
    go_loopw [3, 4] (fun v t wr => v = .slice none 0 0 ∧ t = .int .i64 0 ∧ w = wr) (fun _ _ _ => 0)
    case atStart => exact ⟨rfl, rfl, rfl⟩
    case round =>
      obtain ⟨rfl, rfl, rfl⟩ := hrel
      go_wp2_with fail
      go_ret
      exact ⟨rfl, rfl⟩
end Go.Proofs.Ytdaofffkbnkljaa
