/- Matrices out of any bytes, as the statements of chapter 5 make them. -/
import Derived.Test.YtkgemngkkedcnaaRMUnit
namespace Go.Proofs.Ytkgemngkkedcnaa
open Go.RowKit

/-- Bytes laid out in rows of m; noughts behind them. -/
def sqM (l : List UInt8) (m : Nat) : Mx := fun i j => l.getD (m * i + j) 0
theorem rowL_at (f : Mx) (m r : Nat) {j : Nat} (h : j < m) : (rowL f 0 m r).getD j 0 = f r j := by
  have := map_getD (fun j => f r (0 + j)) m j h
  rwa [Nat.zero_add] at this

theorem part_keep {T x : List UInt8} {m n : Nat} (hT : T.length = m) (hx : x.length = m) (hn : n < m) (h : T.getD n 0 = x.getD n 0) : part T x (n + 1) = part T x n := by
  rw [← part_set hT hx hn, h]
  apply List.ext_getElem?
  intro j
  by_cases e : n = j
  · subst e
    have hp : n < (part T x n).length := by rw [part_len hT hx (Nat.le_of_lt hn)]; exact hn
    rw [List.getElem?_set_self hp, List.getElem?_eq_getElem hp]
    have := part_later (T := T) (x := x) hT (Nat.le_of_lt hn) (Nat.le_refl n)
    rw [List.getD_eq_getElem?_getD, List.getElem?_eq_getElem hp] at this
    exact congrArg some this.symm
  · rw [List.getElem?_set_ne e]
set_option maxRecDepth 100000 in
set_option maxHeartbeats 8000000 in
theorem square_any (A : Option Addr) (z c n m : Nat) (l : List UInt8) (w : World) (hl : l.length = z) (hz : z ≤ maxLen) (h1 : n ≤ 100) (h2 : m ≤ 100) (hr : Rd w w.heap.size A l) :
    Calls Try.prog 11 #[.slice A z c, .int .i64 (n : Int), .int .i64 (m : Int)] w fun e w' => ∃ X cp, e = .returned (.slice X n cp) ∧ n ≤ cp ∧ RdR w' w'.heap.size X (rowsL (sqM l m) 0 m n) ∧ Below w.heap.size w w' := by
  obtain ⟨i0, hi, hz0, hz1, hz2⟩ := info_parts info5
  obtain ⟨i1, hi', hz0', hz1', hz2'⟩ := info_parts infoSlice
  have hmk := fun W => run_make (P := Try.prog) W 22 5 i0 (.int .u8 0) Try.underlying22 hi hz0 .i64 .i64 (m : Int) (m : Int) (by omega) (by omega) (by rw [hz2]; omega) (by omega)
  simp only [hz1, Nat.mul_one] at hmk
  unfold maxLen at hz
  have HL := Lib.hid hl
  clear hi hz0 hz1 hz2 hl
  obtain ⟨f, hf⟩ : ∃ f, sqM l m = f := ⟨_, rfl⟩
  rw [hf]
  have HF := Lib.hid (show ∀ i j, f i j = l.getD (m * i + j) 0 from fun i j => by rw [← hf]; rfl)
  clear hf
  go_enter Try.func11, Try.ntmps11
  go_wp2_with fail
  go_loopw [7, 8] (fun v t wr => ∃ (i : Nat) (vs : List Value), i ≤ n ∧ t = .int .i64 i ∧ Hid (wr.ownsRow w.heap.size 22 1 v i vs) ∧ Hid (sliceOwn wr w.heap.size 5 vs (rowsL f 0 m i)) ∧ Below w.heap.size w wr) (fun _ t _ => n - (intOf t).toNat)
  case atStart => exact ⟨0, [], by omega, rfl, Lib.hid (World.ownsRow_nil _ _ _ _), Lib.hid ⟨rfl, fun i hi => by simp [rowsL] at hi⟩, Below.refl _ _⟩
  case round =>
    obtain ⟨i, vs, hin, rfl, HO, HS, hbel⟩ := hrel
    by_cases hlt : i < n
    · have hii : (i : Int) < (n : Int) := by omega
      have HSN := Lib.hid (rowsL_succ f 0 m i)
      have hle := hbel.size
      have HB0 := Lib.hid hbel
      have hal : Below wr.heap.size wr (wr.alloc (.cells (madeCells #[.int .u8 0] m) 5)) := (Below.refl _ _).alloc (Nat.le_refl _) _
      have HB1 := Lib.hid (hbel.trans (hal.mono hle))
      have HKO := Lib.hid (fun W (h : Below wr.heap.size wr W) => own_keep HO.out h)
      have HKS := Lib.hid (fun W W' v2 l2 A2 n2 c2 (h : Below wr.heap.size wr W) => (HS.out.grow (w2 := W') (l := l2) (A := A2) (n := n2) (cap := c2) (k := i) (v := v2) h))
      have HAL := Lib.hid hal
      have hsz0 : wr.heap.size < (wr.alloc (.cells (madeCells #[.int .u8 0] m) 5)).heap.size := by simp
      have G := Lib.hid (show Blk (wr.alloc (.cells (madeCells #[.int .u8 0] m) 5)) wr.heap.size (u8A (part (rowL f 0 m i) (List.replicate m 0) 0)) 5 by
        rw [part_zero, ← made_zeros]
        exact Blk.new _ _ _)
      clear hal hbel HO HS
      go_wp2_with fail
      generalize wr.alloc (.cells (madeCells #[.int .u8 0] m) 5) = wo at *
      obtain ⟨r, hr0⟩ : ∃ z, wr.heap.size = z := ⟨_, rfl⟩
      rw [hr0] at G HAL hle hsz0 HKO HKS ⊢
      clear hr0
      clear hmk
      obtain ⟨q, hq⟩ : ∃ q, m * i = q := ⟨_, rfl⟩
      have eq : (m : Int) * (i : Int) = (q : Int) := by rw [← hq]; simp
      have hq1 : q ≤ 10000 := by rw [← hq]; exact Nat.mul_le_mul h2 (show i ≤ 100 by omega)
      have HFI := Lib.hid (fun j => HF.out i j)
      rw [hq] at HFI
      clear hq
      go_loopw [20] (fun t wq => ∃ j : Nat, j ≤ m ∧ t = .int .i64 j ∧ Hid (Blk wq r (u8A (part (rowL f 0 m i) (List.replicate m 0) j)) 5) ∧ Below r wo wq) (fun t _ => m - (intOf t).toNat)
      case atStart => exact ⟨0, by omega, rfl, G, Below.refl _ _⟩
      case round =>
        clear G
        obtain ⟨j, hj, rfl, G, hbq⟩ := hrel
        by_cases hjm : j < m
        · have hji : (j : Int) < (m : Int) := by omega
          by_cases hqz : q + j < z
          · have hqi : (q : Int) + (j : Int) < (z : Int) := by omega
            have hql : q + j < l.length := by rw [HL.out]; exact hqz
            have hbw : Below w.heap.size w wr := HB1.out.trans (hbq.mono hle)
            obtain ⟨b, off, rfl, _, hc⟩ := (hr.below hbw (Nat.le_refl _)).at_ (q + j) hql
            have HPS := Lib.hid (part_set (rowL_len f 0 m i) (List.length_replicate (n := m) (a := (0 : UInt8))) hjm)
            have hv : l[q + j] = (rowL f 0 m i).getD j 0 := by
              rw [rowL_at f m i hjm, HFI.out, List.getD_eq_getElem?_getD, List.getElem?_eq_getElem hql]; rfl
            rw [hv] at hc
            have hfr := G.out.frozen j
            obtain ⟨o, ho⟩ : ∃ old, wr.cell? ⟨r, j, none⟩ = some old := ⟨_, G.out.byteAt (i := j) (by rw [part_len (rowL_len _ _ _ _) List.length_replicate (by omega)]; exact hjm)⟩
            generalize (rowL f 0 m i).getD j 0 = x at *
            have HG2 := Lib.hid (show Blk (wr.setCell ⟨r, j, none⟩ (.int .u8 (x.toNat : Int))) r (u8A (part (rowL f 0 m i) (List.replicate m 0) (j + 1))) 5 by rw [← HPS.out]; exact G.out.put j rfl)
            have hb2 : Below r wo (wr.setCell ⟨r, j, none⟩ (.int .u8 (x.toNat : Int))) := hbq.setCell (Nat.le_refl _) _
            clear hv hql hbw hbq G HPS
            go_wp2_with fail
            go_roundw
            case rel => exact ⟨j + 1, by omega, by go_num, HG2, hb2⟩
            case measure => simp [intOf]; omega
          · have hqi : ¬ (q : Int) + (j : Int) < (z : Int) := by omega
            have HPK := Lib.hid (part_keep (rowL_len f 0 m i) (List.length_replicate (n := m) (a := (0 : UInt8))) hjm (by
              rw [rowL_at f m i hjm, HFI.out, List.getD_eq_getElem?_getD, List.getElem?_eq_none (by rw [HL.out]; omega)]
              simp [List.getD_eq_getElem?_getD, hjm]))
            go_wp2_with fail
            go_roundw
            case rel => exact ⟨j + 1, by omega, by go_num, by rw [HPK.out]; exact G, hbq⟩
            case measure => simp [intOf]; omega
        · obtain rfl : j = m := by omega
          have hfull : Blk wr r (u8A (rowL f 0 j i)) 5 := by
            have := G.out
            rwa [part_full (rowL_len _ _ _ _) List.length_replicate] at this
          have hrl := G.out.lt
          have HGF := Lib.hid hfull
          clear G hfull hjm hj
          have hbw := HAL.out.trans hbq
          have HO3 := Lib.hid (HKO.out wr hbw)
          have hsz : w.heap.size ≤ wr.heap.size := by omega
          go_wp2_with (at_builtin; refine wpList_append_one rfl _ _ 24 rfl w.heap.size 22 i1 Try.underlying24 hi' hz0' hz1' hz2' _ i vs rfl wr (some ⟨r, 0, none⟩) j j rfl HO3.out rfl (by omega) hsz ?_)
          intro v2 w2 hown2 hg2
          have hal : Below wr.heap.size wr (wr.alloc (.cells #[.slice (some ⟨r, 0, none⟩) j j] 22)) := (Below.refl _ _).alloc (Nat.le_refl _) _
          have hrw := hbw.trans (hal.mono (by omega))
          have HS2 := Lib.hid (HKS.out _ w2 _ _ _ _ _ hrw (HKO.out _ hrw) hg2 (own_of_blk (HGF.out.alloc _) hle (rowL_len f 0 j i) rfl (by unfold maxLen; omega)) (rowL_len f 0 j i) (Nat.le_refl _) (by unfold maxLen; omega))
          rw [← HSN.out] at HS2
          have HO2 := Lib.hid hown2
          have hbel2 : Below w.heap.size w w2 := ((HB1.out.trans (hbq.mono hle)).trans (hal.mono hsz)).grown hg2 (by simp; omega) (fun k hk => (HO3.out.lt k hk).1)
          clear hown2 hg2 hal hbq hrw hbw HKO HKS HGF HAL HO3
          go_wp2_with fail
          go_roundw
          case rel => exact ⟨i + 1, _, by omega, by go_num, HO2, HS2, hbel2⟩
          case measure => simp [intOf]; omega
    · obtain rfl : i = n := by omega
      obtain ⟨A', c', rfl, hkc, _⟩ := own_caps HO.out
      have HR := Lib.hid (RdR.of_own HO.out HS.out.vals (Nat.le_refl _))
      have hni : ¬ (i : Int) < (i : Int) := by omega
      clear HO HS hmk
      go_wp2_with fail
      go_ret
      exact ⟨A', c', rfl, hkc, HR.out, hbel⟩
end Go.Proofs.Ytkgemngkkedcnaa
