/- The words of a block, and those that they make: the program's table of them. -/
import Derived.Test.YtdjnaeifmeffoaaDoorTurns
import Derived.StillTailTactics
import Derived.IntWalk
namespace Go.Proofs.YtdjnaeifmeffoaaDoor
open Go.RowKit

theorem u32_zeros : (List.replicate 64 (Value.int .u32 0)).toArray = u32A (padW 64 []) := by simp [u32A, padW]
/-- Four bytes from a place on. -/
theorem Rd.four {w : World} {B g off : Nat} {p : List UInt8} (h : Rd w B (some ⟨g, off, none⟩) p) (k : Nat) (hk : k + 4 ≤ p.length) :
    w.cell? ⟨g, off + k, none⟩ = some (.int .u8 ((p.getD k 0).toNat : Int)) ∧ w.cell? ⟨g, off + k + 1, none⟩ = some (.int .u8 ((p.getD (k + 1) 0).toNat : Int)) ∧
    w.cell? ⟨g, off + k + 2, none⟩ = some (.int .u8 ((p.getD (k + 2) 0).toNat : Int)) ∧ w.cell? ⟨g, off + k + 3, none⟩ = some (.int .u8 ((p.getD (k + 3) 0).toNat : Int)) := by
  have go : ∀ j, j < p.length → w.cell? ⟨g, off + j, none⟩ = some (.int .u8 ((p.getD j 0).toNat : Int)) := by
    intro j hj
    obtain ⟨b, o, e, _, hc⟩ := h.at_ j hj
    injection e with e
    injection e with e1 e2
    subst e1 e2
    rw [hc, List.getD_eq_getElem?_getD, List.getElem?_eq_getElem hj]
    rfl
  exact ⟨go k (by omega), go (k + 1) (by omega), go (k + 2) (by omega), go (k + 3) (by omega)⟩

theorem wrap_nat (n : Nat) : IntKind.u32.wrap (n : Int) = ((n % 4294967296 : Nat) : Int) := by rw [IntKind.wrap_u32]; omega
theorem wrap_byte (y : UInt8) : IntKind.u32.wrap (y.toNat : Int) = (y.toNat : Int) := by rw [IntKind.wrap_u32]; have := y.toNat_lt; omega
theorem word_val (y0 y1 y2 y3 : UInt8) :
    bits .or .u32 (bits .or .u32 (bits .or .u32 ((y0.toNat : Int) * 16777216) ((y1.toNat : Int) * 65536)) ((y2.toNat : Int) * 256)) (y3.toNat : Int) =
      (((((y0.toNat * 16777216 % 4294967296) ||| (y1.toNat * 65536 % 4294967296)) ||| (y2.toNat * 256 % 4294967296)) ||| y3.toNat : Nat) : Int) := by
  have h0 := y0.toNat_lt
  have h1 := y1.toNat_lt
  have h2 := y2.toNat_lt
  have h3 := y3.toNat_lt
  have m : ∀ a : Nat, a % 4294967296 < 4294967296 := fun a => Nat.mod_lt _ (by decide)
  rw [show (y0.toNat : Int) * 16777216 = ((y0.toNat * 16777216 % 4294967296 : Nat) : Int) from by omega, show (y1.toNat : Int) * 65536 = ((y1.toNat * 65536 % 4294967296 : Nat) : Int) from by omega, show (y2.toNat : Int) * 256 = ((y2.toNat * 256 % 4294967296 : Nat) : Int) from by omega, or_u32 _ _ (m _) (m _), or_u32 _ _ (or_lt (m _) (m _)) (m _), or_u32 _ _ (or_lt (or_lt (m _) (m _)) (m _)) (by omega)]
theorem word_def (p : List UInt8) (i : Nat) : word p i = (((((p.getD (4 * i) 0).toNat * 16777216 % 4294967296) ||| ((p.getD (4 * i + 1) 0).toNat * 65536 % 4294967296)) ||| ((p.getD (4 * i + 2) 0).toNat * 256 % 4294967296)) ||| (p.getD (4 * i + 3) 0).toNat) := rfl
theorem low_val (x : Nat) (hx : x < 4294967296) : bits .xor .u32 (bits .xor .u32 (rot x 7 : Int) (rot x 18 : Int)) ((x : Int) / 8) = (sg0 x : Int) := by
  rw [show (x : Int) / 8 = ((x / 8 : Nat) : Int) from by simp, xor_u32 _ _ (rot_lt x _ hx) (rot_lt x _ hx), xor_u32 _ _ (xor_lt (rot_lt x _ hx) (rot_lt x _ hx)) (by omega)]
  rfl
theorem high_val (x : Nat) (hx : x < 4294967296) : bits .xor .u32 (bits .xor .u32 (rot x 17 : Int) (rot x 19 : Int)) ((x : Int) / 1024) = (sg1 x : Int) := by
  rw [show (x : Int) / 1024 = ((x / 1024 : Nat) : Int) from by simp, xor_u32 _ _ (rot_lt x _ hx) (rot_lt x _ hx), xor_u32 _ _ (xor_lt (rot_lt x _ hx) (rot_lt x _ hx)) (by omega)]
  rfl
theorem sum_val (a b : Nat) : IntKind.u32.wrap ((a : Int) + (b : Int)) = (((a + b) % 4294967296 : Nat) : Int) := by rw [← wrap_nat]; simp
theorem next_val (a x c y : Nat) (hx : x < 4294967296) (hy : y < 4294967296) :
    ((a : Int) + bits .xor .u32 (bits .xor .u32 (rot x 7 : Int) (rot x 18 : Int)) ((x : Int) / 8) + (c : Int) + bits .xor .u32 (bits .xor .u32 (rot y 17 : Int) (rot y 19 : Int)) ((y : Int) / 1024)) % 4294967296 =
      (((((a + sg0 x) % 4294967296 + c) % 4294967296 + sg1 y) % 4294967296 : Nat) : Int) := by
  rw [low_val x hx, high_val y hy]
  omega
theorem nextW_at (ws : List Nat) (m : Nat) (h : ws.length = m) : nextW ws = (((ws.getD (m - 16) 0 + sg0 (ws.getD (m - 15) 0)) % 4294967296 + ws.getD (m - 7) 0) % 4294967296 + sg1 (ws.getD (m - 2) 0)) % 4294967296 := by subst h; rfl
theorem int32_eq {a : Int} {b : Nat} (h : a = (b : Int)) : Value.int .u32 a = Value.int .u32 (b : Int) := by rw [h]
/-- One word more. -/
theorem Blk.word {w : World} {g n : Nat} {ws : List Nat} {T : TypeId} (h : Blk w g (u32A (padW 64 ws)) T) (hn : ws.length = n) (h64 : n < 64) {x : Int} {y : Nat} (hx : x = (y : Int)) : Blk (w.setCell ⟨g, n, none⟩ (.int .u32 x)) g (u32A (padW 64 (ws ++ [y]))) T := by
  subst hn hx
  have := h.set ws.length (.int .u32 (y : Int))
  rwa [u32A_set, padW_set h64] at this

set_option maxRecDepth 100000 in
set_option maxHeartbeats 1000000 in
theorem spread_any (g off : Nat) (p : List UInt8) (w : World) (hp : p.length = 64) (hr : Rd w w.heap.size (some ⟨g, off, none⟩) p) :
    Calls Tryd.prog 40 #[.pointer (some ⟨g, off, none⟩)] w fun e w' => e = .returned (.agg (u32A (schedTo p 48))) ∧ Below w.heap.size w w' := by
  have HP := Lib.hid hp
  clear hp
  go_enter Tryd.func40, Tryd.ntmps40
  go_wp2_with fail
  generalize hw0 : (w.alloc _).alloc _ = w0
  obtain ⟨k, hk⟩ : ∃ k, w.heap.size + 1 = k := ⟨_, rfl⟩
  have hst : Below w.heap.size w w0 ∧ Blk w0 k (u32A (padW 64 [])) 58 ∧ (∃ cs, Blk w0 w.heap.size cs 58 ∧ cs.size = 64) := by
    subst hw0 hk
    refine ⟨((Below.refl _ _).alloc (Nat.le_refl _) _).alloc (by simp) _, ?_, _, (Blk.new _ _ _).alloc _, rfl⟩
    have := Blk.new (w.alloc (.cells (List.replicate 64 (Value.int .u32 0)).toArray 58)) (u32A (padW 64 [])) 58
    rw [World.size_alloc] at this
    exact this
  rw [hk]
  obtain ⟨hb0, hB0, hC0⟩ := hst
  have HC0 := Lib.hid hC0
  have HB0 := Lib.hid hB0
  clear hw0 hB0 hC0
  have hwk : w.heap.size < k := by omega
  clear hk
  go_loopw [11] (fun t wr => ∃ i : Nat, i ≤ 16 ∧ t = .int .i64 i ∧ Below w.heap.size w wr ∧ Hid (Blk wr k (u32A (padW 64 (wordsTo p i))) 58) ∧ Hid (∃ cs, Blk wr w.heap.size cs 58 ∧ cs.size = 64)) (fun t _ => 16 - (intOf t).toNat)
  case atStart => exact ⟨0, by omega, rfl, hb0, HB0, HC0⟩
  case round =>
    obtain ⟨i, hi, rfl, hbel, HB, HC⟩ := hrel
    by_cases hlt : i < 16
    · obtain ⟨c0, c1, c2, c3⟩ := (hr.below hbel (Nat.le_refl _)).four (4 * i) (by rw [HP.out]; omega)
      have hl0 : (0 : Int) ≤ 4 * (i : Int) := by omega
      have hl1 : 4 * (i : Int) ≤ 64 := by omega
      have hl2 : (4 * (i : Int)).toNat = 4 * i := by omega
      have hl3 : ¬ 64 = 4 * i := by omega
      obtain ⟨q, hq⟩ : ∃ q, 64 - 4 * i = q := ⟨_, rfl⟩
      have q0 : 0 < q := by omega
      have i64 : (i : Int) < 64 := by omega
      have q1 : (1 : Int) < (q : Int) := by omega
      have q2 : (2 : Int) < (q : Int) := by omega
      have q3 : (3 : Int) < (q : Int) := by omega
      have hf := HB.out.frozen i
      obtain ⟨old, ho⟩ : ∃ old, wr.cell? ⟨k, i, none⟩ = some old := ⟨_, (HB.out.cell i).trans (u32A_get (by rw [padW_len (by rw [wordsTo_len]; omega)]; omega))⟩
      have HW := Lib.hid (word_def p i)
      have b0 := (p.getD (4 * i) 0).toNat_lt
      have b1 := (p.getD (4 * i + 1) 0).toNat_lt
      have b2 := (p.getD (4 * i + 2) 0).toNat_lt
      have b3 := (p.getD (4 * i + 3) 0).toNat_lt
      generalize p.getD (4 * i) 0 = y0 at *
      generalize p.getD (4 * i + 1) 0 = y1 at *
      generalize p.getD (4 * i + 2) 0 = y2 at *
      generalize p.getD (4 * i + 3) 0 = y3 at *
      go_wp2_with fail
      clear hl0 hl1 hl2 hl3 hq
      go_still_tail 24, (by kernel_rfl)
      go_wp2
      go_roundw
      case rel =>
        refine ⟨i + 1, by omega, by go_num, (hbel.drew).setCell (by simp; omega) _, Lib.hid ?_, Lib.hid ?_⟩
        · exact Blk.word (w := wr.drew) HB.out (wordsTo_len p i) (by omega) ((word_val y0 y1 y2 y3).trans (congrArg (fun n : Nat => (n : Int)) HW.out.symm))
        · obtain ⟨cs, hcs, hz⟩ := HC.out
          exact ⟨cs, Blk.other (w := wr.drew) hcs (by simp; omega) _, hz⟩
      case measure => simp [intOf]; omega
    · have HB1 := Lib.hid (show Blk wr k (u32A (padW 64 (schedTo p 0))) 58 by obtain rfl : i = 16 := (by omega); exact HB.out)
      clear HB hr hi
      obtain ⟨w1, rfl⟩ : ∃ x : World, x = wr := ⟨_, rfl⟩
      go_wp2_with fail
      go_loopw [6] (fun t wj => ∃ m : Nat, 16 ≤ m ∧ m ≤ 64 ∧ t = .int .i64 m ∧ Below w.heap.size w wj ∧ Hid (Blk wj k (u32A (padW 64 (schedTo p (m - 16)))) 58) ∧ Hid (∃ cs, Blk wj w.heap.size cs 58 ∧ cs.size = 64)) (fun t _ => 64 - (intOf t).toNat)
      case atStart => exact ⟨16, by omega, by omega, rfl, hbel, HB1, HC⟩
      case round =>
        clear hbel HB1 HC
        obtain ⟨m, hm, hm64, rfl, hbel, HB, HC⟩ := hrel
        by_cases hlt : m < 64
        · obtain ⟨j, hj⟩ : ∃ j, m - 16 = j := ⟨_, rfl⟩
          rw [hj] at HB
          have HL := Lib.hid (show (schedTo p j).length = m by rw [schedTo_len]; omega)
          have HN := Lib.hid (nextW_at _ m HL.out)
          have HJ := Lib.hid (show schedTo p (m + 1 - 16) = schedTo p j ++ [nextW (schedTo p j)] by rw [show m + 1 - 16 = j + 1 by omega]; rfl)
          have rd : ∀ i, i < m → wr.cell? ⟨k, i, none⟩ = some (.int .u32 ((schedTo p j).getD i 0 : Nat)) := fun i hi => by
            rw [HB.out.cell i, u32A_get (by rw [padW_len (by rw [HL.out]; omega)]; omega), padW_get (by rw [HL.out]; exact hi)]
          have c16 := rd (m - 16) (by omega)
          have c15 := rd (m - 15) (by omega)
          have c7 := rd (m - 7) (by omega)
          have c2 := rd (m - 2) (by omega)
          have hf := HB.out.frozen m
          obtain ⟨old, ho⟩ : ∃ old, wr.cell? ⟨k, m, none⟩ = some old := ⟨_, (HB.out.cell m).trans (u32A_get (by rw [padW_len (by rw [HL.out]; omega)]; omega))⟩
          have hx := getD_lt (sched_lt p j) (m - 15)
          have hy := getD_lt (sched_lt p j) (m - 2)
          generalize (schedTo p j).getD (m - 16) 0 = a at *
          generalize (schedTo p j).getD (m - 15) 0 = x at *
          generalize (schedTo p j).getD (m - 7) 0 = c at *
          generalize (schedTo p j).getD (m - 2) 0 = y at *
          clear rd hj
          have m64 : (m : Int) < 64 := by omega
          have g15 : (15 : Int) ≤ (m : Int) := by omega
          have l15 : (m : Int) - 15 < 64 := by omega
          have t15 : ((m : Int) - 15).toNat = m - 15 := by omega
          have g2 : (2 : Int) ≤ (m : Int) := by omega
          have l2 : (m : Int) - 2 < 64 := by omega
          have t2 : ((m : Int) - 2).toNat = m - 2 := by omega
          have s15 : IntKind.i64.wrap ((m : Int) - 15) = (m : Int) - 15 := IntWalk.i64_in _ (by omega)
          have s2 : IntKind.i64.wrap ((m : Int) - 2) = (m : Int) - 2 := IntWalk.i64_in _ (by omega)
          go_wp2_with fail
          go_quiet (fail)
          generalize hwq : wr.drewN nq = wq
          have e16 : wq.cell? ⟨k, m - 16, none⟩ = some (.int .u32 a) := by rw [← hwq]; exact c16
          have e7 : wq.cell? ⟨k, m - 7, none⟩ = some (.int .u32 c) := by rw [← hwq]; exact c7
          have ef : wq.frozen? ⟨k, m, none⟩ = false := by rw [← hwq]; exact hf
          have eo : wq.cell? ⟨k, m, none⟩ = some old := by rw [← hwq]; exact ho
          have hbq : Below w.heap.size w wq := by rw [← hwq]; exact below_drewN hbel _
          have HBq := Lib.hid (show Blk wq k (u32A (padW 64 (schedTo p j))) 58 by rw [← hwq]; exact HB.out)
          have HCq := Lib.hid (show ∃ cs, Blk wq w.heap.size cs 58 ∧ cs.size = 64 by rw [← hwq]; exact HC.out)
          clear c16 c7 hf ho hbel HB HC c15 c2 hwq
          go_wp2_with fail
          refine (rotl_at x 7 _ rfl _ hx (by decide) (by decide)).mono ?_
          rintro e w' ⟨rfl, rfl⟩
          go_wp2_with fail
          refine (rotl_at x 18 _ rfl _ hx (by decide) (by decide)).mono ?_
          rintro e w' ⟨rfl, rfl⟩
          go_wp2_with fail
          refine (rotl_at y 17 _ rfl _ hy (by decide) (by decide)).mono ?_
          rintro e w' ⟨rfl, rfl⟩
          go_wp2_with fail
          refine (rotl_at y 19 _ rfl _ hy (by decide) (by decide)).mono ?_
          rintro e w' ⟨rfl, rfl⟩
          clear s15 s2 t15 t2 g15 g2 l15 l2
          have g16 : (16 : Int) ≤ (m : Int) := by omega
          have l16 : (m : Int) - 16 < 64 := by omega
          have t16 : ((m : Int) - 16).toNat = m - 16 := by omega
          have g7 : (7 : Int) ≤ (m : Int) := by omega
          have l7 : (m : Int) - 7 < 64 := by omega
          have t7 : ((m : Int) - 7).toNat = m - 7 := by omega
          have s16 : IntKind.i64.wrap ((m : Int) - 16) = (m : Int) - 16 := IntWalk.i64_in _ (by omega)
          have s7 : IntKind.i64.wrap ((m : Int) - 7) = (m : Int) - 7 := IntWalk.i64_in _ (by omega)
          go_wp2_with fail
          go_still_tail 15, (by kernel_rfl)
          clear s16 t16 l16 g16 s7 t7 l7 g7
          go_wp2
          go_roundw
          case rel =>
            refine ⟨m + 1, by omega, by omega, by go_num, (hbq.drew).setCell (by simp; omega) _, Lib.hid ?_, Lib.hid ?_⟩
            · rw [HJ.out, HN.out]
              exact Blk.word (w := wq.drew) HBq.out HL.out (by omega) (next_val a x c y hx hy)
            · obtain ⟨cs, hcs, hz⟩ := HCq.out
              exact ⟨cs, Blk.other (w := wq.drew) hcs (by simp; omega) _, hz⟩
          case measure => simp [intOf]; omega
        · have hfin : Blk wr k (u32A (schedTo p 48)) 58 := by obtain rfl : m = 64 := (by omega); have := HB.out; rwa [padW_full (by rw [schedTo_len])] at this
          have hsz : (u32A (schedTo p 48)).size = 64 := by rw [u32A_size, schedTo_len]
          have hone := u32A_one (schedTo p 48)
          obtain ⟨fin, hfe⟩ : ∃ x, u32A (schedTo p 48) = x := ⟨_, rfl⟩
          rw [hfe] at hfin hsz hone
          have HFE := Lib.hid hfe
          clear hfe
          have HZ := Lib.hid hsz
          have HONE := Lib.hid hone
          clear HB hm hm64 hsz hone
          obtain ⟨cs, hcs, hz⟩ := HC.out
          have HCZ := Lib.hid hz
          have hin := hcs.lt
          clear hz HC HC0 HB0 hb0
          go_wp2_with (first
            | (with_reducible refine wpList_load_blk rfl 58 (.tmp 3) rfl k rfl 58 fin _ hfin Tryd.underlying58 rfl (by rw [HZ.out]; kernel_rfl) ?_)
            | (with_reducible refine wpList_store_blk rfl 58 (.tmp 2) (.tmp 87) rfl w.heap.size fin rfl rfl 58 cs hcs (by rw [HZ.out]; kernel_rfl) (by rw [HZ.out, HCZ.out]) HONE.out ?_))
          refine bodyPost_ret (v := .agg fin) (results_cell_row (p := 2) (ty := 58) (by kernel_rfl) _ _ w.heap.size 58 _ (0, 0) _ rfl (hcs.row fin) Tryd.underlying58 rfl (by rw [HZ.out]; kernel_rfl)) rfl ⟨by rw [HFE.out], below_row hbel (by omega) (Nat.le_refl _) _⟩
end Go.Proofs.YtdjnaeifmeffoaaDoor
