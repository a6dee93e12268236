/- The words of a block, and those that they make: the program's table of them. One block, as the program mixes it in. A hash in the making, in memory: the words of the whole blocks, the open block, the count. -/
import Derived.Test.YtciflbkgfmbfdaaDoorShaA
import Derived.StillTailTactics
import Derived.IntWalk
import Derived.Deep.MidRow
namespace Go.Proofs.YtciflbkgfmbfdaaDoor
open Go.RowKit

theorem u32_zeros : (List.replicate 64 (Value.int .u32 0)).toArray = u32A (padW 64 []) := by simp [u32A, padW]
/-- Four bytes from a place on. -/
theorem Rd.four {w : World} {B g off : Nat} {p : List UInt8} (h : Rd w B (some ⟨g, off, none⟩) p) (k : Nat) (hk : k + 4 ≤ p.length) :
    w.cell? ⟨g, off + k, none⟩ = some (.int .u8 ((p.getD k 0).toNat : Int)) ∧ w.cell? ⟨g, off + k + 1, none⟩ = some (.int .u8 ((p.getD (k + 1) 0).toNat : Int)) ∧
    w.cell? ⟨g, off + k + 2, none⟩ = some (.int .u8 ((p.getD (k + 2) 0).toNat : Int)) ∧ w.cell? ⟨g, off + k + 3, none⟩ = some (.int .u8 ((p.getD (k + 3) 0).toNat : Int)) := by
  have go : ∀ j, j < p.length → w.cell? ⟨g, off + j, none⟩ = some (.int .u8 ((p.getD j 0).toNat : Int)) := by
    intro j hj
    obtain ⟨b, o, e, _, hc⟩ := h.at_ j hj
    injection e with e
    injection e with e1 e2
    subst e1 e2
    rw [hc, List.getD_eq_getElem?_getD, List.getElem?_eq_getElem hj]
    rfl
  exact ⟨go k (by omega), go (k + 1) (by omega), go (k + 2) (by omega), go (k + 3) (by omega)⟩

theorem wrap_nat (n : Nat) : IntKind.u32.wrap (n : Int) = ((n % 4294967296 : Nat) : Int) := by rw [IntKind.wrap_u32]; omega
theorem wrap_byte (y : UInt8) : IntKind.u32.wrap (y.toNat : Int) = (y.toNat : Int) := by rw [IntKind.wrap_u32]; have := y.toNat_lt; omega
theorem word_val (y0 y1 y2 y3 : UInt8) :
    bits .or .u32 (bits .or .u32 (bits .or .u32 ((y0.toNat : Int) * 16777216) ((y1.toNat : Int) * 65536)) ((y2.toNat : Int) * 256)) (y3.toNat : Int) =
      (((((y0.toNat * 16777216 % 4294967296) ||| (y1.toNat * 65536 % 4294967296)) ||| (y2.toNat * 256 % 4294967296)) ||| y3.toNat : Nat) : Int) := by
  have h0 := y0.toNat_lt
  have h1 := y1.toNat_lt
  have h2 := y2.toNat_lt
  have h3 := y3.toNat_lt
  have m : ∀ a : Nat, a % 4294967296 < 4294967296 := fun a => Nat.mod_lt _ (by decide)
  rw [show (y0.toNat : Int) * 16777216 = ((y0.toNat * 16777216 % 4294967296 : Nat) : Int) from by omega, show (y1.toNat : Int) * 65536 = ((y1.toNat * 65536 % 4294967296 : Nat) : Int) from by omega, show (y2.toNat : Int) * 256 = ((y2.toNat * 256 % 4294967296 : Nat) : Int) from by omega, or_u32 _ _ (m _) (m _), or_u32 _ _ (or_lt (m _) (m _)) (m _), or_u32 _ _ (or_lt (or_lt (m _) (m _)) (m _)) (by omega)]
theorem word_def (p : List UInt8) (i : Nat) : word p i = (((((p.getD (4 * i) 0).toNat * 16777216 % 4294967296) ||| ((p.getD (4 * i + 1) 0).toNat * 65536 % 4294967296)) ||| ((p.getD (4 * i + 2) 0).toNat * 256 % 4294967296)) ||| (p.getD (4 * i + 3) 0).toNat) := rfl
theorem low_val (x : Nat) (hx : x < 4294967296) : bits .xor .u32 (bits .xor .u32 (rot x 7 : Int) (rot x 18 : Int)) ((x : Int) / 8) = (sg0 x : Int) := by
  rw [show (x : Int) / 8 = ((x / 8 : Nat) : Int) from by simp, xor_u32 _ _ (rot_lt x _ hx) (rot_lt x _ hx), xor_u32 _ _ (xor_lt (rot_lt x _ hx) (rot_lt x _ hx)) (by omega)]
  rfl
theorem high_val (x : Nat) (hx : x < 4294967296) : bits .xor .u32 (bits .xor .u32 (rot x 17 : Int) (rot x 19 : Int)) ((x : Int) / 1024) = (sg1 x : Int) := by
  rw [show (x : Int) / 1024 = ((x / 1024 : Nat) : Int) from by simp, xor_u32 _ _ (rot_lt x _ hx) (rot_lt x _ hx), xor_u32 _ _ (xor_lt (rot_lt x _ hx) (rot_lt x _ hx)) (by omega)]
  rfl
theorem sum_val (a b : Nat) : IntKind.u32.wrap ((a : Int) + (b : Int)) = (((a + b) % 4294967296 : Nat) : Int) := by rw [← wrap_nat]; simp
theorem next_val (a x c y : Nat) (hx : x < 4294967296) (hy : y < 4294967296) :
    ((a : Int) + bits .xor .u32 (bits .xor .u32 (rot x 7 : Int) (rot x 18 : Int)) ((x : Int) / 8) + (c : Int) + bits .xor .u32 (bits .xor .u32 (rot y 17 : Int) (rot y 19 : Int)) ((y : Int) / 1024)) % 4294967296 =
      (((((a + sg0 x) % 4294967296 + c) % 4294967296 + sg1 y) % 4294967296 : Nat) : Int) := by
  rw [low_val x hx, high_val y hy]
  omega
theorem nextW_at (ws : List Nat) (m : Nat) (h : ws.length = m) : nextW ws = (((ws.getD (m - 16) 0 + sg0 (ws.getD (m - 15) 0)) % 4294967296 + ws.getD (m - 7) 0) % 4294967296 + sg1 (ws.getD (m - 2) 0)) % 4294967296 := by subst h; rfl
theorem int32_eq {a : Int} {b : Nat} (h : a = (b : Int)) : Value.int .u32 a = Value.int .u32 (b : Int) := by rw [h]
/-- One word more. -/
theorem Blk.word {w : World} {g n : Nat} {ws : List Nat} {T : TypeId} (h : Blk w g (u32A (padW 64 ws)) T) (hn : ws.length = n) (h64 : n < 64) {x : Int} {y : Nat} (hx : x = (y : Int)) : Blk (w.setCell ⟨g, n, none⟩ (.int .u32 x)) g (u32A (padW 64 (ws ++ [y]))) T := by
  subst hn hx
  have := h.set ws.length (.int .u32 (y : Int))
  rwa [u32A_set, padW_set h64] at this

set_option maxRecDepth 100000 in
set_option maxHeartbeats 1000000 in
theorem spread_any (g off : Nat) (p : List UInt8) (w : World) (hp : p.length = 64) (hr : Rd w w.heap.size (some ⟨g, off, none⟩) p) :
    Calls Tryd.prog 61 #[.pointer (some ⟨g, off, none⟩)] w fun e w' => e = .returned (.agg (u32A (schedTo p 48))) ∧ Below w.heap.size w w' := by
  have HP := Lib.hid hp
  clear hp
  go_enter Tryd.func61, Tryd.ntmps61
  go_wp2_with fail
  generalize hw0 : (w.alloc _).alloc _ = w0
  obtain ⟨k, hk⟩ : ∃ k, w.heap.size + 1 = k := ⟨_, rfl⟩
  have hst : Below w.heap.size w w0 ∧ Blk w0 k (u32A (padW 64 [])) 66 ∧ (∃ cs, Blk w0 w.heap.size cs 66 ∧ cs.size = 64) := by
    subst hw0 hk
    refine ⟨((Below.refl _ _).alloc (Nat.le_refl _) _).alloc (by simp) _, ?_, _, (Blk.new _ _ _).alloc _, rfl⟩
    have := Blk.new (w.alloc (.cells (List.replicate 64 (Value.int .u32 0)).toArray 66)) (u32A (padW 64 [])) 66
    rw [World.size_alloc] at this
    exact this
  rw [hk]
  obtain ⟨hb0, hB0, hC0⟩ := hst
  have HC0 := Lib.hid hC0
  have HB0 := Lib.hid hB0
  clear hw0 hB0 hC0
  have hwk : w.heap.size < k := by omega
  clear hk
  go_loopw [11] (fun t wr => ∃ i : Nat, i ≤ 16 ∧ t = .int .i64 i ∧ Below w.heap.size w wr ∧ Hid (Blk wr k (u32A (padW 64 (wordsTo p i))) 66) ∧ Hid (∃ cs, Blk wr w.heap.size cs 66 ∧ cs.size = 64)) (fun t _ => 16 - (intOf t).toNat)
  case atStart => exact ⟨0, by omega, rfl, hb0, HB0, HC0⟩
  case round =>
    obtain ⟨i, hi, rfl, hbel, HB, HC⟩ := hrel
    by_cases hlt : i < 16
    · obtain ⟨c0, c1, c2, c3⟩ := (hr.below hbel (Nat.le_refl _)).four (4 * i) (by rw [HP.out]; omega)
      have hl0 : (0 : Int) ≤ 4 * (i : Int) := by omega
      have hl1 : 4 * (i : Int) ≤ 64 := by omega
      have hl2 : (4 * (i : Int)).toNat = 4 * i := by omega
      have hl3 : ¬ 64 = 4 * i := by omega
      obtain ⟨q, hq⟩ : ∃ q, 64 - 4 * i = q := ⟨_, rfl⟩
      have q0 : 0 < q := by omega
      have i64 : (i : Int) < 64 := by omega
      have q1 : (1 : Int) < (q : Int) := by omega
      have q2 : (2 : Int) < (q : Int) := by omega
      have q3 : (3 : Int) < (q : Int) := by omega
      have hf := HB.out.frozen i
      obtain ⟨old, ho⟩ : ∃ old, wr.cell? ⟨k, i, none⟩ = some old := ⟨_, (HB.out.cell i).trans (u32A_get (by rw [padW_len (by rw [wordsTo_len]; omega)]; omega))⟩
      have HW := Lib.hid (word_def p i)
      have b0 := (p.getD (4 * i) 0).toNat_lt
      have b1 := (p.getD (4 * i + 1) 0).toNat_lt
      have b2 := (p.getD (4 * i + 2) 0).toNat_lt
      have b3 := (p.getD (4 * i + 3) 0).toNat_lt
      generalize p.getD (4 * i) 0 = y0 at *
      generalize p.getD (4 * i + 1) 0 = y1 at *
      generalize p.getD (4 * i + 2) 0 = y2 at *
      generalize p.getD (4 * i + 3) 0 = y3 at *
      go_wp2_with fail
      clear hl0 hl1 hl2 hl3 hq
      go_still_tail 24, (by kernel_rfl)
      go_wp2
      go_roundw
      case rel =>
        refine ⟨i + 1, by omega, by go_num, (hbel.drew).setCell (by simp; omega) _, Lib.hid ?_, Lib.hid ?_⟩
        · exact Blk.word (w := wr.drew) HB.out (wordsTo_len p i) (by omega) ((word_val y0 y1 y2 y3).trans (congrArg (fun n : Nat => (n : Int)) HW.out.symm))
        · obtain ⟨cs, hcs, hz⟩ := HC.out
          exact ⟨cs, Blk.other (w := wr.drew) hcs (by simp; omega) _, hz⟩
      case measure => simp [intOf]; omega
    · have HB1 := Lib.hid (show Blk wr k (u32A (padW 64 (schedTo p 0))) 66 by obtain rfl : i = 16 := (by omega); exact HB.out)
      clear HB hr hi
      obtain ⟨w1, rfl⟩ : ∃ x : World, x = wr := ⟨_, rfl⟩
      go_wp2_with fail
      go_loopw [6] (fun t wj => ∃ m : Nat, 16 ≤ m ∧ m ≤ 64 ∧ t = .int .i64 m ∧ Below w.heap.size w wj ∧ Hid (Blk wj k (u32A (padW 64 (schedTo p (m - 16)))) 66) ∧ Hid (∃ cs, Blk wj w.heap.size cs 66 ∧ cs.size = 64)) (fun t _ => 64 - (intOf t).toNat)
      case atStart => exact ⟨16, by omega, by omega, rfl, hbel, HB1, HC⟩
      case round =>
        clear hbel HB1 HC
        obtain ⟨m, hm, hm64, rfl, hbel, HB, HC⟩ := hrel
        by_cases hlt : m < 64
        · obtain ⟨j, hj⟩ : ∃ j, m - 16 = j := ⟨_, rfl⟩
          rw [hj] at HB
          have HL := Lib.hid (show (schedTo p j).length = m by rw [schedTo_len]; omega)
          have HN := Lib.hid (nextW_at _ m HL.out)
          have HJ := Lib.hid (show schedTo p (m + 1 - 16) = schedTo p j ++ [nextW (schedTo p j)] by rw [show m + 1 - 16 = j + 1 by omega]; rfl)
          have rd : ∀ i, i < m → wr.cell? ⟨k, i, none⟩ = some (.int .u32 ((schedTo p j).getD i 0 : Nat)) := fun i hi => by
            rw [HB.out.cell i, u32A_get (by rw [padW_len (by rw [HL.out]; omega)]; omega), padW_get (by rw [HL.out]; exact hi)]
          have c16 := rd (m - 16) (by omega)
          have c15 := rd (m - 15) (by omega)
          have c7 := rd (m - 7) (by omega)
          have c2 := rd (m - 2) (by omega)
          have hf := HB.out.frozen m
          obtain ⟨old, ho⟩ : ∃ old, wr.cell? ⟨k, m, none⟩ = some old := ⟨_, (HB.out.cell m).trans (u32A_get (by rw [padW_len (by rw [HL.out]; omega)]; omega))⟩
          have hx := getD_lt (sched_lt p j) (m - 15)
          have hy := getD_lt (sched_lt p j) (m - 2)
          generalize (schedTo p j).getD (m - 16) 0 = a at *
          generalize (schedTo p j).getD (m - 15) 0 = x at *
          generalize (schedTo p j).getD (m - 7) 0 = c at *
          generalize (schedTo p j).getD (m - 2) 0 = y at *
          clear rd hj
          have m64 : (m : Int) < 64 := by omega
          have g15 : (15 : Int) ≤ (m : Int) := by omega
          have l15 : (m : Int) - 15 < 64 := by omega
          have t15 : ((m : Int) - 15).toNat = m - 15 := by omega
          have g2 : (2 : Int) ≤ (m : Int) := by omega
          have l2 : (m : Int) - 2 < 64 := by omega
          have t2 : ((m : Int) - 2).toNat = m - 2 := by omega
          have s15 : IntKind.i64.wrap ((m : Int) - 15) = (m : Int) - 15 := IntWalk.i64_in _ (by omega)
          have s2 : IntKind.i64.wrap ((m : Int) - 2) = (m : Int) - 2 := IntWalk.i64_in _ (by omega)
          go_wp2_with fail
          go_quiet (fail)
          generalize hwq : wr.drewN nq = wq
          have e16 : wq.cell? ⟨k, m - 16, none⟩ = some (.int .u32 a) := by rw [← hwq]; exact c16
          have e7 : wq.cell? ⟨k, m - 7, none⟩ = some (.int .u32 c) := by rw [← hwq]; exact c7
          have ef : wq.frozen? ⟨k, m, none⟩ = false := by rw [← hwq]; exact hf
          have eo : wq.cell? ⟨k, m, none⟩ = some old := by rw [← hwq]; exact ho
          have hbq : Below w.heap.size w wq := by rw [← hwq]; exact below_drewN hbel _
          have HBq := Lib.hid (show Blk wq k (u32A (padW 64 (schedTo p j))) 66 by rw [← hwq]; exact HB.out)
          have HCq := Lib.hid (show ∃ cs, Blk wq w.heap.size cs 66 ∧ cs.size = 64 by rw [← hwq]; exact HC.out)
          clear c16 c7 hf ho hbel HB HC c15 c2 hwq
          go_wp2_with fail
          refine (rotl_at x 7 _ rfl _ hx (by decide) (by decide)).mono ?_
          rintro e w' ⟨rfl, rfl⟩
          go_wp2_with fail
          refine (rotl_at x 18 _ rfl _ hx (by decide) (by decide)).mono ?_
          rintro e w' ⟨rfl, rfl⟩
          go_wp2_with fail
          refine (rotl_at y 17 _ rfl _ hy (by decide) (by decide)).mono ?_
          rintro e w' ⟨rfl, rfl⟩
          go_wp2_with fail
          refine (rotl_at y 19 _ rfl _ hy (by decide) (by decide)).mono ?_
          rintro e w' ⟨rfl, rfl⟩
          clear s15 s2 t15 t2 g15 g2 l15 l2
          have g16 : (16 : Int) ≤ (m : Int) := by omega
          have l16 : (m : Int) - 16 < 64 := by omega
          have t16 : ((m : Int) - 16).toNat = m - 16 := by omega
          have g7 : (7 : Int) ≤ (m : Int) := by omega
          have l7 : (m : Int) - 7 < 64 := by omega
          have t7 : ((m : Int) - 7).toNat = m - 7 := by omega
          have s16 : IntKind.i64.wrap ((m : Int) - 16) = (m : Int) - 16 := IntWalk.i64_in _ (by omega)
          have s7 : IntKind.i64.wrap ((m : Int) - 7) = (m : Int) - 7 := IntWalk.i64_in _ (by omega)
          go_wp2_with fail
          go_still_tail 15, (by kernel_rfl)
          clear s16 t16 l16 g16 s7 t7 l7 g7
          go_wp2
          go_roundw
          case rel =>
            refine ⟨m + 1, by omega, by omega, by go_num, (hbq.drew).setCell (by simp; omega) _, Lib.hid ?_, Lib.hid ?_⟩
            · rw [HJ.out, HN.out]
              exact Blk.word (w := wq.drew) HBq.out HL.out (by omega) (next_val a x c y hx hy)
            · obtain ⟨cs, hcs, hz⟩ := HCq.out
              exact ⟨cs, Blk.other (w := wq.drew) hcs (by simp; omega) _, hz⟩
          case measure => simp [intOf]; omega
        · have hfin : Blk wr k (u32A (schedTo p 48)) 66 := by obtain rfl : m = 64 := (by omega); have := HB.out; rwa [padW_full (by rw [schedTo_len])] at this
          have hsz : (u32A (schedTo p 48)).size = 64 := by rw [u32A_size, schedTo_len]
          have hone := u32A_one (schedTo p 48)
          obtain ⟨fin, hfe⟩ : ∃ x, u32A (schedTo p 48) = x := ⟨_, rfl⟩
          rw [hfe] at hfin hsz hone
          have HFE := Lib.hid hfe
          clear hfe
          have HZ := Lib.hid hsz
          have HONE := Lib.hid hone
          clear HB hm hm64 hsz hone
          obtain ⟨cs, hcs, hz⟩ := HC.out
          have HCZ := Lib.hid hz
          have hin := hcs.lt
          clear hz HC HC0 HB0 hb0
          go_wp2_with (first
            | (with_reducible refine wpList_load_blk rfl 66 (.tmp 3) rfl k rfl 66 fin _ hfin Tryd.underlying66 rfl (by rw [HZ.out]; kernel_rfl) ?_)
            | (with_reducible refine wpList_store_blk rfl 66 (.tmp 2) (.tmp 87) rfl w.heap.size fin rfl rfl 66 cs hcs (by rw [HZ.out]; kernel_rfl) (by rw [HZ.out, HCZ.out]) HONE.out ?_))
          refine bodyPost_ret (v := .agg fin) (results_cell_row (p := 2) (ty := 66) (by kernel_rfl) _ _ w.heap.size 66 _ (0, 0) _ rfl (hcs.row fin) Tryd.underlying66 rfl (by rw [HZ.out]; kernel_rfl)) rfl ⟨by rw [HFE.out], below_row hbel (by omega) (Nat.le_refl _) _⟩
end Go.Proofs.YtciflbkgfmbfdaaDoor
namespace Go.Proofs.YtciflbkgfmbfdaaDoor
open Go.RowKit

theorem h8_cells {w : World} {b : Nat} {H : H8} {T : TypeId} (h : Blk w b (h8 H) T) : w.cell? ⟨b, 0, none⟩ = some (.int .u32 (H.a : Int)) ∧ w.cell? ⟨b, 1, none⟩ = some (.int .u32 (H.b : Int)) ∧ w.cell? ⟨b, 2, none⟩ = some (.int .u32 (H.c : Int)) ∧ w.cell? ⟨b, 3, none⟩ = some (.int .u32 (H.d : Int)) ∧ w.cell? ⟨b, 4, none⟩ = some (.int .u32 (H.e : Int)) ∧ w.cell? ⟨b, 5, none⟩ = some (.int .u32 (H.f : Int)) ∧ w.cell? ⟨b, 6, none⟩ = some (.int .u32 (H.g : Int)) ∧ w.cell? ⟨b, 7, none⟩ = some (.int .u32 (H.h : Int)) :=
  ⟨h.cell 0, h.cell 1, h.cell 2, h.cell 3, h.cell 4, h.cell 5, h.cell 6, h.cell 7⟩

/-- The first i words of the sum, behind them those of S. -/
def addTo (H S : H8) (i : Nat) : List Nat := (list8 (plus8 H S)).take i ++ (list8 S).drop i
theorem addTo_len (H S : H8) (i : Nat) : (addTo H S i).length = 8 := by simp [addTo, list8]; omega
theorem addTo_get (H S : H8) (i : Nat) (h : i < 8) : (addTo H S i).getD i 0 = (list8 S).getD i 0 := by
  match i, h with
  | 0, _ | 1, _ | 2, _ | 3, _ | 4, _ | 5, _ | 6, _ | 7, _ => rfl
theorem addTo_set (H S : H8) (i : Nat) (h : i < 8) : (addTo H S i).set i (((list8 S).getD i 0 + (list8 H).getD i 0) % 4294967296) = addTo H S (i + 1) := by
  match i, h with
  | 0, _ | 1, _ | 2, _ | 3, _ | 4, _ | 5, _ | 6, _ | 7, _ => simp [addTo, list8, plus8, Nat.add_comm]
theorem addTo_end (H S : H8) : addTo H S 8 = list8 (plus8 H S) := rfl
theorem list8_lt {H : H8} (h : H.ok) : ∀ x ∈ list8 H, x < 4294967296 := by
  obtain ⟨h1, h2, h3, h4, h5, h6, h7, h8⟩ := h
  intro x hx
  simp only [list8, List.mem_cons, List.not_mem_nil, or_false] at hx
  rcases hx with rfl | rfl | rfl | rfl | rfl | rfl | rfl | rfl <;> assumption

/-- What stands in memory while the rounds go. -/
def MixIn (w0 w : World) (bw br ka : Nat) (ws : List Nat) (H : H8) : Prop :=
  Blk w bw (u32A ws) 66 ∧ Blk w w0.heap.size (h8 H) 77 ∧ Blk w ka (u32Cells kL).toArray 82 ∧ (∃ cs, Blk w br cs 77 ∧ cs.size = 8) ∧ Below w0.heap.size w0 w ∧ bw < w.heap.size
theorem MixIn.drewN {w0 w : World} {bw br ka : Nat} {ws : List Nat} {H : H8} (h : MixIn w0 w bw br ka ws H) (n : Nat) : MixIn w0 (w.drewN n) bw br ka ws H :=
  ⟨h.1, h.2.1, h.2.2.1, h.2.2.2.1, below_drewN h.2.2.2.2.1 n, h.2.2.2.2.2⟩

/-- What stands in memory while the sum is made. -/
def AddIn (w0 w : World) (ba br : Nat) (H S : H8) (i : Nat) : Prop :=
  Blk w ba (u32A (addTo H S i)) 77 ∧ Blk w w0.heap.size (h8 H) 77 ∧ (∃ cs, Blk w br cs 77 ∧ cs.size = 8) ∧ Below w0.heap.size w0 w

set_option maxRecDepth 100000 in
set_option maxHeartbeats 1000000 in
theorem mix_any (H : H8) (g off ka : Nat) (p : List UInt8) (w : World) (hH : H.ok) (hp : p.length = 64) (hr : Rd w w.heap.size (some ⟨g, off, none⟩) p) (hk : Blk w ka (u32Cells kL).toArray 82) :
    Calls Tryd.prog 58 #[.agg (h8 H), .pointer (some ⟨g, off, none⟩), .pointer (some ⟨ka, 0, none⟩)] w fun e w' => e = .returned (.agg (h8 (comp H p))) ∧ Below w.heap.size w w' := by
  have HP := Lib.hid hp
  have HK := Lib.hid hk
  have hkl := hk.lt
  have HH := Lib.hid hH
  clear hp hk hH
  go_enter Tryd.func58, Tryd.ntmps58
  go_wp2_with fail
  generalize hwa : (w.alloc _).alloc _ = wa
  obtain ⟨br, hbr⟩ : ∃ x, w.heap.size + 1 = x := ⟨_, rfl⟩
  have hst : Below w.heap.size w wa ∧ Blk wa w.heap.size (h8 H) 77 ∧ (∃ cs, Blk wa br cs 77 ∧ cs.size = 8) := by
    subst hwa hbr
    refine ⟨((Below.refl _ _).alloc (Nat.le_refl _) _).alloc (by simp) _, (Blk.new _ _ _).alloc _, (List.replicate 8 (Value.int .u32 0)).toArray, ?_, rfl⟩
    have := Blk.new (w.alloc (.cells (h8 H) 77)) (List.replicate 8 (Value.int .u32 0)).toArray 77
    rw [World.size_alloc] at this
    exact this
  obtain ⟨hba, hBa, hRa⟩ := hst
  rw [hbr]
  clear hwa
  refine (spread_any g off p _ HP.out ((hr.below hba (Nat.le_refl _)).more hba.size)).mono ?_
  rintro e w1 ⟨rfl, hb1⟩
  have hbrl : br < wa.heap.size := by obtain ⟨_, h, _⟩ := hRa; exact h.lt
  have hbel1 := Below.then hba hb1
  have HB1 := Lib.hid (hBa.below hb1 hBa.lt)
  have HR1 := Lib.hid (show ∃ cs, Blk w1 br cs 77 ∧ cs.size = 8 by obtain ⟨cs, h, hz⟩ := hRa; exact ⟨cs, h.below hb1 hbrl, hz⟩)
  have hs1 := hb1.size
  have hwl : w.heap.size < br := by omega
  have HK1 := Lib.hid (HK.out.below hbel1 hkl)
  have HWL := Lib.hid (schedTo_len p 48)
  have hws := sched_lt p 48
  obtain ⟨ws, hwe⟩ : ∃ x, schedTo p 48 = x := ⟨_, rfl⟩
  have HWE := Lib.hid (show comp H p = plus8 H (rndsTo ws H 64) by unfold comp; rw [hwe])
  rw [hwe] at HWL hws ⊢
  have HWS := Lib.hid hws
  have HWZ := Lib.hid (show (u32A ws).size = 64 by rw [u32A_size, HWL.out])
  clear hbr hba hBa hRa hb1 hwe hws
  go_wp2_with (with_reducible refine wpList_store_blk rfl 66 (.tmp 7) (.tmp 24) rfl w1.heap.size (u32A ws) rfl rfl 66 _ (Blk.new w1 _ _) (by rw [HWZ.out]; kernel_rfl) (by rw [HWZ.out]; kernel_rfl) (u32A_one _) ?_)
  generalize hw2 : World.setRow _ _ _ = w2
  have hst : Below w1.heap.size w1 w2 ∧ Blk w2 w1.heap.size (u32A ws) 66 := by
    subst hw2
    exact ⟨below_row ((Below.refl _ _).alloc (Nat.le_refl _) _) (by simp) (Nat.le_refl _) _, (Blk.new w1 _ _).row _⟩
  obtain ⟨hb2, hW2⟩ := hst
  obtain ⟨c0, c1, c2, c3, c4, c5, c6, c7⟩ := h8_cells (HB1.out.below hb2 (by omega))
  have HB2 := Lib.hid (HB1.out.below hb2 (by omega))
  have HK2 := Lib.hid (HK1.out.below hb2 (by omega))
  have HR2 := Lib.hid (show ∃ cs, Blk w2 br cs 77 ∧ cs.size = 8 by obtain ⟨cs, h, hz⟩ := HR1.out; exact ⟨cs, h.below hb2 (by omega), hz⟩)
  have HW2 := Lib.hid hW2
  have hbel2 := hbel1.trans (hb2.mono (by omega))
  have hbw2 := hW2.lt
  obtain ⟨bw, hbw⟩ : ∃ x, w1.heap.size = x := ⟨_, rfl⟩
  have hbw1 : br < bw := by omega
  rw [hbw] at HW2 hbw2 ⊢
  clear hw2 hb2 hW2 HB1 HK1 HR1 hbel1 hs1 hbrl hbw
  go_wp2_with fail
  go_quiet (fail)
  clear c0 c1 c2 c3 c4 c5 c6 c7
  generalize hwq : w2.drewN nq = wq
  have hst : MixIn w wq bw br ka ws H := by
    subst hwq; exact ⟨HW2.out, HB2.out, HK2.out, HR2.out, below_drewN hbel2 _, hbw2⟩
  have HST := Lib.hid hst
  clear hst hwq HB2 HK2 HR2 HW2 hbel2 hbw2
  go_wp2_with fail
  go_loopw [8, 9, 10, 11, 12, 13, 14, 15, 41] (fun va vb vc vd ve vf vg vh t wr => ∃ (j : Nat) (S : H8), j ≤ 64 ∧ t = .int .i64 j ∧ Hid (S = rndsTo ws H j) ∧ va = .int .u32 S.a ∧ vb = .int .u32 S.b ∧ vc = .int .u32 S.c ∧ vd = .int .u32 S.d ∧ ve = .int .u32 S.e ∧ vf = .int .u32 S.f ∧ vg = .int .u32 S.g ∧ vh = .int .u32 S.h ∧ Hid S.ok ∧ Hid (MixIn w wr bw br ka ws H)) (fun _ _ _ _ _ _ _ _ t _ => 64 - (intOf t).toNat)
  case atStart => exact ⟨0, H, by omega, rfl, Lib.hid rfl, rfl, rfl, rfl, rfl, rfl, rfl, rfl, rfl, HH, HST⟩
  case round =>
    clear HST
    obtain ⟨j, S, hj, rfl, HS, rfl, rfl, rfl, rfl, rfl, rfl, rfl, rfl, HO, HST⟩ := hrel
    by_cases hlt : j < 64
    · have HN := Lib.hid (show rnd S ((kL.getD j 0).toNat) (ws.getD j 0) = rndsTo ws H (j + 1) by rw [HS.out]; rfl)
      have HON := Lib.hid (rnd_ok S ((kL.getD j 0).toNat) (ws.getD j 0) HO.out)
      obtain ⟨ck, hkl2⟩ := kL_get j hlt
      have cw := (HST.out.1.cell j).trans (u32A_get (ns := ws) (i := j) (by rw [HWL.out]; omega))
      have hwl2 := getD_lt HWS.out j
      have ck2 := (HST.out.2.2.1.cell j).trans ck
      obtain ⟨o1, o2, o3, o4, o5, o6, o7, o8⟩ := HO.out
      obtain ⟨s1, s2, s3, s4, s5, s6, s7, s8⟩ := S
      simp only at o1 o2 o3 o4 o5 o6 o7 o8 ⊢
      generalize (kL.getD j 0).toNat = kj at *
      generalize ws.getD j 0 = wj at *
      have HCH := Lib.hid (chs_val s5 s6 s7 o5 o6 o7)
      have HMJ := Lib.hid (maj_val s1 s2 s3 o1 o2 o3)
      have j64 : (j : Int) < 64 := by omega
      clear HS HO ck hj
      go_wp2_with fail
      go_quiet ((go_at_call 62; exact Calls.quiet_of_same (turns_bg1 _ _ o5)))
      have hstq := HST.out.drewN nq
      generalize wr.drewN nq = wz at *
      have HSTQ := Lib.hid hstq
      clear hstq HST ck2 cw
      go_wp2_with fail
      refine (turns_bg0 _ _ o1).mono ?_
      rintro e w' ⟨rfl, rfl⟩
      go_wp2_with fail
      go_roundw
      case rel =>
        refine ⟨j + 1, _, by omega, by go_num, HN, ?_, rfl, rfl, rfl, ?_, rfl, rfl, rfl, HON, HSTQ⟩
        · rw [HCH.out, HMJ.out]
          exact congrArg _ (by simp only [rnd]; omega)
        · rw [HCH.out]
          exact congrArg _ (by simp only [rnd]; omega)
      case measure => simp [intOf]; omega
    · have HE := Lib.hid (show comp H p = plus8 H S by obtain rfl : j = 64 := (by omega); rw [HWE.out, HS.out])
      have hbz := HST.out.2.2.2.2.2
      obtain ⟨w5, rfl⟩ : ∃ x : World, x = wr := ⟨_, rfl⟩
      clear HS hj HWE
      go_wp2_with (with_reducible refine wpList_store_blk rfl 77 (.tmp 21) (.tmp 104) rfl w5.heap.size #[.int .u32 S.a, .int .u32 S.b, .int .u32 S.c, .int .u32 S.d, .int .u32 S.e, .int .u32 S.f, .int .u32 S.g, .int .u32 S.h] rfl rfl 77 _ (Blk.new w5 _ _) (by kernel_rfl) (by kernel_rfl) (by kernel_rfl) ?_)
      generalize hw6 : World.setRow _ _ _ = w6
      obtain ⟨ba, hba⟩ : ∃ x, w5.heap.size = x := ⟨_, rfl⟩
      have hst : AddIn w w6 ba br H S 0 := by
        subst hw6
        obtain ⟨m1, m2, m3, ⟨cs, m4, m4z⟩, m5, m6⟩ := HST.out
        rw [hba]
        refine ⟨?_, ?_, ⟨cs, ?_, m4z⟩, ?_⟩
        · have := (Blk.new w5 #[.int .u32 0, .int .u32 0, .int .u32 0, .int .u32 0, .int .u32 0, .int .u32 0, .int .u32 0, .int .u32 0] 77).row (u32A (addTo H S 0))
          rw [hba] at this
          exact this
        · exact (m2.alloc _).rowOther (by omega) _
        · exact (m4.alloc _).rowOther (by omega) _
        · exact below_row (m5.alloc (by have := m5.size; omega) _) (by have := m5.size; simp; omega) (by have := m5.size; omega) _
      have hbr : br < ba := by omega
      have HA := Lib.hid hst
      rw [hba]
      clear hst hw6 HST hbz hba
      go_wp2_with fail
      go_loopw [105] (fun t wr => ∃ i : Nat, i ≤ 8 ∧ t = .int .i64 i ∧ Hid (AddIn w wr ba br H S i)) (fun t _ => 8 - (intOf t).toNat)
      case atStart => exact ⟨0, by omega, rfl, HA⟩
      case round =>
        clear HA
        obtain ⟨i, hi, rfl, HA⟩ := hrel
        by_cases hi8 : i < 8
        · obtain ⟨a1, a2, a3, a4⟩ := HA.out
          have ca := (a1.cell i).trans (u32A_get (by rw [addTo_len]; exact hi8))
          rw [addTo_get H S i hi8] at ca
          have cb := (a2.cell i).trans (u32A_get (by show i < 8; exact hi8))
          have fa := a1.frozen i
          have HSET := Lib.hid (addTo_set H S i hi8)
          have A1 := Lib.hid a1
          have A2 := Lib.hid a2
          have A3 := Lib.hid a3
          have la := getD_lt (list8_lt HO.out) i
          have lb := getD_lt (list8_lt HH.out) i
          generalize (list8 S).getD i 0 = x at *
          generalize (list8 H).getD i 0 = y at *
          have hi8' : (i : Int) < 8 := by omega
          clear a1 a2 a3 HA hi
          go_wp2_with fail
          go_still_tail 8, (by kernel_rfl)
          go_wp2
          go_roundw
          case rel =>
            refine ⟨i + 1, by omega, by go_num, Lib.hid ⟨?_, ?_, ?_, ?_⟩⟩
            · have hset := Blk.set (w := wr.drew) A1.out i (.int .u32 (((x + y) % 4294967296 : Nat) : Int))
              rw [u32A_set, HSET.out] at hset
              refine Eq.mp (congrArg (fun v => Blk (World.setCell wr.drew ⟨ba, i, none⟩ (.int .u32 v)) ba (u32A (addTo H S (i + 1))) 77) ?_) hset
              omega
            · exact Blk.other (w := wr.drew) A2.out (by simp; omega) _
            · obtain ⟨cs, h, hz⟩ := A3.out
              exact ⟨cs, Blk.other (w := wr.drew) h (by simp; omega) _, hz⟩
            · exact a4.drew.setCell (by simp; omega) _
          case measure => simp [intOf]; omega
        · obtain ⟨a1, a2, ⟨cs, a3, a3z⟩, a4⟩ := HA.out
          have hA : Blk wr ba (h8 (plus8 H S)) 77 := by obtain rfl : i = 8 := (by omega); exact a1
          rw [← HE.out] at hA
          obtain ⟨fin, hfe⟩ : ∃ x, h8 (comp H p) = x := ⟨_, rfl⟩
          have hsz := h8_size (comp H p)
          have hone := h8_one (comp H p)
          rw [hfe] at hA hsz hone
          have HFE := Lib.hid hfe
          have HZ := Lib.hid hsz
          have HONE := Lib.hid hone
          have HCZ := Lib.hid a3z
          have hin := a3.lt
          clear hfe hsz hone a3z a1 a2 HA hi
          go_wp2_with (first
            | (with_reducible refine wpList_load_blk rfl 77 (.tmp 21) rfl ba rfl 77 fin _ hA Tryd.underlying77 rfl (by rw [HZ.out]; kernel_rfl) ?_)
            | (with_reducible refine wpList_store_blk rfl 77 (.tmp 6) (.tmp 117) rfl br fin rfl rfl 77 cs a3 (by rw [HZ.out]; kernel_rfl) (by rw [HZ.out, HCZ.out]) HONE.out ?_))
          refine bodyPost_ret (v := .agg fin) (results_cell_row (p := 6) (ty := 77) (by kernel_rfl) _ _ br 77 _ (0, 0) _ rfl (a3.row fin) Tryd.underlying77 rfl (by rw [HZ.out]; kernel_rfl)) rfl ⟨by rw [HFE.out], below_row a4 (by have := a4.size; omega) (by omega) _⟩
end Go.Proofs.YtciflbkgfmbfdaaDoor
namespace Go.Proofs.YtciflbkgfmbfdaaDoor
open Go.RowKit

def shaA (H : H8) (op : List UInt8) (n : Nat) : Array Value := (((list8 H).map fun (x : Nat) => Value.int .u32 (x : Int)) ++ Lib.byteCells op ++ [Value.int .i64 (n : Int)]).toArray
theorem shaA_size (H : H8) (op : List UInt8) (n : Nat) (h : op.length = 64) : (shaA H op n).size = 73 := by simp [shaA, list8, Lib.byteCells, h]
theorem shaA_word (H : H8) (op : List UInt8) (n i : Nat) (h : i < 8) : (shaA H op n)[i]? = some (.int .u32 ((list8 H).getD i 0 : Nat)) := by
  match i, h with
  | 0, _ | 1, _ | 2, _ | 3, _ | 4, _ | 5, _ | 6, _ | 7, _ => rfl
theorem shaA_open (H : H8) (op : List UInt8) (n i : Nat) (h : i < op.length) : (shaA H op n)[8 + i]? = some (.int .u8 (op[i].toNat : Int)) := by
  rw [Nat.add_comm]
  simp only [shaA, list8, Lib.byteCells, List.map_cons, List.map_nil, List.getElem?_toArray, List.cons_append, List.nil_append, List.getElem?_cons_succ]
  rw [List.getElem?_append_left (by simpa using h)]
  simp [h]
theorem shaA_count (H : H8) (op : List UInt8) (n : Nat) (h : op.length = 64) : (shaA H op n)[72]? = some (.int .i64 (n : Int)) := by
  simp [shaA, list8, Lib.byteCells, h]
theorem shaA_setCount (H : H8) (op : List UInt8) (n m : Nat) (h : op.length = 64) : (shaA H op n).setIfInBounds 72 (.int .i64 (m : Int)) = shaA H op m := by
  unfold shaA
  rw [List.setIfInBounds_toArray, List.set_append_right _ _ (by simp [list8, Lib.byteCells, h])]
  simp [list8, Lib.byteCells, h]
theorem shaA_splice (H : H8) (op x : List UInt8) (n k : Nat) (h : op.length = 64) (hx : k + x.length ≤ 64) :
    ((shaA H op n).toList.take (8 + k) ++ Lib.byteCells x ++ (shaA H op n).toList.drop (8 + k + (Lib.byteCells x).length)).toArray = shaA H (op.take k ++ x ++ op.drop (k + x.length)) n := by
  unfold shaA
  simp only [List.append_assoc]
  rw [Lib.byteCells_length]
  have e8 : ((list8 H).map fun (x : Nat) => Value.int .u32 (x : Int)).length = 8 := rfl
  generalize ((list8 H).map fun (x : Nat) => Value.int .u32 (x : Int)) = hh at e8
  rw [List.take_append, e8, show 8 + k - 8 = k by omega, List.take_of_length_le (by omega), List.take_append_of_le_length (by rw [Lib.byteCells_length]; omega)]
  rw [List.drop_append, e8, show 8 + k + x.length - 8 = k + x.length by omega, List.drop_of_length_le (show hh.length ≤ 8 + k + x.length by omega), List.nil_append, List.drop_append_of_le_length (by rw [Lib.byteCells_length]; omega)]
  simp [Lib.byteCells, List.map_take, List.map_drop]

def shaB (H : H8) : List Value := (list8 H).map fun (x : Nat) => Value.int .u32 (x : Int)
theorem Blk.words {w : World} {g n : Nat} {H : H8} {op : List UInt8} {T : TypeId} (h : Blk w g (shaA H op n) T) (H' : H8) : Blk (w.setCells g 0 (h8 H').toList) g (shaA H' op n) T := by
  have s := (((((((h.set 0 (.int .u32 (H'.a : Int))).set 1 (.int .u32 (H'.b : Int))).set 2 (.int .u32 (H'.c : Int))).set 3 (.int .u32 (H'.d : Int))).set 4 (.int .u32 (H'.e : Int))).set 5 (.int .u32 (H'.f : Int))).set 6 (.int .u32 (H'.g : Int))).set 7 (.int .u32 (H'.h : Int))
  have e : (((((((((shaA H op n).setIfInBounds 0 (.int .u32 (H'.a : Int))).setIfInBounds 1 (.int .u32 (H'.b : Int))).setIfInBounds 2 (.int .u32 (H'.c : Int))).setIfInBounds 3 (.int .u32 (H'.d : Int))).setIfInBounds 4 (.int .u32 (H'.e : Int))).setIfInBounds 5 (.int .u32 (H'.f : Int))).setIfInBounds 6 (.int .u32 (H'.g : Int))).setIfInBounds 7 (.int .u32 (H'.h : Int))) = shaA H' op n := by
    simp [shaA, list8]
  rw [e] at s
  exact s

/-- The j-th block hangs on what stands ahead of its end alone. -/
theorem blocksTo_ext (m x : List UInt8) : ∀ j, 64 * j ≤ m.length → blocksTo (m ++ x) j = blocksTo m j
  | 0, _ => rfl
  | j + 1, h => by
    show comp (blocksTo (m ++ x) j) _ = comp (blocksTo m j) _
    rw [blocksTo_ext m x j (by omega), List.drop_append_of_le_length (by omega), List.take_append_of_le_length (by rw [List.length_drop]; omega)]

/-- At block g stands a hash into which m has been written. -/
def ShaAt (w : World) (g : Nat) (m : List UInt8) : Prop :=
  ∃ op : List UInt8, op.length = 64 ∧ op.take (m.length % 64) = m.drop (64 * (m.length / 64)) ∧ Blk w g (shaA (blocksTo m (m.length / 64)) op m.length) 81
theorem ShaAt.lt {w : World} {g : Nat} {m : List UInt8} (h : ShaAt w g m) : g < w.heap.size := by obtain ⟨_, _, _, h⟩ := h; exact h.lt
theorem ShaAt.drewN {w : World} {g : Nat} {m : List UInt8} (h : ShaAt w g m) (n : Nat) : ShaAt (w.drewN n) g m := h
theorem ShaAt.below {w w' : World} {g B : Nat} {m : List UInt8} (h : ShaAt w g m) (hb : Below B w w') (hg : g < B) : ShaAt w' g m := by
  obtain ⟨op, h1, h2, h3⟩ := h; exact ⟨op, h1, h2, h3.below hb hg⟩
theorem ShaAt.grown {w w' : World} {g : Nat} {m : List UInt8} {row : Option Nat} (h : ShaAt w g m) (hg : w.grownBy w' row) (hr : some g ≠ row) : ShaAt w' g m := by
  obtain ⟨op, h1, h2, h3⟩ := h; exact ⟨op, h1, h2, h3.grown hg hr⟩

/-- The open block with x put in, where the block does not become whole. -/
theorem open_more (m x op : List UInt8) (ho : op.length = 64) (h : op.take (m.length % 64) = m.drop (64 * (m.length / 64))) (hx : m.length % 64 + x.length < 64) :
    (op.take (m.length % 64) ++ x ++ op.drop (m.length % 64 + x.length)).take ((m ++ x).length % 64) = (m ++ x).drop (64 * ((m ++ x).length / 64)) ∧ blocksTo (m ++ x) ((m ++ x).length / 64) = blocksTo m (m.length / 64) := by
  have e : (m ++ x).length / 64 = m.length / 64 := by rw [List.length_append]; omega
  have e2 : (m ++ x).length % 64 = m.length % 64 + x.length := by rw [List.length_append]; omega
  have hl : (op.take (m.length % 64)).length = m.length % 64 := by rw [List.length_take]; omega
  rw [e, e2]
  refine ⟨?_, blocksTo_ext m x _ (by omega)⟩
  rw [List.take_append_of_le_length (by rw [List.length_append, hl]; exact Nat.le_refl _), List.take_of_length_le (by rw [List.length_append, hl]; exact Nat.le_refl _), List.drop_append_of_le_length (by omega), h]
/-- .. and where it does. -/
theorem open_full (m x op : List UInt8) (ho : op.length = 64) (h : op.take (m.length % 64) = m.drop (64 * (m.length / 64))) (hx : m.length % 64 + x.length = 64) :
    comp (blocksTo m (m.length / 64)) (op.take (m.length % 64) ++ x ++ op.drop (m.length % 64 + x.length)) = blocksTo (m ++ x) ((m ++ x).length / 64) ∧ (m ++ x).length % 64 = 0 ∧ (m ++ x).drop (64 * ((m ++ x).length / 64)) = [] := by
  have e : (m ++ x).length / 64 = m.length / 64 + 1 := by rw [List.length_append]; omega
  have e2 : (m ++ x).length % 64 = 0 := by rw [List.length_append]; omega
  refine ⟨?_, e2, List.drop_of_length_le (by omega)⟩
  rw [e]
  show _ = comp (blocksTo (m ++ x) (m.length / 64)) (((m ++ x).drop (64 * (m.length / 64))).take 64)
  rw [blocksTo_ext m x _ (by omega), List.drop_append_of_le_length (by omega), ← h, List.drop_of_length_le (l := op) (by omega), List.append_nil, List.take_of_length_le (l := op.take (m.length % 64) ++ x)]
  rw [List.length_append, List.length_take]; omega
end Go.Proofs.YtciflbkgfmbfdaaDoor
