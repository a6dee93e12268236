/- What DiskTears looks at: rows of one byte; sectors that are written, and that tear. -/
import Derived.Test.YtclmnpfmodlnjaaWakes10
namespace Go.Proofs.Ytclmnpfmodlnjaa
open Go.RowKit

theorem layL_get {B l : List UInt8} {o : Nat} (h : o + l.length ≤ B.length) (t : Nat) : (layL B o l)[t]? = if o ≤ t ∧ t < o + l.length then l[t - o]? else B[t]? := by
  unfold layL
  rw [List.append_assoc]
  by_cases h1 : t < o
  · rw [if_neg (by omega), List.getElem?_append_left (by rw [List.length_take]; omega), List.getElem?_take, if_pos h1]
  · have h2 : (B.take o).length = o := by rw [List.length_take]; omega
    rw [List.getElem?_append_right (by omega), h2]
    by_cases h3 : t < o + l.length
    · rw [if_pos ⟨by omega, h3⟩, List.getElem?_append_left (by omega)]
    · rw [if_neg (by omega), List.getElem?_append_right (by omega), List.getElem?_drop]
      congr 1
      omega
/-- The byte k of sector j, behind i writes of twos over ones, where the disk stops at a, and keeps K. -/
def tearB (a K i j k : Nat) : UInt8 := if j < i ∧ (j < a ∨ (j = a ∧ k < K)) then 2 else 1
def Sec (s : Dsk) (f : Nat → Nat → UInt8) : Prop := s.B.length = 320 ∧ ∀ j k, j < 10 → k < 32 → s.B[j * 32 + k]? = some (f j k)
theorem Sec.sec {s : Dsk} {f : Nat → Nat → UInt8} (h : Sec s f) {j k : Nat} (hj : j < 10) (hk : k < 32) : (s.sec j)[k]? = some (f j k) := by
  unfold Dsk.sec
  rw [List.getElem?_take, if_pos hk, List.getElem?_drop]
  exact h.2 j k hj hk
theorem Sec.lay {s : Dsk} {f : Nat → Nat → UInt8} (h : Sec s f) {i : Nat} (hi : i < 10) (l : List UInt8) (hl : l.length ≤ 32) {B : List UInt8} (hB : B = layL s.B (i * 32) l) (s' : Dsk) (hs : s'.B = B) : Sec s' (fun j k => if j = i ∧ k < l.length then l.getD k 0 else f j k) := by
  have hle : i * 32 + l.length ≤ s.B.length := by rw [h.1]; omega
  refine ⟨by rw [hs, hB, layL_len hle, h.1], fun j k hj hk => ?_⟩
  rw [hs, hB, layL_get hle]
  show _ = some (if j = i ∧ k < l.length then l.getD k 0 else f j k)
  by_cases h1 : j = i ∧ k < l.length
  · rw [if_pos h1]
    obtain ⟨rfl, h2⟩ := h1
    rw [if_pos ⟨by omega, by omega⟩, Nat.add_sub_cancel_left, List.getD_eq_getElem?_getD, List.getElem?_eq_getElem h2]
    rfl
  · rw [if_neg (by omega), if_neg h1]
    exact h.2 j k hj hk
theorem Sec.congr {s : Dsk} {f g : Nat → Nat → UInt8} (h : Sec s f) (hg : ∀ j k, j < 10 → k < 32 → f j k = g j k) : Sec s g := ⟨h.1, fun j k hj hk => by rw [h.2 j k hj hk, hg j k hj hk]⟩
def rowL (c : UInt8) : List UInt8 := List.replicate 32 c
theorem rowL_len (c : UInt8) : (rowL c).length = 32 := List.length_replicate ..
theorem rowL_pad (c : UInt8) : padB 32 (rowL c) = rowL c := padB_full (rowL_len c)
theorem rowL_at {c : UInt8} {k : Nat} (hk : k < 32) : (rowL c).getD k 0 = c := by
  unfold rowL
  rw [List.getD_eq_getElem?_getD, List.getElem?_replicate, if_pos hk]
  rfl
theorem Sec.well {s : Dsk} {f : Nat → Nat → UInt8} (h : Sec s f) {i : Nat} (hi : i < 10) (c : UInt8) : Sec (s.well i (rowL c)) (fun j k => if j = i then c else f j k) := by
  have := h.lay hi (rowL c) (Nat.le_of_eq (rowL_len c)) (B := (s.well i (rowL c)).B) (by show layL _ _ _ = _; rw [rowL_pad]) _ rfl
  refine this.congr fun j k hj hk => ?_
  rw [rowL_len]
  by_cases e : j = i
  · rw [if_pos ⟨e, hk⟩, if_pos e, rowL_at hk]
  · rw [if_neg (fun h => e h.1), if_neg e]
theorem Sec.tear {s : Dsk} {f : Nat → Nat → UInt8} (h : Sec s f) {i K : Nat} (hi : i < 10) (hK : s.keep = K) (hK32 : K ≤ 32) (c : UInt8) : Sec (s.tear i (rowL c)) (fun j k => if j = i ∧ k < K then c else f j k) := by
  have hl : ((rowL c).take K).length = K := by rw [List.length_take, rowL_len]; omega
  have := h.lay hi ((rowL c).take K) (by omega) (B := (s.tear i (rowL c)).B) (by show layL _ _ _ = _; rw [rowL_pad, hK]) _ rfl
  refine this.congr fun j k hj hk => ?_
  rw [hl]
  by_cases e : j = i ∧ k < K
  · rw [if_pos e, if_pos e, List.getD_eq_getElem?_getD, List.getElem?_take, if_pos e.2, ← List.getD_eq_getElem?_getD, rowL_at hk]
  · rw [if_neg e, if_neg e]
theorem tear_lt {a K i : Nat} (h : i < a) : ∀ j k, (if j = i then (2 : UInt8) else tearB a K i j k) = tearB a K (i + 1) j k := fun j k => by
  unfold tearB
  by_cases e : j = i
  · rw [if_pos e, if_pos ⟨by omega, .inl (by omega)⟩]
  · rw [if_neg e]
    congr 1
    exact propext ⟨fun ⟨h1, h2⟩ => ⟨by omega, h2⟩, fun ⟨h1, h2⟩ => ⟨by omega, h2⟩⟩
theorem tear_eq {a K : Nat} : ∀ j k, (if j = a ∧ k < K then (2 : UInt8) else tearB a K a j k) = tearB a K (a + 1) j k := fun j k => by
  unfold tearB
  by_cases e : j = a ∧ k < K
  · rw [if_pos e, if_pos ⟨by omega, .inr e⟩]
  · rw [if_neg e]
    congr 1
    exact propext ⟨fun ⟨h1, h2⟩ => ⟨by omega, h2⟩, fun ⟨h1, h2⟩ => ⟨by rcases h2 with h2 | h2; exact h2; exact absurd h2 e, h2⟩⟩
theorem tear_gt {a K i : Nat} (h : a < i) : ∀ j k, tearB a K i j k = tearB a K (i + 1) j k := fun j k => by
  unfold tearB
  congr 1
  exact propext ⟨fun ⟨h1, h2⟩ => ⟨by omega, h2⟩, fun ⟨h1, h2⟩ => ⟨by rcases h2 with h2 | h2 <;> omega, h2⟩⟩

set_option maxHeartbeats 1000000 in
theorem row_any (c : UInt8) (w : World) : Calls Try.prog 19 #[.int .u8 (c.toNat : Int)] w fun e w' => e = .returned (.slice (some ⟨w.heap.size, 0, none⟩) 32 32) ∧ Rd w' w'.heap.size (some ⟨w.heap.size, 0, none⟩) (rowL c) ∧ Below w.heap.size w w' := by
  obtain ⟨i0, hi, hz0, hz1, hz2⟩ := info_parts info5
  have hmk := fun W => run_make (P := Try.prog) W 22 5 i0 (.int .u8 0) Try.underlying22 hi hz0 .i64 .i64 32 32 (by omega) (by omega) (by rw [hz2]; omega) (by omega)
  go_enter Try.func19, Try.ntmps19
  go_wp2_with fail
  clear hmk
  have k1 : BytesAt (w.alloc (.cells (madeCells #[.int .u8 0] 32) 5)) w.heap.size 5 (layL zeroS 0 ((rowL c).take 0)) := by
    rw [List.take_zero, layL_nil]
    exact ⟨_, Blk.new w _ _, by rw [madeZ, zeroS_len, List.take_of_length_le (by rw [Lib.byteCells_length, List.length_replicate]; exact Nat.le_refl _)]; rfl⟩
  have k2 : Below w.heap.size w (w.alloc (.cells (madeCells #[.int .u8 0] 32) 5)) := (Below.refl _ _).alloc (Nat.le_refl _) _
  generalize w.alloc (.cells (madeCells #[.int .u8 0] 32) 5) = w1 at k1 k2 ⊢
  obtain ⟨g, hg⟩ : ∃ g, w.heap.size = g := ⟨_, rfl⟩
  have HG := Lib.hid hg
  rw [hg] at k1 ⊢
  have K1 := Lib.hid k1
  have K2 := Lib.hid k2
  clear k1 k2 hg
  go_loopw [8] (fun t wr => ∃ j : Nat, j ≤ 32 ∧ t = .int .i64 j ∧ Hid (BytesAt wr g 5 (layL zeroS 0 ((rowL c).take j))) ∧ Hid (Below w.heap.size w wr)) (fun t _ => 32 - (intOf t).toNat)
  case atStart => exact ⟨0, by omega, rfl, K1, K2⟩
  case round =>
    obtain ⟨j, hj, rfl, K1, K2⟩ := hrel
    have hl : ((rowL c).take j).length = j := by rw [List.length_take, rowL_len]; omega
    have hll : (layL zeroS 0 ((rowL c).take j)).length = 32 := by rw [layL_len (by rw [hl, zeroS_len]; omega), zeroS_len]
    by_cases hlt : j < 32
    · have hlt' : (j : Int) < 32 := by omega
      have e1 := K1.out.cell (i := j) (by rw [hll]; omega)
      have e2 := K1.out.frozen j
      obtain ⟨o, ho⟩ : ∃ o, (Value.int .u8 (((layL zeroS 0 ((rowL c).take j)).getD j 0).toNat : Int)) = o := ⟨_, rfl⟩
      rw [ho] at e1
      have HL := Lib.hid hl
      clear ho hl hll
      go_wp2_with fail
      go_roundw
      case rel =>
        refine ⟨j + 1, by omega, by go_num, Lib.hid ?_, Lib.hid (K2.out.setCell (Nat.le_of_eq HG.out) _)⟩
        have k := K1.out.set j (x := (c.toNat : Int)) (y := c) rfl
        have h := layL_snoc (B := zeroS) (l := (rowL c).take j) (o := 0) c (by rw [HL.out, zeroS_len]; omega)
        rw [HL.out, Nat.zero_add] at h
        rw [h] at k
        rw [List.take_succ_eq_append_getElem (by rw [rowL_len]; exact hlt)]
        have e : (rowL c)[j]'(by rw [rowL_len]; exact hlt) = c := by unfold rowL; exact List.getElem_replicate ..
        rw [e]
        exact k
      case measure => simp [intOf]; omega
    · have hlt' : ¬ (j : Int) < 32 := by omega
      obtain rfl : j = 32 := by omega
      have hrd : Rd wr wr.heap.size (some ⟨g, 0, none⟩) (rowL c) := by
        have h := K1.out.rd 0 32
        rw [List.drop_zero, List.take_of_length_le (by rw [hll]; exact Nat.le_refl _), List.take_of_length_le (by rw [rowL_len]; exact Nat.le_refl _), layL_pad, rowL_pad] at h
        exact h
      have HRD := Lib.hid hrd
      clear hrd hl hll
      go_wp2_with fail
      go_ret
      exact ⟨by rw [HG.out]; rfl, by rw [HG.out]; exact HRD.out, K2.out⟩
end Go.Proofs.Ytclmnpfmodlnjaa
