/- What DiskTears looks at: rows of one byte; sectors that are written, and that tear. -/
import Derived.Test.YtffllpjlghehiaaDoorWakes10
namespace Go.Proofs.YtffllpjlghehiaaDoor
open Go.RowKit
set_option maxRecDepth 100000

theorem layL_get {B l : List UInt8} {o : Nat} (h : o + l.length ≤ B.length) (t : Nat) : (layL B o l)[t]? = if o ≤ t ∧ t < o + l.length then l[t - o]? else B[t]? := by
  unfold layL
  rw [List.append_assoc]
  by_cases h1 : t < o
  · rw [if_neg (by omega), List.getElem?_append_left (by rw [List.length_take]; omega), List.getElem?_take, if_pos h1]
  · have h2 : (B.take o).length = o := by rw [List.length_take]; omega
    rw [List.getElem?_append_right (by omega), h2]
    by_cases h3 : t < o + l.length
    · rw [if_pos ⟨by omega, h3⟩, List.getElem?_append_left (by omega)]
    · rw [if_neg (by omega), List.getElem?_append_right (by omega), List.getElem?_drop]
      congr 1
      omega
/-- The byte k of sector j, behind i writes of twos over ones, where the disk stops at a, and keeps K. -/
def tearB (a K i j k : Nat) : UInt8 := if j < i ∧ (j < a ∨ (j = a ∧ k < K)) then 2 else 1
def Sec (s : Dsk) (f : Nat → Nat → UInt8) : Prop := s.B.length = 320 ∧ ∀ j k, j < 10 → k < 32 → s.B[j * 32 + k]? = some (f j k)
theorem Sec.sec {s : Dsk} {f : Nat → Nat → UInt8} (h : Sec s f) {j k : Nat} (hj : j < 10) (hk : k < 32) : (s.sec j)[k]? = some (f j k) := by
  unfold Dsk.sec
  rw [List.getElem?_take, if_pos hk, List.getElem?_drop]
  exact h.2 j k hj hk
theorem Sec.lay {s : Dsk} {f : Nat → Nat → UInt8} (h : Sec s f) {i : Nat} (hi : i < 10) (l : List UInt8) (hl : l.length ≤ 32) {B : List UInt8} (hB : B = layL s.B (i * 32) l) (s' : Dsk) (hs : s'.B = B) : Sec s' (fun j k => if j = i ∧ k < l.length then l.getD k 0 else f j k) := by
  have hle : i * 32 + l.length ≤ s.B.length := by rw [h.1]; omega
  refine ⟨by rw [hs, hB, layL_len hle, h.1], fun j k hj hk => ?_⟩
  rw [hs, hB, layL_get hle]
  show _ = some (if j = i ∧ k < l.length then l.getD k 0 else f j k)
  by_cases h1 : j = i ∧ k < l.length
  · rw [if_pos h1]
    obtain ⟨rfl, h2⟩ := h1
    rw [if_pos ⟨by omega, by omega⟩, Nat.add_sub_cancel_left, List.getD_eq_getElem?_getD, List.getElem?_eq_getElem h2]
    rfl
  · rw [if_neg (by omega), if_neg h1]
    exact h.2 j k hj hk
theorem Sec.congr {s : Dsk} {f g : Nat → Nat → UInt8} (h : Sec s f) (hg : ∀ j k, j < 10 → k < 32 → f j k = g j k) : Sec s g := ⟨h.1, fun j k hj hk => by rw [h.2 j k hj hk, hg j k hj hk]⟩
def rowL (c : UInt8) : List UInt8 := List.replicate 32 c
theorem rowL_len (c : UInt8) : (rowL c).length = 32 := List.length_replicate ..
theorem rowL_pad (c : UInt8) : padB 32 (rowL c) = rowL c := padB_full (rowL_len c)
theorem rowL_at {c : UInt8} {k : Nat} (hk : k < 32) : (rowL c).getD k 0 = c := by
  unfold rowL
  rw [List.getD_eq_getElem?_getD, List.getElem?_replicate, if_pos hk]
  rfl
theorem Sec.well {s : Dsk} {f : Nat → Nat → UInt8} (h : Sec s f) {i : Nat} (hi : i < 10) (c : UInt8) : Sec (s.well i (rowL c)) (fun j k => if j = i then c else f j k) := by
  have := h.lay hi (rowL c) (Nat.le_of_eq (rowL_len c)) (B := (s.well i (rowL c)).B) (by show layL _ _ _ = _; rw [rowL_pad]) _ rfl
  refine this.congr fun j k hj hk => ?_
  rw [rowL_len]
  by_cases e : j = i
  · rw [if_pos ⟨e, hk⟩, if_pos e, rowL_at hk]
  · rw [if_neg (fun h => e h.1), if_neg e]
theorem Sec.tear {s : Dsk} {f : Nat → Nat → UInt8} (h : Sec s f) {i K : Nat} (hi : i < 10) (hK : s.keep = K) (hK32 : K ≤ 32) (c : UInt8) : Sec (s.tear i (rowL c)) (fun j k => if j = i ∧ k < K then c else f j k) := by
  have hl : ((rowL c).take K).length = K := by rw [List.length_take, rowL_len]; omega
  have := h.lay hi ((rowL c).take K) (by omega) (B := (s.tear i (rowL c)).B) (by show layL _ _ _ = _; rw [rowL_pad, hK]) _ rfl
  refine this.congr fun j k hj hk => ?_
  rw [hl]
  by_cases e : j = i ∧ k < K
  · rw [if_pos e, if_pos e, List.getD_eq_getElem?_getD, List.getElem?_take, if_pos e.2, ← List.getD_eq_getElem?_getD, rowL_at hk]
  · rw [if_neg e, if_neg e]
theorem tear_lt {a K i : Nat} (h : i < a) : ∀ j k, (if j = i then (2 : UInt8) else tearB a K i j k) = tearB a K (i + 1) j k := fun j k => by
  unfold tearB
  by_cases e : j = i
  · rw [if_pos e, if_pos ⟨by omega, .inl (by omega)⟩]
  · rw [if_neg e]
    congr 1
    exact propext ⟨fun ⟨h1, h2⟩ => ⟨by omega, h2⟩, fun ⟨h1, h2⟩ => ⟨by omega, h2⟩⟩
theorem tear_eq {a K : Nat} : ∀ j k, (if j = a ∧ k < K then (2 : UInt8) else tearB a K a j k) = tearB a K (a + 1) j k := fun j k => by
  unfold tearB
  by_cases e : j = a ∧ k < K
  · rw [if_pos e, if_pos ⟨by omega, .inr e⟩]
  · rw [if_neg e]
    congr 1
    exact propext ⟨fun ⟨h1, h2⟩ => ⟨by omega, h2⟩, fun ⟨h1, h2⟩ => ⟨by rcases h2 with h2 | h2; exact h2; exact absurd h2 e, h2⟩⟩
theorem tear_gt {a K i : Nat} (h : a < i) : ∀ j k, tearB a K i j k = tearB a K (i + 1) j k := fun j k => by
  unfold tearB
  congr 1
  exact propext ⟨fun ⟨h1, h2⟩ => ⟨by omega, h2⟩, fun ⟨h1, h2⟩ => ⟨by rcases h2 with h2 | h2 <;> omega, h2⟩⟩

end Go.Proofs.YtffllpjlghehiaaDoor
