/- A store's writes on a disk that may stop: what its slots hold behind a put or a drop, whole or cut short. Mathematics alone. -/
import Derived.Test.YtffllpjlghehiaaDoorStoV
namespace Go.Proofs.YtffllpjlghehiaaDoor
open Go.RowKit

/-- Sectors are written, one behind the other, till one fails; whether none did. -/
def Dsk.all (s : Dsk) (N : Nat) : List (Nat × List UInt8) → Dsk × Bool
  | [] => (s, true)
  | x :: r => if s.code N (x.1 : Int) x.2.length = 0 then (s.next N (x.1 : Int) x.2).all N r else (s.next N (x.1 : Int) x.2, false)
theorem Dsk.all_cons (s : Dsk) (N : Nat) (x : Nat × List UInt8) (r : List (Nat × List UInt8)) : s.all N (x :: r) = if s.code N (x.1 : Int) x.2.length = 0 then (s.next N (x.1 : Int) x.2).all N r else (s.next N (x.1 : Int) x.2, false) := rfl
theorem Dsk.all_nil (s : Dsk) (N : Nat) : s.all N [] = (s, true) := rfl
theorem Dsk.all_append (N : Nat) : ∀ (a b : List (Nat × List UInt8)) (s : Dsk), s.all N (a ++ b) = if (s.all N a).2 = true then (s.all N a).1.all N b else s.all N a
  | [], b, s => by simp [Dsk.all]
  | x :: a, b, s => by
    rw [List.cons_append, Dsk.all_cons, Dsk.all_cons]
    by_cases h : s.code N (x.1 : Int) x.2.length = 0
    · rw [if_pos h, if_pos h]; exact Dsk.all_append N a b _
    · rw [if_neg h, if_neg h]; rfl
/-- What stays as it is, whatever is written: how many bytes, what a Stop keeps. -/
structure Kept (s s' : Dsk) : Prop where
  len : s'.B.length = s.B.length
  keep : s'.keep = s.keep
theorem Kept.refl (s : Dsk) : Kept s s := ⟨rfl, rfl⟩
theorem Kept.trans {a b c : Dsk} (h : Kept a b) (k : Kept b c) : Kept a c := ⟨k.len.trans h.len, k.keep.trans h.keep⟩
/-- A write that ends well, and one that does not. -/
theorem next_cases {s : Dsk} {N i : Nat} {b : List UInt8} (hi : i < N) (hb : b.length ≤ 32) (hk : s.keep ≤ 32) (hB : s.B.length = N * 32) :
    (s.code N (i : Int) b.length = 0 ∧ s.dead = false ∧ (s.next N (i : Int) b).dead = false ∧ (s.next N (i : Int) b).B = layL s.B (i * 32) (padB 32 b) ∧ Kept s (s.next N (i : Int) b)) ∨
    (s.code N (i : Int) b.length ≠ 0 ∧ s.code N (i : Int) b.length = 8 ∧ (s.next N (i : Int) b).dead = true ∧ Kept s (s.next N (i : Int) b) ∧ ∃ m, m ≤ 32 ∧ (s.next N (i : Int) b).B = layL s.B (i * 32) ((padB 32 b).take m)) := by
  have hbad : ¬ badW N (i : Int) b.length := by unfold badW; omega
  have hp := padB_len hb
  have hr : i * 32 + 32 ≤ s.B.length := by omega
  unfold Dsk.code Dsk.next
  rw [if_neg hbad, if_neg hbad]
  by_cases hd : s.dead = true
  · rw [if_pos hd, if_pos hd]
    exact .inr ⟨by omega, rfl, hd, .refl _, 0, by omega, by rw [List.take_zero, layL_nil]⟩
  · rw [if_neg hd, if_neg hd]
    have hd' : s.dead = false := by simpa using hd
    by_cases ha : s.ahead = true ∧ s.at_ = 0
    · rw [if_pos ha, if_pos ha]
      refine .inr ⟨by omega, rfl, rfl, ⟨?_, rfl⟩, s.keep, hk, by rw [Int.toNat_natCast]; rfl⟩
      unfold Dsk.tear
      exact layL_len (by rw [List.length_take, Int.toNat_natCast]; omega)
    · rw [if_neg ha, if_neg ha]
      refine .inl ⟨rfl, hd', hd', by unfold Dsk.well; rw [Int.toNat_natCast], ⟨?_, rfl⟩⟩
      unfold Dsk.well
      exact layL_len (by rw [Int.toNat_natCast]; omega)

/-- A store's disk: n slots of a head and R sectors. -/
structure Geo (s : Dsk) (R n : Nat) : Prop where
  len : s.B.length = n * (R + 1) * 32
  keep : s.keep ≤ 32
theorem Geo.kept {s s' : Dsk} {R n : Nat} (h : Geo s R n) (k : Kept s s') : Geo s' R n := ⟨k.len.trans h.len, k.keep ▸ h.keep⟩
theorem geo_lt {R n j k : Nat} (hj : j < n) (hk : k ≤ R) : j * (R + 1) + k < n * (R + 1) := by
  have := slot_lt (R := R) hj
  rw [Nat.succ_mul] at this
  omega
/-- The sectors of a text behind the head of slot j. -/
def textW (R j : Nat) (t : List UInt8) (K : Nat) : List (Nat × List UInt8) := (List.range K).map fun k => (j * (R + 1) + (1 + k), chunk t k)
theorem textW_succ (R j : Nat) (t : List UInt8) (K : Nat) : textW R j t (K + 1) = textW R j t K ++ [(j * (R + 1) + (1 + K), chunk t K)] := by
  unfold textW
  rw [List.range_succ, List.map_append]
  rfl
/-- What a text's sectors do to a disk: nothing that counts. -/
structure Texted (s s' : Dsk) (R n j : Nat) (t : List UInt8) (k : Nat) (ok : Bool) : Prop where
  kept : Kept s s'
  used : ∀ i, usedB s'.B R i = usedB s.B R i
  slot : ∀ i, slotB s'.B R i = slotB s.B R i
  yes : ok = true → Wrote s'.B R j t k ∧ (s.dead = false → s'.dead = false) ∧ (0 < k → s'.dead = false)
  no : ok = false → s'.dead = true
theorem text_all {s : Dsk} {R n j : Nat} (t : List UInt8) (h : Geo s R n) (hj : j < n) (hf : usedB s.B R j = false) : ∀ K, K ≤ R → Texted s (s.all (n * (R + 1)) (textW R j t K)).1 R n j t K (s.all (n * (R + 1)) (textW R j t K)).2
  | 0, _ => ⟨.refl _, fun _ => rfl, fun _ => rfl, fun _ => ⟨.zero _ _ _ _, id, fun h => by omega⟩, fun h => (by cases h)⟩
  | K + 1, hK => by
    have ih := text_all t h hj hf K (by omega)
    rw [textW_succ, Dsk.all_append]
    generalize e : s.all (n * (R + 1)) (textW R j t K) = q at ih ⊢
    obtain ⟨s', ok⟩ := q
    dsimp only at ih ⊢
    cases ok with
    | false =>
      rw [if_neg (by simp)]
      exact ⟨ih.kept, ih.used, ih.slot, fun h => (by cases h), ih.no⟩
    | true =>
      rw [if_pos rfl]
      have g' := h.kept ih.kept
      have hlt : j * (R + 1) + (1 + K) < n * (R + 1) := geo_lt hj (by omega)
      have hB : (j * (R + 1) + (1 + K)) * 32 + 32 ≤ s'.B.length := by rw [g'.len]; omega
      have hc := chunk_len t K
      have hp := padB_len hc
      have hf' : usedB s'.B R j = false := (ih.used j).trans hf
      have hout : ∀ m, m ≤ 32 → (∀ i, usedB (layL s'.B ((j * (R + 1) + (1 + K)) * 32) ((padB 32 (chunk t K)).take m)) R i = usedB s.B R i) ∧ (∀ i, slotB (layL s'.B ((j * (R + 1) + (1 + K)) * 32) ((padB 32 (chunk t K)).take m)) R i = slotB s.B R i) := fun m hm => by
        have hl : ((padB 32 (chunk t K)).take m).length ≤ 32 := by rw [List.length_take]; omega
        exact ⟨fun i => (usedB_room (by omega) i (by omega) hl).trans (ih.used i), fun i => (slotB_room (by omega) (by omega) hl hf' i).trans (ih.slot i)⟩
      rw [Dsk.all_cons]
      dsimp only
      rcases next_cases (s := s') (N := n * (R + 1)) (i := j * (R + 1) + (1 + K)) (b := chunk t K) hlt hc g'.keep g'.len with ⟨h1, h2, h3, h4, h5⟩ | ⟨h1, _, h3, h5, m, hm, h4⟩
      · rw [if_pos h1, Dsk.all_nil]
        have hw := hout 32 (Nat.le_refl _)
        rw [List.take_of_length_le (by omega)] at hw
        refine ⟨ih.kept.trans h5, fun i => ?_, fun i => ?_, fun _ => ⟨?_, fun _ => h3, fun _ => h3⟩, fun h => (by cases h)⟩
        · rw [h4]; exact hw.1 i
        · rw [h4]; exact hw.2 i
        · rw [h4]; exact (ih.yes rfl).1.more (by omega) hB
      · rw [if_neg h1]
        have hw := hout m hm
        refine ⟨ih.kept.trans h5, fun i => ?_, fun i => ?_, fun h => (by cases h), fun _ => h3⟩
        · rw [h4]; exact hw.1 i
        · rw [h4]; exact hw.2 i

/-- Every slot that is said to be used has a record. -/
def Tidy (B : List UInt8) (R n : Nat) : Prop := ∀ i, i < n → usedB B R i = true → slotB B R i ≠ none
theorem used_none {B : List UInt8} {R n i : Nat} (h : Tidy B R n) (hi : i < n) : slotB B R i = none ↔ usedB B R i = false := by
  constructor
  · intro e
    cases hu : usedB B R i with
    | false => rfl
    | true => exact absurd e (h i hi hu)
  · intro e
    unfold slotB
    rw [e]
    rfl
/-- A head is written, well or torn. -/
theorem head_used {B : List UInt8} {R j m : Nat} {b : List UInt8} (hb : b.length ≤ 32) (hm : m ≤ 32) (h : j * (R + 1) * 32 + 32 ≤ B.length) (i : Nat) :
    usedB (layL B (j * (R + 1) * 32) ((padB 32 b).take m)) R i = if i = j ∧ m ≠ 0 then decide (b.getD 0 0 = 1) else usedB B R i := by
  have hp := padB_len hb
  have hl : ((padB 32 b).take m).length = m := by rw [List.length_take]; omega
  by_cases hij : i = j
  · subst hij
    by_cases h0 : m = 0
    · subst h0
      rw [if_neg (by omega), List.take_zero, layL_nil]
    · rw [if_pos ⟨rfl, h0⟩]
      have e0 : (padB 32 b)[0]? = some (b.getD 0 0) := by
        unfold padB
        cases b with
        | nil => rfl
        | cons x r => rfl
      unfold usedB
      rw [layL_get (by omega), if_pos (by omega), Nat.sub_self, List.getElem?_take, if_pos (by omega), e0]
      simp
  · rw [if_neg (fun e => hij e.1)]
    have hc : i < j ∨ j < i := by omega
    rcases hc with hc | hc
    · have := slot_lt (R := R) hc
      rw [Nat.succ_mul] at this
      exact usedB_out (by omega) (.inr (by omega))
    · have := slot_lt (R := R) hc
      rw [Nat.succ_mul] at this
      exact usedB_out (by omega) (.inl (by omega))
/-- A head's write: as it was, or done. -/
theorem head_all {s : Dsk} {R n j : Nat} {b : List UInt8} (h : Geo s R n) (hj : j < n) (hb : b.length ≤ 32) (ht : Tidy s.B R n) (ho : b.getD 0 0 = 1 → readR (roomB s.B R j) ≠ none) (r : List (Nat × List UInt8)) :
    ∃ s', Geo s' R n ∧ Kept s s' ∧ Tidy s'.B R n ∧
      ((s.all (n * (R + 1)) ((j * (R + 1), b) :: r) = s'.all (n * (R + 1)) r ∧ s'.dead = false ∧ slotB s'.B R = putV (slotB s.B R) j (if b.getD 0 0 = 1 then readR (roomB s.B R j) else none)) ∨
       (s.all (n * (R + 1)) ((j * (R + 1), b) :: r) = (s', false) ∧ s'.dead = true ∧ (slotB s'.B R = slotB s.B R ∨ slotB s'.B R = putV (slotB s.B R) j (if b.getD 0 0 = 1 then readR (roomB s.B R j) else none)))) := by
  have hlt : j * (R + 1) < n * (R + 1) := by have := geo_lt (R := R) hj (Nat.zero_le _); omega
  have hB : j * (R + 1) * 32 + 32 ≤ s.B.length := by rw [h.len]; omega
  have hp := padB_len hb
  have tid : ∀ m, m ≤ 32 → Tidy (layL s.B (j * (R + 1) * 32) ((padB 32 b).take m)) R n := fun m hm i hi hu => by
    rw [head_used hb hm hB] at hu
    rw [head_view hb hm hB]
    by_cases h0 : m = 0
    · rw [if_neg (by omega)] at hu
      rw [if_pos h0]
      exact ht i hi hu
    · rw [if_neg h0]
      unfold putV
      by_cases hij : i = j
      · rw [if_pos ⟨hij, h0⟩] at hu
        have h1 : b.getD 0 0 = 1 := of_decide_eq_true hu
        rw [if_pos hij, if_pos h1]
        exact ho h1
      · rw [if_neg (fun e => hij e.1)] at hu
        rw [if_neg hij]
        exact ht i hi hu
  rw [Dsk.all_cons]
  dsimp only
  rcases next_cases (s := s) (N := n * (R + 1)) (i := j * (R + 1)) (b := b) hlt hb h.keep h.len with ⟨h1, h2, h3, h4, h5⟩ | ⟨h1, _, h3, h5, m, hm, h4⟩
  · have e32 : (padB 32 b).take 32 = padB 32 b := List.take_of_length_le (by omega)
    refine ⟨_, h.kept h5, h5, ?_, .inl ⟨by rw [if_pos h1], h3, ?_⟩⟩
    · rw [h4, ← e32]; exact tid 32 (Nat.le_refl _)
    · rw [h4, ← e32, head_view hb (Nat.le_refl _) hB, if_neg (by omega)]
  · refine ⟨_, h.kept h5, h5, ?_, .inr ⟨by rw [if_neg h1], h3, ?_⟩⟩
    · rw [h4]; exact tid m hm
    · rw [h4, head_view hb hm hB]
      by_cases h0 : m = 0
      · rw [if_pos h0]; exact .inl rfl
      · rw [if_neg h0]; exact .inr rfl
end Go.Proofs.YtffllpjlghehiaaDoor
