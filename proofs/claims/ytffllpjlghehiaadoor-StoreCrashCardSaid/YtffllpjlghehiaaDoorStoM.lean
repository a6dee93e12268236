/- A store's records in a disk's bytes: what a slot holds, what a write of a sector does to it, torn or whole. Mathematics alone. -/
import Derived.Test.YtffllpjlghehiaaDoorDskT
import Derived.Test.YtffllpjlghehiaaDoorNetB
import Derived.Test.YtffllpjlghehiaaDoorSub
namespace Go.Proofs.YtffllpjlghehiaaDoor
open Go.RowKit

theorem putL_succ11 (N W : Nat) : putL N (W + 1) = putL (N / 256) W ++ [UInt8.ofNat N] := by
  unfold putL
  rw [List.range_succ, List.map_append]
  congr 1
  · apply List.map_congr_left
    intro s hs
    have hs' : s < W := List.mem_range.1 hs
    rw [Nat.div_div_eq_div_mul, show W + 1 - 1 - s = (W - 1 - s) + 1 from by omega, Nat.pow_succ, Nat.mul_comm]
  · simp
theorem getL_putL11 (W : Nat) : ∀ N, getL (putL N W) = N % 256 ^ W := by
  induction W with
  | zero => intro N; simp [putL, getL]; omega
  | succ W ih =>
    intro N
    rw [putL_succ11, getL_snoc, ih, Nat.pow_succ, UInt8.toNat_ofNat', Nat.mul_comm (256 ^ W) 256, Nat.mod_mul]
    omega

/-- A record: its name, its number, its data. -/
structure Rec11 where
  name : List UInt8
  num : Nat
  data : List UInt8
/-- A record's bytes. -/
def recL (r : Rec11) : List UInt8 := netsL [r.name, putL r.num 4, r.data]
/-- The record at the beginning of bytes. -/
def readR (b : List UInt8) : Option Rec11 :=
  match takeL b with
  | none => none
  | some (nm, b1) => match takeL b1 with
    | none => none
    | some (nu, b2) => if nu.length ≠ 4 then none else match takeL b2 with
      | none => none
      | some (da, _) => some ⟨nm, getL nu, da⟩
theorem recL_eq (r : Rec11) (z : List UInt8) : recL r ++ z = netL r.name ++ (netL (putL r.num 4) ++ (netL r.data ++ z)) := by
  unfold recL netsL
  simp
/-- What is written is read, whatever is behind it. -/
theorem readR_recL (r : Rec11) (z : List UInt8) (h1 : r.name.length ≤ 16384) (h2 : r.data.length ≤ 16384) (h3 : r.num < 4294967296) : readR (recL r ++ z) = some r := by
  have e : getL (putL r.num 4) = r.num := by rw [getL_putL11]; exact Nat.mod_eq_of_lt h3
  rw [recL_eq]
  unfold readR
  rw [takeL_net _ _ h1]
  dsimp only
  rw [takeL_net _ _ (by rw [putL_length]; omega)]
  dsimp only
  rw [if_neg (by rw [putL_length]; simp), takeL_net _ _ h2, e]

/-- Is slot i (a head, and R sectors of room) said to be used? -/
def usedB (B : List UInt8) (R i : Nat) : Bool := decide (B[i * (R + 1) * 32]? = some 1)
/-- The bytes of slot i's room. -/
def roomB (B : List UInt8) (R i : Nat) : List UInt8 := (B.drop ((i * (R + 1) + 1) * 32)).take (R * 32)
/-- What slot i holds. -/
def slotB (B : List UInt8) (R i : Nat) : Option Rec11 := if usedB B R i = true then readR (roomB B R i) else none

theorem roomB_get (B : List UInt8) (R i t : Nat) : (roomB B R i)[t]? = if t < R * 32 then B[(i * (R + 1) + 1) * 32 + t]? else none := by
  unfold roomB
  rw [List.getElem?_take]
  split
  · rw [List.getElem?_drop]
  · rfl
/-- A room is as it was where none of its bytes is written. -/
theorem roomB_out {B l : List UInt8} {R i o : Nat} (h : o + l.length ≤ B.length) (ho : o + l.length ≤ (i * (R + 1) + 1) * 32 ∨ (i * (R + 1) + 1) * 32 + R * 32 ≤ o) : roomB (layL B o l) R i = roomB B R i := by
  apply List.ext_getElem?
  intro t
  rw [roomB_get, roomB_get]
  split
  · next ht => rw [layL_get h, if_neg (by omega)]
  · rfl
theorem usedB_out {B l : List UInt8} {R i o : Nat} (h : o + l.length ≤ B.length) (ho : o + l.length ≤ i * (R + 1) * 32 ∨ i * (R + 1) * 32 < o) : usedB (layL B o l) R i = usedB B R i := by
  unfold usedB
  rw [layL_get h, if_neg (by omega)]
/-- Places of slots: one behind the other. -/
theorem slot_lt {i j R : Nat} (h : i < j) : (i + 1) * (R + 1) ≤ j * (R + 1) := Nat.mul_le_mul_right _ h
/-- What is written in slot j leaves slot i as it was. -/
theorem slotB_other {B l : List UInt8} {R i j k : Nat} (hij : i ≠ j) (hk : k ≤ R) (hl : l.length ≤ 32) (h : (j * (R + 1) + k) * 32 + l.length ≤ B.length) : slotB (layL B ((j * (R + 1) + k) * 32) l) R i = slotB B R i := by
  have hc : i < j ∨ j < i := by omega
  unfold slotB
  rcases hc with hc | hc
  · have := slot_lt (R := R) hc
    rw [Nat.succ_mul] at this
    rw [usedB_out h (.inr (by omega)), roomB_out h (.inr (by omega))]
  · have := slot_lt (R := R) hc
    rw [Nat.succ_mul] at this
    rw [usedB_out h (.inl (by omega)), roomB_out h (.inl (by omega))]

/-- What is written in a free slot's room leaves it free. -/
theorem usedB_room {B l : List UInt8} {R j k : Nat} (h : (j * (R + 1) + (1 + k)) * 32 + l.length ≤ B.length) (i : Nat) (hk : k < R) (hl : l.length ≤ 32) : usedB (layL B ((j * (R + 1) + (1 + k)) * 32) l) R i = usedB B R i := by
  by_cases hij : i = j
  · subst hij
    exact usedB_out h (.inr (by omega))
  · have hc : i < j ∨ j < i := by omega
    rcases hc with hc | hc
    · have := slot_lt (R := R) hc
      rw [Nat.succ_mul] at this
      exact usedB_out h (.inr (by omega))
    · have := slot_lt (R := R) hc
      rw [Nat.succ_mul] at this
      exact usedB_out h (.inl (by omega))
theorem slotB_room {B l : List UInt8} {R j k : Nat} (h : (j * (R + 1) + (1 + k)) * 32 + l.length ≤ B.length) (hk : k < R) (hl : l.length ≤ 32) (hf : usedB B R j = false) (i : Nat) : slotB (layL B ((j * (R + 1) + (1 + k)) * 32) l) R i = slotB B R i := by
  by_cases hij : i = j
  · subst hij
    unfold slotB
    rw [usedB_room h i hk hl, hf]
    rfl
  · exact slotB_other hij (by omega) hl h
/-- A head is written, or torn: none of it, or its first byte and so all that counts. -/
theorem head_at {B : List UInt8} {R j n : Nat} {b : List UInt8} (hb : b.length ≤ 32) (hn : n ≤ 32) (h : j * (R + 1) * 32 + 32 ≤ B.length) :
    slotB (layL B (j * (R + 1) * 32) ((padB 32 b).take n)) R j = if n = 0 then slotB B R j else if b.getD 0 0 = 1 then readR (roomB B R j) else none := by
  have hp : (padB 32 b).length = 32 := by simp [padB]; omega
  have hl : ((padB 32 b).take n).length = n := by rw [List.length_take]; omega
  by_cases h0 : n = 0
  · subst h0
    rw [if_pos rfl, List.take_zero, layL_nil]
  · have e0 : (padB 32 b)[0]? = some (b.getD 0 0) := by
      unfold padB
      cases b with
      | nil => rfl
      | cons x r => rfl
    have eu : (layL B (j * (R + 1) * 32) ((padB 32 b).take n))[j * (R + 1) * 32]? = some (b.getD 0 0) := by
      rw [layL_get (by omega), if_pos (by omega), Nat.sub_self, List.getElem?_take, if_pos (by omega), e0]
    rw [if_neg h0]
    unfold slotB usedB
    rw [roomB_out (by omega) (.inl (by omega)), eu]
    by_cases h1 : b.getD 0 0 = 1
    · rw [if_pos h1, h1]; rfl
    · rw [if_neg h1, if_neg (by simpa using h1)]
/-- A view of slots with one of them put. -/
def putV (V : Nat → Option Rec11) (j : Nat) (o : Option Rec11) : Nat → Option Rec11 := fun i => if i = j then o else V i
theorem head_view {B : List UInt8} {R j n : Nat} {b : List UInt8} (hb : b.length ≤ 32) (hn : n ≤ 32) (h : j * (R + 1) * 32 + 32 ≤ B.length) :
    slotB (layL B (j * (R + 1) * 32) ((padB 32 b).take n)) R = if n = 0 then slotB B R else putV (slotB B R) j (if b.getD 0 0 = 1 then readR (roomB B R j) else none) := by
  have hl : ((padB 32 b).take n).length ≤ 32 := by rw [List.length_take]; omega
  funext i
  by_cases hij : i = j
  · subst hij
    rw [head_at hb hn h]
    by_cases h0 : n = 0
    · rw [if_pos h0, if_pos h0]
    · rw [if_neg h0, if_neg h0]; unfold putV; rw [if_pos rfl]
  · have hl' : ((padB 32 b).take n).length ≤ n := by rw [List.length_take]; omega
    have := slotB_other (B := B) (l := (padB 32 b).take n) (R := R) (i := i) (j := j) (k := 0) hij (Nat.zero_le _) hl (by rw [Nat.add_zero]; omega)
    rw [Nat.add_zero] at this
    rw [this]
    by_cases h0 : n = 0
    · rw [if_pos h0]
    · rw [if_neg h0]; unfold putV; rw [if_neg hij]

/-- The sectors that a text needs, in their order. -/
def chunk (t : List UInt8) (k : Nat) : List UInt8 := (t.drop (k * 32)).take 32
theorem chunk_len (t : List UInt8) (k : Nat) : (chunk t k).length ≤ 32 := by unfold chunk; rw [List.length_take]; omega
/-- So many sectors of a text are written. -/
def Wrote (B : List UInt8) (R j : Nat) (t : List UInt8) (k : Nat) : Prop := ∀ p, p < k * 32 → p < t.length → (roomB B R j)[p]? = t[p]?
theorem Wrote.zero (B : List UInt8) (R j : Nat) (t : List UInt8) : Wrote B R j t 0 := fun p hp => by omega
theorem Wrote.more {B : List UInt8} {R j k : Nat} {t : List UInt8} (h : Wrote B R j t k) (hk : k < R) (hB : (j * (R + 1) + (1 + k)) * 32 + 32 ≤ B.length) : Wrote (layL B ((j * (R + 1) + (1 + k)) * 32) (padB 32 (chunk t k))) R j t (k + 1) := by
  have hc := chunk_len t k
  have hp : (padB 32 (chunk t k)).length = 32 := by simp [padB]; omega
  intro p h1 h2
  rw [roomB_get, if_pos (by omega), layL_get (by omega)]
  by_cases hin : k * 32 ≤ p
  · rw [if_pos (by omega)]
    have e : (j * (R + 1) + 1) * 32 + p - (j * (R + 1) + (1 + k)) * 32 = p - k * 32 := by omega
    rw [e]
    have hl : p - k * 32 < (chunk t k).length := by unfold chunk; rw [List.length_take, List.length_drop]; omega
    unfold padB
    rw [List.getElem?_append_left hl]
    unfold chunk
    rw [List.getElem?_take, if_pos (by omega), List.getElem?_drop]
    congr 1
    omega
  · rw [if_neg (by omega)]
    have := h p (by omega) h2
    rw [roomB_get, if_pos (by omega)] at this
    exact this
theorem Wrote.all {B : List UInt8} {R j k : Nat} {t : List UInt8} (h : Wrote B R j t k) (hk : t.length ≤ k * 32) : roomB B R j = t ++ (roomB B R j).drop t.length := by
  have : (roomB B R j).take t.length = t := by
    apply List.ext_getElem?
    intro p
    rw [List.getElem?_take]
    by_cases hp : p < t.length
    · rw [if_pos hp]; exact h p (by omega) hp
    · rw [if_neg hp, List.getElem?_eq_none (by omega)]
  conv => lhs; rw [← List.take_append_drop t.length (roomB B R j), this]
end Go.Proofs.YtffllpjlghehiaaDoor
