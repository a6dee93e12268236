/- P11.4: what is told behind a put or a drop that the disk may have cut short. Mathematics alone. -/
import Derived.Test.YtndknifdajjalaaGreatDoorPDskT
import Derived.Test.YtndknifdajjalaaGreatDoorPNetB
import Derived.Test.YtndknifdajjalaaGreatDoorPSub
namespace Go.Proofs.YtndknifdajjalaaGreatDoor
open Go.RowKit

theorem putL_succ11 (N W : Nat) : putL N (W + 1) = putL (N / 256) W ++ [UInt8.ofNat N] := by
  unfold putL
  rw [List.range_succ, List.map_append]
  congr 1
  · apply List.map_congr_left
    intro s hs
    have hs' : s < W := List.mem_range.1 hs
    rw [Nat.div_div_eq_div_mul, show W + 1 - 1 - s = (W - 1 - s) + 1 from by omega, Nat.pow_succ, Nat.mul_comm]
  · simp
theorem getL_putL11 (W : Nat) : ∀ N, getL (putL N W) = N % 256 ^ W := by
  induction W with
  | zero => intro N; simp [putL, getL]; omega
  | succ W ih =>
    intro N
    rw [putL_succ11, getL_snoc, ih, Nat.pow_succ, UInt8.toNat_ofNat', Nat.mul_comm (256 ^ W) 256, Nat.mod_mul]
    omega

/-- A record: its name, its number, its data. -/
structure Rec11 where
  name : List UInt8
  num : Nat
  data : List UInt8
/-- A record's bytes. -/
def recL (r : Rec11) : List UInt8 := netsL [r.name, putL r.num 4, r.data]
/-- The record at the beginning of bytes. -/
def readR (b : List UInt8) : Option Rec11 :=
  match takeL b with
  | none => none
  | some (nm, b1) => match takeL b1 with
    | none => none
    | some (nu, b2) => if nu.length ≠ 4 then none else match takeL b2 with
      | none => none
      | some (da, _) => some ⟨nm, getL nu, da⟩
theorem recL_eq (r : Rec11) (z : List UInt8) : recL r ++ z = netL r.name ++ (netL (putL r.num 4) ++ (netL r.data ++ z)) := by
  unfold recL netsL
  simp
/-- What is written is read, whatever is behind it. -/
theorem readR_recL (r : Rec11) (z : List UInt8) (h1 : r.name.length ≤ 16384) (h2 : r.data.length ≤ 16384) (h3 : r.num < 4294967296) : readR (recL r ++ z) = some r := by
  have e : getL (putL r.num 4) = r.num := by rw [getL_putL11]; exact Nat.mod_eq_of_lt h3
  rw [recL_eq]
  unfold readR
  rw [takeL_net _ _ h1]
  dsimp only
  rw [takeL_net _ _ (by rw [putL_length]; omega)]
  dsimp only
  rw [if_neg (by rw [putL_length]; simp), takeL_net _ _ h2, e]

/-- Is slot i (a head, and R sectors of room) said to be used? -/
def usedB (B : List UInt8) (R i : Nat) : Bool := decide (B[i * (R + 1) * 32]? = some 1)
/-- The bytes of slot i's room. -/
def roomB (B : List UInt8) (R i : Nat) : List UInt8 := (B.drop ((i * (R + 1) + 1) * 32)).take (R * 32)
/-- What slot i holds. -/
def slotB (B : List UInt8) (R i : Nat) : Option Rec11 := if usedB B R i = true then readR (roomB B R i) else none

theorem roomB_get (B : List UInt8) (R i t : Nat) : (roomB B R i)[t]? = if t < R * 32 then B[(i * (R + 1) + 1) * 32 + t]? else none := by
  unfold roomB
  rw [List.getElem?_take]
  split
  · rw [List.getElem?_drop]
  · rfl
/-- A room is as it was where none of its bytes is written. -/
theorem roomB_out {B l : List UInt8} {R i o : Nat} (h : o + l.length ≤ B.length) (ho : o + l.length ≤ (i * (R + 1) + 1) * 32 ∨ (i * (R + 1) + 1) * 32 + R * 32 ≤ o) : roomB (layL B o l) R i = roomB B R i := by
  apply List.ext_getElem?
  intro t
  rw [roomB_get, roomB_get]
  split
  · next ht => rw [layL_get h, if_neg (by omega)]
  · rfl
theorem usedB_out {B l : List UInt8} {R i o : Nat} (h : o + l.length ≤ B.length) (ho : o + l.length ≤ i * (R + 1) * 32 ∨ i * (R + 1) * 32 < o) : usedB (layL B o l) R i = usedB B R i := by
  unfold usedB
  rw [layL_get h, if_neg (by omega)]
/-- Places of slots: one behind the other. -/
theorem slot_lt {i j R : Nat} (h : i < j) : (i + 1) * (R + 1) ≤ j * (R + 1) := Nat.mul_le_mul_right _ h
/-- What is written in slot j leaves slot i as it was. -/
theorem slotB_other {B l : List UInt8} {R i j k : Nat} (hij : i ≠ j) (hk : k ≤ R) (hl : l.length ≤ 32) (h : (j * (R + 1) + k) * 32 + l.length ≤ B.length) : slotB (layL B ((j * (R + 1) + k) * 32) l) R i = slotB B R i := by
  have hc : i < j ∨ j < i := by omega
  unfold slotB
  rcases hc with hc | hc
  · have := slot_lt (R := R) hc
    rw [Nat.succ_mul] at this
    rw [usedB_out h (.inr (by omega)), roomB_out h (.inr (by omega))]
  · have := slot_lt (R := R) hc
    rw [Nat.succ_mul] at this
    rw [usedB_out h (.inl (by omega)), roomB_out h (.inl (by omega))]

/-- What is written in a free slot's room leaves it free. -/
theorem usedB_room {B l : List UInt8} {R j k : Nat} (h : (j * (R + 1) + (1 + k)) * 32 + l.length ≤ B.length) (i : Nat) (hk : k < R) (hl : l.length ≤ 32) : usedB (layL B ((j * (R + 1) + (1 + k)) * 32) l) R i = usedB B R i := by
  by_cases hij : i = j
  · subst hij
    exact usedB_out h (.inr (by omega))
  · have hc : i < j ∨ j < i := by omega
    rcases hc with hc | hc
    · have := slot_lt (R := R) hc
      rw [Nat.succ_mul] at this
      exact usedB_out h (.inr (by omega))
    · have := slot_lt (R := R) hc
      rw [Nat.succ_mul] at this
      exact usedB_out h (.inl (by omega))
theorem slotB_room {B l : List UInt8} {R j k : Nat} (h : (j * (R + 1) + (1 + k)) * 32 + l.length ≤ B.length) (hk : k < R) (hl : l.length ≤ 32) (hf : usedB B R j = false) (i : Nat) : slotB (layL B ((j * (R + 1) + (1 + k)) * 32) l) R i = slotB B R i := by
  by_cases hij : i = j
  · subst hij
    unfold slotB
    rw [usedB_room h i hk hl, hf]
    rfl
  · exact slotB_other hij (by omega) hl h
/-- A head is written, or torn: none of it, or its first byte and so all that counts. -/
theorem head_at {B : List UInt8} {R j n : Nat} {b : List UInt8} (hb : b.length ≤ 32) (hn : n ≤ 32) (h : j * (R + 1) * 32 + 32 ≤ B.length) :
    slotB (layL B (j * (R + 1) * 32) ((padB 32 b).take n)) R j = if n = 0 then slotB B R j else if b.getD 0 0 = 1 then readR (roomB B R j) else none := by
  have hp : (padB 32 b).length = 32 := by simp [padB]; omega
  have hl : ((padB 32 b).take n).length = n := by rw [List.length_take]; omega
  by_cases h0 : n = 0
  · subst h0
    rw [if_pos rfl, List.take_zero, layL_nil]
  · have e0 : (padB 32 b)[0]? = some (b.getD 0 0) := by
      unfold padB
      cases b with
      | nil => rfl
      | cons x r => rfl
    have eu : (layL B (j * (R + 1) * 32) ((padB 32 b).take n))[j * (R + 1) * 32]? = some (b.getD 0 0) := by
      rw [layL_get (by omega), if_pos (by omega), Nat.sub_self, List.getElem?_take, if_pos (by omega), e0]
    rw [if_neg h0]
    unfold slotB usedB
    rw [roomB_out (by omega) (.inl (by omega)), eu]
    by_cases h1 : b.getD 0 0 = 1
    · rw [if_pos h1, h1]; rfl
    · rw [if_neg h1, if_neg (by simpa using h1)]
/-- A view of slots with one of them put. -/
def putV (V : Nat → Option Rec11) (j : Nat) (o : Option Rec11) : Nat → Option Rec11 := fun i => if i = j then o else V i
theorem head_view {B : List UInt8} {R j n : Nat} {b : List UInt8} (hb : b.length ≤ 32) (hn : n ≤ 32) (h : j * (R + 1) * 32 + 32 ≤ B.length) :
    slotB (layL B (j * (R + 1) * 32) ((padB 32 b).take n)) R = if n = 0 then slotB B R else putV (slotB B R) j (if b.getD 0 0 = 1 then readR (roomB B R j) else none) := by
  have hl : ((padB 32 b).take n).length ≤ 32 := by rw [List.length_take]; omega
  funext i
  by_cases hij : i = j
  · subst hij
    rw [head_at hb hn h]
    by_cases h0 : n = 0
    · rw [if_pos h0, if_pos h0]
    · rw [if_neg h0, if_neg h0]; unfold putV; rw [if_pos rfl]
  · have hl' : ((padB 32 b).take n).length ≤ n := by rw [List.length_take]; omega
    have := slotB_other (B := B) (l := (padB 32 b).take n) (R := R) (i := i) (j := j) (k := 0) hij (Nat.zero_le _) hl (by rw [Nat.add_zero]; omega)
    rw [Nat.add_zero] at this
    rw [this]
    by_cases h0 : n = 0
    · rw [if_pos h0]
    · rw [if_neg h0]; unfold putV; rw [if_neg hij]

/-- The sectors that a text needs, in their order. -/
def chunk (t : List UInt8) (k : Nat) : List UInt8 := (t.drop (k * 32)).take 32
theorem chunk_len (t : List UInt8) (k : Nat) : (chunk t k).length ≤ 32 := by unfold chunk; rw [List.length_take]; omega
/-- So many sectors of a text are written. -/
def Wrote (B : List UInt8) (R j : Nat) (t : List UInt8) (k : Nat) : Prop := ∀ p, p < k * 32 → p < t.length → (roomB B R j)[p]? = t[p]?
theorem Wrote.zero (B : List UInt8) (R j : Nat) (t : List UInt8) : Wrote B R j t 0 := fun p hp => by omega
theorem Wrote.more {B : List UInt8} {R j k : Nat} {t : List UInt8} (h : Wrote B R j t k) (hk : k < R) (hB : (j * (R + 1) + (1 + k)) * 32 + 32 ≤ B.length) : Wrote (layL B ((j * (R + 1) + (1 + k)) * 32) (padB 32 (chunk t k))) R j t (k + 1) := by
  have hc := chunk_len t k
  have hp : (padB 32 (chunk t k)).length = 32 := by simp [padB]; omega
  intro p h1 h2
  rw [roomB_get, if_pos (by omega), layL_get (by omega)]
  by_cases hin : k * 32 ≤ p
  · rw [if_pos (by omega)]
    have e : (j * (R + 1) + 1) * 32 + p - (j * (R + 1) + (1 + k)) * 32 = p - k * 32 := by omega
    rw [e]
    have hl : p - k * 32 < (chunk t k).length := by unfold chunk; rw [List.length_take, List.length_drop]; omega
    unfold padB
    rw [List.getElem?_append_left hl]
    unfold chunk
    rw [List.getElem?_take, if_pos (by omega), List.getElem?_drop]
    congr 1
    omega
  · rw [if_neg (by omega)]
    have := h p (by omega) h2
    rw [roomB_get, if_pos (by omega)] at this
    exact this
theorem Wrote.all {B : List UInt8} {R j k : Nat} {t : List UInt8} (h : Wrote B R j t k) (hk : t.length ≤ k * 32) : roomB B R j = t ++ (roomB B R j).drop t.length := by
  have : (roomB B R j).take t.length = t := by
    apply List.ext_getElem?
    intro p
    rw [List.getElem?_take]
    by_cases hp : p < t.length
    · rw [if_pos hp]; exact h p (by omega) hp
    · rw [if_neg hp, List.getElem?_eq_none (by omega)]
  conv => lhs; rw [← List.take_append_drop t.length (roomB B R j), this]

/-- The record of slot i counts: of one name the greatest number, of equal numbers the first slot. -/
def Best (V : Nat → Option Rec11) (n i : Nat) (r : Rec11) : Prop :=
  i < n ∧ V i = some r ∧ ∀ k q, k < n → V k = some q → q.name = r.name → q.num < r.num ∨ (q.num = r.num ∧ i ≤ k)
theorem Best.one {V : Nat → Option Rec11} {n i k : Nat} {r q : Rec11} (h : Best V n i r) (h' : Best V n k q) (e : q.name = r.name) : k = i ∧ q = r := by
  obtain ⟨h1, h2, h3⟩ := h
  obtain ⟨g1, g2, g3⟩ := h'
  have a := h3 k q g1 g2 e
  have b := g3 i r h1 h2 e.symm
  have : k = i := by omega
  subst this
  rw [h2] at g2
  exact ⟨rfl, (Option.some.inj g2).symm⟩
/-- Where a name has a record, one of them counts. -/
theorem Best.ex {V : Nat → Option Rec11} (nm : List UInt8) : ∀ n, (∃ k q, k < n ∧ V k = some q ∧ q.name = nm) → ∃ i r, Best V n i r ∧ r.name = nm
  | 0, ⟨k, _, h, _⟩ => by omega
  | n + 1, h => by
    by_cases hn : ∃ k q, k < n ∧ V k = some q ∧ q.name = nm
    · obtain ⟨i, r, ⟨b1, b2, b3⟩, hr⟩ := Best.ex nm n hn
      cases hv : V n with
      | none =>
        refine ⟨i, r, ⟨by omega, b2, fun k q hk hq he => ?_⟩, hr⟩
        have : k ≠ n := fun e => by rw [e, hv] at hq; cases hq
        exact b3 k q (by omega) hq he
      | some q =>
        by_cases hq : q.name = nm ∧ r.num < q.num
        · refine ⟨n, q, ⟨by omega, hv, fun k p hk hp he => ?_⟩, hq.1⟩
          by_cases hkn : k = n
          · subst hkn
            rw [hv] at hp
            cases hp
            exact .inr ⟨rfl, Nat.le_refl _⟩
          · have := b3 k p (by omega) hp (by rw [he, hq.1, hr])
            exact .inl (by omega)
        · refine ⟨i, r, ⟨by omega, b2, fun k p hk hp he => ?_⟩, hr⟩
          by_cases hkn : k = n
          · subst hkn
            rw [hv] at hp
            cases hp
            have hnn : ¬ r.num < q.num := fun hlt => hq ⟨by rw [he, hr], hlt⟩
            by_cases hlt : q.num < r.num
            · exact .inl hlt
            · exact .inr ⟨by omega, by omega⟩
          · exact b3 k p (by omega) hp he
    · obtain ⟨k, q, hk, hq, he⟩ := h
      have hkn : k = n := by
        by_cases e : k = n
        · exact e
        · exact absurd ⟨k, q, by omega, hq, he⟩ hn
      subst hkn
      refine ⟨k, q, ⟨hk, hq, fun j p hj hp hje => ?_⟩, he⟩
      by_cases e : j = k
      · subst e
        rw [hq] at hp
        cases hp
        exact .inr ⟨rfl, Nat.le_refl _⟩
      · exact absurd ⟨j, p, by omega, hp, by rw [hje, he]⟩ hn

/-- Entries (a record, its slot) by rising names. -/
def Rising (l : List (Rec11 × Nat)) : Prop := l.Pairwise fun a b => a.1.name < b.1.name
/-- The entries are what counts in a view. -/
def Shows (V : Nat → Option Rec11) (n : Nat) (l : List (Rec11 × Nat)) : Prop := Rising l ∧ ∀ x, x ∈ l ↔ Best V n x.2 x.1
/-- .. and nothing else is there. -/
def CleanB (V : Nat → Option Rec11) (n : Nat) (l : List (Rec11 × Nat)) : Prop := Shows V n l ∧ ∀ i r, i < n → V i = some r → (r, i) ∈ l
theorem name_irrefl (a : List UInt8) : ¬ a < a := List.lt_irrefl a
theorem name_trans {a b c : List UInt8} (h : a < b) (k : b < c) : a < c := List.lt_trans h k
theorem name_tri {a b : List UInt8} (h : ¬ a < b) (k : a ≠ b) : b < a := by
  have h1 : b ≤ a := List.not_lt.1 h
  by_cases h2 : b < a
  · exact h2
  · exact absurd (List.le_antisymm (List.not_lt.1 h2) h1) k
/-- Rising lists of the same entries are the same. -/
theorem Rising.ext : ∀ {l m : List (Rec11 × Nat)}, Rising l → Rising m → (∀ x, x ∈ l ↔ x ∈ m) → l = m
  | [], [], _, _, _ => rfl
  | [], y :: m, _, _, h => by have := (h y).2 (List.mem_cons_self ..); cases this
  | x :: l, [], _, _, h => by have := (h x).1 (List.mem_cons_self ..); cases this
  | x :: l, y :: m, hl, hm, h => by
    have hl' := List.pairwise_cons.1 hl
    have hm' := List.pairwise_cons.1 hm
    have hxy : x = y := by
      rcases List.mem_cons.1 ((h x).1 (List.mem_cons_self ..)) with e | hx
      · exact e
      · rcases List.mem_cons.1 ((h y).2 (List.mem_cons_self ..)) with e | hy
        · exact e.symm
        · exact absurd (name_trans (hm'.1 _ hx) (hl'.1 _ hy)) (name_irrefl _)
    subst hxy
    congr 1
    refine Rising.ext hl'.2 hm'.2 fun z => ⟨fun hz => ?_, fun hz => ?_⟩
    · rcases List.mem_cons.1 ((h z).1 (List.mem_cons_of_mem _ hz)) with e | hz'
      · subst e; exact absurd (hl'.1 _ hz) (name_irrefl _)
      · exact hz'
    · rcases List.mem_cons.1 ((h z).2 (List.mem_cons_of_mem _ hz)) with e | hz'
      · subst e; exact absurd (hm'.1 _ hz) (name_irrefl _)
      · exact hz'
theorem Shows.one {V : Nat → Option Rec11} {n : Nat} {l m : List (Rec11 × Nat)} (h : Shows V n l) (k : Shows V n m) : l = m := h.1.ext k.1 fun x => (h.2 x).trans (k.2 x).symm

/-- An entry in the place of that of its name. -/
def putE : List (Rec11 × Nat) → Rec11 × Nat → List (Rec11 × Nat)
  | [], x => [x]
  | y :: l, x => if y.1.name < x.1.name then y :: putE l x else if y.1.name = x.1.name then x :: l else x :: y :: l
theorem mem_putE : ∀ {l : List (Rec11 × Nat)} (x y : Rec11 × Nat), Rising l → (y ∈ putE l x ↔ y = x ∨ (y ∈ l ∧ y.1.name ≠ x.1.name))
  | [], x, y, _ => by simp [putE]
  | z :: l, x, y, h => by
    have hc := List.pairwise_cons.1 h
    unfold putE
    by_cases h1 : z.1.name < x.1.name
    · have hz : z.1.name ≠ x.1.name := fun e => name_irrefl _ (e ▸ h1)
      rw [if_pos h1, List.mem_cons, mem_putE x y hc.2, List.mem_cons]
      constructor
      · rintro (rfl | rfl | ⟨h2, h3⟩)
        · exact .inr ⟨.inl rfl, hz⟩
        · exact .inl rfl
        · exact .inr ⟨.inr h2, h3⟩
      · rintro (rfl | ⟨rfl | h2, h3⟩)
        · exact .inr (.inl rfl)
        · exact .inl rfl
        · exact .inr (.inr ⟨h2, h3⟩)
    · rw [if_neg h1]
      have far : ∀ u ∈ l, u.1.name ≠ x.1.name := fun u hu e => by
        have := hc.1 u hu
        rw [e] at this
        exact h1 this
      by_cases h2 : z.1.name = x.1.name
      · rw [if_pos h2, List.mem_cons, List.mem_cons]
        constructor
        · rintro (rfl | h3)
          · exact .inl rfl
          · exact .inr ⟨.inr h3, far _ h3⟩
        · rintro (rfl | ⟨rfl | h3, h4⟩)
          · exact .inl rfl
          · exact absurd h2 h4
          · exact .inr h3
      · rw [if_neg h2, List.mem_cons, List.mem_cons]
        constructor
        · rintro (rfl | rfl | h3)
          · exact .inl rfl
          · exact .inr ⟨.inl rfl, h2⟩
          · exact .inr ⟨.inr h3, far _ h3⟩
        · rintro (rfl | ⟨rfl | h3, h4⟩)
          · exact .inl rfl
          · exact .inr (.inl rfl)
          · exact .inr (.inr h3)
theorem putE_rising : ∀ {l : List (Rec11 × Nat)} (x : Rec11 × Nat), Rising l → Rising (putE l x)
  | [], x, _ => List.pairwise_cons.2 ⟨fun _ h => (List.not_mem_nil h).elim, List.Pairwise.nil⟩
  | z :: l, x, h => by
    have hc := List.pairwise_cons.1 h
    unfold putE
    by_cases h1 : z.1.name < x.1.name
    · rw [if_pos h1]
      refine List.pairwise_cons.2 ⟨fun y hy => ?_, putE_rising x hc.2⟩
      rcases (mem_putE x y hc.2).1 hy with rfl | ⟨h2, _⟩
      · exact h1
      · exact hc.1 y h2
    · rw [if_neg h1]
      by_cases h2 : z.1.name = x.1.name
      · rw [if_pos h2]
        refine List.pairwise_cons.2 ⟨fun y hy => ?_, hc.2⟩
        have := hc.1 y hy
        rwa [h2] at this
      · rw [if_neg h2]
        have hx := name_tri h1 h2
        refine List.pairwise_cons.2 ⟨fun y hy => ?_, h⟩
        rcases List.mem_cons.1 hy with rfl | h3
        · exact hx
        · exact name_trans hx (hc.1 y h3)

/-- A record of a greater number than its name's others, put into a free slot, counts; the others as before. -/
theorem CleanB.put {V : Nat → Option Rec11} {n j : Nat} {l : List (Rec11 × Nat)} {r : Rec11} (h : CleanB V n l) (hj : j < n) (hf : V j = none) (hr : ∀ x ∈ l, x.1.name = r.name → x.1.num < r.num) : Shows (putV V j (some r)) n (putE l (r, j)) := by
  refine ⟨putE_rising _ h.1.1, fun x => ?_⟩
  rw [mem_putE _ _ h.1.1]
  have hl : ∀ k q, k < n → k ≠ j → putV V j (some r) k = some q → (q, k) ∈ l := fun k q hk hkj hq => by
    unfold putV at hq
    rw [if_neg hkj] at hq
    exact h.2 k q hk hq
  constructor
  · rintro (rfl | ⟨h1, h2⟩)
    · refine ⟨hj, by unfold putV; rw [if_pos rfl], fun k q hk hq he => ?_⟩
      by_cases hkj : k = j
      · subst hkj
        unfold putV at hq
        rw [if_pos rfl] at hq
        cases hq
        exact .inr ⟨rfl, Nat.le_refl _⟩
      · exact .inl (hr _ (hl k q hk hkj hq) he)
    · obtain ⟨b1, b2, b3⟩ := (h.1.2 x).1 h1
      have hxj : x.2 ≠ j := fun e => by rw [e, hf] at b2; cases b2
      refine ⟨b1, by unfold putV; rw [if_neg hxj]; exact b2, fun k q hk hq he => ?_⟩
      by_cases hkj : k = j
      · subst hkj
        unfold putV at hq
        rw [if_pos rfl] at hq
        cases hq
        exact absurd he.symm h2
      · unfold putV at hq
        rw [if_neg hkj] at hq
        exact b3 k q hk hq he
  · intro hb
    by_cases hn : x.1.name = r.name
    · have hb' : Best (putV V j (some r)) n j r := ⟨hj, by unfold putV; rw [if_pos rfl], fun k q hk hq he => by
        by_cases hkj : k = j
        · subst hkj
          unfold putV at hq
          rw [if_pos rfl] at hq
          cases hq
          exact .inr ⟨rfl, Nat.le_refl _⟩
        · exact .inl (hr _ (hl k q hk hkj hq) he)⟩
      obtain ⟨e1, e2⟩ := hb'.one hb hn
      exact .inl (Prod.ext e2 e1)
    · obtain ⟨b1, b2, _⟩ := hb
      have hxj : x.2 ≠ j := fun e => by
        unfold putV at b2
        rw [if_pos e] at b2
        cases b2
        exact hn rfl
      exact .inr ⟨hl _ _ b1 hxj b2, hn⟩
/-- What doesn't count may be freed. -/
theorem Shows.free {V : Nat → Option Rec11} {n i : Nat} {l : List (Rec11 × Nat)} (h : Shows V n l) (hi : ∀ r, (r, i) ∉ l) : Shows (putV V i none) n l := by
  refine ⟨h.1, fun x => ?_⟩
  have key : ∀ k q, putV V i none k = some q → V k = some q ∧ k ≠ i := fun k q hq => by
    unfold putV at hq
    by_cases e : k = i
    · rw [if_pos e] at hq; cases hq
    · rw [if_neg e] at hq; exact ⟨hq, e⟩
  constructor
  · intro hx
    obtain ⟨b1, b2, b3⟩ := (h.2 x).1 hx
    have hxi : x.2 ≠ i := fun e => hi x.1 (by rw [← e]; exact hx)
    exact ⟨b1, by unfold putV; rw [if_neg hxi]; exact b2, fun k q hk hq he => b3 k q hk (key k q hq).1 he⟩
  · rintro ⟨b1, b2, b3⟩
    obtain ⟨c1, c2⟩ := key _ _ b2
    obtain ⟨k, q, hb, hq⟩ := Best.ex (V := V) x.1.name n ⟨x.2, x.1, b1, c1, rfl⟩
    have hm : (q, k) ∈ l := (h.2 (q, k)).2 hb
    have hki : k ≠ i := fun e => hi q (by rw [← e]; exact hm)
    have hb' : Best (putV V i none) n k q := ⟨hb.1, by unfold putV; rw [if_neg hki]; exact hb.2.1, fun m p hm' hp he => hb.2.2 m p hm' (key m p hp).1 he⟩
    obtain ⟨e1, e2⟩ := hb'.one ⟨b1, b2, b3⟩ hq.symm
    have : x = (q, k) := Prod.ext e2 e1
    rw [this]
    exact hm
/-- Behind a put whose elder record is freed nothing else is there. -/
theorem CleanB.put_new {V : Nat → Option Rec11} {n j : Nat} {l : List (Rec11 × Nat)} {r : Rec11} (h : CleanB V n l) (hj : j < n) (hf : V j = none) (hr : ∀ x ∈ l, x.1.name ≠ r.name) : CleanB (putV V j (some r)) n (putE l (r, j)) := by
  refine ⟨h.put hj hf fun x hx e => absurd e (hr x hx), fun i q hi hq => ?_⟩
  rw [mem_putE _ _ h.1.1]
  unfold putV at hq
  by_cases e : i = j
  · rw [if_pos e] at hq
    cases hq
    rw [e]
    exact .inl rfl
  · rw [if_neg e] at hq
    have := h.2 i q hi hq
    exact .inr ⟨this, hr _ this⟩
theorem CleanB.put_old {V : Nat → Option Rec11} {n j : Nat} {l : List (Rec11 × Nat)} {r : Rec11} {x : Rec11 × Nat} (h : CleanB V n l) (hj : j < n) (hf : V j = none) (hx : x ∈ l) (hn : x.1.name = r.name) (hr : x.1.num < r.num) : CleanB (putV (putV V j (some r)) x.2 none) n (putE l (r, j)) := by
  have bx := (h.1.2 x).1 hx
  have one : ∀ y ∈ l, y.1.name = r.name → y = x := fun y hy e => by
    obtain ⟨e1, e2⟩ := bx.one ((h.1.2 y).1 hy) (by rw [e, hn])
    exact Prod.ext e2 e1
  have hxj : x.2 ≠ j := fun e => by have := bx.2.1; rw [e, hf] at this; cases this
  have hs := h.put hj hf fun y hy e => by rw [one y hy e]; exact hr
  refine ⟨hs.free fun q hq => ?_, fun i q hi hq => ?_⟩
  · rcases (mem_putE _ _ h.1.1).1 hq with e | ⟨h1, h2⟩
    · exact hxj (congrArg Prod.snd e)
    · have b := ((h.1.2 _).1 h1).2.1
      have b' := bx.2.1
      rw [b'] at b
      exact h2 (by rw [← Option.some.inj b]; exact hn)
  · rw [mem_putE _ _ h.1.1]
    unfold putV at hq
    by_cases e1 : i = x.2
    · rw [if_pos e1] at hq; cases hq
    · rw [if_neg e1] at hq
      by_cases e : i = j
      · rw [if_pos e] at hq
        cases hq
        rw [e]
        exact .inl rfl
      · rw [if_neg e] at hq
        have := h.2 i q hi hq
        exact .inr ⟨this, fun e2 => e1 (congrArg Prod.snd (one _ this e2))⟩
/-- A record that counts is dropped. -/
theorem CleanB.drop {V : Nat → Option Rec11} {n : Nat} {l : List (Rec11 × Nat)} {x : Rec11 × Nat} (h : CleanB V n l) (hx : x ∈ l) : CleanB (putV V x.2 none) n (l.filter fun y => decide (y.1.name ≠ x.1.name)) := by
  have bx := (h.1.2 x).1 hx
  have key : ∀ k q, putV V x.2 none k = some q → V k = some q ∧ k ≠ x.2 := fun k q hq => by
    unfold putV at hq
    by_cases e : k = x.2
    · rw [if_pos e] at hq; cases hq
    · rw [if_neg e] at hq; exact ⟨hq, e⟩
  have far : ∀ k q, k < n → V k = some q → k ≠ x.2 → q.name ≠ x.1.name := fun k q hk hq hne e => by
    obtain ⟨e1, _⟩ := bx.one ((h.1.2 (q, k)).1 (h.2 k q hk hq)) e
    exact hne e1
  have mem : ∀ y : Rec11 × Nat, y ∈ l.filter (fun y => decide (y.1.name ≠ x.1.name)) ↔ y ∈ l ∧ y.1.name ≠ x.1.name := fun y => by rw [List.mem_filter, decide_eq_true_iff]
  refine ⟨⟨List.Pairwise.filter _ h.1.1, fun y => ?_⟩, fun i q hi hq => ?_⟩
  · rw [mem]
    constructor
    · rintro ⟨h1, h2⟩
      obtain ⟨b1, b2, b3⟩ := (h.1.2 y).1 h1
      have hyx : y.2 ≠ x.2 := fun e => by
        have b := bx.2.1
        rw [← e, b2] at b
        exact h2 (by rw [Option.some.inj b])
      exact ⟨b1, by unfold putV; rw [if_neg hyx]; exact b2, fun k q hk hq he => b3 k q hk (key k q hq).1 he⟩
    · rintro ⟨b1, b2, _⟩
      obtain ⟨c1, c2⟩ := key _ _ b2
      exact ⟨h.2 _ _ b1 c1, far _ _ b1 c1 c2⟩
  · obtain ⟨c1, c2⟩ := key _ _ hq
    exact (mem _).2 ⟨h.2 i q hi c1, far i q hi c1 c2⟩

/-- Sectors are written, one behind the other, till one fails; whether none did. -/
def Dsk.all (s : Dsk) (N : Nat) : List (Nat × List UInt8) → Dsk × Bool
  | [] => (s, true)
  | x :: r => if s.code N (x.1 : Int) x.2.length = 0 then (s.next N (x.1 : Int) x.2).all N r else (s.next N (x.1 : Int) x.2, false)
theorem Dsk.all_cons (s : Dsk) (N : Nat) (x : Nat × List UInt8) (r : List (Nat × List UInt8)) : s.all N (x :: r) = if s.code N (x.1 : Int) x.2.length = 0 then (s.next N (x.1 : Int) x.2).all N r else (s.next N (x.1 : Int) x.2, false) := rfl
theorem Dsk.all_nil (s : Dsk) (N : Nat) : s.all N [] = (s, true) := rfl
theorem Dsk.all_append (N : Nat) : ∀ (a b : List (Nat × List UInt8)) (s : Dsk), s.all N (a ++ b) = if (s.all N a).2 = true then (s.all N a).1.all N b else s.all N a
  | [], b, s => by simp [Dsk.all]
  | x :: a, b, s => by
    rw [List.cons_append, Dsk.all_cons, Dsk.all_cons]
    by_cases h : s.code N (x.1 : Int) x.2.length = 0
    · rw [if_pos h, if_pos h]; exact Dsk.all_append N a b _
    · rw [if_neg h, if_neg h]; rfl
/-- What stays as it is, whatever is written: how many bytes, what a Stop keeps. -/
structure Kept (s s' : Dsk) : Prop where
  len : s'.B.length = s.B.length
  keep : s'.keep = s.keep
theorem Kept.refl (s : Dsk) : Kept s s := ⟨rfl, rfl⟩
theorem Kept.trans {a b c : Dsk} (h : Kept a b) (k : Kept b c) : Kept a c := ⟨k.len.trans h.len, k.keep.trans h.keep⟩
/-- A write that ends well, and one that does not. -/
theorem next_cases {s : Dsk} {N i : Nat} {b : List UInt8} (hi : i < N) (hb : b.length ≤ 32) (hk : s.keep ≤ 32) (hB : s.B.length = N * 32) :
    (s.code N (i : Int) b.length = 0 ∧ s.dead = false ∧ (s.next N (i : Int) b).dead = false ∧ (s.next N (i : Int) b).B = layL s.B (i * 32) (padB 32 b) ∧ Kept s (s.next N (i : Int) b)) ∨
    (s.code N (i : Int) b.length ≠ 0 ∧ s.code N (i : Int) b.length = 8 ∧ (s.next N (i : Int) b).dead = true ∧ Kept s (s.next N (i : Int) b) ∧ ∃ m, m ≤ 32 ∧ (s.next N (i : Int) b).B = layL s.B (i * 32) ((padB 32 b).take m)) := by
  have hbad : ¬ badW N (i : Int) b.length := by unfold badW; omega
  have hp := padB_len hb
  have hr : i * 32 + 32 ≤ s.B.length := by omega
  unfold Dsk.code Dsk.next
  rw [if_neg hbad, if_neg hbad]
  by_cases hd : s.dead = true
  · rw [if_pos hd, if_pos hd]
    exact .inr ⟨by omega, rfl, hd, .refl _, 0, by omega, by rw [List.take_zero, layL_nil]⟩
  · rw [if_neg hd, if_neg hd]
    have hd' : s.dead = false := by simpa using hd
    by_cases ha : s.ahead = true ∧ s.at_ = 0
    · rw [if_pos ha, if_pos ha]
      refine .inr ⟨by omega, rfl, rfl, ⟨?_, rfl⟩, s.keep, hk, by rw [Int.toNat_natCast]; rfl⟩
      unfold Dsk.tear
      exact layL_len (by rw [List.length_take, Int.toNat_natCast]; omega)
    · rw [if_neg ha, if_neg ha]
      refine .inl ⟨rfl, hd', hd', by unfold Dsk.well; rw [Int.toNat_natCast], ⟨?_, rfl⟩⟩
      unfold Dsk.well
      exact layL_len (by rw [Int.toNat_natCast]; omega)

/-- A store's disk: n slots of a head and R sectors. -/
structure Geo (s : Dsk) (R n : Nat) : Prop where
  len : s.B.length = n * (R + 1) * 32
  keep : s.keep ≤ 32
theorem Geo.kept {s s' : Dsk} {R n : Nat} (h : Geo s R n) (k : Kept s s') : Geo s' R n := ⟨k.len.trans h.len, k.keep ▸ h.keep⟩
theorem geo_lt {R n j k : Nat} (hj : j < n) (hk : k ≤ R) : j * (R + 1) + k < n * (R + 1) := by
  have := slot_lt (R := R) hj
  rw [Nat.succ_mul] at this
  omega
/-- The sectors of a text behind the head of slot j. -/
def textW (R j : Nat) (t : List UInt8) (K : Nat) : List (Nat × List UInt8) := (List.range K).map fun k => (j * (R + 1) + (1 + k), chunk t k)
theorem textW_succ (R j : Nat) (t : List UInt8) (K : Nat) : textW R j t (K + 1) = textW R j t K ++ [(j * (R + 1) + (1 + K), chunk t K)] := by
  unfold textW
  rw [List.range_succ, List.map_append]
  rfl
/-- What a text's sectors do to a disk: nothing that counts. -/
structure Texted (s s' : Dsk) (R n j : Nat) (t : List UInt8) (k : Nat) (ok : Bool) : Prop where
  kept : Kept s s'
  used : ∀ i, usedB s'.B R i = usedB s.B R i
  slot : ∀ i, slotB s'.B R i = slotB s.B R i
  yes : ok = true → Wrote s'.B R j t k ∧ (s.dead = false → s'.dead = false) ∧ (0 < k → s'.dead = false)
  no : ok = false → s'.dead = true
theorem text_all {s : Dsk} {R n j : Nat} (t : List UInt8) (h : Geo s R n) (hj : j < n) (hf : usedB s.B R j = false) : ∀ K, K ≤ R → Texted s (s.all (n * (R + 1)) (textW R j t K)).1 R n j t K (s.all (n * (R + 1)) (textW R j t K)).2
  | 0, _ => ⟨.refl _, fun _ => rfl, fun _ => rfl, fun _ => ⟨.zero _ _ _ _, id, fun h => by omega⟩, fun h => (by cases h)⟩
  | K + 1, hK => by
    have ih := text_all t h hj hf K (by omega)
    rw [textW_succ, Dsk.all_append]
    generalize e : s.all (n * (R + 1)) (textW R j t K) = q at ih ⊢
    obtain ⟨s', ok⟩ := q
    dsimp only at ih ⊢
    cases ok with
    | false =>
      rw [if_neg (by simp)]
      exact ⟨ih.kept, ih.used, ih.slot, fun h => (by cases h), ih.no⟩
    | true =>
      rw [if_pos rfl]
      have g' := h.kept ih.kept
      have hlt : j * (R + 1) + (1 + K) < n * (R + 1) := geo_lt hj (by omega)
      have hB : (j * (R + 1) + (1 + K)) * 32 + 32 ≤ s'.B.length := by rw [g'.len]; omega
      have hc := chunk_len t K
      have hp := padB_len hc
      have hf' : usedB s'.B R j = false := (ih.used j).trans hf
      have hout : ∀ m, m ≤ 32 → (∀ i, usedB (layL s'.B ((j * (R + 1) + (1 + K)) * 32) ((padB 32 (chunk t K)).take m)) R i = usedB s.B R i) ∧ (∀ i, slotB (layL s'.B ((j * (R + 1) + (1 + K)) * 32) ((padB 32 (chunk t K)).take m)) R i = slotB s.B R i) := fun m hm => by
        have hl : ((padB 32 (chunk t K)).take m).length ≤ 32 := by rw [List.length_take]; omega
        exact ⟨fun i => (usedB_room (by omega) i (by omega) hl).trans (ih.used i), fun i => (slotB_room (by omega) (by omega) hl hf' i).trans (ih.slot i)⟩
      rw [Dsk.all_cons]
      dsimp only
      rcases next_cases (s := s') (N := n * (R + 1)) (i := j * (R + 1) + (1 + K)) (b := chunk t K) hlt hc g'.keep g'.len with ⟨h1, h2, h3, h4, h5⟩ | ⟨h1, _, h3, h5, m, hm, h4⟩
      · rw [if_pos h1, Dsk.all_nil]
        have hw := hout 32 (Nat.le_refl _)
        rw [List.take_of_length_le (by omega)] at hw
        refine ⟨ih.kept.trans h5, fun i => ?_, fun i => ?_, fun _ => ⟨?_, fun _ => h3, fun _ => h3⟩, fun h => (by cases h)⟩
        · rw [h4]; exact hw.1 i
        · rw [h4]; exact hw.2 i
        · rw [h4]; exact (ih.yes rfl).1.more (by omega) hB
      · rw [if_neg h1]
        have hw := hout m hm
        refine ⟨ih.kept.trans h5, fun i => ?_, fun i => ?_, fun h => (by cases h), fun _ => h3⟩
        · rw [h4]; exact hw.1 i
        · rw [h4]; exact hw.2 i

/-- Every slot that is said to be used has a record. -/
def Tidy (B : List UInt8) (R n : Nat) : Prop := ∀ i, i < n → usedB B R i = true → slotB B R i ≠ none
theorem used_none {B : List UInt8} {R n i : Nat} (h : Tidy B R n) (hi : i < n) : slotB B R i = none ↔ usedB B R i = false := by
  constructor
  · intro e
    cases hu : usedB B R i with
    | false => rfl
    | true => exact absurd e (h i hi hu)
  · intro e
    unfold slotB
    rw [e]
    rfl
/-- A head is written, well or torn. -/
theorem head_used {B : List UInt8} {R j m : Nat} {b : List UInt8} (hb : b.length ≤ 32) (hm : m ≤ 32) (h : j * (R + 1) * 32 + 32 ≤ B.length) (i : Nat) :
    usedB (layL B (j * (R + 1) * 32) ((padB 32 b).take m)) R i = if i = j ∧ m ≠ 0 then decide (b.getD 0 0 = 1) else usedB B R i := by
  have hp := padB_len hb
  have hl : ((padB 32 b).take m).length = m := by rw [List.length_take]; omega
  by_cases hij : i = j
  · subst hij
    by_cases h0 : m = 0
    · subst h0
      rw [if_neg (by omega), List.take_zero, layL_nil]
    · rw [if_pos ⟨rfl, h0⟩]
      have e0 : (padB 32 b)[0]? = some (b.getD 0 0) := by
        unfold padB
        cases b with
        | nil => rfl
        | cons x r => rfl
      unfold usedB
      rw [layL_get (by omega), if_pos (by omega), Nat.sub_self, List.getElem?_take, if_pos (by omega), e0]
      simp
  · rw [if_neg (fun e => hij e.1)]
    have hc : i < j ∨ j < i := by omega
    rcases hc with hc | hc
    · have := slot_lt (R := R) hc
      rw [Nat.succ_mul] at this
      exact usedB_out (by omega) (.inr (by omega))
    · have := slot_lt (R := R) hc
      rw [Nat.succ_mul] at this
      exact usedB_out (by omega) (.inl (by omega))
/-- A head's write: as it was, or done. -/
theorem head_all {s : Dsk} {R n j : Nat} {b : List UInt8} (h : Geo s R n) (hj : j < n) (hb : b.length ≤ 32) (ht : Tidy s.B R n) (ho : b.getD 0 0 = 1 → readR (roomB s.B R j) ≠ none) (r : List (Nat × List UInt8)) :
    ∃ s', Geo s' R n ∧ Kept s s' ∧ Tidy s'.B R n ∧
      ((s.all (n * (R + 1)) ((j * (R + 1), b) :: r) = s'.all (n * (R + 1)) r ∧ s'.dead = false ∧ slotB s'.B R = putV (slotB s.B R) j (if b.getD 0 0 = 1 then readR (roomB s.B R j) else none)) ∨
       (s.all (n * (R + 1)) ((j * (R + 1), b) :: r) = (s', false) ∧ s'.dead = true ∧ (slotB s'.B R = slotB s.B R ∨ slotB s'.B R = putV (slotB s.B R) j (if b.getD 0 0 = 1 then readR (roomB s.B R j) else none)))) := by
  have hlt : j * (R + 1) < n * (R + 1) := by have := geo_lt (R := R) hj (Nat.zero_le _); omega
  have hB : j * (R + 1) * 32 + 32 ≤ s.B.length := by rw [h.len]; omega
  have hp := padB_len hb
  have tid : ∀ m, m ≤ 32 → Tidy (layL s.B (j * (R + 1) * 32) ((padB 32 b).take m)) R n := fun m hm i hi hu => by
    rw [head_used hb hm hB] at hu
    rw [head_view hb hm hB]
    by_cases h0 : m = 0
    · rw [if_neg (by omega)] at hu
      rw [if_pos h0]
      exact ht i hi hu
    · rw [if_neg h0]
      unfold putV
      by_cases hij : i = j
      · rw [if_pos ⟨hij, h0⟩] at hu
        have h1 : b.getD 0 0 = 1 := of_decide_eq_true hu
        rw [if_pos hij, if_pos h1]
        exact ho h1
      · rw [if_neg (fun e => hij e.1)] at hu
        rw [if_neg hij]
        exact ht i hi hu
  rw [Dsk.all_cons]
  dsimp only
  rcases next_cases (s := s) (N := n * (R + 1)) (i := j * (R + 1)) (b := b) hlt hb h.keep h.len with ⟨h1, h2, h3, h4, h5⟩ | ⟨h1, _, h3, h5, m, hm, h4⟩
  · have e32 : (padB 32 b).take 32 = padB 32 b := List.take_of_length_le (by omega)
    refine ⟨_, h.kept h5, h5, ?_, .inl ⟨by rw [if_pos h1], h3, ?_⟩⟩
    · rw [h4, ← e32]; exact tid 32 (Nat.le_refl _)
    · rw [h4, ← e32, head_view hb (Nat.le_refl _) hB, if_neg (by omega)]
  · refine ⟨_, h.kept h5, h5, ?_, .inr ⟨by rw [if_neg h1], h3, ?_⟩⟩
    · rw [h4]; exact tid m hm
    · rw [h4, head_view hb hm hB]
      by_cases h0 : m = 0
      · rw [if_pos h0]; exact .inl rfl
      · rw [if_neg h0]; exact .inr rfl

/-- The writes of a put: the text, the head, and the elder record's head. -/
def putSt (R j : Nat) (t : List UInt8) (old : Option Nat) : List (Nat × List UInt8) :=
  textW R j t ((t.length + 31) / 32) ++ (j * (R + 1), [1]) :: (old.toList.map fun o => (o * (R + 1), []))
/-- What is left behind a call that may have stopped. -/
structure Left (s s' : Dsk) (R n : Nat) (ok : Bool) (yes no : (Nat → Option Rec11) → Prop) (new : Rec11 → Prop) : Prop where
  geo : Geo s' R n
  kept : Kept s s'
  tidy : Tidy s'.B R n
  yes : ok = true → s'.dead = false ∧ yes (slotB s'.B R)
  no : ok = false → s'.dead = true ∧ no (slotB s'.B R)
  src : ∀ i q, slotB s'.B R i = some q → slotB s.B R i = some q ∨ new q
theorem src_same {V W : Nat → Option Rec11} {new : Rec11 → Prop} (h : W = V) : ∀ i q, W i = some q → V i = some q ∨ new q := fun i q hq => .inl (by rw [← h]; exact hq)
theorem src_put {V W X : Nat → Option Rec11} {j : Nat} {o : Option Rec11} {new : Rec11 → Prop} (h : W = putV X j o) (hX : ∀ i q, X i = some q → V i = some q ∨ new q) (ho : ∀ q, o = some q → new q) : ∀ i q, W i = some q → V i = some q ∨ new q := fun i q hq => by
  rw [h] at hq
  unfold putV at hq
  by_cases e : i = j
  · rw [if_pos e] at hq; exact .inr (ho q hq)
  · rw [if_neg e] at hq; exact hX i q hq
theorem put_all {s : Dsk} {R n j : Nat} {l : List (Rec11 × Nat)} {r : Rec11} (h : Geo s R n) (hc : CleanB (slotB s.B R) n l) (ht : Tidy s.B R n) (hj : j < n) (hf : usedB s.B R j = false)
    (s1 : r.name.length ≤ 16384) (s2 : r.data.length ≤ 16384) (s3 : r.num < 4294967296) (s4 : (recL r).length ≤ R * 32)
    (old : Option (Rec11 × Nat)) (ho : ∀ x, old = some x → x ∈ l ∧ x.1.name = r.name ∧ x.1.num < r.num) (hn : old = none → ∀ x ∈ l, x.1.name ≠ r.name) :
    Left s (s.all (n * (R + 1)) (putSt R j (recL r) (old.map (·.2)))).1 R n (s.all (n * (R + 1)) (putSt R j (recL r) (old.map (·.2)))).2
      (fun V => CleanB V n (putE l (r, j))) (fun V => CleanB V n l ∨ Shows V n (putE l (r, j))) (fun q => q = r) := by
  have hK : ((recL r).length + 31) / 32 ≤ R := by omega
  have T := text_all (recL r) h hj hf _ hK
  have hvn : slotB s.B R j = none := (used_none ht hj).2 hf
  have hle : ∀ x ∈ l, x.1.name = r.name → x.1.num < r.num := fun x hx e => by
    cases hold : old with
    | none => exact absurd e (hn hold x hx)
    | some y =>
      obtain ⟨h1, h2, h3⟩ := ho y hold
      obtain ⟨e1, e2⟩ := ((hc.1.2 y).1 h1).one ((hc.1.2 x).1 hx) (by rw [e, h2])
      rw [e2]
      exact h3
  unfold putSt
  rw [Dsk.all_append]
  generalize e : s.all (n * (R + 1)) (textW R j (recL r) (((recL r).length + 31) / 32)) = q at T ⊢
  obtain ⟨sa, ok⟩ := q
  dsimp only at T ⊢
  have hsl : slotB sa.B R = slotB s.B R := funext T.slot
  have hta : Tidy sa.B R n := fun i hi hu => by rw [T.slot]; exact ht i hi (by rw [← T.used]; exact hu)
  have ga := h.kept T.kept
  cases ok with
  | false =>
    rw [if_neg (by simp)]
    exact ⟨ga, T.kept, hta, fun h => (by cases h), fun _ => ⟨T.no rfl, .inl (by rw [hsl]; exact hc)⟩, src_same hsl⟩
  | true =>
    rw [if_pos rfl]
    have hrd : readR (roomB sa.B R j) = some r := by
      rw [(T.yes rfl).1.all (by omega)]
      exact readR_recL _ _ s1 s2 s3
    obtain ⟨sb, gb, kb, tb, H⟩ := head_all (b := [1]) ga hj (by simp) hta (fun _ => by rw [hrd]; simp) (old.toList.map fun o => (o.2 * (R + 1), []))
    rw [if_pos (c := [(1 : UInt8)].getD 0 0 = 1) rfl, hrd, hsl] at H
    have hmap : ((old.map (·.2)).toList.map fun o => (o * (R + 1), ([] : List UInt8))) = old.toList.map fun o => (o.2 * (R + 1), []) := by cases old <;> rfl
    rw [hmap]
    have hr1 : ∀ q : Rec11, some r = some q → q = r := fun q h => (Option.some.inj h).symm
    have hr0 : ∀ q : Rec11, none = some q → q = r := fun q h => (by cases h)
    have hself : ∀ i q, slotB s.B R i = some q → slotB s.B R i = some q ∨ q = r := fun _ _ h => .inl h
    rcases H with ⟨e1, e2, e3⟩ | ⟨e1, e2, e3⟩
    · rw [e1]
      cases hold : old with
      | none =>
        exact ⟨gb, T.kept.trans kb, tb, fun _ => ⟨e2, by show CleanB (slotB sb.B R) _ _; rw [e3]; exact hc.put_new hj hvn (hn hold)⟩, fun h => (by cases h), src_put e3 hself hr1⟩
      | some x =>
        obtain ⟨h1, h2, h3⟩ := ho x hold
        have hx := ((hc.1.2 x).1 h1).1
        obtain ⟨sc, gc, kc, tc, H'⟩ := head_all (b := []) gb hx (by simp) tb (fun h => by simp at h) []
        rw [if_neg (by simp), e3] at H'
        have hcl := hc.put_old hj hvn h1 h2 h3
        have hsh := hc.put hj hvn hle
        show Left s (sb.all (n * (R + 1)) [(x.2 * (R + 1), [])]).1 R n (sb.all (n * (R + 1)) [(x.2 * (R + 1), [])]).2 _ _ _
        have hv1 : ∀ i q, putV (slotB s.B R) j (some r) i = some q → slotB s.B R i = some q ∨ q = r := src_put rfl hself hr1
        rcases H' with ⟨f1, f2, f3⟩ | ⟨f1, f2, f3⟩
        · rw [f1]
          exact ⟨gc, (T.kept.trans kb).trans kc, tc, fun _ => ⟨f2, by show CleanB (slotB sc.B R) _ _; rw [f3]; exact hcl⟩, fun h => (by cases h), src_put f3 hv1 hr0⟩
        · rw [f1]
          refine ⟨gc, (T.kept.trans kb).trans kc, tc, fun h => (by cases h), fun _ => ⟨f2, .inr ?_⟩, ?_⟩
          · show Shows (slotB sc.B R) _ _
            rcases f3 with f3 | f3
            · rw [f3]; exact hsh
            · rw [f3]; exact hcl.1
          · rcases f3 with f3 | f3
            · intro i q hq; rw [f3] at hq; exact hv1 i q hq
            · exact src_put f3 hv1 hr0
    · rw [e1]
      refine ⟨gb, T.kept.trans kb, tb, fun h => (by cases h), fun _ => ⟨e2, ?_⟩, ?_⟩
      · show CleanB (slotB sb.B R) _ _ ∨ Shows (slotB sb.B R) _ _
        rcases e3 with e3 | e3
        · rw [e3]; exact .inl hc
        · rw [e3]; exact .inr (hc.put hj hvn hle)
      · rcases e3 with e3 | e3
        · exact src_same e3
        · exact src_put e3 hself hr1
/-! ### Opening -/
/-- Slots are freed: so many of them as the disk lives for. -/
def freeW (R : Nat) (is : List Nat) : List (Nat × List UInt8) := is.map fun i => (i * (R + 1), [])
theorem frees_all {R n : Nat} : ∀ (is : List Nat) {s : Dsk}, Geo s R n → (∀ i ∈ is, i < n) → ∃ D : List Nat, (∀ i ∈ D, i ∈ is) ∧
    Kept s (s.all (n * (R + 1)) (freeW R is)).1 ∧
    (∀ i, slotB (s.all (n * (R + 1)) (freeW R is)).1.B R i = if i ∈ D then none else slotB s.B R i) ∧
    (∀ i, usedB (s.all (n * (R + 1)) (freeW R is)).1.B R i = if i ∈ D then false else usedB s.B R i) ∧
    ((s.all (n * (R + 1)) (freeW R is)).2 = true → (∀ i ∈ is, i ∈ D) ∧ (s.dead = false → (s.all (n * (R + 1)) (freeW R is)).1.dead = false)) ∧
    ((s.all (n * (R + 1)) (freeW R is)).2 = false → (s.all (n * (R + 1)) (freeW R is)).1.dead = true)
  | [], s, h, _ => ⟨[], fun _ h => h, .refl _, fun i => by rw [if_neg (by simp)]; rfl, fun i => by rw [if_neg (by simp)]; rfl, fun _ => ⟨fun _ h => h, id⟩, fun h => (by cases h)⟩
  | j :: is, s, h, hi => by
    have hj : j < n := hi j (List.mem_cons_self ..)
    have hlt : j * (R + 1) < n * (R + 1) := by have := geo_lt (R := R) hj (Nat.zero_le _); omega
    have hB : j * (R + 1) * 32 + 32 ≤ s.B.length := by rw [h.len]; omega
    have hp : (padB 32 ([] : List UInt8)).length = 32 := padB_len (by simp)
    have view : ∀ m, m ≤ 32 → m ≠ 0 → (∀ i, slotB (layL s.B (j * (R + 1) * 32) ((padB 32 []).take m)) R i = if i = j then none else slotB s.B R i) ∧ (∀ i, usedB (layL s.B (j * (R + 1) * 32) ((padB 32 []).take m)) R i = if i = j then false else usedB s.B R i) := fun m hm h0 => by
      refine ⟨fun i => ?_, fun i => ?_⟩
      · rw [head_view (by simp) hm hB, if_neg h0]
        unfold putV
        rw [if_neg (c := ([] : List UInt8).getD 0 0 = 1) (by simp)]
      · rw [head_used (by simp) hm hB]
        by_cases e : i = j
        · rw [if_pos ⟨e, h0⟩, if_pos e]; simp
        · rw [if_neg (fun h => e h.1), if_neg e]
    show ∃ D : List Nat, (∀ i ∈ D, i ∈ j :: is) ∧ _
    have hfw : freeW R (j :: is) = (j * (R + 1), []) :: freeW R is := rfl
    rw [hfw, Dsk.all_cons]
    dsimp only
    rcases next_cases (s := s) (N := n * (R + 1)) (i := j * (R + 1)) (b := []) hlt (by simp) h.keep h.len with ⟨h1, h2, h3, h4, h5⟩ | ⟨h1, _, h3, h5, m, hm, h4⟩
    · rw [if_pos h1]
      have v := view 32 (Nat.le_refl _) (by omega)
      rw [List.take_of_length_le (by omega), ← h4] at v
      obtain ⟨D, d1, d2, d3, d4, d5, d6⟩ := frees_all is (h.kept h5) (fun i hi' => hi i (List.mem_cons_of_mem _ hi'))
      refine ⟨j :: D, fun i hd => ?_, h5.trans d2, fun i => ?_, fun i => ?_, fun ok => ⟨fun i hi' => ?_, fun _ => (d5 ok).2 h3⟩, d6⟩
      · rcases List.mem_cons.1 hd with e | hd
        · rw [e]; exact List.mem_cons_self ..
        · exact List.mem_cons_of_mem _ (d1 i hd)
      · rw [d3, v.1]
        by_cases e : i ∈ D
        · rw [if_pos e, if_pos (List.mem_cons_of_mem _ e)]
        · by_cases e' : i = j
          · rw [if_neg e, if_pos e', if_pos (by rw [e']; exact List.mem_cons_self ..)]
          · rw [if_neg e, if_neg e', if_neg (fun h => (List.mem_cons.1 h).elim e' e)]
      · rw [d4, v.2]
        by_cases e : i ∈ D
        · rw [if_pos e, if_pos (List.mem_cons_of_mem _ e)]
        · by_cases e' : i = j
          · rw [if_neg e, if_pos e', if_pos (by rw [e']; exact List.mem_cons_self ..)]
          · rw [if_neg e, if_neg e', if_neg (fun h => (List.mem_cons.1 h).elim e' e)]
      · rcases List.mem_cons.1 hi' with e | hi'
        · rw [e]; exact List.mem_cons_self ..
        · exact List.mem_cons_of_mem _ ((d5 ok).1 i hi')
    · rw [if_neg h1]
      by_cases h0 : m = 0
      · rw [h0, List.take_zero, layL_nil] at h4
        refine ⟨[], fun _ h => (List.not_mem_nil h).elim, h5, fun i => ?_, fun i => ?_, fun h => (by cases h), fun _ => h3⟩
        · rw [if_neg (by simp)]; show slotB (s.next _ _ _).B R i = _; rw [h4]
        · rw [if_neg (by simp)]; show usedB (s.next _ _ _).B R i = _; rw [h4]
      · have v := view m hm h0
        rw [← h4] at v
        refine ⟨[j], fun i hd => ?_, h5, fun i => ?_, fun i => ?_, fun h => (by cases h), fun _ => h3⟩
        · rw [List.mem_singleton.1 hd]; exact List.mem_cons_self ..
        · show slotB (s.next _ _ _).B R i = _
          rw [v.1]
          by_cases e' : i = j
          · rw [if_pos e', if_pos (List.mem_singleton.2 e')]
          · rw [if_neg e', if_neg (fun h => e' (List.mem_singleton.1 h))]
        · show usedB (s.next _ _ _).B R i = _
          rw [v.2]
          by_cases e' : i = j
          · rw [if_pos e', if_pos (List.mem_singleton.2 e')]
          · rw [if_neg e', if_neg (fun h => e' (List.mem_singleton.1 h))]
theorem Shows.frees {V : Nat → Option Rec11} {n : Nat} {l : List (Rec11 × Nat)} (h : Shows V n l) : ∀ D : List Nat, (∀ i ∈ D, ∀ r, (r, i) ∉ l) → Shows (fun i => if i ∈ D then none else V i) n l
  | [], _ => by
    have : (fun i => if i ∈ ([] : List Nat) then none else V i) = V := funext fun i => if_neg (by simp)
    rw [this]; exact h
  | d :: D, hd => by
    have ih := h.frees D fun i hi => hd i (List.mem_cons_of_mem _ hi)
    have : (fun i => if i ∈ d :: D then none else V i) = putV (fun i => if i ∈ D then none else V i) d none := funext fun i => by
      unfold putV
      by_cases e : i = d
      · rw [if_pos e, if_pos (by rw [e]; exact List.mem_cons_self ..)]
      · by_cases e' : i ∈ D
        · rw [if_neg e, if_pos (List.mem_cons_of_mem _ e')]; exact (if_pos e').symm
        · rw [if_neg e, if_neg (fun h => (List.mem_cons.1 h).elim e e')]; exact (if_neg e').symm
    rw [this]
    exact ih.free (hd d (List.mem_cons_self ..))
/-- A store is opened: what has no form is freed, then what doesn't count. -/
theorem open_all {s : Dsk} {R n : Nat} {l : List (Rec11 × Nat)} (h : Geo s R n) (hs : Shows (slotB s.B R) n l) (is : List Nat)
    (h1 : ∀ i ∈ is, i < n ∧ ∀ r, (r, i) ∉ l) (h2 : ∀ i, i < n → usedB s.B R i = true → i ∉ is → ∃ r, (r, i) ∈ l) :
    Geo (s.all (n * (R + 1)) (freeW R is)).1 R n ∧ Kept s (s.all (n * (R + 1)) (freeW R is)).1 ∧ Shows (slotB (s.all (n * (R + 1)) (freeW R is)).1.B R) n l ∧
    ((s.all (n * (R + 1)) (freeW R is)).2 = true → (s.dead = false → (s.all (n * (R + 1)) (freeW R is)).1.dead = false) ∧ CleanB (slotB (s.all (n * (R + 1)) (freeW R is)).1.B R) n l ∧ Tidy (s.all (n * (R + 1)) (freeW R is)).1.B R n) ∧
    ((s.all (n * (R + 1)) (freeW R is)).2 = false → (s.all (n * (R + 1)) (freeW R is)).1.dead = true) := by
  obtain ⟨D, d1, d2, d3, d4, d5, d6⟩ := frees_all is h fun i hi => (h1 i hi).1
  have hsh : Shows (slotB (s.all (n * (R + 1)) (freeW R is)).1.B R) n l := by
    rw [show slotB (s.all (n * (R + 1)) (freeW R is)).1.B R = fun i => if i ∈ D then none else slotB s.B R i from funext d3]
    exact hs.frees D fun i hi => (h1 i (d1 i hi)).2
  have key : (∀ i ∈ is, i ∈ D) → ∀ i, i < n → usedB (s.all (n * (R + 1)) (freeW R is)).1.B R i = true → ∃ r, (r, i) ∈ l := fun hall i hi hu => by
    rw [d4] at hu
    by_cases e : i ∈ D
    · rw [if_pos e] at hu; cases hu
    · rw [if_neg e] at hu
      exact h2 i hi hu fun hm => e (hall i hm)
  refine ⟨h.kept d2, d2, hsh, fun ok => ⟨(d5 ok).2, ⟨hsh, fun i r hi hr => ?_⟩, fun i hi hu => ?_⟩, d6⟩
  · have hu : usedB (s.all (n * (R + 1)) (freeW R is)).1.B R i = true := by
      cases e : usedB (s.all (n * (R + 1)) (freeW R is)).1.B R i with
      | true => rfl
      | false => unfold slotB at hr; rw [e] at hr; cases hr
    obtain ⟨q, hq⟩ := key (d5 ok).1 i hi hu
    have b := ((hsh.2 _).1 hq).2.1
    dsimp only at b
    rw [hr] at b
    rw [Option.some.inj b]
    exact hq
  · obtain ⟨q, hq⟩ := key (d5 ok).1 i hi hu
    rw [((hsh.2 _).1 hq).2.1]
    simp

/-- Does the record of a slot count? -/
def bestB (V : Nat → Option Rec11) (n i : Nat) (r : Rec11) : Bool :=
  (List.range n).all fun k => match V k with
    | none => true
    | some q => if q.name = r.name then decide (q.num < r.num ∨ (q.num = r.num ∧ i ≤ k)) else true
theorem bestB_iff {V : Nat → Option Rec11} {n i : Nat} {r : Rec11} (hi : i < n) (hv : V i = some r) : bestB V n i r = true ↔ Best V n i r := by
  unfold bestB
  rw [List.all_eq_true]
  constructor
  · intro h
    refine ⟨hi, hv, fun k q hk hq he => ?_⟩
    have := h k (List.mem_range.2 hk)
    rw [hq] at this
    dsimp only at this
    rw [if_pos he] at this
    exact of_decide_eq_true this
  · rintro ⟨_, _, h⟩ k hk
    cases hq : V k with
    | none => rfl
    | some q =>
      dsimp only
      by_cases he : q.name = r.name
      · rw [if_pos he]; exact decide_eq_true (h k q (List.mem_range.1 hk) hq he)
      · rw [if_neg he]
/-- The entry of a slot, if it counts. -/
def entB (V : Nat → Option Rec11) (n i : Nat) : Option (Rec11 × Nat) := match V i with
  | none => none
  | some r => if bestB V n i r = true then some (r, i) else none
theorem entB_some {V : Nat → Option Rec11} {n i : Nat} (hi : i < n) (x : Rec11 × Nat) : entB V n i = some x ↔ x.2 = i ∧ Best V n x.2 x.1 := by
  unfold entB
  cases hv : V i with
  | none =>
    dsimp only
    constructor
    · intro h; cases h
    · rintro ⟨rfl, _, h, _⟩; rw [hv] at h; cases h
  | some r =>
    dsimp only
    constructor
    · intro h
      by_cases hb : bestB V n i r = true
      · rw [if_pos hb] at h
        cases h
        exact ⟨rfl, (bestB_iff hi hv).1 hb⟩
      · rw [if_neg hb] at h; cases h
    · rintro ⟨rfl, hb⟩
      have e : x.1 = r := by have := hb.2.1; rw [hv] at this; exact (Option.some.inj this).symm
      rw [← e] at hv ⊢
      rw [if_pos ((bestB_iff hi hv).2 hb)]
/-- The records that count, each put where its name belongs. -/
def openL (V : Nat → Option Rec11) (n k : Nat) : List (Rec11 × Nat) := ((List.range k).filterMap (entB V n)).foldl putE []
theorem openL_succ (V : Nat → Option Rec11) (n k : Nat) : openL V n (k + 1) = match entB V n k with | none => openL V n k | some x => putE (openL V n k) x := by
  unfold openL
  rw [List.range_succ, List.filterMap_append, List.foldl_append]
  cases h : entB V n k with
  | none => rw [List.filterMap_cons_none h, List.filterMap_nil]; rfl
  | some x => rw [List.filterMap_cons_some h, List.filterMap_nil]; rfl
theorem openL_mem (V : Nat → Option Rec11) (n : Nat) : ∀ k, k ≤ n → Rising (openL V n k) ∧ ∀ x, x ∈ openL V n k ↔ x.2 < k ∧ Best V n x.2 x.1
  | 0, _ => ⟨List.Pairwise.nil, fun x => ⟨fun h => (List.not_mem_nil h).elim, fun h => by omega⟩⟩
  | k + 1, hk => by
    obtain ⟨h1, h2⟩ := openL_mem V n k (by omega)
    rw [openL_succ]
    cases h : entB V n k with
    | none =>
      refine ⟨h1, fun x => ?_⟩
      dsimp only
      rw [h2]
      constructor
      · rintro ⟨a, b⟩; exact ⟨by omega, b⟩
      · rintro ⟨a, b⟩
        refine ⟨?_, b⟩
        have : x.2 ≠ k := fun e => by
          have := (entB_some (V := V) (n := n) (i := k) (by omega) x).2 ⟨e, b⟩
          rw [h] at this
          cases this
        omega
    | some y =>
      obtain ⟨e, hb⟩ := (entB_some (V := V) (n := n) (i := k) (by omega) y).1 h
      refine ⟨putE_rising _ h1, fun x => ?_⟩
      dsimp only
      rw [mem_putE _ _ h1, h2]
      constructor
      · rintro (rfl | ⟨⟨a, b⟩, _⟩)
        · exact ⟨by omega, hb⟩
        · exact ⟨by omega, b⟩
      · rintro ⟨a, b⟩
        by_cases hxk : x.2 = k
        · have := (entB_some (V := V) (n := n) (i := k) (by omega) x).2 ⟨hxk, b⟩
          rw [h] at this
          exact .inl (Option.some.inj this).symm
        · refine .inr ⟨⟨by omega, b⟩, fun en => ?_⟩
          obtain ⟨e1, _⟩ := hb.one b en
          omega
/-- An opening's entries are what counts. -/
theorem openL_shows (V : Nat → Option Rec11) (n : Nat) : Shows V n (openL V n n) :=
  ⟨(openL_mem V n n (Nat.le_refl _)).1, fun x => by
    rw [(openL_mem V n n (Nat.le_refl _)).2]
    exact ⟨fun h => h.2, fun h => ⟨h.1, h⟩⟩⟩
/-- Slots that are said to be used and hold no record, among the first. -/
def junkS (B : List UInt8) (R k : Nat) : List Nat := (List.range k).filter fun i => usedB B R i && (slotB B R i).isNone
/-- Slots of records that don't count, among the first. -/
def elderS (V : Nat → Option Rec11) (n k : Nat) : List Nat := (List.range k).filter fun i => (V i).isSome && (entB V n i).isNone
theorem mem_junkS {B : List UInt8} {R k i : Nat} : i ∈ junkS B R k ↔ i < k ∧ usedB B R i = true ∧ slotB B R i = none := by
  unfold junkS
  rw [List.mem_filter, List.mem_range, Bool.and_eq_true, Option.isNone_iff_eq_none]
theorem mem_elderS {V : Nat → Option Rec11} {n k i : Nat} : i ∈ elderS V n k ↔ i < k ∧ V i ≠ none ∧ entB V n i = none := by
  unfold elderS
  rw [List.mem_filter, List.mem_range, Bool.and_eq_true, Option.isNone_iff_eq_none, Option.isSome_iff_ne_none]
/-- What an opening frees. -/
def openS (B : List UInt8) (R n : Nat) : List Nat := junkS B R n ++ elderS (slotB B R) n n
/-- An opening as a whole. -/
structure Opened (s s' : Dsk) (R n : Nat) (ok : Bool) (l : List (Rec11 × Nat)) : Prop where
  geo : Geo s' R n
  kept : Kept s s'
  shows_ : Shows (slotB s'.B R) n l
  yes : ok = true → (s.dead = false → s'.dead = false) ∧ CleanB (slotB s'.B R) n l ∧ Tidy s'.B R n
  no : ok = false → s'.dead = true
theorem open_spec {s : Dsk} {R n : Nat} (h : Geo s R n) : Opened s (s.all (n * (R + 1)) (freeW R (openS s.B R n))).1 R n (s.all (n * (R + 1)) (freeW R (openS s.B R n))).2 (openL (slotB s.B R) n n) := by
  have hs := openL_shows (slotB s.B R) n
  have mem : ∀ i, i < n → ((∃ r, (r, i) ∈ openL (slotB s.B R) n n) ↔ entB (slotB s.B R) n i ≠ none) := fun i hi => by
    constructor
    · rintro ⟨r, hr⟩ e
      have := (entB_some (V := slotB s.B R) (n := n) hi (r, i)).2 ⟨rfl, (hs.2 _).1 hr⟩
      rw [e] at this
      cases this
    · intro e
      cases hx : entB (slotB s.B R) n i with
      | none => exact absurd hx e
      | some x =>
        obtain ⟨e1, hb⟩ := (entB_some (V := slotB s.B R) (n := n) hi x).1 hx
        exact ⟨x.1, by rw [← e1]; exact (hs.2 x).2 hb⟩
  obtain ⟨a, b, c, d, e⟩ := open_all h hs (openS s.B R n) (fun i hi => by
    rcases List.mem_append.1 hi with hi | hi
    · obtain ⟨h1, _, h3⟩ := mem_junkS.1 hi
      refine ⟨h1, fun r hr => ?_⟩
      have := ((hs.2 _).1 hr).2.1
      dsimp only at this
      rw [h3] at this
      cases this
    · obtain ⟨h1, _, h3⟩ := mem_elderS.1 hi
      exact ⟨h1, fun r hr => (mem i h1).1 ⟨r, hr⟩ h3⟩) (fun i hi hu hni => by
    refine (mem i hi).2 fun e => hni ?_
    cases hv : slotB s.B R i with
    | none => exact List.mem_append.2 (.inl (mem_junkS.2 ⟨hi, hu, hv⟩))
    | some q => exact List.mem_append.2 (.inr (mem_elderS.2 ⟨hi, by rw [hv]; simp, e⟩)))
  exact ⟨a, b, c, d, e⟩
/-- A store that is clean is opened with no write, and shows the same. -/
theorem open_clean {s : Dsk} {R n : Nat} {l : List (Rec11 × Nat)} (hc : CleanB (slotB s.B R) n l) (ht : Tidy s.B R n) : openS s.B R n = [] ∧ openL (slotB s.B R) n n = l := by
  have hs := openL_shows (slotB s.B R) n
  refine ⟨?_, hs.one hc.1⟩
  apply List.eq_nil_iff_forall_not_mem.2
  intro i hi
  rcases List.mem_append.1 hi with hi | hi
  · obtain ⟨h1, h2, h3⟩ := mem_junkS.1 hi
    exact ht i h1 h2 h3
  · obtain ⟨h1, h2, h3⟩ := mem_elderS.1 hi
    cases hv : slotB s.B R i with
    | none => exact h2 hv
    | some q =>
      have := (entB_some (V := slotB s.B R) (n := n) h1 (q, i)).2 ⟨rfl, (hc.1.2 _).1 (hc.2 i q h1 hv)⟩
      rw [h3] at this
      cases this

/-! ### The store's answers -/
/-- A name's entry. -/
def oldE (l : List (Rec11 × Nat)) (name : List UInt8) : Option (Rec11 × Nat) := l.find? fun x => decide (x.1.name = name)
theorem oldE_some {l : List (Rec11 × Nat)} {name : List UInt8} {x : Rec11 × Nat} (h : oldE l name = some x) : x ∈ l ∧ x.1.name = name := ⟨List.mem_of_find?_eq_some h, of_decide_eq_true (List.find?_some (p := fun x : Rec11 × Nat => decide (x.1.name = name)) h)⟩
theorem oldE_none {l : List (Rec11 × Nat)} {name : List UInt8} (h : oldE l name = none) : ∀ x ∈ l, x.1.name ≠ name := fun x hx e => by
  have := List.find?_eq_none.1 h x hx
  exact this (decide_eq_true e)
theorem oldE_of {l : List (Rec11 × Nat)} (h : Rising l) {x : Rec11 × Nat} (hx : x ∈ l) : oldE l x.1.name = some x := by
  induction l with
  | nil => cases hx
  | cons y l ih =>
    have hc := List.pairwise_cons.1 h
    unfold oldE
    rcases List.mem_cons.1 hx with rfl | hx
    · rw [List.find?_cons_of_pos (by simp)]
    · rw [List.find?_cons_of_neg (by
        have := hc.1 _ hx
        intro e
        rw [of_decide_eq_true e] at this
        exact name_irrefl _ this)]
      exact ih hc.2 hx
/-- The first slot that no entry has. -/
def freeSlot (n : Nat) (l : List (Rec11 × Nat)) : Option Nat := (List.range n).find? fun i => l.all fun x => decide (x.2 ≠ i)
theorem freeSlot_some {n : Nat} {l : List (Rec11 × Nat)} {j : Nat} (h : freeSlot n l = some j) : j < n ∧ ∀ x ∈ l, x.2 ≠ j := by
  refine ⟨List.mem_range.1 (List.mem_of_find?_eq_some h), fun x hx => ?_⟩
  have := List.find?_some (p := fun i => l.all fun x : Rec11 × Nat => decide (x.2 ≠ i)) h
  exact of_decide_eq_true (List.all_eq_true.1 this x hx)
/-- Is a record short enough? -/
def fitsR (R : Nat) (name data : List UInt8) : Bool := decide (name.length ≤ 16384 ∧ data.length ≤ 16384 ∧ (recL ⟨name, 1, data⟩).length ≤ R * 32)
theorem recL_len (a : List UInt8) (m k : Nat) (d : List UInt8) : (recL ⟨a, m, d⟩).length = (recL ⟨a, k, d⟩).length := by
  unfold recL netsL
  simp [netL_eq, putL_length]
/-- A store: its records, whether it has died. -/
structure Sto where
  l : List (Rec11 × Nat)
  died : Bool
/-- A put: the disk, the store, the answer. -/
def Sto.put (t : Sto) (s : Dsk) (R n : Nat) (name data : List UInt8) : Dsk × Sto × Int :=
  if t.died = true then (s, t, 8) else if fitsR R name data = false then (s, t, 1) else match freeSlot n t.l with
  | none => (s, t, 3)
  | some j =>
    let r : Rec11 := ⟨name, ((oldE t.l name).map fun x => x.1.num + 1).getD 1, data⟩
    let q := s.all (n * (R + 1)) (putSt R j (recL r) ((oldE t.l name).map (·.2)))
    if q.2 = true then (q.1, ⟨putE t.l (r, j), false⟩, 0) else (q.1, ⟨t.l, true⟩, 8)
/-- A drop. -/
def Sto.drop (t : Sto) (s : Dsk) (R n : Nat) (name : List UInt8) : Dsk × Sto × Int :=
  if t.died = true then (s, t, 8) else match oldE t.l name with
  | none => (s, t, 4)
  | some x =>
    let q := s.all (n * (R + 1)) [(x.2 * (R + 1), [])]
    if q.2 = true then (q.1, ⟨t.l.filter fun y => decide (y.1.name ≠ x.1.name), false⟩, 0) else (q.1, ⟨t.l, true⟩, 8)
/-- What is told of a name. -/
def Sto.get (t : Sto) (name : List UInt8) : Option (List UInt8) := if t.died = true then none else (oldE t.l name).map (·.1.data)
def Sto.names (t : Sto) : List (List UInt8) := if t.died = true then [] else t.l.map (·.1.name)
def Sto.free (t : Sto) (n : Nat) : Nat := if t.died = true then 0 else n - t.l.length

/-- A store on a disk, in good order: its records are all that is there, as long as it has not died; no number is greater than m. -/
structure Good (t : Sto) (s : Dsk) (R n m : Nat) : Prop where
  geo : Geo s R n
  clean : t.died = false → CleanB (slotB s.B R) n t.l ∧ Tidy s.B R n
  nums : ∀ i r, slotB s.B R i = some r → r.num ≤ m
/-- What a call has left: the store in good order, or dead, on a dead disk, with the elder records or the new ones. -/
structure Done (t t' : Sto) (s s' : Dsk) (R n m : Nat) (code : Int) (l' : List (Rec11 × Nat)) : Prop where
  good : Good t' s' R n m
  kept : Kept s s'
  yes : code = 0 → t'.died = false ∧ s'.dead = false ∧ t'.l = l'
  crash : code = 8 → t'.died = true ∧ t'.l = t.l ∧ (t.died = false → s'.dead = true ∧ (Shows (slotB s'.B R) n t.l ∨ Shows (slotB s'.B R) n l'))
  other : code ≠ 0 → code ≠ 8 → t' = t ∧ s' = s ∧ t.died = false
/-- The record that a put writes. -/
def Sto.newR (t : Sto) (name data : List UInt8) : Rec11 := ⟨name, ((oldE t.l name).map fun x => x.1.num + 1).getD 1, data⟩
/-- .. and the entries behind it. -/
def Sto.putL (t : Sto) (n : Nat) (name data : List UInt8) : List (Rec11 × Nat) := match freeSlot n t.l with | none => t.l | some j => putE t.l (t.newR name data, j)
theorem put_done {t : Sto} {s : Dsk} {R n m : Nat} (h : Good t s R n m) (hm : m + 1 < 4294967296) (name data : List UInt8) :
    Done t (t.put s R n name data).2.1 s (t.put s R n name data).1 R n (m + 1) (t.put s R n name data).2.2 (t.putL n name data) := by
  have more : Good t s R n (m + 1) := ⟨h.geo, h.clean, fun i r hr => Nat.le_succ_of_le (h.nums i r hr)⟩
  unfold Sto.put
  by_cases hd : t.died = true
  · rw [if_pos hd]
    exact ⟨more, .refl _, fun e => (by cases e), fun _ => ⟨hd, rfl, fun e => (by rw [hd] at e; cases e)⟩, fun _ e => (e rfl).elim⟩
  · have hd' : t.died = false := by simpa using hd
    rw [if_neg hd]
    by_cases hf : fitsR R name data = false
    · rw [if_pos hf]
      exact ⟨more, .refl _, fun e => (by cases e), fun e => (by cases e), fun _ _ => ⟨rfl, rfl, hd'⟩⟩
    · rw [if_neg hf]
      have hf' : fitsR R name data = true := by simpa using hf
      obtain ⟨f1, f2, f3⟩ := of_decide_eq_true hf'
      unfold Sto.putL
      cases hs : freeSlot n t.l with
      | none => exact ⟨more, .refl _, fun e => (by cases e), fun e => (by cases e), fun _ _ => ⟨rfl, rfl, hd'⟩⟩
      | some j =>
        obtain ⟨hj, hjl⟩ := freeSlot_some hs
        obtain ⟨hc, ht⟩ := h.clean hd'
        have hfree : usedB s.B R j = false := by
          rw [← used_none ht hj]
          cases hv : slotB s.B R j with
          | none => rfl
          | some q => exact absurd rfl (hjl _ (hc.2 j q hj hv))
        have hnum : ∀ x, oldE t.l name = some x → x ∈ t.l ∧ x.1.name = (t.newR name data).name ∧ x.1.num < (t.newR name data).num := fun x hx => by
          refine ⟨(oldE_some hx).1, (oldE_some hx).2, ?_⟩
          unfold Sto.newR
          rw [hx]
          exact Nat.lt_succ_self _
        have hle : (t.newR name data).num ≤ m + 1 := by
          unfold Sto.newR
          cases hx : oldE t.l name with
          | none => show 1 ≤ m + 1; omega
          | some x =>
            have b := ((hc.1.2 x).1 (oldE_some hx).1).2.1
            have := h.nums _ _ b
            show x.1.num + 1 ≤ m + 1
            omega
        have L := put_all (r := t.newR name data) h.geo hc ht hj hfree f1 f2 (by omega) (Nat.le_trans (Nat.le_of_eq (recL_len name _ 1 data)) f3) (oldE t.l name) hnum (fun e => oldE_none e)
        have e : t.newR name data = ⟨name, ((oldE t.l name).map fun x => x.1.num + 1).getD 1, data⟩ := rfl
        dsimp only
        rw [← e]
        generalize s.all (n * (R + 1)) (putSt R j (recL (t.newR name data)) ((oldE t.l name).map (·.2))) = q at L ⊢
        obtain ⟨s', ok⟩ := q
        dsimp only at L ⊢
        have hn' : ∀ i r, slotB s'.B R i = some r → r.num ≤ m + 1 := fun i r hr => by
          rcases L.src i r hr with h1 | h1
          · exact Nat.le_succ_of_le (h.nums i r h1)
          · rw [h1]; exact hle
        cases ok with
        | true =>
          rw [if_pos rfl]
          obtain ⟨y1, y2⟩ := L.yes rfl
          exact ⟨⟨L.geo, fun _ => ⟨y2, L.tidy⟩, hn'⟩, L.kept, fun _ => ⟨rfl, y1, rfl⟩, fun e => (by cases e), fun e => (e rfl).elim⟩
        | false =>
          rw [if_neg (by simp)]
          obtain ⟨y1, y2⟩ := L.no rfl
          exact ⟨⟨L.geo, fun e => (by cases e), hn'⟩, L.kept, fun e => (by cases e), fun _ => ⟨rfl, rfl, fun _ => ⟨y1, y2.imp (·.1) id⟩⟩, fun _ e => (e rfl).elim⟩

/-- A disk that lives and has no Stop ahead writes all that fits. -/
theorem all_ok {N : Nat} : ∀ (W : List (Nat × List UInt8)) {s : Dsk}, s.dead = false → s.ahead = false → (∀ x ∈ W, x.1 < N ∧ x.2.length ≤ 32) → (s.all N W).2 = true ∧ (s.all N W).1.dead = false ∧ (s.all N W).1.ahead = false
  | [], s, hd, ha, _ => ⟨rfl, hd, ha⟩
  | x :: W, s, hd, ha, h => by
    obtain ⟨h1, h2⟩ := h x (List.mem_cons_self ..)
    have hbad : ¬ badW N (x.1 : Int) x.2.length := by unfold badW; omega
    have hc : s.code N (x.1 : Int) x.2.length = 0 := by unfold Dsk.code; rw [if_neg hbad, if_neg (by simp [hd]), if_neg (by simp [ha])]
    have hn : s.next N (x.1 : Int) x.2 = s.well x.1 x.2 := by unfold Dsk.next; rw [if_neg hbad, if_neg (by simp [hd]), if_neg (by simp [ha]), Int.toNat_natCast]
    rw [Dsk.all_cons, if_pos hc, hn]
    exact all_ok W hd ha fun y hy => h y (List.mem_cons_of_mem _ hy)
/-- A disk that stops at once, and keeps nothing, is as it was. -/
theorem all_stop {N : Nat} {s : Dsk} (ha : s.ahead = true) (h0 : s.at_ = 0) (hk : s.keep = 0) (x : Nat × List UInt8) (W : List (Nat × List UInt8)) (h : x.1 < N ∧ x.2.length ≤ 32) : (s.all N (x :: W)).2 = false ∧ (s.all N (x :: W)).1.B = s.B ∧ (s.all N (x :: W)).1.dead = true := by
  obtain ⟨h1, h2⟩ := h
  have hbad : ¬ badW N (x.1 : Int) x.2.length := by unfold badW; omega
  by_cases hd : s.dead = true
  · have hc : s.code N (x.1 : Int) x.2.length = 8 := by unfold Dsk.code; rw [if_neg hbad, if_pos hd]
    have hn : s.next N (x.1 : Int) x.2 = s := by unfold Dsk.next; rw [if_neg hbad, if_pos hd]
    rw [Dsk.all_cons, hc, if_neg (by omega), hn]
    exact ⟨rfl, rfl, hd⟩
  · have hc : s.code N (x.1 : Int) x.2.length = 8 := by unfold Dsk.code; rw [if_neg hbad, if_neg hd, if_pos ⟨ha, h0⟩]
    have hn : s.next N (x.1 : Int) x.2 = s.tear x.1 x.2 := by unfold Dsk.next; rw [if_neg hbad, if_neg hd, if_pos ⟨ha, h0⟩, Int.toNat_natCast]
    rw [Dsk.all_cons, hc, if_neg (by omega), hn]
    refine ⟨rfl, ?_, rfl⟩
    show layL _ _ _ = _
    rw [hk, List.take_zero, layL_nil]
theorem Geo.stop {s : Dsk} {R n : Nat} (h : Geo s R n) (a k : Int) : Geo (s.stop a k) R n := ⟨h.len, keepOf_le k⟩
theorem Geo.start {s : Dsk} {R n : Nat} (h : Geo s R n) : Geo s.start R n := ⟨h.len, Nat.zero_le _⟩
/-- The writes of a put, of a freeing, are sectors that there are. -/
theorem freeW_fits {R n : Nat} {is : List Nat} (h : ∀ i ∈ is, i < n) : ∀ x ∈ freeW R is, x.1 < n * (R + 1) ∧ x.2.length ≤ 32 := fun x hx => by
  obtain ⟨i, hi, rfl⟩ := List.mem_map.1 hx
  have := geo_lt (R := R) (h i hi) (Nat.zero_le _)
  exact ⟨by show i * (R + 1) < _; omega, by simp⟩
theorem putSt_fits {R n j : Nat} {t : List UInt8} {old : Option Nat} (hj : j < n) (ht : t.length ≤ R * 32) (ho : ∀ o, old = some o → o < n) : ∀ x ∈ putSt R j t old, x.1 < n * (R + 1) ∧ x.2.length ≤ 32 := fun x hx => by
  unfold putSt at hx
  rcases List.mem_append.1 hx with hx | hx
  · obtain ⟨k, hk, rfl⟩ := List.mem_map.1 hx
    have hk' := List.mem_range.1 hk
    exact ⟨geo_lt hj (by omega), chunk_len _ _⟩
  · rcases List.mem_cons.1 hx with rfl | hx
    · have := geo_lt (R := R) hj (Nat.zero_le _)
      exact ⟨by show j * (R + 1) < _; omega, by simp⟩
    · obtain ⟨o, ho', rfl⟩ := List.mem_map.1 hx
      have := geo_lt (R := R) (ho o (by simpa using ho')) (Nat.zero_le _)
      exact ⟨by show o * (R + 1) < _; omega, by simp⟩
theorem openS_lt {B : List UInt8} {R n : Nat} : ∀ i ∈ openS B R n, i < n := fun i hi => by
  rcases List.mem_append.1 hi with hi | hi
  · exact (mem_junkS.1 hi).1
  · exact (mem_elderS.1 hi).1
/-- A store that is opened on a disk that lives and has no Stop ahead. -/
theorem open_ok {s : Dsk} {R n : Nat} (hd : s.dead = false) (ha : s.ahead = false) : (s.all (n * (R + 1)) (freeW R (openS s.B R n))).2 = true ∧ (s.all (n * (R + 1)) (freeW R (openS s.B R n))).1.dead = false ∧ (s.all (n * (R + 1)) (freeW R (openS s.B R n))).1.ahead = false := all_ok _ hd ha (freeW_fits openS_lt)
/-- What is shown is what is opened, whatever was freed before. -/
theorem open_shows {s : Dsk} {R n : Nat} {l : List (Rec11 × Nat)} (h : Shows (slotB s.B R) n l) : openL (slotB s.B R) n n = l := (openL_shows _ _).one h

/-! ### The document's disk beside the program's -/

theorem frees_src {R n : Nat} {is : List Nat} {s : Dsk} (h : Geo s R n) (hi : ∀ i ∈ is, i < n) : ∀ i q, slotB (s.all (n * (R + 1)) (freeW R is)).1.B R i = some q → slotB s.B R i = some q := fun i q hq => by
  obtain ⟨D, _, _, d3, _⟩ := frees_all is h hi
  rw [d3] at hq
  by_cases e : i ∈ D
  · rw [if_pos e] at hq; cases hq
  · rw [if_neg e] at hq; exact hq
/-- An opening: the disk behind it, the store, if it ended well. -/
def openD (s : Dsk) (R n : Nat) : Dsk := (s.all (n * (R + 1)) (freeW R (openS s.B R n))).1
def openK (s : Dsk) (R n : Nat) : Bool := (s.all (n * (R + 1)) (freeW R (openS s.B R n))).2
def openT (s : Dsk) (R n : Nat) : Sto := ⟨openL (slotB s.B R) n n, false⟩
/-- The store that an opening tells is in good order. -/
theorem open_good {s : Dsk} {R n m : Nat} (h : Geo s R n) (hm : ∀ i r, slotB s.B R i = some r → r.num ≤ m) (hk : openK s R n = true) : Good (openT s R n) (openD s R n) R n m := by
  have O := open_spec h
  obtain ⟨_, y2, y3⟩ := O.yes hk
  exact ⟨O.geo, fun _ => ⟨y2, y3⟩, fun i r hr => hm i r (frees_src h openS_lt i r hr)⟩
/-- On a disk that lives and has no Stop ahead: what is shown is opened. -/
theorem open_live {s : Dsk} {R n m : Nat} {l : List (Rec11 × Nat)} (h : Geo s R n) (hl : Shows (slotB s.B R) n l) (hm : ∀ i r, slotB s.B R i = some r → r.num ≤ m) (hd : s.dead = false) (ha : s.ahead = false) :
    openK s R n = true ∧ openT s R n = ⟨l, false⟩ ∧ (openD s R n).dead = false ∧ (openD s R n).ahead = false ∧ Good ⟨l, false⟩ (openD s R n) R n m := by
  obtain ⟨o1, o2, o3⟩ := open_ok (R := R) (n := n) hd ha
  have e : openT s R n = ⟨l, false⟩ := by unfold openT; rw [open_shows hl]
  exact ⟨o1, e, o2, o3, e ▸ open_good h hm o1⟩
/-- An opening that is cut short has lost nothing. -/
theorem open_cut {s : Dsk} {R n m : Nat} {l : List (Rec11 × Nat)} (h : Geo s R n) (hl : Shows (slotB s.B R) n l) (hm : ∀ i r, slotB s.B R i = some r → r.num ≤ m) :
    Geo (openD s R n) R n ∧ Shows (slotB (openD s R n).B R) n l ∧ ∀ i r, slotB (openD s R n).B R i = some r → r.num ≤ m := by
  have O := open_spec h
  have := O.shows_
  rw [open_shows hl] at this
  exact ⟨O.geo, this, fun i r hr => hm i r (frees_src h openS_lt i r hr)⟩
/-- A store in good order, opened again: no write, the same records. -/
theorem open_again {t : Sto} {s : Dsk} {R n m : Nat} (h : Good t s R n m) (hd : t.died = false) : openK s R n = true ∧ openT s R n = t ∧ openD s R n = s := by
  obtain ⟨c1, c2⟩ := h.clean hd
  obtain ⟨e1, e2⟩ := open_clean c1 c2
  unfold openK openT openD
  rw [e1, e2]
  refine ⟨rfl, ?_, rfl⟩
  cases t
  cases hd
  rfl

/-! ### Names and data -/
theorem Good.rising {t : Sto} {s : Dsk} {R n m : Nat} (h : Good t s R n m) (hd : t.died = false) : Rising t.l := (h.clean hd).1.1.1
theorem oldE_putE_same {l : List (Rec11 × Nat)} (h : Rising l) (x : Rec11 × Nat) : oldE (putE l x) x.1.name = some x := oldE_of (putE_rising x h) ((mem_putE x x h).2 (.inl rfl))
/-- Two rising lists that have the same entries of a name tell the same of it. -/
theorem oldE_congr {l k : List (Rec11 × Nat)} (hk : Rising k) (name : List UInt8) (h : ∀ x : Rec11 × Nat, x.1.name = name → (x ∈ l ↔ x ∈ k)) : oldE l name = oldE k name := by
  cases e : oldE l name with
  | none =>
    cases e' : oldE k name with
    | none => rfl
    | some x =>
      obtain ⟨h1, h2⟩ := oldE_some e'
      exact absurd h2 (oldE_none e x ((h x h2).2 h1))
  | some x =>
    obtain ⟨h1, h2⟩ := oldE_some e
    rw [← h2]
    exact (oldE_of hk ((h x h2).1 h1)).symm
theorem oldE_putE_other {l : List (Rec11 × Nat)} (h : Rising l) (x : Rec11 × Nat) {name : List UInt8} (hn : name ≠ x.1.name) : oldE (putE l x) name = oldE l name := oldE_congr h name fun y hy => by
  rw [mem_putE x y h]
  constructor
  · rintro (rfl | h1)
    · exact absurd hy.symm hn
    · exact h1.1
  · intro h1
    exact .inr ⟨h1, by rw [hy]; exact hn⟩
theorem dropL_rising {l : List (Rec11 × Nat)} (h : Rising l) (p : Rec11 × Nat → Bool) : Rising (l.filter p) := List.Pairwise.filter _ h
/-! ### Free slots -/
/-- Entries of unlike slots, all among the first n. -/
def Slots (l : List (Rec11 × Nat)) (n : Nat) : Prop := (l.Pairwise fun a b => a.2 ≠ b.2) ∧ ∀ x ∈ l, x.2 < n
theorem CleanB.slots {V : Nat → Option Rec11} {n : Nat} {l : List (Rec11 × Nat)} (h : CleanB V n l) : Slots l n := by
  refine ⟨?_, fun x hx => ((h.1.2 x).1 hx).1⟩
  have hr := h.1.1
  have : ∀ x ∈ l, V x.2 = some x.1 := fun x hx => ((h.1.2 x).1 hx).2.1
  clear h
  induction l with
  | nil => exact List.Pairwise.nil
  | cons x l ih =>
    have hc := List.pairwise_cons.1 hr
    refine List.pairwise_cons.2 ⟨fun y hy e => ?_, ih hc.2 fun y hy => this y (List.mem_cons_of_mem _ hy)⟩
    have h1 := this x (List.mem_cons_self ..)
    have h2 := this y (List.mem_cons_of_mem _ hy)
    rw [e, h2] at h1
    have := hc.1 y hy
    rw [Option.some.inj h1] at this
    exact name_irrefl _ this
/-- The slots that no entry has. -/
def freeB (l : List (Rec11 × Nat)) (n : Nat) : List Nat := (List.range n).filter fun i => l.all fun x => decide (x.2 ≠ i)
theorem freeB_nodup (l : List (Rec11 × Nat)) (n : Nat) : (freeB l n).Nodup := List.Pairwise.filter _ List.nodup_range
theorem freeB_len : ∀ {l : List (Rec11 × Nat)} {n : Nat}, Slots l n → (freeB l n).length + l.length = n
  | [], n, _ => by
    have : freeB [] n = List.range n := List.filter_eq_self.2 fun _ _ => rfl
    rw [this]
    simp
  | x :: l, n, ⟨h1, h2⟩ => by
    have hc := List.pairwise_cons.1 h1
    have ih := freeB_len (l := l) (n := n) ⟨hc.2, fun y hy => h2 y (List.mem_cons_of_mem _ hy)⟩
    have hx : x.2 ∈ freeB l n := by
      unfold freeB
      rw [List.mem_filter, List.mem_range, List.all_eq_true]
      exact ⟨h2 x (List.mem_cons_self ..), fun y hy => decide_eq_true (hc.1 y hy).symm⟩
    have e : freeB (x :: l) n = (freeB l n).erase x.2 := by
      rw [(freeB_nodup l n).erase_eq_filter]
      unfold freeB
      rw [List.filter_filter]
      apply List.filter_congr
      intro i _
      rw [List.all_cons]
      congr 1
      by_cases h : x.2 = i
      · subst h; simp
      · rw [decide_eq_true h]; symm; simpa using fun e => h e.symm
    rw [e, List.length_erase_of_mem hx, List.length_cons]
    have := List.length_pos_of_mem hx
    omega
theorem freeSlot_none {l : List (Rec11 × Nat)} {n : Nat} (h : Slots l n) : freeSlot n l = none ↔ l.length = n := by
  have hl := freeB_len h
  have : freeSlot n l = none ↔ freeB l n = [] := by
    unfold freeSlot freeB
    rw [List.find?_eq_none, List.filter_eq_nil_iff]
  rw [this]
  constructor
  · intro e; rw [e] at hl; simpa using hl
  · intro e; exact List.eq_nil_of_length_eq_zero (by omega)

/-- Only the bytes of a disk tell whether a store on it is in good order. -/
theorem Good.disk {t : Sto} {s s' : Dsk} {R n m : Nat} (h : Good t s R n m) (hB : s'.B = s.B) (hk : s'.keep ≤ 32) : Good t s' R n m :=
  ⟨⟨by rw [hB]; exact h.geo.len, hk⟩, by rw [hB]; exact h.clean, by rw [hB]; exact h.nums⟩
theorem Good.stop {t : Sto} {s : Dsk} {R n m : Nat} (h : Good t s R n m) (a k : Int) : Good t (s.stop a k) R n m := h.disk rfl (keepOf_le k)
theorem Good.start {t : Sto} {s : Dsk} {R n m : Nat} (h : Good t s R n m) : Good t s.start R n m := h.disk rfl (Nat.zero_le _)
/-- What a call that ended well, or was cut short, leaves to be opened. -/
theorem Done.shows {t t' : Sto} {s s' : Dsk} {R n m : Nat} {code : Int} {l' : List (Rec11 × Nat)} (h : Done t t' s s' R n m code l') (hd : t.died = false) (hc : code = 0 ∨ code = 8) :
    ∃ L, (L = l' ∨ (L = t.l ∧ code = 8)) ∧ Shows (slotB s'.B R) n L := by
  rcases hc with hc | hc
  · obtain ⟨a, _, c⟩ := h.yes hc
    exact ⟨l', .inl rfl, c ▸ (h.good.clean a).1.1⟩
  · obtain ⟨_, _, c⟩ := h.crash hc
    rcases (c hd).2 with c | c
    · exact ⟨t.l, .inr ⟨rfl, hc⟩, c⟩
    · exact ⟨l', .inl rfl, c⟩
/-- The store that is opened once the disk has been started, with the records L. -/
structure Reopened (s : Dsk) (R n m : Nat) (L : List (Rec11 × Nat)) : Prop where
  ok : openK s R n = true
  store : openT s R n = ⟨L, false⟩
  live : (openD s R n).dead = false ∧ (openD s R n).ahead = false
  good : Good ⟨L, false⟩ (openD s R n) R n m
theorem reopened {s : Dsk} {R n m : Nat} {L : List (Rec11 × Nat)} (h : Geo s R n) (hs : Shows (slotB s.B R) n L) (hm : ∀ i r, slotB s.B R i = some r → r.num ≤ m) : Reopened s.start R n m L := by
  obtain ⟨a, b, c, d, e⟩ := open_live (s := s.start) h.start hs hm rfl rfl
  exact ⟨a, b, ⟨c, d⟩, e⟩
/-- Behind a call: started, opened. -/
theorem Done.reopen {t t' : Sto} {s s' : Dsk} {R n m : Nat} {code : Int} {l' : List (Rec11 × Nat)} (h : Done t t' s s' R n m code l') (hd : t.died = false) (hc : code = 0 ∨ code = 8) :
    ∃ L, (L = l' ∨ (L = t.l ∧ code = 8)) ∧ Reopened s'.start R n m L := by
  obtain ⟨L, hL, hs⟩ := h.shows hd hc
  exact ⟨L, hL, reopened h.good.geo hs h.good.nums⟩
/-- Behind a call: started, opened while the disk stops once more, started, opened. -/
theorem Done.twice {t t' : Sto} {s s' : Dsk} {R n m : Nat} {code : Int} {l' : List (Rec11 × Nat)} (h : Done t t' s s' R n m code l') (hd : t.died = false) (hc : code = 0 ∨ code = 8) (a k : Int) :
    ∃ L, (L = l' ∨ (L = t.l ∧ code = 8)) ∧ Reopened (openD (s'.start.stop a k) R n).start R n m L := by
  obtain ⟨L, hL, hs⟩ := h.shows hd hc
  obtain ⟨c1, c2, c3⟩ := open_cut (s := s'.start.stop a k) (h.good.geo.start.stop a k) hs h.good.nums
  exact ⟨L, hL, reopened c1 c2 c3⟩
/-- A put answers that the disk stopped only where it did; it never answers anything else where there is room. -/
theorem put_code {t : Sto} {s : Dsk} {R n m : Nat} (h : Good t s R n m) (hd : t.died = false) {name data : List UInt8} (hf : fitsR R name data = true) : (t.put s R n name data).2.2 = if t.l.length = n then 3 else if (t.put s R n name data).2.1.died = true then 8 else 0 := by
  have hs := freeSlot_none (h.clean hd).1.slots
  unfold Sto.put
  rw [if_neg (by simp [hd]), if_neg (by simp [hf])]
  cases e : freeSlot n t.l with
  | none => rw [if_pos (hs.1 e)]
  | some j =>
    rw [if_neg (fun k => by have := hs.2 k; rw [e] at this; cases this)]
    dsimp only
    split
    · rfl
    · rfl
/-- A disk that stops at once: a put, a drop that would write is cut short, and nothing has changed. -/
theorem put_stop {t : Sto} {s : Dsk} {R n m : Nat} (h : Good t s R n m) (hd : t.died = false) {name data : List UInt8} (hf : fitsR R name data = true) (hl : t.l.length ≠ n) :
    (t.put (s.stop 0 0) R n name data).2 = (⟨t.l, true⟩, 8) ∧ (t.put (s.stop 0 0) R n name data).1.B = s.B ∧ (t.put (s.stop 0 0) R n name data).1.dead = true := by
  have hs := freeSlot_none (h.clean hd).1.slots
  unfold Sto.put
  rw [if_neg (by simp [hd]), if_neg (by simp [hf])]
  cases e : freeSlot n t.l with
  | none => exact absurd (hs.1 e) hl
  | some j =>
    obtain ⟨hj, _⟩ := freeSlot_some e
    obtain ⟨_, _, f3⟩ := of_decide_eq_true hf
    have hc := (h.clean hd).1
    have fits := putSt_fits (R := R) (n := n) (j := j) (t := recL (t.newR name data)) (old := (oldE t.l name).map (·.2)) hj (Nat.le_trans (Nat.le_of_eq (recL_len name _ 1 data)) f3) (fun o ho => by
      cases eo : oldE t.l name with
      | none => rw [eo] at ho; cases ho
      | some x =>
        rw [eo] at ho
        have e2 : x.2 = o := Option.some.inj ho
        rw [← e2]
        exact ((hc.1.2 x).1 (oldE_some eo).1).1)
    have e' : (⟨name, ((oldE t.l name).map fun x => x.1.num + 1).getD 1, data⟩ : Rec11) = t.newR name data := rfl
    dsimp only
    rw [e']
    generalize hW : putSt R j (recL (t.newR name data)) ((oldE t.l name).map (·.2)) = W at fits ⊢
    cases W with
    | nil =>
      exfalso
      unfold putSt at hW
      simp at hW
    | cons x W =>
      obtain ⟨a, b, c⟩ := all_stop (N := n * (R + 1)) (s := s.stop 0 0) rfl (by show max (0 : Int) 0 = 0; rfl) (by show keepOf 0 = 0; rfl) x W (fits x (List.mem_cons_self ..))
      rw [if_neg (by rw [a]; simp)]
      exact ⟨rfl, b, c⟩

theorem new_used (N R i : Nat) : usedB (newD N).B R i = false := by
  unfold usedB newD
  apply decide_eq_false
  intro h
  rw [List.getElem?_replicate] at h
  split at h
  · cases h
  · cases h
theorem new_slot (N R i : Nat) : slotB (newD N).B R i = none := by
  unfold slotB
  rw [new_used]
  rfl
/-- On a new disk there is an empty store in good order, at once. -/
theorem new_good (R n : Nat) : Good ⟨[], false⟩ (newD (n * (R + 1))) R n 0 := by
  refine ⟨⟨List.length_replicate .., Nat.zero_le _⟩, fun _ => ⟨⟨⟨List.Pairwise.nil, fun x => ⟨fun h => (List.not_mem_nil h).elim, fun h => ?_⟩⟩, fun i r _ h => ?_⟩, fun i _ h => ?_⟩, fun i r h => ?_⟩
  · have := h.2.1
    rw [new_slot] at this
    cases this
  · rw [new_slot] at h; cases h
  · rw [new_used] at h; cases h
  · rw [new_slot] at h; cases h
theorem new_open (R n : Nat) : openK (newD (n * (R + 1))) R n = true ∧ openT (newD (n * (R + 1))) R n = ⟨[], false⟩ ∧ openD (newD (n * (R + 1))) R n = newD (n * (R + 1)) := open_again (new_good R n) rfl

/-! ### The document's opening -/
/-- Lists of slots grow by one: for loops over slots. -/
theorem junkS_succ (B : List UInt8) (R k : Nat) : junkS B R (k + 1) = if usedB B R k = true ∧ slotB B R k = none then junkS B R k ++ [k] else junkS B R k := by
  unfold junkS
  rw [List.range_succ, List.filter_append]
  by_cases h : usedB B R k = true ∧ slotB B R k = none
  · rw [if_pos h]
    congr 1
    rw [List.filter_cons_of_pos (by rw [h.1, h.2]; rfl), List.filter_nil]
  · rw [if_neg h, List.filter_cons_of_neg (by
      intro e
      rw [Bool.and_eq_true, Option.isNone_iff_eq_none] at e
      exact h e), List.filter_nil, List.append_nil]
theorem elderS_succ (V : Nat → Option Rec11) (n k : Nat) : elderS V n (k + 1) = if V k ≠ none ∧ entB V n k = none then elderS V n k ++ [k] else elderS V n k := by
  unfold elderS
  rw [List.range_succ, List.filter_append]
  by_cases h : V k ≠ none ∧ entB V n k = none
  · rw [if_pos h]
    congr 1
    rw [List.filter_cons_of_pos (by rw [h.2, Bool.and_eq_true]; exact ⟨Option.isSome_iff_ne_none.2 h.1, rfl⟩), List.filter_nil]
  · rw [if_neg h, List.filter_cons_of_neg (by
      intro e
      rw [Bool.and_eq_true, Option.isNone_iff_eq_none, Option.isSome_iff_ne_none] at e
      exact h e), List.filter_nil, List.append_nil]
theorem freeW_append (R : Nat) (a b : List Nat) : freeW R (a ++ b) = freeW R a ++ freeW R b := List.map_append ..

structure Live (t : Sto) (s : Dsk) (R n m : Nat) : Prop where
  good : Good t s R n m
  up : t.died = false
  lives : s.dead = false
  none_ : s.ahead = false
theorem Live.clean {t : Sto} {s : Dsk} {R n m : Nat} (h : Live t s R n m) : CleanB (slotB s.B R) n t.l ∧ Tidy s.B R n := h.good.clean h.up
theorem Live.rising {t : Sto} {s : Dsk} {R n m : Nat} (h : Live t s R n m) : Rising t.l := h.clean.1.1.1
theorem Live.slots {t : Sto} {s : Dsk} {R n m : Nat} (h : Live t s R n m) : Slots t.l n := h.clean.1.slots
theorem Live.le {t : Sto} {s : Dsk} {R n m : Nat} (h : Live t s R n m) : t.l.length ≤ n := by have := freeB_len h.slots; omega
theorem Reopened.live' {s : Dsk} {R n m : Nat} {L : List (Rec11 × Nat)} (h : Reopened s R n m L) : Live ⟨L, false⟩ (openD s R n) R n m := ⟨h.good, rfl, h.live.1, h.live.2⟩
/-- What a put writes are sectors that there are. -/
theorem put_fits {t : Sto} {s : Dsk} {R n m j : Nat} (h : Good t s R n m) (hd : t.died = false) {name data : List UInt8} (hf : fitsR R name data = true) (hj : j < n) :
    ∀ x ∈ putSt R j (recL (t.newR name data)) ((oldE t.l name).map (·.2)), x.1 < n * (R + 1) ∧ x.2.length ≤ 32 := by
  obtain ⟨_, _, f3⟩ := of_decide_eq_true hf
  have hc := (h.clean hd).1
  refine putSt_fits hj (Nat.le_trans (Nat.le_of_eq (recL_len name _ 1 data)) f3) (fun o ho => ?_)
  cases eo : oldE t.l name with
  | none => rw [eo] at ho; cases ho
  | some x =>
    rw [eo] at ho
    have e2 : x.2 = o := Option.some.inj ho
    rw [← e2]
    exact ((hc.1.2 x).1 (oldE_some eo).1).1
/-- A put there: done, or there is no room. -/
theorem put_live {t : Sto} {s : Dsk} {R n m : Nat} (h : Live t s R n m) (hm : m + 1 < 4294967296) {name data : List UInt8} (hf : fitsR R name data = true) :
    (t.l.length = n ∧ t.put s R n name data = (s, t, 3)) ∨
    (t.l.length < n ∧ ∃ s' j, freeSlot n t.l = some j ∧ t.put s R n name data = (s', ⟨putE t.l (t.newR name data, j), false⟩, 0) ∧ Live ⟨putE t.l (t.newR name data, j), false⟩ s' R n (m + 1)) := by
  have D := put_done h.good hm name data
  have hs := freeSlot_none h.slots
  have hle := h.le
  unfold Sto.put Sto.putL at D
  unfold Sto.put
  rw [if_neg (by simp [h.up]), if_neg (by simp [hf])] at D ⊢
  cases e : freeSlot n t.l with
  | none => exact .inl ⟨hs.1 e, rfl⟩
  | some j =>
    rw [e] at D
    have hne : t.l.length ≠ n := fun k => by have := hs.2 k; rw [e] at this; cases this
    obtain ⟨hj, _⟩ := freeSlot_some e
    have e' : (⟨name, ((oldE t.l name).map fun x => x.1.num + 1).getD 1, data⟩ : Rec11) = t.newR name data := rfl
    dsimp only at D ⊢
    rw [e'] at D ⊢
    obtain ⟨a, b, c⟩ := all_ok (N := n * (R + 1)) _ h.lives h.none_ (put_fits h.good h.up hf hj)
    rw [if_pos a] at D ⊢
    exact .inr ⟨by omega, _, j, rfl, rfl, ⟨D.good, rfl, b, c⟩⟩
/-- Opened once more, with nothing written. -/
theorem Live.again {t : Sto} {s : Dsk} {R n m : Nat} (h : Live t s R n m) : openK s R n = true ∧ openT s R n = t ∧ openD s R n = s := open_again h.good h.up
/-- A Stop at once, a put that would write, and a start: all is as it was. -/
theorem Live.stopped {t : Sto} {s : Dsk} {R n m : Nat} (h : Live t s R n m) {name data : List UInt8} (hf : fitsR R name data = true) (hl : t.l.length ≠ n) :
    (t.put (s.stop 0 0) R n name data).2 = (⟨t.l, true⟩, 8) ∧ Live t (t.put (s.stop 0 0) R n name data).1.start R n m := by
  obtain ⟨a, b, _⟩ := put_stop h.good h.up hf hl
  exact ⟨a, ⟨h.good.disk b (Nat.zero_le _), h.up, rfl, rfl⟩⟩
/-- Told of a name behind a put: the data. -/
theorem get_put_same {t : Sto} (h : Rising t.l) (name data : List UInt8) (j : Nat) : (oldE (putE t.l (t.newR name data, j)) name).map (·.1.data) = some data := by
  have := oldE_putE_same h (t.newR name data, j)
  rw [show (t.newR name data, j).1.name = name from rfl] at this
  rw [this]
  rfl
theorem get_put_other {t : Sto} (h : Rising t.l) (name data : List UInt8) (j : Nat) {nm : List UInt8} (hn : nm ≠ name) : oldE (putE t.l (t.newR name data, j)) nm = oldE t.l nm := oldE_putE_other h _ hn

/-- Entries of other names. -/
def others (l : List (Rec11 × Nat)) (name : List UInt8) : List (Rec11 × Nat) := l.filter fun y => decide (y.1.name ≠ name)
theorem mem_others {l : List (Rec11 × Nat)} {name : List UInt8} {y : Rec11 × Nat} : y ∈ others l name ↔ y ∈ l ∧ y.1.name ≠ name := by unfold others; rw [List.mem_filter, decide_eq_true_iff]
theorem others_rising {l : List (Rec11 × Nat)} (h : Rising l) (name : List UInt8) : Rising (others l name) := dropL_rising h _
theorem others_putE {l : List (Rec11 × Nat)} (h : Rising l) (x : Rec11 × Nat) : others (putE l x) x.1.name = others l x.1.name :=
  Rising.ext (others_rising (putE_rising x h) _) (others_rising h _) fun y => by
    rw [mem_others, mem_others, mem_putE x y h]
    constructor
    · rintro ⟨rfl | ⟨h1, _⟩, h2⟩
      · exact absurd rfl h2
      · exact ⟨h1, h2⟩
    · rintro ⟨h1, h2⟩
      exact ⟨.inr ⟨h1, h2⟩, h2⟩
/-- How many there are, with and without a name. -/
theorem others_len : ∀ {l : List (Rec11 × Nat)} (_ : Rising l) (name : List UInt8), (others l name).length + (if (oldE l name).isSome = true then 1 else 0) = l.length
  | [], _, _ => rfl
  | y :: l, h, name => by
    have hc := List.pairwise_cons.1 h
    have ih := others_len hc.2 name
    unfold others oldE at ih ⊢
    by_cases e : y.1.name = name
    · have far : ∀ z ∈ l, z.1.name ≠ name := fun z hz e' => by
        have := hc.1 z hz
        rw [e, e'] at this
        exact name_irrefl _ this
      rw [List.filter_cons_of_neg (by simpa using e), List.find?_cons_of_pos (by simpa using e), List.filter_eq_self.2 (fun z hz => decide_eq_true (far z hz)), List.length_cons]
      simp
    · rw [List.filter_cons_of_pos (by simpa using e), List.find?_cons_of_neg (by simpa using e), List.length_cons, List.length_cons]
      omega
/-- What is told behind a call: all other names as before; this one has what the call would have it have, or what it had. -/
structure Told (t : Sto) (L : List (Rec11 × Nat)) (name : List UInt8) (new : Option (List UInt8)) (c : Int) : Prop where
  rising : Rising L
  other : ∀ nm, nm ≠ name → oldE L nm = oldE t.l nm
  rest : others L name = others t.l name
  this : (oldE L name).map (·.1.data) = new ∨ (c = 8 ∧ oldE L name = oldE t.l name)
theorem told_put {t : Sto} {s : Dsk} {R n m j : Nat} (h : Good t s R n m) (hd : t.died = false) {name data : List UInt8} (hj : freeSlot n t.l = some j) {L : List (Rec11 × Nat)} {c : Int} (hL : L = t.putL n name data ∨ (L = t.l ∧ c = 8)) : Told t L name (some data) c := by
  have hr := h.rising hd
  rcases hL with rfl | ⟨rfl, hc⟩
  · unfold Sto.putL
    rw [hj]
    exact ⟨putE_rising _ hr, fun nm hn => get_put_other hr name data j hn, others_putE hr (t.newR name data, j), .inl (get_put_same hr name data j)⟩
  · exact ⟨hr, fun _ _ => rfl, rfl, .inr ⟨hc, rfl⟩⟩
/-- A put where there is room, on a disk that may stop: it ends well, or the disk is dead; started and opened, it is told so. -/
theorem put_told {t : Sto} {s : Dsk} {R n m : Nat} (h : Good t s R n m) (hd : t.died = false) (hm : m + 1 < 4294967296) {name data : List UInt8} (hf : fitsR R name data = true) (hl : t.l.length < n) :
    ((t.put s R n name data).2.2 = 0 ∨ (t.put s R n name data).2.2 = 8) ∧
    ((t.put s R n name data).1.dead = true ↔ (t.put s R n name data).2.2 = 8) ∧
    (∃ L, Reopened (t.put s R n name data).1.start R n (m + 1) L ∧ Told t L name (some data) (t.put s R n name data).2.2) ∧
    (∀ a k, ∃ L, Reopened (openD ((t.put s R n name data).1.start.stop a k) R n).start R n (m + 1) L ∧ Told t L name (some data) (t.put s R n name data).2.2) := by
  have D := put_done h hm name data
  have hs := freeSlot_none (h.clean hd).1.slots
  have hc : (t.put s R n name data).2.2 = 0 ∨ (t.put s R n name data).2.2 = 8 := by
    rw [put_code h hd hf, if_neg (by omega)]
    split
    · exact .inr rfl
    · exact .inl rfl
  obtain ⟨j, hj⟩ : ∃ j, freeSlot n t.l = some j := by
    cases e : freeSlot n t.l with
    | none => have := hs.1 e; omega
    | some j => exact ⟨j, rfl⟩
  refine ⟨hc, ?_, ?_, fun a k => ?_⟩
  · constructor
    · intro hdd
      rcases hc with hc | hc
      · have := (D.yes hc).2.1
        rw [hdd] at this
        cases this
      · exact hc
    · intro e
      exact ((D.crash e).2.2 hd).1
  · obtain ⟨L, hL, hR⟩ := D.reopen hd hc
    exact ⟨L, hR, told_put h hd hj hL⟩
  · obtain ⟨L, hL, hR⟩ := D.twice hd hc a k
    exact ⟨L, hR, told_put h hd hj hL⟩
end Go.Proofs.YtndknifdajjalaaGreatDoor
