/- Stores on disks that stop, start and live: what is shown behind a call that was cut short; the document's disk beside the program's. Mathematics alone. -/
import Derived.Test.YtffllpjlghehiaaDoorStoL
namespace Go.Proofs.YtffllpjlghehiaaDoor
open Go.RowKit

/-- A disk that lives and has no Stop ahead writes all that fits. -/
theorem all_ok {N : Nat} : ∀ (W : List (Nat × List UInt8)) {s : Dsk}, s.dead = false → s.ahead = false → (∀ x ∈ W, x.1 < N ∧ x.2.length ≤ 32) → (s.all N W).2 = true ∧ (s.all N W).1.dead = false ∧ (s.all N W).1.ahead = false
  | [], s, hd, ha, _ => ⟨rfl, hd, ha⟩
  | x :: W, s, hd, ha, h => by
    obtain ⟨h1, h2⟩ := h x (List.mem_cons_self ..)
    have hbad : ¬ badW N (x.1 : Int) x.2.length := by unfold badW; omega
    have hc : s.code N (x.1 : Int) x.2.length = 0 := by unfold Dsk.code; rw [if_neg hbad, if_neg (by simp [hd]), if_neg (by simp [ha])]
    have hn : s.next N (x.1 : Int) x.2 = s.well x.1 x.2 := by unfold Dsk.next; rw [if_neg hbad, if_neg (by simp [hd]), if_neg (by simp [ha]), Int.toNat_natCast]
    rw [Dsk.all_cons, if_pos hc, hn]
    exact all_ok W hd ha fun y hy => h y (List.mem_cons_of_mem _ hy)
/-- A disk that stops at once, and keeps nothing, is as it was. -/
theorem all_stop {N : Nat} {s : Dsk} (ha : s.ahead = true) (h0 : s.at_ = 0) (hk : s.keep = 0) (x : Nat × List UInt8) (W : List (Nat × List UInt8)) (h : x.1 < N ∧ x.2.length ≤ 32) : (s.all N (x :: W)).2 = false ∧ (s.all N (x :: W)).1.B = s.B ∧ (s.all N (x :: W)).1.dead = true := by
  obtain ⟨h1, h2⟩ := h
  have hbad : ¬ badW N (x.1 : Int) x.2.length := by unfold badW; omega
  by_cases hd : s.dead = true
  · have hc : s.code N (x.1 : Int) x.2.length = 8 := by unfold Dsk.code; rw [if_neg hbad, if_pos hd]
    have hn : s.next N (x.1 : Int) x.2 = s := by unfold Dsk.next; rw [if_neg hbad, if_pos hd]
    rw [Dsk.all_cons, hc, if_neg (by omega), hn]
    exact ⟨rfl, rfl, hd⟩
  · have hc : s.code N (x.1 : Int) x.2.length = 8 := by unfold Dsk.code; rw [if_neg hbad, if_neg hd, if_pos ⟨ha, h0⟩]
    have hn : s.next N (x.1 : Int) x.2 = s.tear x.1 x.2 := by unfold Dsk.next; rw [if_neg hbad, if_neg hd, if_pos ⟨ha, h0⟩, Int.toNat_natCast]
    rw [Dsk.all_cons, hc, if_neg (by omega), hn]
    refine ⟨rfl, ?_, rfl⟩
    show layL _ _ _ = _
    rw [hk, List.take_zero, layL_nil]
theorem Geo.stop {s : Dsk} {R n : Nat} (h : Geo s R n) (a k : Int) : Geo (s.stop a k) R n := ⟨h.len, keepOf_le k⟩
theorem Geo.start {s : Dsk} {R n : Nat} (h : Geo s R n) : Geo s.start R n := ⟨h.len, Nat.zero_le _⟩
/-- The writes of a put, of a freeing, are sectors that there are. -/
theorem freeW_fits {R n : Nat} {is : List Nat} (h : ∀ i ∈ is, i < n) : ∀ x ∈ freeW R is, x.1 < n * (R + 1) ∧ x.2.length ≤ 32 := fun x hx => by
  obtain ⟨i, hi, rfl⟩ := List.mem_map.1 hx
  have := geo_lt (R := R) (h i hi) (Nat.zero_le _)
  exact ⟨by show i * (R + 1) < _; omega, by simp⟩
theorem putSt_fits {R n j : Nat} {t : List UInt8} {old : Option Nat} (hj : j < n) (ht : t.length ≤ R * 32) (ho : ∀ o, old = some o → o < n) : ∀ x ∈ putSt R j t old, x.1 < n * (R + 1) ∧ x.2.length ≤ 32 := fun x hx => by
  unfold putSt at hx
  rcases List.mem_append.1 hx with hx | hx
  · obtain ⟨k, hk, rfl⟩ := List.mem_map.1 hx
    have hk' := List.mem_range.1 hk
    exact ⟨geo_lt hj (by omega), chunk_len _ _⟩
  · rcases List.mem_cons.1 hx with rfl | hx
    · have := geo_lt (R := R) hj (Nat.zero_le _)
      exact ⟨by show j * (R + 1) < _; omega, by simp⟩
    · obtain ⟨o, ho', rfl⟩ := List.mem_map.1 hx
      have := geo_lt (R := R) (ho o (by simpa using ho')) (Nat.zero_le _)
      exact ⟨by show o * (R + 1) < _; omega, by simp⟩
theorem openS_lt {B : List UInt8} {R n : Nat} : ∀ i ∈ openS B R n, i < n := fun i hi => by
  rcases List.mem_append.1 hi with hi | hi
  · exact (mem_junkS.1 hi).1
  · exact (mem_elderS.1 hi).1
/-- A store that is opened on a disk that lives and has no Stop ahead. -/
theorem open_ok {s : Dsk} {R n : Nat} (hd : s.dead = false) (ha : s.ahead = false) : (s.all (n * (R + 1)) (freeW R (openS s.B R n))).2 = true ∧ (s.all (n * (R + 1)) (freeW R (openS s.B R n))).1.dead = false ∧ (s.all (n * (R + 1)) (freeW R (openS s.B R n))).1.ahead = false := all_ok _ hd ha (freeW_fits openS_lt)
/-- What is shown is what is opened, whatever was freed before. -/
theorem open_shows {s : Dsk} {R n : Nat} {l : List (Rec11 × Nat)} (h : Shows (slotB s.B R) n l) : openL (slotB s.B R) n n = l := (openL_shows _ _).one h

/-! ### The document's disk beside the program's -/
def Dsk.rall (s : Dsk) (N : Nat) : List (Nat × List UInt8) → Dsk × Bool
  | [] => (s, true)
  | x :: r => if s.code N (x.1 : Int) x.2.length = 0 then (s.rnext N (x.1 : Int) x.2).rall N r else (s.rnext N (x.1 : Int) x.2, false)
/-- Where a Stop is ahead, it is at a number. -/
def Dsk.fine (s : Dsk) : Prop := s.ahead = true → 0 ≤ s.at_ ∧ s.at_ ≤ 9223372036854775807
theorem fine_next {s : Dsk} (h : s.fine) (N : Nat) (i : Int) (b : List UInt8) : (s.next N i b).fine := by
  unfold Dsk.next
  split
  · exact h
  · split
    · exact h
    · split
      · exact h
      · next hn =>
        intro ha
        have ha' : s.ahead = true := ha
        have := h ha'
        have h0 : s.at_ ≠ 0 := fun e => hn ⟨ha', e⟩
        show 0 ≤ (if s.ahead = true then s.at_ - 1 else s.at_) ∧ (if s.ahead = true then s.at_ - 1 else s.at_) ≤ _
        rw [if_pos ha']
        omega
theorem rall_like {N : Nat} : ∀ (W : List (Nat × List UInt8)) {s r : Dsk}, Like s r → s.fine → Like (s.all N W).1 (r.rall N W).1 ∧ (s.all N W).2 = (r.rall N W).2 ∧ (s.all N W).1.fine
  | [], s, r, h, hf => ⟨h, rfl, hf⟩
  | x :: W, s, r, h, hf => by
    rw [Dsk.all_cons]
    unfold Dsk.rall
    rw [← h.code]
    by_cases hc : s.code N (x.1 : Int) x.2.length = 0
    · rw [if_pos hc, if_pos hc]
      exact rall_like W (h.next hf N _ _) (fine_next hf _ _ _)
    · rw [if_neg hc, if_neg hc]
      exact ⟨h.next hf N _ _, rfl, fine_next hf _ _ _⟩
/-- The document's put, drop: the same on its own disk. -/
def Sto.rput (t : Sto) (s : Dsk) (R n : Nat) (name data : List UInt8) : Dsk × Sto × Int :=
  if t.died = true then (s, t, 8) else if fitsR R name data = false then (s, t, 1) else match freeSlot n t.l with
  | none => (s, t, 3)
  | some j =>
    if (s.rall (n * (R + 1)) (putSt R j (recL (t.newR name data)) ((oldE t.l name).map (·.2)))).2 = true
    then ((s.rall (n * (R + 1)) (putSt R j (recL (t.newR name data)) ((oldE t.l name).map (·.2)))).1, ⟨putE t.l (t.newR name data, j), false⟩, 0)
    else ((s.rall (n * (R + 1)) (putSt R j (recL (t.newR name data)) ((oldE t.l name).map (·.2)))).1, ⟨t.l, true⟩, 8)
def Sto.rdrop (t : Sto) (s : Dsk) (R n : Nat) (name : List UInt8) : Dsk × Sto × Int :=
  if t.died = true then (s, t, 8) else match oldE t.l name with
  | none => (s, t, 4)
  | some x => if (s.rall (n * (R + 1)) [(x.2 * (R + 1), [])]).2 = true
    then ((s.rall (n * (R + 1)) [(x.2 * (R + 1), [])]).1, ⟨t.l.filter fun y => decide (y.1.name ≠ x.1.name), false⟩, 0)
    else ((s.rall (n * (R + 1)) [(x.2 * (R + 1), [])]).1, ⟨t.l, true⟩, 8)
theorem rput_like {t : Sto} {s r : Dsk} (h : Like s r) (hf : s.fine) (R n : Nat) (name data : List UInt8) : (t.rput r R n name data).2 = (t.put s R n name data).2 ∧ Like (t.put s R n name data).1 (t.rput r R n name data).1 ∧ (t.put s R n name data).1.fine := by
  unfold Sto.rput Sto.put
  by_cases hd : t.died = true
  · rw [if_pos hd, if_pos hd]; exact ⟨rfl, h, hf⟩
  · rw [if_neg hd, if_neg hd]
    by_cases hx : fitsR R name data = false
    · rw [if_pos hx, if_pos hx]; exact ⟨rfl, h, hf⟩
    · rw [if_neg hx, if_neg hx]
      cases freeSlot n t.l with
      | none => exact ⟨rfl, h, hf⟩
      | some j =>
        dsimp only
        have e : (⟨name, ((oldE t.l name).map fun x => x.1.num + 1).getD 1, data⟩ : Rec11) = t.newR name data := rfl
        rw [e]
        obtain ⟨a, b, c⟩ := rall_like (N := n * (R + 1)) (putSt R j (recL (t.newR name data)) ((oldE t.l name).map (·.2))) h hf
        rw [← b]
        split
        · exact ⟨rfl, a, c⟩
        · exact ⟨rfl, a, c⟩
theorem rdrop_like {t : Sto} {s r : Dsk} (h : Like s r) (hf : s.fine) (R n : Nat) (name : List UInt8) : (t.rdrop r R n name).2 = (t.drop s R n name).2 ∧ Like (t.drop s R n name).1 (t.rdrop r R n name).1 ∧ (t.drop s R n name).1.fine := by
  unfold Sto.rdrop Sto.drop
  by_cases hd : t.died = true
  · rw [if_pos hd, if_pos hd]; exact ⟨rfl, h, hf⟩
  · rw [if_neg hd, if_neg hd]
    cases oldE t.l name with
    | none => exact ⟨rfl, h, hf⟩
    | some x =>
      dsimp only
      obtain ⟨a, b, c⟩ := rall_like (N := n * (R + 1)) [(x.2 * (R + 1), [])] h hf
      rw [← b]
      split
      · exact ⟨rfl, a, c⟩
      · exact ⟨rfl, a, c⟩
end Go.Proofs.YtffllpjlghehiaaDoor
