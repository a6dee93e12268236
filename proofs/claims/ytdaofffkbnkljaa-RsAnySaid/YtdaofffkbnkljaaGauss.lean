/- Sums, matrices and vectors over the field of 256, in plain functions: products, inverses, kernels. Elimination over the field of 256, in plain functions: what each step keeps; a square matrix has an inverse, or takes something to nothing. -/
import Derived.Test.YtdaofffkbnkljaaGfM
namespace Go.Proofs.Ytdaofffkbnkljaa
open Go.RowKit

/-! ### Sums -/
def sumN : Nat → (Nat → UInt8) → UInt8
  | 0, _ => 0
  | n + 1, f => sumN n f ^^^ f n
theorem sumN_congr {n : Nat} {f g : Nat → UInt8} (h : ∀ i, i < n → f i = g i) : sumN n f = sumN n g := by
  induction n with
  | zero => rfl
  | succ n ih => rw [sumN, sumN, ih (fun i hi => h i (by omega)), h n (Nat.lt_succ_self n)]
theorem sumN_zero (n : Nat) : sumN n (fun _ => 0) = 0 := by
  induction n with
  | zero => rfl
  | succ n ih => rw [sumN, ih, UInt8.xor_self]
theorem sumN_none {n : Nat} {f : Nat → UInt8} (h : ∀ i, i < n → f i = 0) : sumN n f = 0 := (sumN_congr h).trans (sumN_zero n)
theorem xor4_swap (a b c d : UInt8) : (a ^^^ b) ^^^ (c ^^^ d) = (a ^^^ c) ^^^ (b ^^^ d) := by
  rw [UInt8.xor_assoc, UInt8.xor_assoc, ← UInt8.xor_assoc b, UInt8.xor_comm b c, UInt8.xor_assoc c]
theorem sumN_xor (n : Nat) (f g : Nat → UInt8) : sumN n (fun i => f i ^^^ g i) = sumN n f ^^^ sumN n g := by
  induction n with
  | zero => exact (UInt8.xor_self (a := 0)).symm
  | succ n ih => rw [sumN, sumN, sumN, ih, xor4_swap]
theorem sumN_mul (n : Nat) (c : UInt8) (f : Nat → UInt8) : mulU c (sumN n f) = sumN n (fun i => mulU c (f i)) := by
  induction n with
  | zero => exact mulU_zero c
  | succ n ih => rw [sumN, sumN, mulU_xor, ih]
theorem sumN_mul' (n : Nat) (c : UInt8) (f : Nat → UInt8) : mulU (sumN n f) c = sumN n (fun i => mulU (f i) c) := by
  rw [mulU_comm, sumN_mul]
  exact sumN_congr fun i _ => mulU_comm _ _
theorem sumN_swap (n m : Nat) (f : Nat → Nat → UInt8) : sumN n (fun i => sumN m (fun j => f i j)) = sumN m (fun j => sumN n (fun i => f i j)) := by
  induction n with
  | zero => exact (sumN_zero m).symm
  | succ n ih => rw [sumN, ih, ← sumN_xor]; rfl
theorem sumN_only {n i : Nat} {f : Nat → UInt8} (hi : i < n) (h : ∀ j, j < n → j ≠ i → f j = 0) : sumN n f = f i := by
  induction n with
  | zero => omega
  | succ n ih =>
    rw [sumN]
    by_cases e : i = n
    · subst e
      rw [sumN_none (fun j hj => h j (by omega) (by omega)), UInt8.zero_xor]
    · rw [ih (by omega) (fun j hj hne => h j (by omega) hne), h n (Nat.lt_succ_self n) (fun e' => e e'.symm), UInt8.xor_zero]
theorem dotU_sum (a b : List UInt8) (n : Nat) : dotU a b n = sumN n fun i => mulU (a.getD i 0) (b.getD i 0) := by
  induction n with
  | zero => rfl
  | succ n ih => rw [dotU, sumN, ih]

/-! ### Matrices -/
abbrev Mx := Nat → Nat → UInt8
def unitM : Mx := fun i j => if i = j then 1 else 0
theorem unitM_same (i : Nat) : unitM i i = 1 := if_pos rfl
theorem unitM_else {i j : Nat} (h : i ≠ j) : unitM i j = 0 := if_neg h
/-- The product over n. -/
def mmN (n : Nat) (a b : Mx) : Mx := fun i j => sumN n fun k => mulU (a i k) (b k j)
/-- The image of a vector. -/
def mvN (n : Nat) (a : Mx) (v : Nat → UInt8) : Nat → UInt8 := fun i => sumN n fun k => mulU (a i k) (v k)
theorem mmN_assoc (n m : Nat) (a b c : Mx) (i j : Nat) : mmN m (mmN n a b) c i j = mmN n a (mmN m b c) i j := by
  unfold mmN
  calc sumN m (fun k => mulU (sumN n fun l => mulU (a i l) (b l k)) (c k j))
      = sumN m (fun k => sumN n fun l => mulU (mulU (a i l) (b l k)) (c k j)) := sumN_congr fun k _ => sumN_mul' _ _ _
    _ = sumN n (fun l => sumN m fun k => mulU (mulU (a i l) (b l k)) (c k j)) := sumN_swap _ _ _
    _ = sumN n (fun l => mulU (a i l) (sumN m fun k => mulU (b l k) (c k j))) := sumN_congr fun l _ => by
        rw [sumN_mul]
        exact sumN_congr fun k _ => mulU_assoc _ _ _
theorem mvN_mm (n m : Nat) (a b : Mx) (v : Nat → UInt8) (i : Nat) : mvN m (mmN n a b) v i = mvN n a (mvN m b v) i := mmN_assoc n m a b (fun k _ => v k) i 0
theorem mmN_congr {n : Nat} {a b c d : Mx} {i j : Nat} (h1 : ∀ k, k < n → a i k = c i k) (h2 : ∀ k, k < n → b k j = d k j) : mmN n a b i j = mmN n c d i j :=
  sumN_congr fun k hk => by rw [h1 k hk, h2 k hk]
theorem mvN_congr {n : Nat} {a c : Mx} {v u : Nat → UInt8} {i : Nat} (h1 : ∀ k, k < n → a i k = c i k) (h2 : ∀ k, k < n → v k = u k) : mvN n a v i = mvN n c u i :=
  sumN_congr fun k hk => by rw [h1 k hk, h2 k hk]
theorem unit_mm {n i : Nat} (hi : i < n) (a : Mx) (j : Nat) : mmN n unitM a i j = a i j := by
  unfold mmN
  rw [sumN_only hi (fun k _ hne => by rw [unitM_else (fun e => hne e.symm), mulU_zero']), unitM_same, mulU_comm, mulU_one]
theorem mm_unit {n j : Nat} (hj : j < n) (a : Mx) (i : Nat) : mmN n a unitM i j = a i j := by
  unfold mmN
  rw [sumN_only hj (fun k _ hne => by rw [unitM_else hne, mulU_zero]), unitM_same, mulU_one]
theorem unit_mv {n i : Nat} (hi : i < n) (v : Nat → UInt8) : mvN n unitM v i = v i := unit_mm hi (fun k _ => v k) 0

/-- Alike, in n rows of m. -/
def Alike (n m : Nat) (a b : Mx) : Prop := ∀ i j, i < n → j < m → a i j = b i j
theorem Alike.symm {n m : Nat} {a b : Mx} (h : Alike n m a b) : Alike n m b a := fun i j hi hj => (h i j hi hj).symm
theorem Alike.trans {n m : Nat} {a b c : Mx} (h : Alike n m a b) (k : Alike n m b c) : Alike n m a c := fun i j hi hj => (h i j hi hj).trans (k i j hi hj)
/-- r is the inverse of a, both n by n. -/
def IsInv (n : Nat) (a r : Mx) : Prop := Alike n n (mmN n a r) unitM ∧ Alike n n (mmN n r a) unitM
/-- Nothing but nothing goes to nothing. -/
def Faithful (n : Nat) (a : Mx) : Prop := ∀ v : Nat → UInt8, (∀ i, i < n → mvN n a v i = 0) → ∀ i, i < n → v i = 0
theorem IsInv.symm {n : Nat} {a r : Mx} (h : IsInv n a r) : IsInv n r a := ⟨h.2, h.1⟩
theorem faithful_of_left {n : Nat} {a r : Mx} (h : Alike n n (mmN n r a) unitM) : Faithful n a := fun v hv i hi => by
  have h1 : mvN n (mmN n r a) v i = v i := (mvN_congr (fun k hk => h i k hi hk) (fun k _ => rfl)).trans (unit_mv hi v)
  rw [← h1, mvN_mm]
  exact sumN_none fun k hk => by rw [hv k hk, mulU_zero]
theorem IsInv.only {n : Nat} {a r s : Mx} (h : IsInv n a r) (k : Alike n n (mmN n s a) unitM) : Alike n n s r := fun i j hi hj => by
  have h1 : mmN n (mmN n s a) r i j = r i j := (mmN_congr (fun l hl => k i l hi hl) (fun l _ => rfl)).trans (unit_mm hi r j)
  have h2 : mmN n s (mmN n a r) i j = s i j := (mmN_congr (fun l _ => rfl) (fun l hl => h.1 l j hl hj)).trans (mm_unit hj s i)
  rw [← h1, mmN_assoc, h2]
theorem IsInv.only' {n : Nat} {a r s : Mx} (h : IsInv n a r) (k : IsInv n a s) : Alike n n s r := h.only k.2
/-- A left inverse that is faithful is the inverse. -/
theorem isInv_of {n : Nat} {a r : Mx} (h : Alike n n (mmN n r a) unitM) (hf : Faithful n r) : IsInv n a r := by
  refine ⟨fun i j hi hj => ?_, h⟩
  have h1 : ∀ l, l < n → mvN n r (fun k => mmN n a r k j ^^^ unitM k j) l = 0 := fun l hl => by
    have e1 : mvN n r (fun k => mmN n a r k j ^^^ unitM k j) l = mmN n r (mmN n a r) l j ^^^ mmN n r unitM l j := by
      unfold mvN
      rw [show (sumN n fun k => mulU (r l k) (mmN n a r k j ^^^ unitM k j)) = sumN n fun k => mulU (r l k) (mmN n a r k j) ^^^ mulU (r l k) (unitM k j) from sumN_congr fun k _ => mulU_xor _ _ _, sumN_xor]
      rfl
    rw [e1, ← mmN_assoc, mm_unit hj, mmN_congr (fun k hk => h l k hl hk) (fun k _ => rfl), unit_mm hl, UInt8.xor_self]
  have h2 := hf _ h1 i hi
  have h3 := congrArg (fun z => z ^^^ unitM i j) h2
  simpa [UInt8.xor_assoc] using h3
/-- The inverse of a product. -/
theorem IsInv.mul {n : Nat} {a b r s : Mx} (h : IsInv n a r) (k : IsInv n b s) : IsInv n (mmN n a b) (mmN n s r) := by
  constructor
  · intro i j hi hj
    rw [mmN_assoc, mmN_congr (c := a) (d := r) (fun _ _ => rfl) (fun l hl => ?_)]
    · exact h.1 i j hi hj
    · rw [← mmN_assoc, mmN_congr (c := unitM) (d := r) (fun m hm => k.1 l m hl hm) (fun _ _ => rfl), unit_mm hl]
  · intro i j hi hj
    rw [mmN_assoc, mmN_congr (c := s) (d := b) (fun _ _ => rfl) (fun l hl => ?_)]
    · exact k.2 i j hi hj
    · rw [← mmN_assoc, mmN_congr (c := unitM) (d := b) (fun m hm => h.2 l m hl hm) (fun _ _ => rfl), unit_mm hl]
theorem IsInv.of_alike {n : Nat} {a b r s : Mx} (h : IsInv n a r) (ha : Alike n n a b) (hr : Alike n n r s) : IsInv n b s :=
  ⟨fun i j hi hj => (mmN_congr (fun k hk => (ha i k hi hk).symm) (fun k hk => (hr k j hk hj).symm)).trans (h.1 i j hi hj),
   fun i j hi hj => (mmN_congr (fun k hk => (hr i k hi hk).symm) (fun k hk => (ha k j hk hj).symm)).trans (h.2 i j hi hj)⟩
end Go.Proofs.Ytdaofffkbnkljaa
namespace Go.Proofs.Ytdaofffkbnkljaa
open Go.RowKit

/-- The right half of a matrix twice as wide. -/
def rightM (n : Nat) (m : Mx) : Mx := fun i k => m i (n + k)
/-- Ahead of column c: the left half is the right half times a, the right half is faithful, the columns ahead are the unit's. -/
def GInv (n c : Nat) (a m : Mx) : Prop :=
  (∀ i j, i < n → j < n → m i j = mmN n (rightM n m) a i j) ∧ Faithful n (rightM n m) ∧ ∀ i j, i < n → j < c → m i j = unitM i j
/-- The matrix with the unit beside it. -/
def besideM (n : Nat) (a : Mx) : Mx := fun i j => if j < n then a i j else unitM i (j - n)
theorem ginv_start {n : Nat} {a m : Mx} (h : ∀ i j, i < n → j < n + n → m i j = besideM n a i j) : GInv n 0 a m := by
  have hr : ∀ i k, i < n → k < n → rightM n m i k = unitM i k := fun i k hi hk => by
    unfold rightM
    rw [h i _ hi (by omega), besideM, if_neg (by omega), show n + k - n = k by omega]
  refine ⟨fun i j hi hj => ?_, fun v hv i hi => ?_, fun i j _ hj => by omega⟩
  · rw [mmN_congr (c := unitM) (d := a) (fun k hk => hr i k hi hk) (fun _ _ => rfl), unit_mm hi, h i j hi (by omega), besideM, if_pos hj]
  · have := hv i hi
    rwa [mvN_congr (c := unitM) (u := v) (fun k hk => hr i k hi hk) (fun _ _ => rfl), unit_mv hi] at this

/-- Two rows change places. -/
def swM (c p : Nat) (m : Mx) : Mx := fun i => if i = c then m p else if i = p then m c else m i
def swI (c p i : Nat) : Nat := if i = c then p else if i = p then c else i
theorem swM_at (c p : Nat) (m : Mx) (i j : Nat) : swM c p m i j = m (swI c p i) j := by
  unfold swM swI
  by_cases h : i = c
  · rw [if_pos h, if_pos h]
  · rw [if_neg h, if_neg h]
    by_cases h2 : i = p
    · rw [if_pos h2, if_pos h2]
    · rw [if_neg h2, if_neg h2]
theorem swI_lt {n c p i : Nat} (hc : c < n) (hp : p < n) (hi : i < n) : swI c p i < n := by
  unfold swI; split; exact hp; split; exact hc; exact hi
theorem swI_swI (c p i : Nat) : swI c p (swI c p i) = i := by
  unfold swI
  by_cases h : i = c
  · rw [if_pos h]
    by_cases h2 : p = c
    · rw [if_pos h2]; omega
    · rw [if_neg h2, if_pos rfl]; exact h.symm
  · rw [if_neg h]
    by_cases h2 : i = p
    · rw [if_pos h2, if_pos rfl]; exact h2.symm
    · rw [if_neg h2, if_neg h, if_neg h2]
theorem ginv_swap {n c p : Nat} {a m : Mx} (h : GInv n c a m) (hc : c < n) (hp : p < n) (hcp : c ≤ p) : GInv n c a (swM c p m) := by
  obtain ⟨h1, h2, h3⟩ := h
  refine ⟨fun i j hi hj => ?_, fun v hv i hi => h2 v (fun l hl => ?_) i hi, fun i j hi hj => ?_⟩
  · rw [swM_at, h1 _ j (swI_lt hc hp hi) hj]
    exact sumN_congr fun k _ => by show mulU (m _ _) _ = mulU (swM c p m i _) _; rw [swM_at]
  · have := hv (swI c p l) (swI_lt hc hp hl)
    rw [← this]
    exact sumN_congr fun k _ => by show mulU (m _ _) _ = mulU (swM c p m _ _) _; rw [swM_at, swI_swI]
  · rw [swM_at, h3 _ j (swI_lt hc hp hi) hj]
    unfold swI
    by_cases e : i = c
    · rw [if_pos e, unitM_else (by omega), unitM_else (by omega)]
    · rw [if_neg e]
      by_cases e2 : i = p
      · rw [if_pos e2, unitM_else (by omega), unitM_else (by omega)]
      · rw [if_neg e2]

/-- Row c times s. -/
def scM (c : Nat) (s : UInt8) (m : Mx) : Mx := fun i j => if i = c then mulU (m c j) s else m i j
theorem scM_same (c : Nat) (s : UInt8) (m : Mx) (j : Nat) : scM c s m c j = mulU (m c j) s := if_pos rfl
theorem scM_else {c i : Nat} (s : UInt8) (m : Mx) (j : Nat) (h : i ≠ c) : scM c s m i j = m i j := if_neg h
theorem mulU_none {a b : UInt8} (h : mulU a b = 0) (hb : b ≠ 0) : a = 0 := by
  by_cases ha : a = 0
  · exact ha
  · exact absurd h (mulU_ne ha hb)
theorem ginv_scale {n c : Nat} {s : UInt8} {a m : Mx} (h : GInv n c a m) (hc : c < n) (hs : s ≠ 0) : GInv n c a (scM c s m) := by
  obtain ⟨h1, h2, h3⟩ := h
  refine ⟨fun i j hi hj => ?_, fun v hv i hi => h2 v (fun l hl => ?_) i hi, fun i j hi hj => ?_⟩
  · by_cases e : i = c
    · subst e
      rw [scM_same, h1 i j hi hj]
      unfold mmN
      rw [sumN_mul']
      exact sumN_congr fun k _ => by
        show _ = mulU (scM i s m i _) _
        rw [scM_same, mulU_assoc, mulU_assoc, mulU_comm (a k j) s]; rfl
    · rw [scM_else s m j e, h1 i j hi hj]
      exact sumN_congr fun k _ => by show mulU (m _ _) _ = mulU (scM c s m i _) _; rw [scM_else s m _ e]
  · have := hv l hl
    by_cases e : l = c
    · subst e
      refine mulU_none (b := s) ?_ hs
      rw [← this]
      unfold mvN
      rw [sumN_mul']
      exact sumN_congr fun k _ => by
        show _ = mulU (scM l s m l _) _
        rw [scM_same, mulU_assoc, mulU_assoc, mulU_comm (v k) s]; rfl
    · rw [← this]
      exact sumN_congr fun k _ => by show mulU (m _ _) _ = mulU (scM c s m l _) _; rw [scM_else s m _ e]
  · by_cases e : i = c
    · subst e
      rw [scM_same, h3 i j hi hj, unitM_else (by omega), mulU_zero']
    · rw [scM_else s m j e, h3 i j hi hj]

/-- Row c, times what each other row has in column c, is added to it: to the first k rows. -/
def adM (c k : Nat) (m : Mx) : Mx := fun i j => if i = c ∨ k ≤ i then m i j else m i j ^^^ mulU (m i c) (m c j)
theorem adM_same {c k : Nat} (m : Mx) {i : Nat} (j : Nat) (h : i = c ∨ k ≤ i) : adM c k m i j = m i j := if_pos h
theorem adM_else {c k : Nat} (m : Mx) {i : Nat} (j : Nat) (h : i ≠ c) (hk : i < k) : adM c k m i j = m i j ^^^ mulU (m i c) (m c j) := if_neg (by omega)
theorem xor_none {a b : UInt8} (h : a ^^^ b = 0) (hb : b = 0) : a = 0 := by rw [hb, UInt8.xor_zero] at h; exact h
theorem ginv_add {n c : Nat} {a m : Mx} (h : GInv n c a m) (hc : c < n) (h1c : m c c = 1) : GInv n (c + 1) a (adM c n m) := by
  obtain ⟨h1, h2, h3⟩ := h
  refine ⟨fun i j hi hj => ?_, fun v hv i hi => h2 v (fun l hl => ?_) i hi, fun i j hi hj => ?_⟩
  · by_cases e : i = c
    · rw [adM_same m j (.inl e), h1 i j hi hj]
      exact sumN_congr fun k _ => by show mulU (m _ _) _ = mulU (adM c n m i _) _; rw [adM_same m _ (.inl e)]
    · rw [adM_else m j e hi, h1 i j hi hj, h1 c j hc hj]
      unfold mmN
      rw [sumN_mul, ← sumN_xor]
      exact sumN_congr fun k _ => by
        show _ = mulU (adM c n m i _) _
        rw [adM_else m _ e hi, mulU_xor', mulU_assoc]; rfl
  · have hcc : mvN n (rightM n m) v c = 0 := by
      have := hv c hc
      rw [← this]
      exact sumN_congr fun k _ => by show mulU (m _ _) _ = mulU (adM c n m c _) _; rw [adM_same m _ (.inl rfl)]
    by_cases e : l = c
    · rw [e]; exact hcc
    · have := hv l hl
      have e2 : mvN n (rightM n (adM c n m)) v l = mvN n (rightM n m) v l ^^^ mulU (m l c) (mvN n (rightM n m) v c) := by
        unfold mvN
        rw [sumN_mul, ← sumN_xor]
        exact sumN_congr fun k _ => by
          show mulU (adM c n m l _) _ = _
          rw [adM_else m _ e hl, mulU_xor', mulU_assoc]; rfl
      rw [e2] at this
      exact xor_none this (by rw [hcc, mulU_zero])
  · by_cases e : i = c
    · rw [adM_same m j (.inl e)]
      by_cases ej : j = c
      · rw [e, ej, h1c, unitM_same]
      · exact h3 i j hi (by omega)
    · rw [adM_else m j e hi]
      by_cases ej : j = c
      · rw [ej, h1c, mulU_one, UInt8.xor_self, unitM_else e]
      · rw [h3 i j hi (by omega), h3 c j hc (by omega), unitM_else (i := c) (j := j) (by omega), mulU_zero, UInt8.xor_zero]

theorem ginv_end {n : Nat} {a m : Mx} (h : GInv n n a m) : IsInv n a (rightM n m) :=
  isInv_of (fun i j hi hj => (h.1 i j hi hj).symm.trans (h.2.2 i j hi hj)) h.2.1
theorem ginv_fail {n c : Nat} {a m : Mx} (h : GInv n c a m) (hc : c < n) (h0 : ∀ p, c ≤ p → p < n → m p c = 0) : ¬ Faithful n a := fun hf => by
  obtain ⟨h1, h2, h3⟩ := h
  obtain ⟨v, hv⟩ : ∃ v : Nat → UInt8, v = fun j => if j < c then m j c else if j = c then 1 else 0 := ⟨_, rfl⟩
  have hvc : v c = 1 := by rw [hv]; simp
  have hlt : ∀ j, j < c → v j = m j c := fun j hj => by rw [hv]; simp [hj]
  have hgt : ∀ j, c < j → v j = 0 := fun j hj => by rw [hv]; simp [show ¬ j < c by omega, show j ≠ c by omega]
  have hL : ∀ i, i < n → mvN n m v i = 0 := fun i hi => by
    unfold mvN
    by_cases hic : i < c
    · have e : (sumN n fun k => mulU (m i k) (v k)) = (sumN n fun k => if k = i then m i c else 0) ^^^ (sumN n fun k => if k = c then m i c else 0) := by
        rw [← sumN_xor]
        refine sumN_congr fun k hk => ?_
        by_cases hkc : k < c
        · rw [h3 i k hi hkc, hlt k hkc, if_neg (show ¬ k = c by omega), UInt8.xor_zero]
          by_cases e : k = i
          · rw [if_pos e, e, unitM_same, mulU_comm, mulU_one]
          · rw [if_neg e, unitM_else (fun h => e h.symm), mulU_zero']
        · rw [if_neg (show ¬ k = i by omega), UInt8.zero_xor]
          by_cases e : k = c
          · rw [if_pos e, e, hvc, mulU_one]
          · rw [if_neg e, hgt k (by omega), mulU_zero]
      rw [e, sumN_only hi (fun j _ hne => if_neg hne), sumN_only hc (fun j _ hne => if_neg hne), if_pos rfl, if_pos rfl, UInt8.xor_self]
    · rw [sumN_none]
      intro k hk
      by_cases hkc : k < c
      · rw [h3 i k hi hkc, unitM_else (by omega), mulU_zero']
      · by_cases e : k = c
        · rw [e, h0 i (by omega) hi, mulU_zero']
        · rw [hgt k (by omega), mulU_zero]
  have hR : ∀ i, i < n → mvN n (rightM n m) (mvN n a v) i = 0 := fun i hi => by
    rw [← mvN_mm, ← hL i hi]
    exact mvN_congr (fun k hk => (h1 i k hi hk).symm) (fun _ _ => rfl)
  have := hf v (h2 _ hR) c hc
  rw [hvc] at this
  exact absurd this (by decide)

/-- The pivot: the first row from p on that has something in column c. -/
theorem pivot (m : Mx) (n c : Nat) : (∃ p, c ≤ p ∧ p < n ∧ m p c ≠ 0) ∨ ∀ p, c ≤ p → p < n → m p c = 0 := by
  by_cases h : ∃ p, c ≤ p ∧ p < n ∧ m p c ≠ 0
  · exact .inl h
  · refine .inr fun p h1 h2 => ?_
    by_cases h3 : m p c = 0
    · exact h3
    · exact absurd ⟨p, h1, h2, h3⟩ h
theorem ginv_step {n c p : Nat} {a m : Mx} (h : GInv n c a m) (hc : c < n) (hcp : c ≤ p) (hp : p < n) (h0 : m p c ≠ 0) : GInv n (c + 1) a (adM c n (scM c (ivU (m p c)) (swM c p m))) := by
  refine ginv_add (ginv_scale (ginv_swap h hc hp hcp) hc (ivU_ne h0)) hc ?_
  rw [scM_same, swM_at]
  unfold swI
  rw [if_pos rfl, ivU_mul h0]
theorem gauss {n : Nat} {a : Mx} : ∀ (k c : Nat) (m : Mx), c + k = n → GInv n c a m → (∃ r, IsInv n a r) ∨ ¬ Faithful n a
  | 0, c, m, hk, h => .inl ⟨_, ginv_end (by rw [Nat.add_zero] at hk; rw [hk] at h; exact h)⟩
  | k + 1, c, m, hk, h => by
    rcases pivot m n c with ⟨p, h1, h2, h3⟩ | h0
    · exact gauss k (c + 1) _ (by omega) (ginv_step h (by omega) h1 h2 h3)
    · exact .inr (ginv_fail h (by omega) h0)
theorem inverse_or (n : Nat) (a : Mx) : (∃ r, IsInv n a r) ∨ ¬ Faithful n a := gauss n 0 _ (by omega) (ginv_start (m := besideM n a) fun _ _ _ _ => rfl)
theorem isInv_of_right {n : Nat} {a r : Mx} (h : Alike n n (mmN n a r) unitM) : IsInv n a r := by
  rcases inverse_or n r with ⟨z, hz⟩ | h0
  · exact (hz.of_alike (fun _ _ _ _ => rfl) (hz.only h).symm).symm
  · exact absurd (faithful_of_left h) h0
theorem isInv_of_left {n : Nat} {a r : Mx} (h : Alike n n (mmN n r a) unitM) : IsInv n a r := (isInv_of_right h).symm
theorem faithful_iff (n : Nat) (a : Mx) : Faithful n a ↔ ∃ r, IsInv n a r :=
  ⟨fun h => (inverse_or n a).resolve_right (fun h0 => h0 h), fun ⟨_, h⟩ => faithful_of_left h.2⟩
/-- A product has an inverse just if both have. -/
theorem inverse_mul (n : Nat) (a b : Mx) : (∃ r, IsInv n (mmN n a b) r) ↔ (∃ r, IsInv n a r) ∧ ∃ s, IsInv n b s := by
  constructor
  · rintro ⟨x, hx⟩
    refine ⟨⟨mmN n b x, isInv_of_right fun i j hi hj => ?_⟩, ⟨mmN n x a, isInv_of_left fun i j hi hj => ?_⟩⟩
    · rw [← mmN_assoc]; exact hx.1 i j hi hj
    · rw [mmN_assoc]; exact hx.2 i j hi hj
  · rintro ⟨⟨r, hr⟩, ⟨s, hs⟩⟩
    exact ⟨_, hr.mul hs⟩

/-! ### The matrix of powers -/
theorem pwU_mul (x : UInt8) (n : Nat) : pwU x (n + 1) = mulU x (pwU x n) := mulU_comm _ _
/-- The value of a polynomial. -/
def polyN (k : Nat) (v : Nat → UInt8) (x : UInt8) : UInt8 := sumN k fun j => mulU (pwU x j) (v j)
theorem sumN_front (n : Nat) (f : Nat → UInt8) : sumN (n + 1) f = f 0 ^^^ sumN n fun i => f (i + 1) := by
  induction n with
  | zero => show (0 : UInt8) ^^^ f 0 = f 0 ^^^ 0; rw [UInt8.zero_xor, UInt8.xor_zero]
  | succ n ih => rw [sumN, ih, UInt8.xor_assoc]; rfl
/-- A polynomial of k coefficients with k roots is nothing. -/
theorem poly_none : ∀ (k : Nat) (v : Nat → UInt8) (x : Nat → UInt8), (∀ i j, i < k → j < k → x i = x j → i = j) → (∀ i, i < k → polyN k v (x i) = 0) → ∀ j, j < k → v j = 0
  | 0, _, _, _, _, j, hj => by omega
  | k + 1, v, x, hx, h0, j, hj => by
    -- the quotient by the last root: q_{j} = v_{j+1} + r q_{j+1}
    obtain ⟨q, hq⟩ : ∃ q : Nat → UInt8, (∀ j, j < k → q j = v (j + 1) ^^^ mulU (x k) (q (j + 1))) ∧ q k = 0 := by
      refine ⟨fun j => sumN (k - j) fun i => mulU (pwU (x k) i) (v (j + 1 + i)), fun j hj => ?_, ?_⟩
      · show sumN (k - j) _ = v (j + 1) ^^^ mulU (x k) (sumN (k - (j + 1)) _)
        rw [show k - j = (k - (j + 1)) + 1 by omega, sumN_front, sumN_mul]
        congr 1
        · show mulU 1 _ = _
          rw [mulU_comm, mulU_one]
        · exact sumN_congr fun i _ => by rw [pwU_mul, mulU_assoc, show j + 1 + (i + 1) = j + 1 + 1 + i by omega]
      · show sumN (k - k) _ = 0
        rw [Nat.sub_self]; rfl
    obtain ⟨hq1, hq2⟩ := hq
    -- p(y) = (y + r) q(y) + p(r)
    have key : ∀ (y : UInt8) (m : Nat), m ≤ k → (sumN m fun j => mulU (pwU y (j + 1)) (v (j + 1))) = mulU y (sumN m fun j => mulU (pwU y j) (q j)) ^^^ (sumN m fun j => mulU (mulU (x k) (pwU y (j + 1))) (q (j + 1))) := fun y m hm => by
      rw [sumN_mul, ← sumN_xor]
      refine sumN_congr fun j hj => ?_
      rw [pwU_mul, mulU_assoc, hq1 j (by omega), mulU_xor, mulU_xor, UInt8.xor_assoc]
      have e : mulU y (mulU (pwU y j) (mulU (x k) (q (j + 1)))) = mulU (mulU (x k) (mulU y (pwU y j))) (q (j + 1)) := by
        rw [mulU_assoc (x k), mulU_assoc y, ← mulU_assoc (pwU y j), mulU_comm (pwU y j) (x k), mulU_assoc (x k), ← mulU_assoc y, mulU_comm y (x k), mulU_assoc (x k)]
      rw [e, UInt8.xor_self, UInt8.xor_zero]
    have val : ∀ y, polyN (k + 1) v y = mulU (y ^^^ x k) (polyN k q y) ^^^ (v 0 ^^^ mulU (x k) (q 0)) := fun y => by
      unfold polyN
      rw [sumN_front, key y k (Nat.le_refl k)]
      have e0 : mulU (pwU y 0) (v 0) = v 0 := by rw [pwU, mulU_comm, mulU_one]
      have e1 : (sumN k fun j => mulU (mulU (x k) (pwU y (j + 1))) (q (j + 1))) = mulU (x k) (sumN k fun j => mulU (pwU y j) (q j)) ^^^ mulU (x k) (q 0) := by
        have e2 : (sumN (k + 1) fun j => mulU (pwU y j) (q j)) = sumN k fun j => mulU (pwU y j) (q j) := by rw [sumN, hq2, mulU_zero, UInt8.xor_zero]
        have e3 := sumN_front k fun j => mulU (pwU y j) (q j)
        rw [e2] at e3
        have e4 : mulU (pwU y 0) (q 0) = q 0 := by rw [pwU, mulU_comm, mulU_one]
        have e5 : (sumN k fun j => mulU (mulU (x k) (pwU y (j + 1))) (q (j + 1))) = mulU (x k) (sumN k fun j => mulU (pwU y (j + 1)) (q (j + 1))) := by
          rw [sumN_mul]
          exact sumN_congr fun j _ => mulU_assoc _ _ _
        rw [e5, e3, e4, mulU_xor, UInt8.xor_comm (mulU (x k) (q 0)), UInt8.xor_assoc, UInt8.xor_self, UInt8.xor_zero]
      rw [e0, e1, mulU_xor']
      generalize mulU y _ = A
      generalize mulU (x k) (sumN k _) = B
      rw [UInt8.xor_comm (v 0), UInt8.xor_assoc, UInt8.xor_assoc, UInt8.xor_assoc, UInt8.xor_comm (v 0)]
    have hend : v 0 ^^^ mulU (x k) (q 0) = 0 := by
      have := h0 k (Nat.lt_succ_self k)
      rwa [val, UInt8.xor_self, mulU_zero', UInt8.zero_xor] at this
    have hqz := poly_none k q x (fun i j hi hj e => hx i j (by omega) (by omega) e) fun i hi => by
      have := h0 i (by omega)
      rw [val, hend, UInt8.xor_zero] at this
      rw [mulU_comm] at this
      refine mulU_none this fun e => ?_
      have e2 := congrArg (fun z => z ^^^ x k) e
      have e3 : x i = x k := by simpa [UInt8.xor_assoc] using e2
      have := hx i k (by omega) (Nat.lt_succ_self k) e3
      omega
    have hq0 : ∀ j, j ≤ k → q j = 0 := fun j hj => by
      by_cases e : j = k
      · rw [e]; exact hq2
      · exact hqz j (by omega)
    cases j with
    | zero => rwa [hq0 0 (Nat.zero_le _), mulU_zero, UInt8.xor_zero] at hend
    | succ j =>
      have := hq1 j (by omega)
      rw [hq0 j (by omega), hq0 (j + 1) (by omega), mulU_zero, UInt8.xor_zero] at this
      exact this.symm
/-- The matrix of powers. -/
def vdM : Mx := fun i j => pwU (UInt8.ofNat i) j
/-- Rows of powers of unlike bytes have an inverse. -/
theorem powers_inverse {k : Nat} {a : Mx} (x : Nat → UInt8) (hx : ∀ i j, i < k → j < k → x i = x j → i = j) (ha : ∀ i j, i < k → j < k → a i j = pwU (x i) j) : ∃ r, IsInv k a r := by
  refine (faithful_iff k a).1 fun v hv => poly_none k v x hx fun i hi => ?_
  rw [← hv i hi]
  exact sumN_congr fun j hj => by rw [ha i j hi hj]
end Go.Proofs.Ytdaofffkbnkljaa
