/- Shares of a segment in plain lists: the code's matrix, pieces and shares; any k unlike shares give the pieces back. -/
import Derived.Test.YtdaofffkbnkljaaMxL
namespace Go.Proofs.Ytdaofffkbnkljaa
open Go.RowKit

/-! ### The code's matrix -/
/-- The powers, times the inverse of their first k rows. -/
def Gen (k : Nat) (G : Mx) : Prop := ∃ r, IsInv k vdM r ∧ ∀ i j, j < k → G i j = mmN k vdM r i j
theorem vd_inv {k : Nat} (hk : k ≤ 256) : ∃ r, IsInv k vdM r :=
  powers_inverse (fun i => UInt8.ofNat i) (fun i j hi hj e => by
    have := congrArg UInt8.toNat e
    rw [UInt8.toNat_ofNat', UInt8.toNat_ofNat', Nat.mod_eq_of_lt (by omega), Nat.mod_eq_of_lt (by omega)] at this
    exact this) (fun _ _ _ _ => rfl)
theorem gen_is {k : Nat} (hk : k ≤ 256) : ∃ G, Gen k G := by
  obtain ⟨r, hr⟩ := vd_inv hk
  exact ⟨_, r, hr, fun _ _ _ => rfl⟩
/-- It is the only one, whatever inverse is taken. -/
theorem Gen.of {k : Nat} {G r : Mx} (h : Gen k G) (hr : IsInv k vdM r) {i j : Nat} (hj : j < k) : mmN k vdM r i j = G i j := by
  obtain ⟨s, h1, h2⟩ := h
  rw [h2 i j hj]
  exact mmN_congr (fun _ _ => rfl) (fun l hl => h1.only' hr l j hl hj)
theorem Gen.rows {k n : Nat} {G r : Mx} (h : Gen k G) (hr : IsInv k vdM r) : rowsL (mmN k vdM r) 0 k n = rowsL G 0 k n :=
  rows_ext (rowsL_len _ _ _ _) (rowsL_len _ _ _ _) (rowsL_rows _ _ _ _) (rowsL_rows _ _ _ _) fun i j hi hj => by
    rw [rowsL_ent _ 0 k n hi hj, rowsL_ent _ 0 k n hi hj, Nat.zero_add, h.of hr hj]
/-- Its first k rows change nothing. -/
theorem Gen.first {k : Nat} {G : Mx} (h : Gen k G) {i j : Nat} (hi : i < k) (hj : j < k) : G i j = unitM i j := by
  obtain ⟨r, h1, h2⟩ := h
  rw [h2 i j hj]
  exact h1.1 i j hi hj
/-- Any k rows of it have an inverse. -/
theorem Gen.pick {k : Nat} {G : Mx} (h : Gen k G) (x : Nat → Nat) (hx : ∀ i j, i < k → j < k → x i = x j → i = j) (h256 : ∀ i, i < k → x i < 256) : ∃ r, IsInv k (fun i j => G (x i) j) r := by
  obtain ⟨s, h1, h2⟩ := h
  obtain ⟨q, hq⟩ := powers_inverse (k := k) (a := fun i j => vdM (x i) j) (fun i => UInt8.ofNat (x i)) (fun i j hi hj e => by
    have e2 := congrArg UInt8.toNat e
    have a1 := h256 i hi
    have a2 := h256 j hj
    rw [UInt8.toNat_ofNat', UInt8.toNat_ofNat', Nat.mod_eq_of_lt (by omega), Nat.mod_eq_of_lt (by omega)] at e2
    exact hx i j hi hj e2) (fun _ _ _ _ => rfl)
  obtain ⟨z, hz⟩ := (inverse_mul k (fun i j => vdM (x i) j) s).2 ⟨⟨q, hq⟩, ⟨vdM, h1.symm⟩⟩
  exact ⟨z, hz.of_alike (fun i j _ hj => (h2 (x i) j hj).symm) (fun _ _ _ _ => rfl)⟩

/-! ### Noughts behind -/
def shN (len k : Nat) : Nat := (k - len % k) % k
def shL (b : List UInt8) (k : Nat) : List UInt8 := b ++ List.replicate (shN b.length k) 0
theorem shL_len (b : List UInt8) (k : Nat) : (shL b k).length = b.length + shN b.length k := by simp [shL]
theorem shN_mod (len : Nat) {k : Nat} (hk : 1 ≤ k) : (len + shN len k) % k = 0 := by
  unfold shN
  have h := Nat.mod_lt len (show 0 < k from hk)
  by_cases h0 : len % k = 0
  · rw [h0, Nat.sub_zero, Nat.mod_self, Nat.add_zero, h0]
  · rw [Nat.mod_eq_of_lt (show k - len % k < k by omega), Nat.add_mod, Nat.mod_eq_of_lt (show k - len % k < k by omega), show len % k + (k - len % k) = k by omega, Nat.mod_self]
theorem shN_lt (len : Nat) {k : Nat} (hk : 1 ≤ k) : shN len k < k := Nat.mod_lt _ hk
/-- Till then the length is no multiple. -/
theorem shN_not {len k j : Nat} (hk : 1 ≤ k) (hj : j < shN len k) : (len + j) % k ≠ 0 := by
  have h := Nat.mod_lt len (show 0 < k from hk)
  have h0 : len % k ≠ 0 := fun e => by
    unfold shN at hj
    rw [e, Nat.sub_zero, Nat.mod_self] at hj
    omega
  unfold shN at hj
  rw [Nat.mod_eq_of_lt (show k - len % k < k by omega)] at hj
  rw [Nat.add_mod, Nat.mod_eq_of_lt (show j < k by omega), Nat.mod_eq_of_lt (show len % k + j < k by omega)]
  omega
theorem shN_zero {len k : Nat} (h : len % k = 0) : shN len k = 0 := by
  unfold shN
  rw [h, Nat.sub_zero, Nat.mod_self]
/-- A piece's length. -/
def segN (b : List UInt8) (k : Nat) : Nat := (shL b k).length / k
theorem seg_mul (b : List UInt8) {k : Nat} (hk : 1 ≤ k) : (shL b k).length = k * segN b k := by
  unfold segN
  have h := Nat.div_add_mod (shL b k).length k
  rw [shL_len, shN_mod b.length hk, Nat.add_zero] at h
  rw [shL_len]
  exact h.symm
theorem shL_idem (b : List UInt8) {k : Nat} (hk : 1 ≤ k) : shL (shL b k) k = shL b k := by
  rw [show shL (shL b k) k = shL b k ++ List.replicate (shN (shL b k).length k) 0 from rfl, shN_zero (by rw [shL_len]; exact shN_mod _ hk)]
  simp
theorem segN_idem (b : List UInt8) {k : Nat} (hk : 1 ≤ k) : segN (shL b k) k = segN b k := by
  unfold segN
  rw [shL_idem b hk]

/-! ### Shares -/
/-- A row of a matrix times the pieces of p. -/
def sumRow (G : Mx) (p : List UInt8) (k l i : Nat) : List UInt8 := (List.range l).map fun x => sumN k fun j => mulU (G i j) (p.getD (j * l + x) 0)
theorem sumRow_len (G : Mx) (p : List UInt8) (k l i : Nat) : (sumRow G p k l i).length = l := by simp [sumRow]
theorem sumRow_at (G : Mx) (p : List UInt8) (k i : Nat) {l x : Nat} (h : x < l) : (sumRow G p k l i).getD x 0 = sumN k fun j => mulU (G i j) (p.getD (j * l + x) 0) := map_getD _ l x h
theorem sumRow_congr {G G' : Mx} {p : List UInt8} {k l i i' : Nat} (h : ∀ j, j < k → G i j = G' i' j) : sumRow G p k l i = sumRow G' p k l i' := by
  unfold sumRow
  exact List.map_congr_left fun x _ => sumN_congr fun j hj => by rw [h j hj]
def encL (G : Mx) (b : List UInt8) (k n : Nat) : List (List UInt8) := (List.range n).map (sumRow G (shL b k) k (segN b k))
theorem encL_len (G : Mx) (b : List UInt8) (k n : Nat) : (encL G b k n).length = n := by simp [encL]
theorem encL_at (G : Mx) (b : List UInt8) (k : Nat) {n i : Nat} (h : i < n) : (encL G b k n).getD i [] = sumRow G (shL b k) k (segN b k) i := by
  simp [encL, List.getD_eq_getElem?_getD, h]
theorem encL_rows (G : Mx) (b : List UInt8) (k n : Nat) : ∀ r ∈ encL G b k n, r.length = segN b k := fun r hr => by
  obtain ⟨i, _, rfl⟩ := List.mem_map.1 hr
  exact sumRow_len _ _ _ _ _
theorem encL_sh (G : Mx) (b : List UInt8) {k : Nat} (n : Nat) (hk : 1 ≤ k) : encL G (shL b k) k n = encL G b k n := by
  unfold encL
  rw [shL_idem b hk, segN_idem b hk]

/-! ### The pieces back -/
/-- Of k rows of l bytes: row j is row j of r times these. -/
def decL (r : Mx) (D : Nat → List UInt8) (k l : Nat) : List UInt8 := (List.range (k * l)).map fun q => sumN k fun i => mulU (r (q / l) i) ((D i).getD (q % l) 0)
theorem decL_len (r : Mx) (D : Nat → List UInt8) (k l : Nat) : (decL r D k l).length = k * l := by simp [decL]
theorem decL_at (r : Mx) (D : Nat → List UInt8) {k l q : Nat} (h : q < k * l) : (decL r D k l).getD q 0 = sumN k fun i => mulU (r (q / l) i) ((D i).getD (q % l) 0) := map_getD _ (k * l) q h
theorem quot_lt {k l q : Nat} (h : q < k * l) : q / l < k ∧ q % l < l ∧ q / l * l + q % l = q := by
  have hl : 0 < l := by
    rcases Nat.eq_zero_or_pos l with h0 | h0
    · rw [h0, Nat.mul_zero] at h; omega
    · exact h0
  exact ⟨(Nat.div_lt_iff_lt_mul hl).2 h, Nat.mod_lt _ hl, Nat.div_add_mod' q l⟩
theorem decL_congr {r s : Mx} {D : Nat → List UInt8} {k l : Nat} (h : Alike k k r s) : decL r D k l = decL s D k l := by
  unfold decL
  refine List.map_congr_left fun q hq => sumN_congr fun i hi => ?_
  rw [h _ i (quot_lt (List.mem_range.1 hq)).1 hi]
theorem list_ext8 {a b : List UInt8} (hl : a.length = b.length) (h : ∀ q, q < a.length → a.getD q 0 = b.getD q 0) : a = b := by
  apply List.ext_getElem hl
  intro i h1 h2
  have := h i h1
  simpa [List.getD_eq_getElem?_getD, h1, h2] using this
/-- What k unlike shares decode to. -/
theorem dec_enc {k l : Nat} {G r : Mx} {x : Nat → Nat} {p : List UInt8} {D : Nat → List UInt8} (hp : p.length = k * l) (hr : IsInv k (fun i j => G (x i) j) r) (hD : ∀ i, i < k → D i = sumRow G p k l (x i)) : decL r D k l = p := by
  refine list_ext8 (by rw [decL_len, hp]) fun q hq => ?_
  rw [decL_len] at hq
  obtain ⟨h1, h2, h3⟩ := quot_lt hq
  rw [decL_at r D hq]
  have e : (sumN k fun i => mulU (r (q / l) i) ((D i).getD (q % l) 0)) = mmN k r (mmN k (fun i j => G (x i) j) (fun j y => p.getD (j * l + y) 0)) (q / l) (q % l) :=
    sumN_congr fun i hi => by
      rw [hD i hi, sumRow_at G p k (x i) h2]; rfl
  rw [e, ← mmN_assoc, mmN_congr (c := unitM) (d := fun j y => p.getD (j * l + y) 0) (fun j hj => hr.2 _ j h1 hj) (fun _ _ => rfl), unit_mm h1, h3]
/-- One byte of one share turned. -/
theorem dec_turned {k l i0 a0 : Nat} {c : UInt8} {r : Mx} {D E : Nat → List UInt8} (hi0 : i0 < k) (hE : ∀ i x, i < k → x < l → (E i).getD x 0 = if i = i0 ∧ x = a0 then (D i).getD x 0 ^^^ c else (D i).getD x 0) {q : Nat} (hq : q < k * l) :
    (decL r E k l).getD q 0 = if q % l = a0 then (decL r D k l).getD q 0 ^^^ mulU (r (q / l) i0) c else (decL r D k l).getD q 0 := by
  obtain ⟨h1, h2, h3⟩ := quot_lt hq
  rw [decL_at r E hq, decL_at r D hq]
  by_cases h : q % l = a0
  · rw [if_pos h]
    have e : (sumN k fun i => mulU (r (q / l) i) ((E i).getD (q % l) 0)) = (sumN k fun i => mulU (r (q / l) i) ((D i).getD (q % l) 0)) ^^^ sumN k fun i => if i = i0 then mulU (r (q / l) i0) c else 0 := by
      rw [← sumN_xor]
      refine sumN_congr fun i hi => ?_
      rw [hE i _ hi h2]
      by_cases e : i = i0
      · rw [if_pos ⟨e, h⟩, if_pos e, mulU_xor, e]
      · rw [if_neg (fun z => e z.1), if_neg e, UInt8.xor_zero]
    rw [e, sumN_only hi0 (fun j _ hne => if_neg hne), if_pos rfl]
  · rw [if_neg h]
    refine sumN_congr fun i hi => ?_
    rw [hE i _ hi h2, if_neg (fun z => h z.2)]
/-- A column of an inverse is not nothing. -/
theorem inv_column {k : Nat} {a r : Mx} (h : IsInv k a r) {i : Nat} (hi : i < k) : ∃ j, j < k ∧ r j i ≠ 0 := by
  by_cases hx : ∃ j, j < k ∧ r j i ≠ 0
  · exact hx
  · exfalso
    have hz : ∀ j, j < k → r j i = 0 := fun j hj => by
      by_cases e : r j i = 0
      · exact e
      · exact absurd ⟨j, hj, e⟩ hx
    have h2 := h.1 i i hi hi
    rw [unitM_same] at h2
    have h3 : mmN k a r i i = 0 := sumN_none fun j hj => by rw [hz j hj, mulU_zero]
    rw [h3] at h2
    exact absurd h2 (by decide)
/-! ### The first k shares; sums -/
theorem enc_first {k : Nat} {G : Mx} (hG : Gen k G) (b : List UInt8) {i x : Nat} (hi : i < k) (hx : x < segN b k) : (sumRow G (shL b k) k (segN b k) i).getD x 0 = (shL b k).getD (i * segN b k + x) 0 := by
  rw [sumRow_at _ _ _ _ hx]
  rw [show (sumN k fun j => mulU (G i j) ((shL b k).getD (j * segN b k + x) 0)) = mmN k unitM (fun j y => (shL b k).getD (j * segN b k + y) 0) i x from sumN_congr fun j hj => by rw [hG.first hi hj], unit_mm hi]
theorem sumRow_xor {G : Mx} {p q s : List UInt8} {k l i : Nat} (h : ∀ y, s.getD y 0 = p.getD y 0 ^^^ q.getD y 0) {x : Nat} (hx : x < l) : (sumRow G s k l i).getD x 0 = (sumRow G p k l i).getD x 0 ^^^ (sumRow G q k l i).getD x 0 := by
  rw [sumRow_at _ _ _ _ hx, sumRow_at _ _ _ _ hx, sumRow_at _ _ _ _ hx, ← sumN_xor]
  exact sumN_congr fun j _ => by rw [h, mulU_xor]
end Go.Proofs.Ytdaofffkbnkljaa
