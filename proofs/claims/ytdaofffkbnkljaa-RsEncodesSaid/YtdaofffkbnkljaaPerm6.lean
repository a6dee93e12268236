/- Blobs picked from all shares, and what they are decoded to. Rows of numbers that are put in another order; the length of a share. -/
import Derived.Test.YtdaofffkbnkljaaRsV
import Derived.Test.YtdaofffkbnkljaaBlobs
namespace Go.Proofs.Ytdaofffkbnkljaa
open Go.RowKit

/-- The first j blobs: the shares numbered f 0, f 1, .. -/
def pickB (E : List (List UInt8)) (f : Nat → Nat) (j : Nat) : List (Int × List UInt8) := (List.range j).map fun x => ((f x : Int), E.getD (f x) [])
theorem pickB_len (E : List (List UInt8)) (f : Nat → Nat) (j : Nat) : (pickB E f j).length = j := by simp [pickB]
theorem pickB_succ (E : List (List UInt8)) (f : Nat → Nat) (j : Nat) : pickB E f (j + 1) = pickB E f j ++ [((f j : Int), E.getD (f j) [])] := by
  unfold pickB
  rw [List.range_succ, List.map_append]; rfl
theorem pickB_at (E : List (List UInt8)) (f : Nat → Nat) {j i : Nat} (h : i < j) : (pickB E f j).getD i (0, []) = ((f i : Int), E.getD (f i) []) := by
  simp [pickB, List.getD_eq_getElem?_getD, h]
theorem pickB_nu (E : List (List UInt8)) (f : Nat → Nat) {j i : Nat} (h : i < j) : nuI (pickB E f j) i = (f i : Int) := by
  unfold nuI; rw [pickB_at E f h]
theorem pickB_nuB (E : List (List UInt8)) (f : Nat → Nat) {j i : Nat} (h : i < j) : nuB (pickB E f j) i = f i := by
  unfold nuB; rw [pickB_nu E f h]; omega
theorem pickB_da (E : List (List UInt8)) (f : Nat → Nat) {j i : Nat} (h : i < j) : daB (pickB E f j) i = E.getD (f i) [] := by
  unfold daB; rw [pickB_at E f h]
theorem pickB_take (E : List (List UInt8)) (f : Nat → Nat) {j i : Nat} (h : i ≤ j) : (pickB E f j).take i = pickB E f i := by
  unfold pickB
  rw [← List.map_take, List.take_range, Nat.min_eq_left h]
theorem pick_ok {G : Mx} {b : List UInt8} {k n : Nat} {f : Nat → Nat} (hk : 1 ≤ k) (hf : ∀ i, i < k → f i < n) (hi : ∀ i j, i < k → j < k → f i = f j → i = j) : decOK k n (pickB (encL G b k n) f k) := by
  refine ⟨pickB_len _ _ _, fun i h => ⟨?_, ?_, ?_⟩, fun i j h1 h2 => ?_⟩
  · rw [pickB_nu _ _ h]; omega
  · rw [pickB_nu _ _ h]; have := hf i h; omega
  · rw [pickB_da _ _ h, pickB_da _ _ (show 0 < k by omega), encL_at _ _ _ (hf i h), encL_at _ _ _ (hf 0 (by omega)), sumRow_len, sumRow_len]
  · rw [pickB_nu _ _ h1, pickB_nu _ _ (show j < k by omega)]
    intro e
    have := hi i j h1 (by omega) (by omega)
    omega
theorem pick_dec {G : Mx} {b : List UInt8} {k n : Nat} {f : Nat → Nat} {er : Int} {out : List UInt8} (hk : 1 ≤ k) (hf : ∀ i, i < k → f i < n) (hi : ∀ i j, i < k → j < k → f i = f j → i = j)
    (h : DecP G k n (pickB (encL G b k n) f k) er out) : er = 0 ∧ out = shL b k := by
  rcases h with ⟨h, _⟩ | ⟨_, h1, r, h2, h3⟩
  · exact absurd (pick_ok hk hf hi) h
  · refine ⟨h1, ?_⟩
    have h0 : (daB (pickB (encL G b k n) f k) 0).length = segN b k := by
      rw [pickB_da _ _ (show 0 < k by omega), encL_at _ _ _ (hf 0 (by omega)), sumRow_len]
    rw [h3, h0]
    refine dec_enc (G := G) (x := fun i => f i) (seg_mul b hk) (h2.of_alike (fun i j hi hj => ?_) fun _ _ _ _ => rfl) fun i hi => ?_
    · simp only [pickB_nuB _ _ hi]
    · rw [pickB_da _ _ hi, encL_at _ _ _ (hf i hi)]
theorem pick_short {G : Mx} {E : List (List UInt8)} {k n : Nat} {f : Nat → Nat} {er : Int} {out : List UInt8} (hk : 1 ≤ k) (h : DecP G k n (pickB E f (k - 1)) er out) : er = 1 := by
  rcases h with ⟨_, h, _⟩ | ⟨h, _⟩
  · exact h
  · have := h.1
    rw [pickB_len] at this
    omega
theorem pick_small {G : Mx} {b : List UInt8} {k n j s : Nat} {f : Nat → Nat} (hf : ∀ i, i < j → f i < n) (hs : segN b k ≤ s) : ∀ i, i < (pickB (encL G b k n) f j).length → (daB (pickB (encL G b k n) f j) i).length ≤ s := fun i h => by
  rw [pickB_len] at h
  rw [pickB_da _ _ h, encL_at _ _ _ (hf i h), sumRow_len]
  exact hs
end Go.Proofs.Ytdaofffkbnkljaa
namespace Go.Proofs.Ytdaofffkbnkljaa
open Go.RowKit

theorem infoNum6 : (Try.prog.info? 3).map (fun i => (i.zero, i.size, i.bytes)) = some (some (.int .i64 0), 1, 8) := by kernel_rfl
/-- The cells of the numbers f 0, f 1, .. -/
def natA (n : Nat) (f : Nat → Nat) : Array Value := ((List.range n).map fun x => Value.int .i64 (f x : Int)).toArray
def upd (f : Nat → Nat) (i v : Nat) : Nat → Nat := fun x => if x = i then v else f x
theorem natA_at (n : Nat) (f : Nat → Nat) {i : Nat} (h : i < n) : (natA n f)[i]? = some (.int .i64 (f i : Int)) := by
  simp [natA, h]
theorem natA_ext {n : Nat} {f g : Nat → Nat} (h : ∀ x, x < n → f x = g x) : natA n f = natA n g := by
  unfold natA
  congr 1
  exact List.map_congr_left fun x hx => by rw [h x (List.mem_range.1 hx)]
theorem natA_set (n : Nat) (f : Nat → Nat) (i v : Nat) : (natA n f).setIfInBounds i (.int .i64 (v : Int)) = natA n (upd f i v) := by
  apply Array.ext_getElem?
  intro j
  by_cases hj : j < n
  · rw [natA_at n _ hj, Array.getElem?_setIfInBounds]
    by_cases e : i = j
    · subst e
      simp [natA, upd, hj]
    · rw [if_neg e, natA_at n f hj, upd, if_neg (fun h => e h.symm)]
  · simp [natA, hj]
theorem natA_zero (n : Nat) : (madeCells #[Value.int .i64 0] n) = natA n (fun _ => 0) := by
  apply Array.ext_getElem?
  intro j
  by_cases hj : j < n
  · rw [natA_at n _ hj]
    simp [madeCells, hj, Nat.mod_one]
  · simp [madeCells, natA, hj]
theorem Blk.num {w : World} {g n : Nat} {f : Nat → Nat} {T : TypeId} (h : Blk w g (natA n f) T) {i : Nat} (hi : i < n) : w.cell? ⟨g, i, none⟩ = some (.int .i64 (f i : Int)) := (h.cell i).trans (natA_at n f hi)
theorem Blk.numSet {w : World} {g n : Nat} {f : Nat → Nat} {T : TypeId} (h : Blk w g (natA n f) T) (i v : Nat) : Blk (w.setCell ⟨g, i, none⟩ (.int .i64 (v : Int))) g (natA n (upd f i v)) T := by
  have := h.set i (.int .i64 (v : Int))
  rwa [natA_set] at this
/-- Numbers below n, no two the same. -/
def PermN (n : Nat) (f : Nat → Nat) : Prop := (∀ x, x < n → f x < n) ∧ ∀ x y, x < n → y < n → f x = f y → x = y
theorem PermN.id (n : Nat) : PermN n fun x => x := ⟨fun _ h => h, fun _ _ _ _ h => h⟩
theorem PermN.swap {n : Nat} {f : Nat → Nat} (h : PermN n f) {i j : Nat} (hi : i < n) (hj : j < n) : PermN n (upd (upd f i (f j)) j (f i)) := by
  have e : ∀ x, upd (upd f i (f j)) j (f i) x = f (if x = j then i else if x = i then j else x) := fun x => by
    unfold upd
    by_cases h1 : x = j
    · simp [h1]
    · by_cases h2 : x = i
      · rw [if_neg h1, if_neg h1, if_pos h2, if_pos h2]
      · simp [h1, h2]
  have b : ∀ x, x < n → (if x = j then i else if x = i then j else x) < n := fun x hx => by
    by_cases h1 : x = j
    · simp [h1, hi]
    · by_cases h2 : x = i
      · rw [if_neg h1, if_pos h2]; exact hj
      · rw [if_neg h1, if_neg h2]; exact hx
  refine ⟨fun x hx => by rw [e]; exact h.1 _ (b x hx), fun x y hx hy he => ?_⟩
  rw [e, e] at he
  have he2 := h.2 _ _ (b x hx) (b y hy) he
  by_cases h1 : x = j <;> by_cases h2 : x = i <;> by_cases h3 : y = j <;> by_cases h4 : y = i <;> simp_all
theorem upd_id (t x : Nat) : upd (fun x => if x < t then x else 0) t t x = if x < t + 1 then x else 0 := by
  unfold upd
  by_cases h : x = t
  · subst h; simp
  · rw [if_neg h]
    show (if x < t then x else 0) = _
    by_cases h2 : x < t
    · rw [if_pos h2, if_pos (by omega)]
    · rw [if_neg h2, if_neg (by omega)]
theorem lenI_seg (b : List UInt8) {k : Nat} (hk : 1 ≤ k) : lenI (b.length : Int) k = (segN b k : Int) := by
  have h1 := seg_mul b hk
  have h2 := shL_len b k
  have h3 := shN_lt b.length hk
  unfold lenI
  by_cases h : (b.length : Int) < 1
  · rw [if_pos h]
    have h4 : b.length = 0 := by omega
    have h5 : shN b.length k = 0 := by rw [h4]; exact shN_zero (Nat.zero_mod k)
    have h6 : k * segN b k = 0 := by omega
    rcases Nat.mul_eq_zero.1 h6 with h7 | h7
    · omega
    · rw [h7]; rfl
  · rw [if_neg h]
    have h8 : 1 ≤ segN b k := by
      rcases Nat.eq_zero_or_pos (segN b k) with h9 | h9
      · rw [h9] at h1; omega
      · exact h9
    obtain ⟨s, hs⟩ : ∃ s, segN b k = s + 1 := ⟨segN b k - 1, by omega⟩
    rw [hs] at h1 ⊢
    have h10 : (b.length - 1) / k = s := by
      refine Nat.div_eq_of_lt_le ?_ ?_
      · rw [Nat.mul_add, Nat.mul_one, Nat.mul_comm] at h1; omega
      · rw [Nat.mul_comm]; omega
    have h11 : ((b.length : Int) - 1) = ((b.length - 1 : Nat) : Int) := by omega
    rw [h11, ← Int.natCast_ediv, h10]; rfl
theorem RdBl.take {w : World} {B : Nat} {A : Option Addr} {bs : List (Int × List UInt8)} (h : RdBl w B A bs) (k : Nat) : RdBl w B A (bs.take k) := by
  rcases h with rfl | ⟨b, off, hA, hb, hc⟩
  · exact .inl (by simp)
  · exact .inr ⟨b, off, hA, hb, fun i hi => by
      rw [List.length_take] at hi
      rw [List.getElem_take]
      exact hc i (by omega)⟩
/-- The first of the blobs. -/
theorem BlV.cut {w : World} {X : Option Addr} {n c k : Nat} {bs : List (Int × List UInt8)} (h : BlV w (.slice X n c) bs) (hk : k ≤ n) : BlV w (.slice X k c) (bs.take k) := by
  obtain ⟨Y, d, e, h1, h2⟩ := h
  injection e with e1 e2 e3
  subst e1 e2 e3
  exact ⟨X, c, by rw [List.length_take, Nat.min_eq_left hk], by rw [List.length_take]; omega, h2.take k⟩
theorem nums_of_made {w : World} {base n : Nat} {e : TypeId} {g : Nat} (h : w.ownsRow base e 1 (.slice (some ⟨g, 0, none⟩) n n) n (madeCells (Value.int .i64 0).cells (n * 1)).toList) : Blk w g (natA n fun _ => 0) e := by
  rcases h.2 with ⟨e1, e2⟩ | ⟨g', cap, cur, e1, e2, e3, e4, _, e5, e6⟩
  · simp at e1
  · injection e1 with e1 e1b e1c
    injection e1 with e1
    injection e1 with e1
    subst e1 e1c
    rw [List.take_of_length_le (by simp; omega)] at e6
    have e8 : cur = natA n fun _ => 0 := by
      rw [← natA_zero]
      apply Array.ext'
      rw [e6]
      simp [Value.cells]
    rw [← e8]
    exact e3
end Go.Proofs.Ytdaofffkbnkljaa
