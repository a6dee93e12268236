/- Images, single rows: what chapter 5's laws say of them, in lists. -/
import Derived.Test.YtkgemngkkedcnaaMxR
namespace Go.Proofs.Ytkgemngkkedcnaa
open Go.RowKit

section
variable {N : Nat} {x y : List (List UInt8)} {v : List UInt8}
theorem sq_applyOK (hx : SqL N x) (hv : v.length = N) (h1 : 1 ≤ N) (h16 : N ≤ 16) : applyOK x v := ⟨hx.isMx h1 h16, by rw [hx.first h1, hv]⟩
theorem sq_applyE (hx : SqL N x) (hv : v.length = N) (h1 : 1 ≤ N) (h16 : N ≤ 16) : applyE x v = 0 := by
  unfold applyE; rw [if_pos (sq_applyOK hx hv h1 h16)]
theorem sq_apply (hx : SqL N x) (hv : v.length = N) (h1 : 1 ≤ N) (h16 : N ≤ 16) : applyL x v = (List.range N).map (mvN N (entM x) fun j => v.getD j 0) := by
  unfold applyL; rw [if_pos (sq_applyOK hx hv h1 h16), hx.1, hv]
theorem sq_apply_len (hx : SqL N x) (hv : v.length = N) (h1 : 1 ≤ N) (h16 : N ≤ 16) : (applyL x v).length = N := by rw [sq_apply hx hv h1 h16]; simp
theorem sq_apply_at (hx : SqL N x) (hv : v.length = N) (h1 : 1 ≤ N) (h16 : N ≤ 16) {i : Nat} (hi : i < N) : (applyL x v).getD i 0 = mvN N (entM x) (fun j => v.getD j 0) i := by
  rw [sq_apply hx hv h1 h16]; exact map_getD _ N i hi
theorem bytes_ext {l k : List UInt8} {n : Nat} (hl : l.length = n) (hk : k.length = n) (h : ∀ i, i < n → l.getD i 0 = k.getD i 0) : l = k := by
  apply List.ext_getElem (by omega)
  intro i h1 h2
  have := h i (by omega)
  simpa [List.getD_eq_getElem?_getD, h1, h2] using this
/-- The image of the image. -/
theorem sq_apply_mul (hx : SqL N x) (hy : SqL N y) (hv : v.length = N) (h1 : 1 ≤ N) (h16 : N ≤ 16) : applyL (mulL x y) v = applyL x (applyL y v) := by
  have hm := sq_mul_sq hx hy h1 h16
  have hl := sq_apply_len hy hv h1 h16
  refine bytes_ext (sq_apply_len hm hv h1 h16) (sq_apply_len hx hl h1 h16) fun i hi => ?_
  rw [sq_apply_at hm hv h1 h16 hi, sq_apply_at hx hl h1 h16 hi, mvN_congr (c := mmN N (entM x) (entM y)) (fun k hk => sq_mul_ent hx hy h1 h16 i k hi hk) (fun _ _ => rfl), mvN_mm]
  exact mvN_congr (fun _ _ => rfl) (fun k hk => (sq_apply_at hy hv h1 h16 hk).symm)
theorem sq_rowsOK (hx : SqL N x) (h1 : 1 ≤ N) (h16 : N ≤ 16) {I : Nat} (hI : I < N) : rowsOK x [(I : Int)] :=
  ⟨hx.isMx h1 h16, by simp, fun i hi => by
    obtain rfl : i = 0 := by simp at hi; omega
    simp [hx.1]; exact hI⟩
theorem sq_rowsE (hx : SqL N x) (h1 : 1 ≤ N) (h16 : N ≤ 16) {I : Nat} (hI : I < N) : rowsE x [(I : Int)] = 0 := by
  unfold rowsE; rw [if_pos (sq_rowsOK hx h1 h16 hI)]
theorem sq_rowsS (hx : SqL N x) (h1 : 1 ≤ N) (h16 : N ≤ 16) {I : Nat} (hI : I < N) : rowsS x [(I : Int)] = [x.getD I []] := by
  unfold rowsS; rw [if_pos (sq_rowsOK hx h1 h16 hI)]; simp
theorem sq_row_len (hx : SqL N x) {I : Nat} (hI : I < N) : (x.getD I []).length = N := by
  have hl : I < x.length := by rw [hx.1]; exact hI
  rw [List.getD_eq_getElem?_getD, List.getElem?_eq_getElem hl]
  exact hx.2 _ (List.getElem_mem _)
theorem row_isMx {l : List UInt8} (hl : l.length = N) (h1 : 1 ≤ N) (h16 : N ≤ 16) : IsMx [l] :=
  ⟨by simp, by simp, fun i hi => by
    obtain rfl : i = 0 := by simp at hi; omega
    unfold rowOK; simp [hl]; omega⟩
theorem row_mulOK {l : List UInt8} (hl : l.length = N) (hx : SqL N x) (h1 : 1 ≤ N) (h16 : N ≤ 16) : mulOK [l] x := ⟨row_isMx hl h1 h16, hx.isMx h1 h16, by simp [hl, hx.1]⟩
theorem row_mulE {l : List UInt8} (hl : l.length = N) (hx : SqL N x) (h1 : 1 ≤ N) (h16 : N ≤ 16) : mulE [l] x = 0 := by
  unfold mulE; rw [if_pos (row_mulOK hl hx h1 h16)]
/-- A row of the unit picks a row. -/
theorem row_pick (hx : SqL N x) (h1 : 1 ≤ N) (h16 : N ≤ 16) {I : Nat} (hI : I < N) : mulL [(rowsL unitM 0 N N).getD I []] x = [x.getD I []] := by
  have hu := sqL_rows unitM 0 N
  have hl := sq_row_len hu hI
  unfold mulL
  rw [if_pos (row_mulOK hl hx h1 h16), hx.1, hx.first h1]
  show rowsL _ 0 N 1 = _
  refine rows_ext (n := 1) (m := N) (rowsL_len _ _ _ _) rfl (rowsL_rows _ _ _ _) (fun r hr => by rw [List.mem_singleton.1 hr]; exact sq_row_len hx hI) fun i j hi hj => ?_
  obtain rfl : i = 0 := by omega
  rw [rows_alike _ 1 N 0 j hi hj]
  have e1 : ∀ k, k < N → entM [(rowsL unitM 0 N N).getD I []] 0 k = unitM I k := fun k hk => rows_alike unitM N N I k hI hk
  rw [mmN_congr (c := fun _ k => unitM I k) (fun k hk => e1 k hk) (fun _ _ => rfl)]
  exact unit_mm hI (entM x) j
end
theorem bvsame {w : World} {x y : Value} {l : List UInt8} (h1 : l.length ≤ 1000) (hx : BV w x l) (hy : BV w y l) :
    Calls Try.prog 16 #[x, y] w fun e w' => e = .returned (.bool true) ∧ Below w.heap.size w w' := by
  obtain ⟨X, c, rfl, _, hX⟩ := hx
  obtain ⟨Y, d, rfl, _, hY⟩ := hy
  have := same_any X Y _ _ c d _ _ l l w rfl rfl (Nat.le_trans h1 (by decide)) hX hY
  rw [decide_eq_true rfl] at this
  exact this.mono fun _ _ ⟨he, q, hq⟩ => ⟨he, by rw [hq]; exact below_drewN (Below.refl _ _) q⟩
theorem IV.one (w : World) (T : TypeId) (n : Int) : IV (w.alloc (.cells #[.int .i64 n] T)) (.slice (some ⟨w.heap.size, 0, none⟩) 1 1) [n] := by
  refine ⟨_, 1, rfl, Nat.le_refl _, .inr ⟨w.heap.size, 0, rfl, by simp, fun i hi => ?_⟩⟩
  obtain rfl : i = 0 := by simp at hi; omega
  simp
end Go.Proofs.Ytkgemngkkedcnaa
