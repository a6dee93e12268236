/- Lists of rows as matrices: products, inverses; a list of rows in memory. -/
import Derived.Test.YtdaofffkbnkljaaMxB
import Derived.Test.YtdaofffkbnkljaaRMMay
import Derived.Test.YtdaofffkbnkljaaIntsB
namespace Go.Proofs.Ytdaofffkbnkljaa
open Go.RowKit

/-- N rows of N bytes. -/
def SqL (N : Nat) (ls : List (List UInt8)) : Prop := ls.length = N ∧ ∀ r ∈ ls, r.length = N
theorem sqL_rows (f : Mx) (o N : Nat) : SqL N (rowsL f o N N) := ⟨rowsL_len _ _ _ _, rowsL_rows _ _ _ _⟩
theorem SqL.first {N : Nat} {ls : List (List UInt8)} (h : SqL N ls) (h1 : 1 ≤ N) : (ls.getD 0 []).length = N := by
  have hl : 0 < ls.length := by rw [h.1]; exact h1
  rw [List.getD_eq_getElem?_getD, List.getElem?_eq_getElem hl]
  exact h.2 _ (List.getElem_mem _)
theorem SqL.isMx {N : Nat} {ls : List (List UInt8)} (h : SqL N ls) (h1 : 1 ≤ N) (h16 : N ≤ 16) : IsMx ls :=
  ⟨by rw [h.1]; exact h1, by rw [h.1]; exact h16, fun i hi => by
    have := h.2 _ (List.getElem_mem hi)
    unfold rowOK
    rw [h.first h1, this]
    exact ⟨h1, h16, rfl⟩⟩
theorem rows_ext {n m : Nat} {ls ks : List (List UInt8)} (h1 : ls.length = n) (h2 : ks.length = n) (r1 : ∀ r ∈ ls, r.length = m) (r2 : ∀ r ∈ ks, r.length = m) (h : Alike n m (entM ls) (entM ks)) : ls = ks := by
  apply List.ext_getElem (by rw [h1, h2])
  intro i a1 a2
  have l1 := r1 _ (List.getElem_mem a1)
  have l2 := r2 _ (List.getElem_mem a2)
  apply List.ext_getElem (by rw [l1, l2])
  intro j b1 b2
  have := h i j (by omega) (by omega)
  simpa [entM, List.getD_eq_getElem?_getD, a1, a2, b1, b2] using this
theorem SqL.ext {N : Nat} {ls ks : List (List UInt8)} (h1 : SqL N ls) (h2 : SqL N ks) (h : Alike N N (entM ls) (entM ks)) : ls = ks := rows_ext h1.1 h2.1 h1.2 h2.2 h
theorem rows_alike (f : Mx) (n m : Nat) : Alike n m (entM (rowsL f 0 m n)) f := fun i j hi hj => by rw [rowsL_ent f 0 m n hi hj, Nat.zero_add]

/-! ### Products -/
def mulOK (ls ks : List (List UInt8)) : Prop := IsMx ls ∧ IsMx ks ∧ (ls.getD 0 []).length = ks.length
instance (ls ks : List (List UInt8)) : Decidable (mulOK ls ks) := by unfold mulOK; infer_instance
def mulL (ls ks : List (List UInt8)) : List (List UInt8) := if mulOK ls ks then rowsL (mmN ks.length (entM ls) (entM ks)) 0 (ks.getD 0 []).length ls.length else []
def mulE (ls ks : List (List UInt8)) : Int := if mulOK ls ks then 0 else 1
section
variable {N : Nat} {x y z : List (List UInt8)}
theorem sq_mulOK (hx : SqL N x) (hy : SqL N y) (h1 : 1 ≤ N) (h16 : N ≤ 16) : mulOK x y := ⟨hx.isMx h1 h16, hy.isMx h1 h16, by rw [hx.first h1, hy.1]⟩
theorem sq_mul (hx : SqL N x) (hy : SqL N y) (h1 : 1 ≤ N) (h16 : N ≤ 16) : mulL x y = rowsL (mmN N (entM x) (entM y)) 0 N N := by
  unfold mulL
  rw [if_pos (sq_mulOK hx hy h1 h16), hx.1, hy.1, hy.first h1]
theorem sq_mulE (hx : SqL N x) (hy : SqL N y) (h1 : 1 ≤ N) (h16 : N ≤ 16) : mulE x y = 0 := by
  unfold mulE
  rw [if_pos (sq_mulOK hx hy h1 h16)]
theorem sq_mul_sq (hx : SqL N x) (hy : SqL N y) (h1 : 1 ≤ N) (h16 : N ≤ 16) : SqL N (mulL x y) := by rw [sq_mul hx hy h1 h16]; exact sqL_rows _ _ _
theorem sq_mul_ent (hx : SqL N x) (hy : SqL N y) (h1 : 1 ≤ N) (h16 : N ≤ 16) : Alike N N (entM (mulL x y)) (mmN N (entM x) (entM y)) := by rw [sq_mul hx hy h1 h16]; exact rows_alike _ _ _
theorem sq_assoc (hx : SqL N x) (hy : SqL N y) (hz : SqL N z) (h1 : 1 ≤ N) (h16 : N ≤ 16) : mulL (mulL x y) z = mulL x (mulL y z) := by
  have hxy := sq_mul_sq hx hy h1 h16
  have hyz := sq_mul_sq hy hz h1 h16
  refine SqL.ext (sq_mul_sq hxy hz h1 h16) (sq_mul_sq hx hyz h1 h16) fun i j hi hj => ?_
  rw [sq_mul_ent hxy hz h1 h16 i j hi hj, sq_mul_ent hx hyz h1 h16 i j hi hj, mmN_congr (fun k hk => sq_mul_ent hx hy h1 h16 i k hi hk) (fun _ _ => rfl), mmN_assoc]
  exact mmN_congr (fun _ _ => rfl) (fun k hk => (sq_mul_ent hy hz h1 h16 k j hk hj).symm)
theorem sq_inv_mul (hx : SqL N x) (hy : SqL N y) (h1 : 1 ≤ N) (h16 : N ≤ 16) (h : IsInv N (entM x) (entM y)) : mulL x y = rowsL unitM 0 N N :=
  SqL.ext (sq_mul_sq hx hy h1 h16) (sqL_rows _ _ _) ((sq_mul_ent hx hy h1 h16).trans (Alike.trans h.1 (rows_alike _ _ _).symm))
end

/-! ### Inverses -/
def sqOK (ls : List (List UInt8)) : Prop := IsMx ls ∧ ls.length = (ls.getD 0 []).length
instance (ls : List (List UInt8)) : Decidable (sqOK ls) := by unfold sqOK; infer_instance
theorem sq_sqOK {N : Nat} {x : List (List UInt8)} (hx : SqL N x) (h1 : 1 ≤ N) (h16 : N ≤ 16) : sqOK x := ⟨hx.isMx h1 h16, by rw [hx.first h1, hx.1]⟩
/-- What an inverse and its error may be. -/
def InvSpec (ls : List (List UInt8)) (er : Int) (rs : List (List UInt8)) : Prop :=
  (¬ sqOK ls ∧ er = 1 ∧ rs = []) ∨ (sqOK ls ∧ er = 0 ∧ SqL ls.length rs ∧ IsInv ls.length (entM ls) (entM rs)) ∨ (sqOK ls ∧ er = 4 ∧ rs = [] ∧ ¬ Faithful ls.length (entM ls))
theorem inv_cases {N : Nat} {x rs : List (List UInt8)} {er : Int} (hx : SqL N x) (h1 : 1 ≤ N) (h16 : N ≤ 16) (h : InvSpec x er rs) : (er = 0 ∧ SqL N rs ∧ IsInv N (entM x) (entM rs)) ∨ (er = 4 ∧ rs = [] ∧ ¬ Faithful N (entM x)) := by
  rcases h with ⟨h, _⟩ | ⟨_, h2, h3, h4⟩ | ⟨_, h2, h3, h4⟩
  · exact absurd (sq_sqOK hx h1 h16) h
  · rw [hx.1] at h3 h4; exact .inl ⟨h2, h3, h4⟩
  · rw [hx.1] at h4; exact .inr ⟨h2, h3, h4⟩

/-! ### In memory -/
/-- The value reads as the rows. -/
def MV (w : World) (v : Value) (ls : List (List UInt8)) : Prop := ∃ X c, v = .slice X ls.length c ∧ ls.length ≤ c ∧ RdR w w.heap.size X ls
theorem MV.on {w w' : World} {v : Value} {ls : List (List UInt8)} (h : MV w v ls) (hb : Below w.heap.size w w') : MV w' v ls := by
  obtain ⟨X, c, h1, h2, h3⟩ := h
  exact ⟨X, c, h1, h2, (h3.below hb (Nat.le_refl _)).more hb.size⟩
theorem MV.mk {w : World} {X : Option Addr} {n c : Nat} {ls : List (List UInt8)} (hn : ls.length = n) (hc : n ≤ c) (h : RdR w w.heap.size X ls) : MV w (.slice X n c) ls := by
  subst hn; exact ⟨X, c, rfl, hc, h⟩
end Go.Proofs.Ytdaofffkbnkljaa
namespace Go.Proofs.Ytdaofffkbnkljaa
section
variable {N : Nat} {x y i j q : List (List UInt8)} {er : Int}
theorem faithful_alike {n : Nat} {a b : Mx} (h : Alike n n a b) (ha : Faithful n a) : Faithful n b := by
  obtain ⟨r, hr⟩ := (faithful_iff n a).1 ha
  exact (faithful_iff n b).2 ⟨r, hr.of_alike h fun _ _ _ _ => rfl⟩
theorem faith_mul (hx : SqL N x) (hy : SqL N y) (h1 : 1 ≤ N) (h16 : N ≤ 16) : Faithful N (entM (mulL x y)) ↔ Faithful N (entM x) ∧ Faithful N (entM y) := by
  have ha := sq_mul_ent hx hy h1 h16
  constructor
  · intro h
    obtain ⟨hr, hs⟩ := (inverse_mul N _ _).1 ((faithful_iff N _).1 (faithful_alike ha h))
    exact ⟨(faithful_iff N _).2 hr, (faithful_iff N _).2 hs⟩
  · rintro ⟨hr, hs⟩
    exact faithful_alike ha.symm ((faithful_iff N _).2 ((inverse_mul N _ _).2 ⟨(faithful_iff N _).1 hr, (faithful_iff N _).1 hs⟩))
theorem IsInv.faithful {n : Nat} {a r : Mx} (h : IsInv n a r) : Faithful n a := faithful_of_left h.2
/-- The inverse of a product is the product of inverses, the other way round. -/
theorem sq_turned (hx : SqL N x) (hy : SqL N y) (hi : SqL N i) (hj : SqL N j) (hq : SqL N q) (h1 : 1 ≤ N) (h16 : N ≤ 16) (k1 : IsInv N (entM x) (entM i)) (k2 : IsInv N (entM y) (entM j)) (k3 : IsInv N (entM (mulL x y)) (entM q)) : q = mulL j i := by
  refine hq.ext (sq_mul_sq hj hi h1 h16) ?_
  have h := (k1.mul k2).of_alike (sq_mul_ent hx hy h1 h16).symm (sq_mul_ent hj hi h1 h16).symm
  exact h.only' k3
theorem sq_inv_only (hi : SqL N i) (hj : SqL N j) (k1 : IsInv N (entM x) (entM i)) (k2 : IsInv N (entM x) (entM j)) : j = i := hj.ext hi (k1.only' k2)
end
end Go.Proofs.Ytdaofffkbnkljaa
namespace Go.Proofs.Ytdaofffkbnkljaa
open Go.RowKit

/-! ### What the calls of package matrix answer -/
def unitL (n : Int) : List (List UInt8) := if 1 ≤ n ∧ n ≤ 16 then rowsL unitM 0 n.toNat n.toNat else []
def vanL (n k : Int) : List (List UInt8) := if 1 ≤ n ∧ n ≤ 16 ∧ 1 ≤ k ∧ k ≤ 16 then rowsL vdM 0 k.toNat n.toNat else []
def applyOK (ls : List (List UInt8)) (v : List UInt8) : Prop := IsMx ls ∧ (ls.getD 0 []).length = v.length
instance (ls : List (List UInt8)) (v : List UInt8) : Decidable (applyOK ls v) := by unfold applyOK; infer_instance
def applyL (ls : List (List UInt8)) (v : List UInt8) : List UInt8 := if applyOK ls v then (List.range ls.length).map (mvN v.length (entM ls) fun j => v.getD j 0) else []
def applyE (ls : List (List UInt8)) (v : List UInt8) : Int := if applyOK ls v then 0 else 1
/-- The value reads as the bytes. -/
def BV (w : World) (v : Value) (l : List UInt8) : Prop := ∃ X c, v = .slice X l.length c ∧ l.length ≤ c ∧ Rd w w.heap.size X l
theorem BV.on {w w' : World} {v : Value} {l : List UInt8} (h : BV w v l) (hb : Below w.heap.size w w') : BV w' v l := by
  obtain ⟨X, c, h1, h2, h3⟩ := h
  exact ⟨X, c, h1, h2, (h3.below hb (Nat.le_refl _)).more hb.size⟩
def rowsOK (ls : List (List UInt8)) (ns : List Int) : Prop := IsMx ls ∧ 0 < ns.length ∧ ∀ i (h : i < ns.length), 0 ≤ ns[i] ∧ ns[i] < ls.length
instance (ls : List (List UInt8)) (ns : List Int) : Decidable (rowsOK ls ns) := by unfold rowsOK; infer_instance
def rowsS (ls : List (List UInt8)) (ns : List Int) : List (List UInt8) := if rowsOK ls ns then ns.map (fun n => ls.getD n.toNat []) else []
def rowsE (ls : List (List UInt8)) (ns : List Int) : Int := if rowsOK ls ns then 0 else 1
/-- The value reads as the numbers. -/
def IV (w : World) (v : Value) (ns : List Int) : Prop := ∃ X c, v = .slice X ns.length c ∧ ns.length ≤ c ∧ RdI w w.heap.size X ns
theorem IV.on {w w' : World} {v : Value} {ns : List Int} (h : IV w v ns) (hb : Below w.heap.size w w') : IV w' v ns := by
  obtain ⟨X, c, h1, h2, h3⟩ := h
  refine ⟨X, c, h1, h2, ?_⟩
  rcases h3.below hb with h | ⟨b, off, e1, e2, e3⟩
  · exact .inl h
  · exact .inr ⟨b, off, e1, Nat.lt_of_lt_of_le e2 hb.size, e3⟩
end Go.Proofs.Ytdaofffkbnkljaa
