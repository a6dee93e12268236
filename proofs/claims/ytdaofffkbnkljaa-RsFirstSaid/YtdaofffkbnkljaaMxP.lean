/- The document's example of chapter 5; helps of its statements. The document's own answers on matrices, on values that read as rows. Images, single rows: what chapter 5's laws say of them, in lists. Numbers picked, each one once; rows of the matrix of powers. -/
import Derived.Test.YtdaofffkbnkljaaPMx
import Derived.Test.YtdaofffkbnkljaaRMSq
import Derived.Test.YtdaofffkbnkljaaRowsCmp
import Derived.Test.YtdaofffkbnkljaaKeep
import Derived.Test.YtdaofffkbnkljaaRMInv
import Derived.Test.YtdaofffkbnkljaaRMProd
import Derived.Test.YtdaofffkbnkljaaMake
namespace Go.Proofs.Ytdaofffkbnkljaa
open Go.RowKit

theorem mvrows {w : World} {x y : Value} {ls ks : List (List UInt8)} (hx : MV w x ls) (hy : MV w y ks) (h1 : ls.length ≤ 1000) (h2 : ∀ r ∈ ls, r.length ≤ 1000) :
    Calls Try.prog 16 #[x, y] w fun e w' => e = .returned (.bool (decide (ls = ks))) ∧ Below w.heap.size w w' := by
  obtain ⟨X, c, rfl, _, hX⟩ := hx
  obtain ⟨Y, d, rfl, _, hY⟩ := hy
  exact (rows_any X Y _ _ c d _ _ ls ks w rfl rfl (Nat.le_trans h1 (by decide)) hX hY (fun r hr => Nat.le_trans (h2 r hr) (by decide))).mono fun _ _ ⟨he, q, hq⟩ => ⟨he, by rw [hq]; exact below_drewN (Below.refl _ _) q⟩
theorem SqL.small {N : Nat} {ls : List (List UInt8)} (h : SqL N ls) (hN : N ≤ 16) : ls.length ≤ 1000 ∧ ∀ r ∈ ls, r.length ≤ 1000 := ⟨by rw [h.1]; omega, fun r hr => by rw [h.2 r hr]; omega⟩
theorem sqrows {w : World} {N : Nat} {x y : Value} {ls ks : List (List UInt8)} (hs : SqL N ls) (hN : N ≤ 16) (he : ls = ks) (hx : MV w x ls) (hy : MV w y ks) :
    Calls Try.prog 16 #[x, y] w fun e w' => e = .returned (.bool true) ∧ Below w.heap.size w w' := by
  have := mvrows hx hy (hs.small hN).1 (hs.small hN).2
  rwa [decide_eq_true he] at this
/-- Any bytes as a square of N. -/
def sqr (l : List UInt8) (N : Nat) : List (List UInt8) := rowsL (sqM l N) 0 N N
theorem sqr_sq (l : List UInt8) (N : Nat) : SqL N (sqr l N) := sqL_rows _ _ _
theorem unitL_nat {N : Nat} (h1 : 1 ≤ N) (h16 : N ≤ 16) : unitL (N : Int) = rowsL unitM 0 N N := by
  unfold unitL
  rw [if_pos (by omega), Int.toNat_natCast]
theorem unit_inv {N : Nat} {rs : List (List UInt8)} {er : Int} (h1 : 1 ≤ N) (h16 : N ≤ 16) (h : InvSpec (rowsL unitM 0 N N) er rs) : er = 0 ∧ rs = rowsL unitM 0 N N := by
  have hu : IsInv N (entM (rowsL unitM 0 N N)) unitM := by
    have h0 : IsInv N unitM unitM := ⟨fun i j hi hj => unit_mm hi _ _, fun i j hi hj => unit_mm hi _ _⟩
    exact h0.of_alike (rows_alike _ _ _).symm (fun _ _ _ _ => rfl)
  rcases inv_cases (sqL_rows _ _ _) h1 h16 h with ⟨a, b, c⟩ | ⟨_, _, c⟩
  · exact ⟨a, b.ext (sqL_rows _ _ _) ((hu.only c.2).trans (rows_alike _ _ _).symm)⟩
  · exact absurd ((faithful_iff N _).2 ⟨_, hu⟩) c

end Go.Proofs.Ytdaofffkbnkljaa
namespace Go.Proofs.Ytdaofffkbnkljaa
open Go.RowKit

theorem mrinv {w : World} {x : Value} {N : Nat} {ls : List (List UInt8)} (hx : MV w x ls) (hs : SqL N ls) (h1 : 1 ≤ N) (h16 : N ≤ 16) :
    Calls Try.prog 45 #[x] w fun e w' => ∃ v ok rs, e = .returned (.tuple #[v, .bool ok]) ∧ ((ok = true ∧ SqL N rs ∧ IsInv N (entM ls) (entM rs)) ∨ (ok = false ∧ rs = [] ∧ ¬ Faithful N (entM ls))) ∧ MV w' v rs ∧ Below w.heap.size w w' := by
  obtain ⟨X, c, rfl, _, hX⟩ := hx
  obtain ⟨rfl, hr⟩ := hs
  refine (rminv_any X _ c ls w rfl hr h1 h16 hX).mono ?_
  rintro e w' ⟨⟨rs, q1, q2, q3, Y, d, rfl, q4, q5⟩ | ⟨rfl, q1⟩, hb⟩
  · exact ⟨_, true, rs, rfl, .inl ⟨rfl, ⟨q1, q2⟩, q3⟩, MV.mk q1 q4 q5, hb⟩
  · exact ⟨_, false, [], rfl, .inr ⟨rfl, rfl, q1⟩, MV.mk rfl (Nat.le_refl _) (.inl rfl), hb⟩
theorem not_square {f : Mx} {n m : Nat} (h1 : 1 ≤ n) (hne : n ≠ m) : ¬ sqOK (rowsL f 0 m n) := fun h => by
  have h2 := h.2
  have hl : 0 < (rowsL f 0 m n).length := by rw [rowsL_len]; exact h1
  rw [rowsL_len, List.getD_eq_getElem?_getD, List.getElem?_eq_getElem hl] at h2
  have := rowsL_rows f 0 m n _ (List.getElem_mem hl)
  exact hne (h2.trans this)
theorem inv_not {ls rs : List (List UInt8)} {er : Int} (h : InvSpec ls er rs) (hn : ¬ sqOK ls) : er = 1 ∧ rs = [] := by
  rcases h with ⟨_, h⟩ | ⟨h, _⟩ | ⟨h, _⟩
  · exact h
  · exact absurd h hn
  · exact absurd h hn
theorem mrunit (n : Int) (w : World) : Calls Try.prog 64 #[.int .i64 n] w fun e w' => ∃ v, e = .returned v ∧ MV w' v (unitL n) ∧ Below w.heap.size w w' := by
  by_cases h : 1 ≤ n ∧ n ≤ 16
  · obtain ⟨N, rfl⟩ : ∃ N : Nat, n = (N : Int) := ⟨n.toNat, by omega⟩
    rw [unitL_nat (by omega) (by omega)]
    exact (runit_any N w (by omega)).mono fun _ _ ⟨_, _, he, hc, hR, hb⟩ => ⟨_, he, MV.mk (rowsL_len _ _ _ _) hc hR, hb⟩
  · rw [show unitL n = [] from if_neg h]
    exact (runit_no n w (by omega)).mono fun _ _ ⟨he, hw⟩ => ⟨_, he, MV.mk rfl (Nat.le_refl _) (.inl rfl), by rw [hw]; exact Below.refl _ _⟩
theorem mrvan (n k : Int) (w : World) : Calls Try.prog 44 #[.int .i64 n, .int .i64 k] w fun e w' => ∃ v, e = .returned v ∧ MV w' v (vanL n k) ∧ Below w.heap.size w w' := by
  by_cases h : 1 ≤ n ∧ n ≤ 16 ∧ 1 ≤ k ∧ k ≤ 16
  · obtain ⟨N, rfl⟩ : ∃ N : Nat, n = (N : Int) := ⟨n.toNat, by omega⟩
    obtain ⟨K, rfl⟩ : ∃ K : Nat, k = (K : Int) := ⟨k.toNat, by omega⟩
    rw [show vanL (N : Int) (K : Int) = rowsL vdM 0 K N by unfold vanL; rw [if_pos h, Int.toNat_natCast, Int.toNat_natCast]]
    exact (rvander_any N K w (by omega) (by omega) (by omega) (by omega)).mono fun _ _ ⟨_, _, he, hc, hR, hb⟩ => ⟨_, he, MV.mk (rowsL_len _ _ _ _) hc hR, hb⟩
  · rw [show vanL n k = [] from if_neg h]
    exact (rvander_no n k w h).mono fun _ _ ⟨he, hw⟩ => ⟨_, he, MV.mk rfl (Nat.le_refl _) (.inl rfl), by rw [hw]; exact Below.refl _ _⟩
theorem rowsL_small (f : Mx) (o m n : Nat) (hn : n ≤ 1000) (hm : m ≤ 1000) : (rowsL f o m n).length ≤ 1000 ∧ ∀ r ∈ rowsL f o m n, r.length ≤ 1000 := ⟨by rw [rowsL_len]; exact hn, fun r hr => by rw [rowsL_rows f o m n r hr]; exact hm⟩
theorem unitL_small (n : Int) : (unitL n).length ≤ 1000 ∧ ∀ r ∈ unitL n, r.length ≤ 1000 := by
  unfold unitL
  split
  · exact rowsL_small _ _ _ _ (by omega) (by omega)
  · exact ⟨by simp, fun r hr => by cases hr⟩
theorem vanL_small (n k : Int) : (vanL n k).length ≤ 1000 ∧ ∀ r ∈ vanL n k, r.length ≤ 1000 := by
  unfold vanL
  split
  · exact rowsL_small _ _ _ _ (by omega) (by omega)
  · exact ⟨by simp, fun r hr => by cases hr⟩
theorem samerows {w : World} {x y : Value} {ls : List (List UInt8)} (hs : ls.length ≤ 1000 ∧ ∀ r ∈ ls, r.length ≤ 1000) (hx : MV w x ls) (hy : MV w y ls) :
    Calls Try.prog 16 #[x, y] w fun e w' => e = .returned (.bool true) ∧ Below w.heap.size w w' := by
  have := mvrows hx hy hs.1 hs.2
  rwa [decide_eq_true rfl] at this
end Go.Proofs.Ytdaofffkbnkljaa
namespace Go.Proofs.Ytdaofffkbnkljaa
open Go.RowKit

section
variable {N : Nat} {x y : List (List UInt8)} {v : List UInt8}
theorem sq_applyOK (hx : SqL N x) (hv : v.length = N) (h1 : 1 ≤ N) (h16 : N ≤ 16) : applyOK x v := ⟨hx.isMx h1 h16, by rw [hx.first h1, hv]⟩
theorem sq_applyE (hx : SqL N x) (hv : v.length = N) (h1 : 1 ≤ N) (h16 : N ≤ 16) : applyE x v = 0 := by
  unfold applyE; rw [if_pos (sq_applyOK hx hv h1 h16)]
theorem sq_apply (hx : SqL N x) (hv : v.length = N) (h1 : 1 ≤ N) (h16 : N ≤ 16) : applyL x v = (List.range N).map (mvN N (entM x) fun j => v.getD j 0) := by
  unfold applyL; rw [if_pos (sq_applyOK hx hv h1 h16), hx.1, hv]
theorem sq_apply_len (hx : SqL N x) (hv : v.length = N) (h1 : 1 ≤ N) (h16 : N ≤ 16) : (applyL x v).length = N := by rw [sq_apply hx hv h1 h16]; simp
theorem sq_apply_at (hx : SqL N x) (hv : v.length = N) (h1 : 1 ≤ N) (h16 : N ≤ 16) {i : Nat} (hi : i < N) : (applyL x v).getD i 0 = mvN N (entM x) (fun j => v.getD j 0) i := by
  rw [sq_apply hx hv h1 h16]; exact map_getD _ N i hi
theorem bytes_ext {l k : List UInt8} {n : Nat} (hl : l.length = n) (hk : k.length = n) (h : ∀ i, i < n → l.getD i 0 = k.getD i 0) : l = k := by
  apply List.ext_getElem (by omega)
  intro i h1 h2
  have := h i (by omega)
  simpa [List.getD_eq_getElem?_getD, h1, h2] using this
/-- The image of the image. -/
theorem sq_apply_mul (hx : SqL N x) (hy : SqL N y) (hv : v.length = N) (h1 : 1 ≤ N) (h16 : N ≤ 16) : applyL (mulL x y) v = applyL x (applyL y v) := by
  have hm := sq_mul_sq hx hy h1 h16
  have hl := sq_apply_len hy hv h1 h16
  refine bytes_ext (sq_apply_len hm hv h1 h16) (sq_apply_len hx hl h1 h16) fun i hi => ?_
  rw [sq_apply_at hm hv h1 h16 hi, sq_apply_at hx hl h1 h16 hi, mvN_congr (c := mmN N (entM x) (entM y)) (fun k hk => sq_mul_ent hx hy h1 h16 i k hi hk) (fun _ _ => rfl), mvN_mm]
  exact mvN_congr (fun _ _ => rfl) (fun k hk => (sq_apply_at hy hv h1 h16 hk).symm)
theorem sq_rowsOK (hx : SqL N x) (h1 : 1 ≤ N) (h16 : N ≤ 16) {I : Nat} (hI : I < N) : rowsOK x [(I : Int)] :=
  ⟨hx.isMx h1 h16, by simp, fun i hi => by
    obtain rfl : i = 0 := by simp at hi; omega
    simp [hx.1]; exact hI⟩
theorem sq_rowsE (hx : SqL N x) (h1 : 1 ≤ N) (h16 : N ≤ 16) {I : Nat} (hI : I < N) : rowsE x [(I : Int)] = 0 := by
  unfold rowsE; rw [if_pos (sq_rowsOK hx h1 h16 hI)]
theorem sq_rowsS (hx : SqL N x) (h1 : 1 ≤ N) (h16 : N ≤ 16) {I : Nat} (hI : I < N) : rowsS x [(I : Int)] = [x.getD I []] := by
  unfold rowsS; rw [if_pos (sq_rowsOK hx h1 h16 hI)]; simp
theorem sq_row_len (hx : SqL N x) {I : Nat} (hI : I < N) : (x.getD I []).length = N := by
  have hl : I < x.length := by rw [hx.1]; exact hI
  rw [List.getD_eq_getElem?_getD, List.getElem?_eq_getElem hl]
  exact hx.2 _ (List.getElem_mem _)
theorem row_isMx {l : List UInt8} (hl : l.length = N) (h1 : 1 ≤ N) (h16 : N ≤ 16) : IsMx [l] :=
  ⟨by simp, by simp, fun i hi => by
    obtain rfl : i = 0 := by simp at hi; omega
    unfold rowOK; simp [hl]; omega⟩
theorem row_mulOK {l : List UInt8} (hl : l.length = N) (hx : SqL N x) (h1 : 1 ≤ N) (h16 : N ≤ 16) : mulOK [l] x := ⟨row_isMx hl h1 h16, hx.isMx h1 h16, by simp [hl, hx.1]⟩
theorem row_mulE {l : List UInt8} (hl : l.length = N) (hx : SqL N x) (h1 : 1 ≤ N) (h16 : N ≤ 16) : mulE [l] x = 0 := by
  unfold mulE; rw [if_pos (row_mulOK hl hx h1 h16)]
/-- A row of the unit picks a row. -/
theorem row_pick (hx : SqL N x) (h1 : 1 ≤ N) (h16 : N ≤ 16) {I : Nat} (hI : I < N) : mulL [(rowsL unitM 0 N N).getD I []] x = [x.getD I []] := by
  have hu := sqL_rows unitM 0 N
  have hl := sq_row_len hu hI
  unfold mulL
  rw [if_pos (row_mulOK hl hx h1 h16), hx.1, hx.first h1]
  show rowsL _ 0 N 1 = _
  refine rows_ext (n := 1) (m := N) (rowsL_len _ _ _ _) rfl (rowsL_rows _ _ _ _) (fun r hr => by rw [List.mem_singleton.1 hr]; exact sq_row_len hx hI) fun i j hi hj => ?_
  obtain rfl : i = 0 := by omega
  rw [rows_alike _ 1 N 0 j hi hj]
  have e1 : ∀ k, k < N → entM [(rowsL unitM 0 N N).getD I []] 0 k = unitM I k := fun k hk => rows_alike unitM N N I k hI hk
  rw [mmN_congr (c := fun _ k => unitM I k) (fun k hk => e1 k hk) (fun _ _ => rfl)]
  exact unit_mm hI (entM x) j
end
theorem bvsame {w : World} {x y : Value} {l : List UInt8} (h1 : l.length ≤ 1000) (hx : BV w x l) (hy : BV w y l) :
    Calls Try.prog 20 #[x, y] w fun e w' => e = .returned (.bool true) ∧ Below w.heap.size w w' := by
  obtain ⟨X, c, rfl, _, hX⟩ := hx
  obtain ⟨Y, d, rfl, _, hY⟩ := hy
  have := same_any X Y _ _ c d _ _ l l w rfl rfl (Nat.le_trans h1 (by decide)) hX hY
  rw [decide_eq_true rfl] at this
  exact this.mono fun _ _ ⟨he, q, hq⟩ => ⟨he, by rw [hq]; exact below_drewN (Below.refl _ _) q⟩
theorem IV.one (w : World) (T : TypeId) (n : Int) : IV (w.alloc (.cells #[.int .i64 n] T)) (.slice (some ⟨w.heap.size, 0, none⟩) 1 1) [n] := by
  refine ⟨_, 1, rfl, Nat.le_refl _, .inr ⟨w.heap.size, 0, rfl, by simp, fun i hi => ?_⟩⟩
  obtain rfl : i = 0 := by simp at hi; omega
  simp
end Go.Proofs.Ytdaofffkbnkljaa
namespace Go.Proofs.Ytdaofffkbnkljaa
open Go.RowKit

theorem infoNum : (Try.prog.info? 3).map (fun i => (i.zero, i.size, i.bytes)) = some (some (.int .i64 0), 1, 8) := by kernel_rfl
def intCells (ns : List Int) : List Value := ns.map (Value.int .i64)
theorem RdI.of_own {w : World} {base : Nat} {e : TypeId} {A : Option Addr} {n c : Nat} {ns : List Int} (h : w.ownsRow base e 1 (.slice A n c) n (intCells ns)) (hn : ns.length = n) : RdI w w.heap.size A ns := by
  rcases h.2 with ⟨e1, e2⟩ | ⟨g, cap, cur, e1, _, hg, _, _, _, ht⟩
  · injection e1 with e3 e4
    subst hn
    exact .inl (List.eq_nil_of_length_eq_zero e4)
  · injection e1 with e3
    subst e3
    refine .inr ⟨g, 0, rfl, (Array.getElem?_eq_some_iff.1 hg).1, fun i hi => ?_⟩
    have hb : Blk w g cur e := hg
    rw [Nat.zero_add, hb.cell i]
    have e := congrArg (fun l : List Value => l[i]?) ht
    simp only [Nat.mul_one, List.getElem?_take, intCells, List.getElem?_map, List.getElem?_eq_getElem hi, Option.map_some] at e
    rw [if_pos (by omega), Array.getElem?_toList] at e
    exact e
section
variable {P : Program} {w : World}
/-- append of one number onto a row of numbers of the call's own. -/
theorem wpList_append_num {ops : Array Oper} {rest : List Oper} {o : Oper} {a : Act} {Q : Exit → Act → World → Prop} (hgd : o.guard = none) (s x : Operand) (t : TypeId)
    (ho : o.op = .call { callee := .builtin .append, args := #[s, x], argTypes := #[t, t] })
    (base : Nat) (e : TypeId) (i : TypeInfo) (ht : P.underlying t = some (.slice e)) (hi : P.info? e = some i) (hz : i.zero = some (.int .i64 0)) (hsize : i.size = 1) (hby : i.bytes = 8)
    (v : Value) (n : Nat) (ns : List Int) (hs : a.eval s = v) (W : World) (y : Int) (hw : w = W.alloc (.cells #[.int .i64 y] e)) (hown : W.ownsRow base e 1 v n (intCells ns)) (hx : a.eval x = .slice (some ⟨W.heap.size, 0, none⟩) 1 1)
    (hlim : n + 1 ≤ 1000000) (hbase : base ≤ W.heap.size)
    (h : ∀ v' w', w'.ownsRow base e 1 v' (n + 1) (intCells (ns ++ [y])) → w.grownBy w' v.ownBlock → wpList P ops Q rest (a.put o.dst v') w') : wpList P ops Q (o :: rest) a w := by
  subst hw
  refine wpList_append_own (P := P) _ hgd s x t ho base e i (.int .i64 0) 1 8 ht hi hz hsize hby rfl (by omega) v n (intCells ns) hs (hown.alloc _) ⟨W.heap.size, 0, none⟩ 1 1 [.int .i64 y] hx rfl ?_ ?_ (by unfold maxLen; omega) (by omega) (by simp; omega) (fun v' w' h1 h2 _ => h v' w' (by rw [intCells, List.map_append]; exact h1) h2)
  · intro j u hj
    match j, hj with
    | 0, hj =>
      simp at hj
      subst hj
      simp [Addr.add]
  · intro u hu
    simp at hu
    subst hu
    rfl
end

/-- So many numbers below n, each one once. -/
def Picked (n k : Nat) (ws : List Nat) : Prop := ws.Nodup ∧ (∀ x ∈ ws, x < n) ∧ ws.length ≤ k
theorem Picked.snoc {n k j : Nat} {ws : List Nat} (h : Picked n k ws) (hj : j < n) (hk : ws.length < k) (hn : j ∉ ws) : Picked n k (ws ++ [j]) :=
  ⟨List.nodup_append.2 ⟨h.1, by simp, fun a ha b hb e => by
      rw [List.mem_singleton.1 hb] at e
      exact hn (e ▸ ha)⟩, fun x hx => by
      rcases List.mem_append.1 hx with hx | hx
      · exact h.2.1 x hx
      · rw [List.mem_singleton.1 hx]; exact hj, by simp; omega⟩
theorem pigeon : ∀ (n : Nat) (l : List Nat), (∀ x, x < n → x ∈ l) → n ≤ l.length
  | 0, _, _ => Nat.zero_le _
  | n + 1, l, h => by
    have hm := h n (Nat.lt_succ_self n)
    have := pigeon n (l.erase n) fun x hx => (List.mem_erase_of_ne (by omega)).2 (h x (by omega))
    rw [List.length_erase_of_mem hm] at this
    have := List.length_pos_of_mem hm
    omega
def natInts (ws : List Nat) : List Int := ws.map fun x : Nat => ((x : Nat) : Int)
theorem natInts_len (ws : List Nat) : (natInts ws).length = ws.length := by simp [natInts]
theorem natInts_snoc (ws : List Nat) (j : Nat) : natInts (ws ++ [j]) = natInts ws ++ [(j : Int)] := by simp [natInts]

theorem isMx_rows (f : Mx) {n m : Nat} (h1 : 1 ≤ n) (h2 : n ≤ 16) (h3 : 1 ≤ m) (h4 : m ≤ 16) : IsMx (rowsL f 0 m n) := by
  have hl : 0 < (rowsL f 0 m n).length := by rw [rowsL_len]; exact h1
  refine ⟨by rw [rowsL_len]; exact h1, by rw [rowsL_len]; exact h2, fun i hi => ?_⟩
  rw [rowsL_rows f 0 m n _ (List.getElem_mem hi), List.getD_eq_getElem?_getD, List.getElem?_eq_getElem hl]
  have := rowsL_rows f 0 m n _ (List.getElem_mem hl)
  unfold rowOK
  rw [show (some (rowsL f 0 m n)[0]).getD [] = (rowsL f 0 m n)[0] from rfl, this]
  exact ⟨h3, h4, rfl⟩
section
variable {n k : Nat} {ws : List Nat}
theorem pick_rowsOK (h1 : 1 ≤ n) (h2 : n ≤ 16) (h3 : 1 ≤ k) (h4 : k ≤ 16) (h : Picked n k ws) (hk : ws.length = k) : rowsOK (rowsL vdM 0 k n) (natInts ws) :=
  ⟨isMx_rows vdM h1 h2 h3 h4, by rw [natInts_len, hk]; exact h3, fun i hi => by
    rw [natInts_len] at hi
    have := h.2.1 _ (List.getElem_mem hi)
    simp only [natInts, List.getElem_map, rowsL_len]
    omega⟩
theorem pick_E (h1 : 1 ≤ n) (h2 : n ≤ 16) (h3 : 1 ≤ k) (h4 : k ≤ 16) (h : Picked n k ws) (hk : ws.length = k) : rowsE (rowsL vdM 0 k n) (natInts ws) = 0 := by
  unfold rowsE; rw [if_pos (pick_rowsOK h1 h2 h3 h4 h hk)]
theorem pick_S (h1 : 1 ≤ n) (h2 : n ≤ 16) (h3 : 1 ≤ k) (h4 : k ≤ 16) (h : Picked n k ws) (hk : ws.length = k) : rowsS (rowsL vdM 0 k n) (natInts ws) = ws.map fun x => (rowsL vdM 0 k n).getD x [] := by
  unfold rowsS
  rw [if_pos (pick_rowsOK h1 h2 h3 h4 h hk), natInts, List.map_map]
  rfl
theorem row_at (f : Mx) (m : Nat) {x : Nat} (hx : x < n) : (rowsL f 0 m n).getD x [] = rowL f 0 m x := by
  simp [rowsL, List.getD_eq_getElem?_getD, hx]
theorem pick_sq (h1 : 1 ≤ n) (h2 : n ≤ 16) (h3 : 1 ≤ k) (h4 : k ≤ 16) (h : Picked n k ws) (hk : ws.length = k) : SqL k (rowsS (rowsL vdM 0 k n) (natInts ws)) := by
  rw [pick_S h1 h2 h3 h4 h hk]
  refine ⟨by rw [List.length_map, hk], fun r hr => ?_⟩
  obtain ⟨x, hx, rfl⟩ := List.mem_map.1 hr
  rw [row_at vdM k (h.2.1 x hx), rowL_len]
/-- Any k rows of the matrix of powers have an inverse. -/
theorem pick_inv (h1 : 1 ≤ n) (h2 : n ≤ 16) (h3 : 1 ≤ k) (h4 : k ≤ 16) (h : Picked n k ws) (hk : ws.length = k) : Faithful k (entM (rowsS (rowsL vdM 0 k n) (natInts ws))) := by
  refine (faithful_iff k _).2 (powers_inverse (fun i => UInt8.ofNat (ws.getD i 0)) (fun i j hi hj e => ?_) fun i j hi hj => ?_)
  · have li : i < ws.length := by omega
    have lj : j < ws.length := by omega
    have bi := h.2.1 _ (List.getElem_mem li)
    have bj := h.2.1 _ (List.getElem_mem lj)
    have e2 := congrArg UInt8.toNat e
    simp only [List.getD_eq_getElem?_getD, List.getElem?_eq_getElem li, List.getElem?_eq_getElem lj, Option.getD_some, UInt8.toNat_ofNat'] at e2
    exact (List.getElem_inj h.1).1 (by omega)
  · have li : i < ws.length := by omega
    have bi := h.2.1 _ (List.getElem_mem li)
    rw [pick_S h1 h2 h3 h4 h hk]
    have e : (ws.map fun x => (rowsL vdM 0 k n).getD x []).getD i [] = rowL vdM 0 k ws[i] := by
      rw [List.getD_eq_getElem?_getD, List.getElem?_map, List.getElem?_eq_getElem li]
      exact row_at vdM k bi
    unfold entM
    rw [e, rowL_at vdM k ws[i] hj]
    simp [vdM, List.getD_eq_getElem?_getD, li]
end
end Go.Proofs.Ytdaofffkbnkljaa
