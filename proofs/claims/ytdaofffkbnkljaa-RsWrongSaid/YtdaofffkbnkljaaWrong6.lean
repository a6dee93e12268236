/- One byte of one share turned: what is decoded; blobs with bytes of their own. -/
import Derived.Test.YtdaofffkbnkljaaPerm6
import Derived.Test.YtdaofffkbnkljaaBlobs
namespace Go.Proofs.Ytdaofffkbnkljaa
open Go.RowKit

/-- Blobs of numbers and bytes. -/
def blobsN (nu : Nat → Nat) (D : Nat → List UInt8) (j : Nat) : List (Int × List UInt8) := (List.range j).map fun x => ((nu x : Int), D x)
theorem blobsN_len (nu : Nat → Nat) (D : Nat → List UInt8) (j : Nat) : (blobsN nu D j).length = j := by simp [blobsN]
theorem blobsN_at (nu : Nat → Nat) (D : Nat → List UInt8) {j i : Nat} (h : i < j) : (blobsN nu D j).getD i (0, []) = ((nu i : Int), D i) := by
  simp [blobsN, List.getD_eq_getElem?_getD, h]
theorem blobsN_nu (nu : Nat → Nat) (D : Nat → List UInt8) {j i : Nat} (h : i < j) : nuI (blobsN nu D j) i = (nu i : Int) := by unfold nuI; rw [blobsN_at nu D h]
theorem blobsN_nuB (nu : Nat → Nat) (D : Nat → List UInt8) {j i : Nat} (h : i < j) : nuB (blobsN nu D j) i = nu i := by unfold nuB; rw [blobsN_nu nu D h]; omega
theorem blobsN_da (nu : Nat → Nat) (D : Nat → List UInt8) {j i : Nat} (h : i < j) : daB (blobsN nu D j) i = D i := by unfold daB; rw [blobsN_at nu D h]
/-- The bytes of share i0, byte a0 turned by c. -/
def turnD (D : Nat → List UInt8) (i0 a0 : Nat) (c : UInt8) : Nat → List UInt8 := fun i => if i = i0 then (D i).set a0 ((D i).getD a0 0 ^^^ c) else D i
theorem turnD_len (D : Nat → List UInt8) (i0 a0 : Nat) (c : UInt8) (i : Nat) : (turnD D i0 a0 c i).length = (D i).length := by
  unfold turnD
  by_cases h : i = i0
  · rw [if_pos h, List.length_set]
  · rw [if_neg h]
theorem turnD_at (D : Nat → List UInt8) {i0 a0 l : Nat} (c : UInt8) {i x : Nat} (hl : (D i).length = l) (hx : x < l) : (turnD D i0 a0 c i).getD x 0 = if i = i0 ∧ x = a0 then (D i).getD x 0 ^^^ c else (D i).getD x 0 := by
  unfold turnD
  by_cases h : i = i0
  · rw [if_pos h]
    by_cases e : x = a0
    · subst e
      rw [if_pos ⟨h, rfl⟩]
      simp [List.getD_eq_getElem?_getD, hl, hx]
    · rw [if_neg (fun z => e z.2)]
      have e2 : ¬ a0 = x := fun z => e z.symm
      simp [List.getD_eq_getElem?_getD, e2]
  · rw [if_neg h, if_neg (fun z => h z.1)]
theorem turn_eq (D : Nat → List UInt8) (i0 a0 : Nat) (c : UInt8) : (fun j => if j = i0 then (D i0).set a0 ((D i0).getD a0 0 ^^^ c) else D j) = turnD D i0 a0 c := by
  funext j
  unfold turnD
  by_cases h : j = i0
  · rw [if_pos h, if_pos h, h]
  · rw [if_neg h, if_neg h]
/-- What the turned shares are decoded to. -/
theorem wrong_dec {G : Mx} {b : List UInt8} {k n i0 a0 : Nat} {c : UInt8} {nu : Nat → Nat} {er : Int} {out : List UInt8} (hk : 1 ≤ k) (hf : ∀ i, i < k → nu i < n) (hi : ∀ i j, i < k → j < k → nu i = nu j → i = j)
    (hi0 : i0 < k) (ha0 : a0 < segN b k) (hc : c ≠ 0) (h : DecP G k n (blobsN nu (turnD (fun i => sumRow G (shL b k) k (segN b k) (nu i)) i0 a0 c) k) er out) :
    er = 0 ∧ out.length = (shL b k).length ∧ out ≠ shL b k ∧ ∀ q, q < out.length → q % segN b k ≠ a0 → out.getD q 0 = (shL b k).getD q 0 := by
  obtain ⟨D, hD⟩ : ∃ D : Nat → List UInt8, (fun i => sumRow G (shL b k) k (segN b k) (nu i)) = D := ⟨_, rfl⟩
  have hDL : ∀ i, (D i).length = segN b k := fun i => by rw [← hD]; exact sumRow_len _ _ _ _ _
  rw [hD] at h
  have hok : decOK k n (blobsN nu (turnD D i0 a0 c) k) := by
    refine ⟨blobsN_len _ _ _, fun i h => ⟨?_, ?_, ?_⟩, fun i j h1 h2 => ?_⟩
    · rw [blobsN_nu _ _ h]; omega
    · rw [blobsN_nu _ _ h]; have := hf i h; omega
    · rw [blobsN_da _ _ h, blobsN_da _ _ (show 0 < k by omega), turnD_len, turnD_len, hDL, hDL]
    · rw [blobsN_nu _ _ h1, blobsN_nu _ _ (show j < k by omega)]
      intro e
      have := hi i j h1 (by omega) (by omega)
      omega
  rcases h with ⟨h, _⟩ | ⟨_, h1, r, h2, h3⟩
  · exact absurd hok h
  · have h0 : (daB (blobsN nu (turnD D i0 a0 c) k) 0).length = segN b k := by
      rw [blobsN_da _ _ (show 0 < k by omega), turnD_len, hDL]
    rw [h0] at h3
    have hp := seg_mul b hk
    have hr : IsInv k (fun i j => G (nu i) j) r := h2.of_alike (fun i j hi hj => by simp only [blobsN_nuB _ _ hi]) fun _ _ _ _ => rfl
    have hdec : decL r D k (segN b k) = shL b k := dec_enc (G := G) (x := nu) hp hr fun i _ => by rw [← hD]
    have hq : ∀ q, q < k * segN b k → out.getD q 0 = if q % segN b k = a0 then (shL b k).getD q 0 ^^^ mulU (r (q / segN b k) i0) c else (shL b k).getD q 0 := fun q hq => by
      rw [h3, dec_turned (D := D) (i0 := i0) (a0 := a0) (c := c) hi0 (fun i x hi hx => by rw [blobsN_da _ _ hi]; exact turnD_at D c (hDL i) hx) hq, hdec]
    have hlen : out.length = (shL b k).length := by rw [h3, decL_len, hp]
    refine ⟨h1, hlen, fun e => ?_, fun q hql hne => ?_⟩
    · obtain ⟨j, hj, hrj⟩ := inv_column hr hi0
      have hql : j * segN b k + a0 < k * segN b k := by
        have h9 : (j + 1) * segN b k ≤ k * segN b k := Nat.mul_le_mul_right _ hj
        rw [Nat.add_mul, Nat.one_mul] at h9
        omega
      have h8 := hq _ hql
      have hs : 0 < segN b k := by omega
      have hm : (j * segN b k + a0) % segN b k = a0 := by rw [Nat.mul_comm, Nat.mul_add_mod]; exact Nat.mod_eq_of_lt ha0
      have hd : (j * segN b k + a0) / segN b k = j := by
        rw [Nat.mul_comm, Nat.mul_add_div hs, Nat.div_eq_of_lt ha0, Nat.add_zero]
      rw [if_pos hm, hd, e] at h8
      have h7 : mulU (r j i0) c ≠ 0 := mulU_ne hrj hc
      have h6 : ∀ x y : UInt8, x = x ^^^ y → y = 0 := fun x y h => by
        have := congrArg (fun z => x ^^^ z) h
        simp only [UInt8.xor_self, ← UInt8.xor_assoc] at this
        simpa using this.symm
      exact h7 (h6 _ _ h8)
    · rw [hq q (by omega), if_neg hne]
/-- A list of the call's own of n blobs, each with bytes of its own (block gs i), no two the same block. -/
def OwnBC (w : World) (B : Nat) (v : Value) (n s : Nat) (nu : Nat → Nat) (D : Nat → List UInt8) : Prop :=
  ∃ (xs : List Value) (gs cs : Nat → Nat) (cu : Nat → Array Value), w.ownsRow B 33 2 v n xs ∧ (∀ i j, i < j → j < n → gs i < gs j) ∧
    ∀ i, i < n → xs[i * 2]? = some (.int .i64 (nu i : Int)) ∧ xs[i * 2 + 1]? = some (.slice (some ⟨gs i, 0, none⟩) s (cs i)) ∧ B ≤ gs i ∧ s ≤ cs i ∧ cs i ≤ maxLen ∧ Blk w (gs i) (cu i) 5 ∧ (D i).length = s ∧ (cu i).toList.take s = Lib.byteCells (D i)
theorem OwnBC.nil (w : World) (B s : Nat) (nu : Nat → Nat) (D : Nat → List UInt8) : OwnBC w B (.slice none 0 0) 0 s nu D :=
  ⟨[], fun _ => 0, fun _ => 0, fun _ => #[], World.ownsRow_nil _ _ _ _, fun _ _ _ h => by omega, fun _ h => by omega⟩
theorem OwnBC.form {w : World} {B : Nat} {v : Value} {n s : Nat} {nu : Nat → Nat} {D : Nat → List UInt8} (h : OwnBC w B v n s nu D) : ∃ A c, v = .slice A n c ∧ n ≤ c ∧ c ≤ maxLen := by
  obtain ⟨xs, _, _, _, h1, _⟩ := h
  rcases h1.2 with ⟨rfl, e⟩ | ⟨g, cap, cur, rfl, _, _, hc, hm, _⟩
  · exact ⟨none, 0, by rw [e], by omega, Nat.zero_le _⟩
  · exact ⟨_, cap, rfl, hc, hm⟩
theorem take_cells {w : World} {g s : Nat} {cu : Array Value} {T : TypeId} {l : List UInt8} (h : Blk w g cu T) (hl : l.length = s) (ht : cu.toList.take s = Lib.byteCells l) {i : Nat} (hi : i < s) : w.cell? ⟨g, i, none⟩ = some (.int .u8 ((l.getD i 0).toNat : Int)) := by
  rw [h.cell i, ← Array.getElem?_toList]
  have := congrArg (fun z : List Value => z[i]?) ht
  simp only [List.getElem?_take, if_pos hi] at this
  rw [this]
  simp [Lib.byteCells, List.getD_eq_getElem?_getD, hl, hi]
/-- The cells of blob i. -/
theorem OwnBC.at_ {w : World} {B : Nat} {A : Option Addr} {n c s : Nat} {nu : Nat → Nat} {D : Nat → List UInt8} (h : OwnBC w B (.slice A n c) n s nu D) {i : Nat} (hi : i < n) :
    ∃ g h cp, A = some ⟨g, 0, none⟩ ∧ w.cell? ⟨g, i * 2 + 1, none⟩ = some (.slice (some ⟨h, 0, none⟩) s cp) ∧ s ≤ cp ∧ B ≤ h ∧ (∀ a, a < s → w.cell? ⟨h, a, none⟩ = some (.int .u8 (((D i).getD a 0).toNat : Int)) ∧ w.frozen? ⟨h, a, none⟩ = false) ∧
      ∀ a y, a < s → OwnBC (w.setCell ⟨h, a, none⟩ (.int .u8 (y.toNat : Int))) B (.slice A n c) n s nu (fun j => if j = i then (D i).set a y else D j) := by
  obtain ⟨xs, gs, cs, cu, h1, h2, h3⟩ := h
  have h1' := h1
  rcases h1.2 with ⟨e, e2⟩ | ⟨g, cap, cur, e, hBg, hg, hc, hcm, hs, ht⟩
  · omega
  · injection e with e1 e2 e3
    subst e1 e3
    obtain ⟨q1, q2, q3, q4, q5, q6, q7, q8⟩ := h3 i hi
    have hat : w.cell? ⟨g, i * 2 + 1, none⟩ = xs[i * 2 + 1]? := by
      rw [Lib.cell_of_heap hg, ← ht, List.getElem?_take, if_pos (by omega), Array.getElem?_toList]
    refine ⟨g, gs i, cs i, rfl, hat.trans q2, q4, q3, fun a ha => ⟨take_cells q6 q7 q8 ha, q6.frozen a⟩, fun a y ha => ?_⟩
    have hne : g ≠ gs i := blk_apart (show Blk w g cur 33 from hg) q6 (by decide)
    refine ⟨xs, gs, cs, fun j => if j = i then (cu i).setIfInBounds a (.int .u8 (y.toNat : Int)) else cu j, ⟨h1.1, .inr ⟨g, c, cur, rfl, hBg, ?_, hc, hcm, hs, ht⟩⟩, h2, fun j hj => ?_⟩
    · exact (show Blk w g cur 33 from hg).other hne _
    · obtain ⟨p1, p2, p3, p4, p5, p6, p7, p8⟩ := h3 j hj
      by_cases e : j = i
      · subst e
        refine ⟨p1, p2, p3, p4, p5, ?_, ?_, ?_⟩
        · simp only [if_true]; exact q6.set a _
        · simp [q7]
        · simp only [if_true, Array.toList_setIfInBounds]
          rw [List.take_set, q8]
          simp [Lib.byteCells, List.map_set]
      · have hne2 : gs j ≠ gs i := by
          rcases Nat.lt_or_gt_of_ne e with h | h
          · have := h2 j i h hi; omega
          · have := h2 i j h hj; omega
        refine ⟨p1, p2, p3, p4, p5, ?_, ?_, ?_⟩
        · simp only [if_neg e]; exact p6.other hne2 _
        · simp only [if_neg e]; exact p7
        · simp only [if_neg e]; exact p8
theorem OwnBC.on {w w' : World} {B : Nat} {v : Value} {n s : Nat} {nu : Nat → Nat} {D : Nat → List UInt8} (h : OwnBC w B v n s nu D) (hb : Below w.heap.size w w') : OwnBC w' B v n s nu D := by
  obtain ⟨xs, gs, cs, cu, h1, h2, h3⟩ := h
  refine ⟨xs, gs, cs, cu, own_keep2 h1 hb, h2, fun i hi => ?_⟩
  obtain ⟨q1, q2, q3, q4, q5, q6, q7⟩ := h3 i hi
  exact ⟨q1, q2, q3, q4, q5, q6.below hb q6.lt, q7⟩
/-- append of one blob more, whose bytes are newer than all there is. -/
theorem wpList_append_blobC {P : Program} {w : World} {ops : Array Oper} {rest : List Oper} {o : Oper} {a : Act} {Q : Exit → Act → World → Prop} (hgd : o.guard = none) (s x : Operand) (t : TypeId)
    (ho : o.op = .call { callee := .builtin .append, args := #[s, x], argTypes := #[t, t] })
    (base : Nat) (i : TypeInfo) (ht : P.underlying t = some (.slice 33)) (hi : P.info? 33 = some i) (hz : i.zero = some (.agg #[.int .i64 0, .slice none 0 0])) (hsize : i.size = 2) (hby : i.bytes = 32)
    (v : Value) (n sg : Nat) (nu : Nat → Nat) (D : Nat → List UInt8) (hs : a.eval s = v) (W0 W : World) (A : Option Addr) (c : Nat) (hw : w = W.alloc (.cells #[.int .i64 (nu n : Int), .slice A sg c] 33)) (hown : OwnBC W0 base v n sg nu D)
    (hb0 : Below W0.heap.size W0 W) (hrow : W.ownsRow W0.heap.size 5 1 (.slice A sg c) sg (Lib.byteCells (D n))) (hsg : 0 < sg) (hx : a.eval x = .slice (some ⟨W.heap.size, 0, none⟩) 1 1)
    (hlim : n ≤ 1000000) (hbase : base ≤ W0.heap.size)
    (h : ∀ v' w', OwnBC w' base v' (n + 1) sg nu D → Below base W0 w' → wpList P ops Q rest (a.put o.dst v') w') : wpList P ops Q (o :: rest) a w := by
  subst hw
  have hown1 := hown.on hb0
  obtain ⟨xs, gs, cs, cu, h1, h2, h3⟩ := hown
  have hlt : ∀ i, i < n → gs i < W0.heap.size := fun i hi => (h3 i hi).2.2.2.2.2.1.lt
  have hal : Below W.heap.size W (W.alloc (.cells #[.int .i64 (nu n : Int), .slice A sg c] 33)) := (Below.refl _ _).alloc (Nat.le_refl _) _
  have h01 : Below W0.heap.size W0 (W.alloc (.cells #[.int .i64 (nu n : Int), .slice A sg c] 33)) := hb0.trans (hal.mono hb0.size)
  obtain ⟨g, cur, rfl, hBg, hg, hgc, hgm, hgt⟩ : ∃ g cur, A = some ⟨g, 0, none⟩ ∧ W0.heap.size ≤ g ∧ Blk W g cur 5 ∧ sg ≤ c ∧ c ≤ maxLen ∧ cur.toList.take sg = Lib.byteCells (D n) := by
    rcases hrow.2 with ⟨e, e2⟩ | ⟨g, cap, cur, e, e1, e2, e3, e4, e5, e6⟩
    · omega
    · injection e with ea eb ec
      subst ea ec
      exact ⟨g, cur, rfl, e1, e2, e3, e4, by simpa using e6⟩
  have hDl : (D n).length = sg := by
    have := hrow.1
    rwa [Lib.byteCells_length, Nat.mul_one] at this
  refine wpList_append_own (P := P) _ hgd s x t ho base 33 i (.agg #[.int .i64 0, .slice none 0 0]) 2 32 ht hi hz hsize hby rfl (by omega) v n xs hs (own_keep2 h1 h01) ⟨W.heap.size, 0, none⟩ 1 1 [.int .i64 (nu n : Int), .slice (some ⟨g, 0, none⟩) sg c] hx rfl (fun j u hj => ?_) (fun u hu => ?_) (by unfold maxLen; omega) (by omega) (Nat.le_trans hbase h01.size)
    (fun v' w' k1 k2 _ => h v' w' ?_ ((h01.mono hbase).grown k2 (Nat.le_trans hbase h01.size) (fun k hk => (h1.lt k hk).1)))
  · exact World.news_of_block (heap_alloc_new W _) j u (by simpa using hj)
  · simp at hu
    rcases hu with rfl | rfl <;> rfl
  · have hxl := h1.1
    have kept : ∀ {g : Nat} {cur : Array Value}, Blk W g cur 5 → Blk w' g cur 5 := fun {g cur} hk => by
      have hk2 := hk.below hal hk.lt
      refine hk2.grown k2 fun e => ?_
      rcases h1.2 with ⟨rfl, _⟩ | ⟨g', cap', cur', rfl, _, hg', _⟩
      · simp [Value.ownBlock] at e
      · simp [Value.ownBlock] at e
        subst e
        have e3 := (show Blk W0 g cur' 33 from hg')
        exact blk_apart (e3.below h01 e3.lt) hk2 (by decide) rfl
    refine ⟨xs ++ [.int .i64 (nu n : Int), .slice (some ⟨g, 0, none⟩) sg c], fun i => if i = n then g else gs i, fun i => if i = n then c else cs i, fun i => if i = n then cur else cu i, by simpa using k1, fun i j hij hj => ?_, fun i hi => ?_⟩
    · by_cases e : j = n
      · simp only [if_pos e, if_neg (show ¬ i = n by omega)]
        have := hlt i (by omega)
        omega
      · simp only [if_neg e, if_neg (show ¬ i = n by omega)]
        exact h2 i j hij (by omega)
    · by_cases e : i = n
      · subst e
        simp only [if_true]
        refine ⟨?_, ?_, Nat.le_trans hbase hBg, hgc, hgm, kept hg, hDl, hgt⟩
        · rw [List.getElem?_append_right (by omega), show i * 2 - xs.length = 0 by omega]; rfl
        · rw [List.getElem?_append_right (by omega), show i * 2 + 1 - xs.length = 1 by omega]; rfl
      · obtain ⟨q1, q2, q3, q4, q5, q6, q7, q8⟩ := h3 i (by omega)
        simp only [if_neg e]
        refine ⟨?_, ?_, q3, q4, q5, kept (q6.below hb0 q6.lt), q7, q8⟩
        · rw [List.getElem?_append_left (by omega)]; exact q1
        · rw [List.getElem?_append_left (by omega)]; exact q2
theorem OwnBC.blv {w : World} {B : Nat} {v : Value} {n s : Nat} {nu : Nat → Nat} {D : Nat → List UInt8} (h : OwnBC w B v n s nu D) : BlV w v (blobsN nu D n) := by
  obtain ⟨xs, gs, cs, cu, h1, h2, h3⟩ := h
  rcases h1.2 with ⟨rfl, e⟩ | ⟨g, cap, cur, rfl, _, hg, hc, _, hs, ht⟩
  · subst e
    exact ⟨none, 0, by rw [blobsN_len], by rw [blobsN_len]; omega, .inl (by simp [blobsN])⟩
  · refine ⟨_, cap, by rw [blobsN_len], by rw [blobsN_len]; exact hc, .inr ⟨g, 0, rfl, (Array.getElem?_eq_some_iff.1 hg).1, fun i hi => ?_⟩⟩
    rw [blobsN_len] at hi
    obtain ⟨q1, q2, q3, q4, q5, q6, q7, q8⟩ := h3 i hi
    have hat : ∀ j, j < n * 2 → w.cell? ⟨g, 0 + j, none⟩ = xs[j]? := fun j hj => by
      rw [Nat.zero_add, Lib.cell_of_heap hg j, ← ht, List.getElem?_take, if_pos hj, Array.getElem?_toList]
    have e : (blobsN nu D n)[i]'(by rw [blobsN_len]; exact hi) = ((nu i : Int), D i) := by simp [blobsN]
    rw [e]
    refine ⟨(hat _ (by omega)).trans q1, some ⟨gs i, 0, none⟩, cs i, ?_, by rw [q7]; exact q4, q5, .inr ⟨gs i, 0, rfl, q6.lt, fun a ha => ?_⟩⟩
    · rw [Nat.add_assoc, q7]
      exact (hat _ (by omega)).trans q2
    · have h9 : a < (D i).length := ha
      have := take_cells q6 q7 q8 (i := a) (by omega)
      rw [Nat.zero_add, this]
      simp [List.getD_eq_getElem?_getD, h9]
end Go.Proofs.Ytdaofffkbnkljaa
