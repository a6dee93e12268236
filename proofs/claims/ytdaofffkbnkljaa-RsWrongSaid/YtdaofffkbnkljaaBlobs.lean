/- Slices of blobs (a number and bytes) in memory. Lists of blobs that a statement makes. -/
import Derived.Test.YtdaofffkbnkljaaRsM
import Derived.Test.YtdaofffkbnkljaaMake
import Derived.Test.YtdaofffkbnkljaaCopyRows
import Derived.Test.YtdaofffkbnkljaaStepA
namespace Go.Proofs.Ytdaofffkbnkljaa
open Go.RowKit

/-- The slice of blobs at A reads as bs, below block B. -/
def RdBl (w : World) (B : Nat) (A : Option Addr) (bs : List (Int × List UInt8)) : Prop :=
  bs = [] ∨ ∃ b off, A = some ⟨b, off, none⟩ ∧ b < B ∧ ∀ i (h : i < bs.length), w.cell? ⟨b, off + i * 2, none⟩ = some (.int .i64 bs[i].1) ∧ ∃ A' c, w.cell? ⟨b, off + i * 2 + 1, none⟩ = some (.slice A' bs[i].2.length c) ∧ bs[i].2.length ≤ c ∧ c ≤ maxLen ∧ Rd w B A' bs[i].2
theorem RdBl.keep {w w' : World} {B : Nat} {A : Option Addr} {bs : List (Int × List UInt8)} (h : RdBl w B A bs) (hk : ∀ p : Addr, p.block < B → w'.cell? p = w.cell? p) : RdBl w' B A bs := by
  rcases h with rfl | ⟨b, off, rfl, hb, hc⟩
  · exact .inl rfl
  · refine .inr ⟨b, off, rfl, hb, fun i hi => ?_⟩
    obtain ⟨h1, A', c, h2, h3, h4, h5⟩ := hc i hi
    exact ⟨(hk _ hb).trans h1, A', c, (hk _ hb).trans h2, h3, h4, h5.keep hk⟩
theorem RdBl.more {w : World} {B B' : Nat} {A : Option Addr} {bs : List (Int × List UInt8)} (h : RdBl w B A bs) (hB : B ≤ B') : RdBl w B' A bs := by
  rcases h with rfl | ⟨b, off, rfl, hb, hc⟩
  · exact .inl rfl
  · refine .inr ⟨b, off, rfl, by omega, fun i hi => ?_⟩
    obtain ⟨h1, A', c, h2, h3, h4, h5⟩ := hc i hi
    exact ⟨h1, A', c, h2, h3, h4, h5.more hB⟩
theorem RdBl.below {w w' : World} {B C : Nat} {A : Option Addr} {bs : List (Int × List UInt8)} (h : RdBl w B A bs) (hb : Below C w w') (hBC : B ≤ C) : RdBl w' B A bs := h.keep fun _ hp => hb.cell (Nat.lt_of_lt_of_le hp hBC)
/-- The value reads as the blobs. -/
def BlV (w : World) (v : Value) (bs : List (Int × List UInt8)) : Prop := ∃ X c, v = .slice X bs.length c ∧ bs.length ≤ c ∧ RdBl w w.heap.size X bs
theorem BlV.on {w w' : World} {v : Value} {bs : List (Int × List UInt8)} (h : BlV w v bs) (hb : Below w.heap.size w w') : BlV w' v bs := by
  obtain ⟨X, c, h1, h2, h3⟩ := h
  exact ⟨X, c, h1, h2, (h3.below hb (Nat.le_refl _)).more hb.size⟩
def nuI (bs : List (Int × List UInt8)) (i : Nat) : Int := (bs.getD i (0, [])).1
def nuB (bs : List (Int × List UInt8)) (i : Nat) : Nat := (nuI bs i).toNat
def daB (bs : List (Int × List UInt8)) (i : Nat) : List UInt8 := (bs.getD i (0, [])).2
theorem RdBl.at_ {w : World} {B : Nat} {b off : Nat} {bs : List (Int × List UInt8)} (h : RdBl w B (some ⟨b, off, none⟩) bs) {i : Nat} (hi : i < bs.length) :
    b < B ∧ w.cell? ⟨b, off + i * 2, none⟩ = some (.int .i64 (nuI bs i)) ∧ ∃ A' c, w.cell? ⟨b, off + i * 2 + 1, none⟩ = some (.slice A' (daB bs i).length c) ∧ (daB bs i).length ≤ c ∧ c ≤ maxLen ∧ Rd w B A' (daB bs i) := by
  have e : bs.getD i (0, []) = bs[i] := by simp [List.getD_eq_getElem?_getD, hi]
  rcases h with rfl | ⟨b', off', hA, hb, hc⟩
  · simp at hi
  · injection hA with hA
    injection hA with e1 e2
    subst e1 e2
    obtain ⟨h1, A', c, h2, h3, h4, h5⟩ := hc i hi
    unfold nuI daB
    rw [e]
    exact ⟨hb, h1, A', c, h2, h3, h4, h5⟩
theorem RdBl.some {w : World} {B : Nat} {A : Option Addr} {bs : List (Int × List UInt8)} (h : RdBl w B A bs) (h0 : 0 < bs.length) : ∃ b off, A = .some ⟨b, off, none⟩ := by
  rcases h with rfl | ⟨b, off, hA, _⟩
  · simp at h0
  · exact ⟨b, off, hA⟩

/-! ### What may be decoded, and to what -/
def decOK (k n : Nat) (bs : List (Int × List UInt8)) : Prop :=
  bs.length = k ∧ (∀ i, i < k → 0 ≤ nuI bs i ∧ nuI bs i < n ∧ (daB bs i).length = (daB bs 0).length) ∧ ∀ i j, i < k → j < i → nuI bs j ≠ nuI bs i
theorem decOK.unlike {k n : Nat} {bs : List (Int × List UInt8)} (h : decOK k n bs) {i j : Nat} (hi : i < k) (hj : j < k) (e : nuB bs i = nuB bs j) : i = j := by
  have h1 := (h.2.1 i hi).1
  have h2 := (h.2.1 j hj).1
  have e2 : nuI bs i = nuI bs j := by unfold nuB at e; omega
  rcases Nat.lt_trichotomy i j with h3 | h3 | h3
  · exact absurd e2 (h.2.2 j i hj h3)
  · exact h3
  · exact absurd e2.symm (h.2.2 i j hi h3)
def DecR (G : Mx) (k n : Nat) (bs : List (Int × List UInt8)) (ok : Bool) (out : List UInt8) : Prop :=
  (¬ decOK k n bs ∧ ok = false ∧ out = []) ∨ (decOK k n bs ∧ ok = true ∧ ∃ r, IsInv k (fun i j => G (nuB bs i) j) r ∧ out = decL r (daB bs) k (daB bs 0).length)
theorem DecR.only {G : Mx} {k n : Nat} {bs : List (Int × List UInt8)} {ok ok' : Bool} {out out' : List UInt8} (h : DecR G k n bs ok out) (h' : DecR G k n bs ok' out') : ok = ok' ∧ out = out' := by
  rcases h with ⟨h1, h2, h3⟩ | ⟨h1, h2, r, h3, h4⟩
  · rcases h' with ⟨_, h5, h6⟩ | ⟨h5, _⟩
    · exact ⟨h2.trans h5.symm, h3.trans h6.symm⟩
    · exact absurd h5 h1
  · rcases h' with ⟨h5, _⟩ | ⟨_, h5, s, h6, h7⟩
    · exact absurd h1 h5
    · exact ⟨h2.trans h5.symm, by rw [h4, h7]; exact decL_congr (h6.only' h3)⟩
end Go.Proofs.Ytdaofffkbnkljaa
namespace Go.Proofs.Ytdaofffkbnkljaa
open Go.RowKit

theorem infoBlob : (Try.prog.info? 33).map (fun i => (i.zero, i.size, i.bytes)) = some (some (.agg #[.int .i64 0, .slice none 0 0]), 2, 32) := by kernel_rfl

/-- The value is a list of the call's own (from block B on) of blobs, whose bytes lie below block C. -/
def OwnBl (w : World) (B C : Nat) (v : Value) (bs : List (Int × List UInt8)) : Prop :=
  ∃ xs, w.ownsRow B 33 2 v bs.length xs ∧ ∀ i (h : i < bs.length), xs[i * 2]? = some (.int .i64 bs[i].1) ∧ ∃ A c, xs[i * 2 + 1]? = some (.slice A bs[i].2.length c) ∧ bs[i].2.length ≤ c ∧ c ≤ maxLen ∧ Rd w C A bs[i].2
theorem OwnBl.nil (w : World) (B C : Nat) : OwnBl w B C (.slice none 0 0) [] := ⟨[], World.ownsRow_nil _ _ _ _, fun i h => by simp at h⟩
theorem own_keep2 {w w' : World} {base k : Nat} {e : TypeId} {v : Value} {n : Nat} {xs : List Value} (h : w.ownsRow base e k v n xs) (hb : Below w.heap.size w w') : w'.ownsRow base e k v n xs := by
  refine ⟨h.1, ?_⟩
  rcases h.2 with h0 | ⟨g, cap, cur, h1, h2, h3, h4⟩
  · exact .inl h0
  · refine .inr ⟨g, cap, cur, h1, h2, ?_, h4⟩
    rw [hb.block g (Array.getElem?_eq_some_iff.1 h3).1]
    exact h3
theorem OwnBl.on {w w' : World} {B C : Nat} {v : Value} {bs : List (Int × List UInt8)} (h : OwnBl w B C v bs) (hC : C ≤ w.heap.size) (hb : Below w.heap.size w w') : OwnBl w' B C v bs := by
  obtain ⟨xs, h1, h2⟩ := h
  refine ⟨xs, own_keep2 h1 hb, fun i hi => ?_⟩
  obtain ⟨q1, A, c, q2, q3, q4, q5⟩ := h2 i hi
  exact ⟨q1, A, c, q2, q3, q4, q5.below hb hC⟩
theorem OwnBl.form {w : World} {B C : Nat} {v : Value} {bs : List (Int × List UInt8)} {n : Nat} (h : OwnBl w B C v bs) (hn : bs.length = n) : ∃ A c, v = .slice A n c ∧ n ≤ c ∧ c ≤ maxLen := by
  subst hn
  obtain ⟨xs, h1, _⟩ := h
  rcases h1.2 with ⟨rfl, e⟩ | ⟨g, cap, cur, rfl, _, _, hc, hm, _⟩
  · exact ⟨none, 0, by rw [e], by omega, Nat.zero_le _⟩
  · exact ⟨_, cap, rfl, hc, hm⟩
theorem OwnBl.lt {w : World} {B C : Nat} {v : Value} {bs : List (Int × List UInt8)} (h : OwnBl w B C v bs) : ∀ k, v.ownBlock = some k → B ≤ k := by
  obtain ⟨xs, h1, _⟩ := h
  exact fun k hk => (h1.lt k hk).1
theorem OwnBl.blv {w : World} {B C : Nat} {v : Value} {bs : List (Int × List UInt8)} (h : OwnBl w B C v bs) (hC : C ≤ w.heap.size) : BlV w v bs := by
  obtain ⟨xs, h1, h2⟩ := h
  rcases h1.2 with ⟨rfl, e⟩ | ⟨g, cap, cur, rfl, _, hg, hc, _, hs, ht⟩
  · exact ⟨none, 0, by rw [e], by omega, .inl (List.eq_nil_of_length_eq_zero e)⟩
  · refine ⟨_, cap, rfl, hc, .inr ⟨g, 0, rfl, (Array.getElem?_eq_some_iff.1 hg).1, fun i hi => ?_⟩⟩
    obtain ⟨q1, A, c, q2, q3, q4, q5⟩ := h2 i hi
    have hat : ∀ j, j < bs.length * 2 → w.cell? ⟨g, 0 + j, none⟩ = xs[j]? := fun j hj => by
      rw [Nat.zero_add, Lib.cell_of_heap hg j, ← ht, List.getElem?_take, if_pos hj, Array.getElem?_toList]
    refine ⟨(hat _ (by omega)).trans q1, A, c, ?_, q3, q4, q5.more hC⟩
    rw [Nat.add_assoc]
    exact (hat _ (by omega)).trans q2
theorem own_blob_snoc {w w' : World} {base C : Nat} {v v' : Value} {bs : List (Int × List UInt8)} {xs : List Value} {q : Int} {A : Option Addr} {m c : Nat} {l : List UInt8} (h1 : w.ownsRow base 33 2 v bs.length xs)
    (h2 : ∀ i (h : i < bs.length), xs[i * 2]? = some (.int .i64 bs[i].1) ∧ ∃ A c, xs[i * 2 + 1]? = some (.slice A bs[i].2.length c) ∧ bs[i].2.length ≤ c ∧ c ≤ maxLen ∧ Rd w C A bs[i].2)
    (k1 : w'.ownsRow base 33 2 v' (bs.length + 1) (xs ++ [.int .i64 q, .slice A m c])) (hgr : Below base w w') (hC : C ≤ base) (hlm : l.length = m) (hmc : m ≤ c) (hcm : c ≤ maxLen) (hr : Rd w C A l) : OwnBl w' base C v' (bs ++ [(q, l)]) := by
  refine ⟨xs ++ [.int .i64 q, .slice A m c], by simpa using k1, fun i hi => ?_⟩
  have hxl := h1.1
  by_cases hlt : i < bs.length
  · obtain ⟨q1, A', c', q2, q3, q4, q5⟩ := h2 i hlt
    rw [List.getElem_append_left hlt]
    refine ⟨?_, A', c', ?_, q3, q4, q5.below hgr hC⟩
    · rw [List.getElem?_append_left (by omega)]; exact q1
    · rw [List.getElem?_append_left (by omega)]; exact q2
  · have hib : i = bs.length := by simp at hi; omega
    subst hib
    have e : (bs ++ [(q, l)])[bs.length]'hi = (q, l) := by simp
    rw [e]
    refine ⟨?_, A, c, ?_, by rw [hlm]; exact hmc, hcm, hr.below hgr hC⟩
    · rw [List.getElem?_append_right (by omega), show bs.length * 2 - xs.length = 0 by omega]; rfl
    · rw [List.getElem?_append_right (by omega), show bs.length * 2 + 1 - xs.length = 1 by omega, hlm]; rfl
/-- append of one blob, laid in a block of its own. -/
theorem wpList_append_blob {P : Program} {w : World} {ops : Array Oper} {rest : List Oper} {o : Oper} {a : Act} {Q : Exit → Act → World → Prop} (hgd : o.guard = none) (s x : Operand) (t : TypeId)
    (ho : o.op = .call { callee := .builtin .append, args := #[s, x], argTypes := #[t, t] })
    (base : Nat) (i : TypeInfo) (ht : P.underlying t = some (.slice 33)) (hi : P.info? 33 = some i) (hz : i.zero = some (.agg #[.int .i64 0, .slice none 0 0])) (hsize : i.size = 2) (hby : i.bytes = 32)
    (v : Value) (C : Nat) (bs : List (Int × List UInt8)) (hs : a.eval s = v) (W : World) (q : Int) (A : Option Addr) (m c : Nat) (l : List UInt8) (hw : w = W.alloc (.cells #[.int .i64 q, .slice A m c] 33)) (hown : OwnBl W base C v bs) (hx : a.eval x = .slice (some ⟨W.heap.size, 0, none⟩) 1 1)
    (hlm : l.length = m) (hmc : m ≤ c) (hcm : c ≤ maxLen) (hr : Rd W C A l)
    (hlim : bs.length ≤ 1000000) (hbase : base ≤ W.heap.size) (hC : C ≤ base)
    (h : ∀ v' w', OwnBl w' base C v' (bs ++ [(q, l)]) → Below base W w' → wpList P ops Q rest (a.put o.dst v') w') : wpList P ops Q (o :: rest) a w := by
  subst hw
  obtain ⟨xs, h1, h2⟩ := hown
  have h1' := h1
  have hal : Below W.heap.size W (W.alloc (.cells #[.int .i64 q, .slice A m c] 33)) := (Below.refl _ _).alloc (Nat.le_refl _) _
  refine wpList_append_own (P := P) _ hgd s x t ho base 33 i (.agg #[.int .i64 0, .slice none 0 0]) 2 32 ht hi hz hsize hby rfl (by omega) v bs.length xs hs (own_keep2 h1 hal) ⟨W.heap.size, 0, none⟩ 1 1 [.int .i64 q, .slice A m c] hx rfl (fun j u hj => ?_) (fun u hu => ?_) (by unfold maxLen; omega) (by omega) (by simp; omega) (fun v' w' k1 k2 _ => have hgr : Below base W w' := (hal.mono hbase).grown k2 (by simp; omega) (fun k hk => (h1'.lt k hk).1); h v' w' ?_ hgr)
  · have hc := cell_of_row (W.alloc (.cells #[.int .i64 q, .slice A m c] 33)) W.heap.size j #[.int .i64 q, .slice A m c] 33 (0, 0) (heap_alloc_new W _)
    have e : (⟨W.heap.size, 0, none⟩ : Addr).add j = ⟨W.heap.size, j, none⟩ := by
      by_cases h0 : j = 0 <;> simp [Addr.add, h0]
    rw [e, hc, ← Array.getElem?_toList]
    exact hj
  · simp at hu
    rcases hu with rfl | rfl <;> rfl
  · exact own_blob_snoc h1' h2 k1 hgr hC hlm hmc hcm hr
/-- The same in a region that draws its order: the blob lies in block b. -/
theorem step_append_blob {P : Program} {w : World} {ops : Array Oper} {o : Oper} {a : Act} {K : Act → World → Prop} {Q : Exit → Act → World → Prop} {E : Prop} (hgd : o.guard = none) (s x : Operand) (t : TypeId)
    (ho : o.op = .call { callee := .builtin .append, args := #[s, x], argTypes := #[t, t] })
    (base : Nat) (i : TypeInfo) (ht : P.underlying t = some (.slice 33)) (hi : P.info? 33 = some i) (hz : i.zero = some (.agg #[.int .i64 0, .slice none 0 0])) (hsize : i.size = 2) (hby : i.bytes = 32)
    (v : Value) (C : Nat) (bs : List (Int × List UInt8)) (hs : a.eval s = v) (q : Int) (A : Option Addr) (m c : Nat) (l : List UInt8) (hown : OwnBl w base C v bs) (b : Nat) (hb : w.heap[b]? = some (.cells #[.int .i64 q, .slice A m c] 33 (0, 0))) (hx : a.eval x = .slice (some ⟨b, 0, none⟩) 1 1)
    (hlm : l.length = m) (hmc : m ≤ c) (hcm : c ≤ maxLen) (hr : Rd w C A l)
    (hlim : bs.length ≤ 1000000) (hbase : base ≤ w.heap.size) (hC : C ≤ base)
    (h : ∀ v' w', OwnBl w' base C v' (bs ++ [(q, l)]) → Below base w w' → K (a.put o.dst v') w') :
    if Region.wanted o (yielded ops a.tmps) = true then Oper.wp P o a w K Q else E := by
  obtain ⟨xs, h1, h2⟩ := hown
  have h1' := h1
  refine step_append_lies (P := P) w hgd s x t ho base 33 i (.agg #[.int .i64 0, .slice none 0 0]) 2 32 ht hi hz hsize hby rfl (by omega) v bs.length xs hs h1 ⟨b, 0, none⟩ 1 1 [.int .i64 q, .slice A m c] hx rfl (fun j u hj => ?_) (fun u hu => ?_) (by omega) (by unfold maxLen; omega) (by omega) hbase w.heap.size rfl (fun g cap w' k1 k2 _ _ => have hgr : Below base w w' := (Below.refl base w).grown k2 hbase (fun k hk => (h1'.lt k hk).1); h _ w' ?_ hgr)
  · exact World.news_of_block hb j u (by simpa using hj)
  · simp at hu
    rcases hu with rfl | rfl <;> rfl
  · exact own_blob_snoc h1' h2 k1 hgr hC hlm hmc hcm hr
end Go.Proofs.Ytdaofffkbnkljaa
