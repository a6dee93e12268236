/- append in a region that draws its order: bytes onto bytes of one's own; one slice onto a row of slices of one's own. Texts of nodes in memory, and rows of such; regions walked by hand. The document's own tree: a break of two ways to one root. -/
import Derived.Test.YtpfhhbfjemmkaaaDoorNetA
import Derived.Test.YtpfhhbfjemmkaaaDoorU8
import Derived.Test.YtpfhhbfjemmkaaaDoorMakeA
import Derived.Test.YtpfhhbfjemmkaaaDoorRTSame
import Derived.Test.YtpfhhbfjemmkaaaDoorRTClimb
import Derived.Deep.RegionHeld3
import Derived.Test.YtpfhhbfjemmkaaaDoorBreaks
namespace Go.Proofs.YtpfhhbfjemmkaaaDoor
open Go.RowKit

section
variable {P : Program} {w : World}
theorem step_append_B {ops : Array Oper} {o : Oper} {a : Act} {K : Act → World → Prop} {Q : Exit → Act → World → Prop} {E : Prop} (hgd : o.guard = none) (s x : Operand) (t tx : TypeId)
    (ho : o.op = .call { callee := .builtin .append, args := #[s, x], argTypes := #[t, tx] })
    (base : Nat) (e : TypeId) (i : TypeInfo) (ht : P.underlying t = some (.slice e)) (hi : P.info? e = some i) (hz : i.zero = some (.int .u8 0)) (hsize : i.size = 1) (hby : i.bytes = 1)
    (v : Value) (n : Nat) (xl : List UInt8) (hs : a.eval s = v) (hown : OwnB w base e v n xl) (y : Value) (hx : a.eval x = y) (m : Nat) (l : List UInt8) (hl : l.length = m) (hsrc : Src P 1 tx y m (Lib.byteCells l) w)
    (hlim : n + m ≤ 140737488355328) (hbase : base ≤ w.heap.size) (hm : 0 < m) (k : Nat) (hk : n + m = k)
    (h : ∀ g cap full w', base ≤ g → Blk w' g (u8A full) e → k ≤ cap → cap ≤ maxLen → full.length = cap → full.take k = xl ++ l → w.grownBy w' v.ownBlock → K (a.put o.dst (.slice (some ⟨g, 0, none⟩) k cap)) w') :
    if Region.wanted o (yielded ops a.tmps) = true then Oper.wp P o a w K Q else E := by
  have hw : Region.wanted o (yielded ops a.tmps) = true := by simp [Region.wanted, hgd]
  rw [if_pos hw]
  obtain ⟨v', w', hrun, h2, h3⟩ := run_append_B (P := P) base t tx o.type e i ht hi hz hsize hby v n xl hown y m l hl hsrc hlim hbase
  obtain ⟨_, ⟨rfl, h0⟩ | ⟨g, cap, full, rfl, h4, h5, h6, h7, h8, h9⟩⟩ := h2
  · omega
  · unfold Oper.wp execOp
    simp only [ho, resolve, invoke, builtin, Sem.run_bind, Sem.run_pure, Result.andThen_ok, List.map_toArray, List.map_cons, List.map_nil, hs, hx, hrun]
    rw [hk] at h6 h9 ⊢
    exact h g cap full w' h4 h5 h6 h7 h8 h9 h3
theorem step_append_one {ops : Array Oper} {o : Oper} {a : Act} {K : Act → World → Prop} {Q : Exit → Act → World → Prop} {E : Prop} (hgd : o.guard = none) (s x : Operand) (t : TypeId)
    (ho : o.op = .call { callee := .builtin .append, args := #[s, x], argTypes := #[t, t] })
    (base : Nat) (e : TypeId) (i : TypeInfo) (ht : P.underlying t = some (.slice e)) (hi : P.info? e = some i) (hz : i.zero = some (.slice none 0 0)) (hsize : i.size = 1) (hby : i.bytes = 24)
    (v : Value) (n : Nat) (xs : List Value) (hs : a.eval s = v) (hown : w.ownsRow base e 1 v n xs) (b : Nat) (A : Option Addr) (m c : Nat) (hb : w.heap[b]? = some (.cells #[.slice A m c] e (0, 0))) (hx : a.eval x = .slice (some ⟨b, 0, none⟩) 1 1)
    (hlim : n + 1 ≤ 1000000) (hbase : base ≤ w.heap.size)
    (h : ∀ v' w', w'.ownsRow base e 1 v' (n + 1) (xs ++ [.slice A m c]) → w.grownBy w' v.ownBlock → K (a.put o.dst v') w') :
    if Region.wanted o (yielded ops a.tmps) = true then Oper.wp P o a w K Q else E := by
  refine step_append_lies (P := P) w hgd s x t ho base e i (.slice none 0 0) 1 24 ht hi hz hsize hby rfl (by omega) v n xs hs hown ⟨b, 0, none⟩ 1 1 [.slice A m c] hx rfl (fun j u hj => ?_) (fun u hu => ?_) (by omega) (by unfold maxLen; omega) (by omega) hbase w.heap.size rfl (fun g cap w' h1 h2 _ _ => h _ w' h1 h2)
  · exact World.news_of_block hb j u (by simpa using hj)
  · simp at hu
    subst hu
    rfl
/-- One byte onto a row of bytes of one's own. -/
theorem step_append_byte {ops : Array Oper} {o : Oper} {a : Act} {K : Act → World → Prop} {Q : Exit → Act → World → Prop} {E : Prop} (hgd : o.guard = none) (s x : Operand) (t : TypeId)
    (ho : o.op = .call { callee := .builtin .append, args := #[s, x], argTypes := #[t, t] })
    (base : Nat) (e : TypeId) (i : TypeInfo) (ht : P.underlying t = some (.slice e)) (hi : P.info? e = some i) (hz : i.zero = some (.int .u8 0)) (hsize : i.size = 1) (hby : i.bytes = 1)
    (v : Value) (n : Nat) (xs : List Value) (hs : a.eval s = v) (hown : w.ownsRow base e 1 v n xs) (b : Nat) (y : Int) (hb : w.heap[b]? = some (.cells #[.int .u8 y] e (0, 0))) (hx : a.eval x = .slice (some ⟨b, 0, none⟩) 1 1)
    (hlim : n + 1 ≤ 1000000) (hbase : base ≤ w.heap.size)
    (h : ∀ v' w', w'.ownsRow base e 1 v' (n + 1) (xs ++ [.int .u8 y]) → w.grownBy w' v.ownBlock → K (a.put o.dst v') w') :
    if Region.wanted o (yielded ops a.tmps) = true then Oper.wp P o a w K Q else E := by
  refine step_append_lies (P := P) w hgd s x t ho base e i (.int .u8 0) 1 1 ht hi hz hsize hby rfl (by omega) v n xs hs hown ⟨b, 0, none⟩ 1 1 [.int .u8 y] hx rfl (fun j u hj => ?_) (fun u hu => ?_) (by omega) (by unfold maxLen; omega) (by omega) hbase w.heap.size rfl (fun g cap w' h1 h2 _ _ => h _ w' h1 h2)
  · exact World.news_of_block hb j u (by simpa using hj)
  · simp at hu
    subst hu
    rfl
end
end Go.Proofs.YtpfhhbfjemmkaaaDoor
namespace Go.Proofs.YtpfhhbfjemmkaaaDoor
open Go.RowKit

/-- Of a region walked by hand: an operation found in the list of all (so it stands written out). -/
theorem wpAnyH_takeL {P : Program} {md : Region.Mode} {ops : Array Oper} {Q : Exit → Act → World → Prop} {S : World → Prop} {i : Nat} {oi : Oper} {v : Value} {fuel : Nat} {listed : Array Bool} {a : Act} {w : World} (hi : ops.toList[i]? = some oi)
    (hs : Region.noSelect ops = true) (hf : Region.free md ops listed i = true) (hr : (Region.ready md ops listed).contains i = true)
    (hQ : ∀ c a w, Q (.panic c) (a.put oi.dst v) w → Q (.panic c) a w) (hy : YieldsIf P ops S oi v a) (hS : S w)
    (h : wpAnyH P md ops Q S fuel (listed.setIfInBounds i true) (a.put oi.dst v) w) : wpAnyH P md ops Q S (fuel + 1) listed a w :=
  wpAnyH_take (by rw [← Array.getElem?_toList]; exact hi) hs hf hr hQ hy hS h
theorem allReadyH_consL {P : Program} {md : Region.Mode} {ops : Array Oper} {Q : Exit → Act → World → Prop} {S : World → Prop} {fuel : Nat} {listed : Array Bool} {a : Act} {w : World} {i : Nat} {o : Oper} (ho : ops.toList[i]? = some o)
    (h : ∀ K' : Act → World → Prop, Shut (∀ a w, S w → (S w → wpAnyH P md ops Q S fuel (listed.setIfInBounds i true) a w) → K' a w) → if Region.wanted o (yielded ops a.tmps) = true then Oper.wp P o a w K' Q else K' (a.put o.dst undef) w) : AllReadyH P md ops Q S fuel listed a w [i] :=
  AllReadyH.cons (by rw [← Array.getElem?_toList]; exact ho) h AllReadyH.nil
/-- The value is bytes in a block of bytes. -/
def TxV (w : World) (v : Value) (l : List UInt8) : Prop := OwnM w 0 5 v l.length l
theorem TxV.of {w : World} {B n : Nat} {v : Value} {l : List UInt8} (h : OwnM w B 5 v n l) : TxV w v l := by
  obtain ⟨hl, g, cap, cur, fz, e, hb, rest⟩ := h
  subst hl
  exact ⟨rfl, g, cap, cur, fz, e, Nat.zero_le _, rest⟩
theorem TxV.on {w w' : World} {v : Value} {l : List UInt8} (h : TxV w v l) (hb : Below w.heap.size w w') : TxV w' v l := by
  obtain ⟨hl, g, cap, cur, fz, e, h0, hg, rest⟩ := h
  exact ⟨hl, g, cap, cur, fz, e, h0, (hb.block g (Array.getElem?_eq_some_iff.1 hg).1).trans hg, rest⟩
theorem TxV.apart {w w' : World} {v u : Value} {l : List UInt8} {B n : Nat} {xs : List Value} (h : TxV w v l) (hown : w.ownsRow B 27 1 u n xs) (hg : w.grownBy w' u.ownBlock) : TxV w' v l := by
  obtain ⟨hl, g, cap, cur, fz, e, h0, hgc, rest⟩ := h
  have hne : some g ≠ u.ownBlock := by
    rcases hown.2 with ⟨rfl, _⟩ | ⟨g2, cap2, cur2, rfl, _, h3, _⟩
    · simp [Value.ownBlock]
    · simp only [Value.ownBlock, ne_eq, Option.some.injEq]
      rintro rfl
      have := hgc.symm.trans h3
      injection this with h1
      injection h1 with _ h2 _
      exact absurd h2 (by decide)
  exact ⟨hl, g, cap, cur, fz, e, h0, (hg.block g (Array.getElem?_eq_some_iff.1 hgc).1 hne).trans hgc, rest⟩
theorem TxV.form {w : World} {v : Value} {l : List UInt8} (h : TxV w v l) : ∃ A c, v = .slice A l.length c ∧ l.length ≤ c ∧ c ≤ maxLen ∧ Rd w w.heap.size A l := by
  obtain ⟨g, c, rfl, h1, h2⟩ := ownM_form h
  exact ⟨_, c, rfl, h1, h2, OwnM.rd h⟩
/-- The values are the texts. -/
def TxL (w : World) (vs : List Value) (ls : List (List UInt8)) : Prop := vs.length = ls.length ∧ ∀ i (h : i < ls.length), ∃ v, vs[i]? = some v ∧ TxV w v ls[i]
theorem TxL.nil (w : World) : TxL w [] [] := ⟨rfl, fun i h => by simp at h⟩
theorem TxL.map {w w' : World} {vs : List Value} {ls : List (List UInt8)} (h : TxL w vs ls) (hk : ∀ v l, TxV w v l → TxV w' v l) : TxL w' vs ls := ⟨h.1, fun i hi => by
  obtain ⟨v, h1, h2⟩ := h.2 i hi
  exact ⟨v, h1, hk v _ h2⟩⟩
theorem TxL.snoc {w : World} {vs : List Value} {ls : List (List UInt8)} {v : Value} {l : List UInt8} (h : TxL w vs ls) (hv : TxV w v l) : TxL w (vs ++ [v]) (ls ++ [l]) := by
  refine ⟨by rw [List.length_append, List.length_append, h.1]; rfl, fun i hi => ?_⟩
  by_cases hlt : i < ls.length
  · obtain ⟨u, h1, h2⟩ := h.2 i hlt
    refine ⟨u, ?_, by rw [List.getElem_append_left hlt]; exact h2⟩
    rw [List.getElem?_append_left (by rw [h.1]; exact hlt)]; exact h1
  · have hie : i = ls.length := by simp at hi; omega
    subst hie
    refine ⟨v, ?_, ?_⟩
    · rw [List.getElem?_append_right (by rw [h.1]; exact Nat.le_refl _), h.1, Nat.sub_self]; rfl
    · simpa using hv
/-- A row of texts of the call's own, from block B on. -/
def SL (w : World) (B : Nat) (v : Value) (ls : List (List UInt8)) : Prop := ∃ vs, w.ownsRow B 27 1 v ls.length vs ∧ TxL w vs ls
theorem SL.nil (w : World) (B : Nat) : SL w B (.slice none 0 0) [] := ⟨[], World.ownsRow_nil _ _ _ _, TxL.nil w⟩
theorem SL.on {w w' : World} {B : Nat} {v : Value} {ls : List (List UInt8)} (h : SL w B v ls) (hb : Below w.heap.size w w') : SL w' B v ls := by
  obtain ⟨vs, h1, h2⟩ := h
  exact ⟨vs, own_keep h1 hb, h2.map fun _ _ h => h.on hb⟩
theorem SL.form {w : World} {B n : Nat} {v : Value} {ls : List (List UInt8)} (h : SL w B v ls) (hn : ls.length = n) : ∃ A c, v = .slice A n c ∧ n ≤ c ∧ c ≤ maxLen := by
  subst hn
  obtain ⟨vs, h1, _⟩ := h
  exact own_caps h1
theorem SL.inside {w : World} {B : Nat} {v : Value} {ls : List (List UInt8)} (h : SL w B v ls) : ∀ g, v.ownBlock = some g → B ≤ g ∧ g < w.heap.size := by
  obtain ⟨vs, h1, _⟩ := h
  exact fun g hg => h1.lt g hg
/-- Another row of the same kind has grown. -/
theorem SL.apart {w w' : World} {B C : Nat} {v u : Value} {ls ks : List (List UInt8)} (h : SL w B v ls) (k : SL w C u ks) (hg : w.grownBy w' u.ownBlock) (hne : ∀ g, v.ownBlock = some g → u.ownBlock ≠ some g) : SL w' B v ls := by
  obtain ⟨vs, h1, h2⟩ := h
  obtain ⟨us, k1, _⟩ := k
  refine ⟨vs, ⟨h1.1, ?_⟩, h2.map fun _ _ h => h.apart k1 hg⟩
  rcases h1.2 with h0 | ⟨g, cap, cur, rfl, q1, q2, q3⟩
  · exact .inl h0
  · exact .inr ⟨g, cap, cur, rfl, q1, (hg.block g (Array.getElem?_eq_some_iff.1 q2).1 (fun e => hne g (by simp [Value.ownBlock]) e.symm)).trans q2, q3⟩
theorem SL.at_ {w : World} {B n c i b off : Nat} {ls : List (List UInt8)} (h : SL w B (.slice (some ⟨b, off, none⟩) n c) ls) (hi : i < ls.length) :
    b < w.heap.size ∧ ∃ A d, w.cell? ⟨b, off + i, none⟩ = some (.slice A ls[i].length d) ∧ ls[i].length ≤ d ∧ d ≤ maxLen ∧ Rd w w.heap.size A ls[i] := by
  obtain ⟨vs, h1, h2⟩ := h
  rcases h1.2 with ⟨e, _⟩ | ⟨g, cap, cur, e, _, q2, q3, _, _, q6⟩
  · cases e
  · injection e with e1 e2 e3
    injection e1 with e1
    injection e1 with e4 e5
    subst e4 e5
    obtain ⟨v, hv, ht⟩ := h2.2 i hi
    obtain ⟨A, d, rfl, k1, k2, k3⟩ := ht.form
    refine ⟨(Array.getElem?_eq_some_iff.1 q2).1, A, d, ?_, k1, k2, k3⟩
    have hb : Blk w b cur 27 := q2
    rw [Nat.zero_add, hb.cell i, ← Array.getElem?_toList]
    have e := congrArg (fun l : List Value => l[i]?) q6
    simp only [List.getElem?_take, Nat.mul_one, if_pos hi] at e
    rw [e]
    exact hv
theorem ty_hash : (25 : TypeId) ≠ 5 := by decide
/-- A hash elsewhere has been written. -/
theorem SL.row {w : World} {B g : Nat} {v : Value} {ls : List (List UInt8)} {cs : Array Value} (h : SL w B v ls) (hg : g < B) (hb : Blk w g cs 25) (X : Array Value) : SL (w.setRow g X) B v ls := by
  obtain ⟨vs, h1, h2⟩ := h
  refine ⟨vs, ⟨h1.1, ?_⟩, h2.map fun u l hu => ?_⟩
  · rcases h1.2 with h0 | ⟨k, cap, cur, rfl, q1, q2, q3⟩
    · exact .inl h0
    · exact .inr ⟨k, cap, cur, rfl, q1, Blk.rowOther (T := 27) q2 (by omega) _, q3⟩
  · obtain ⟨hl, k, cap, cur, fz, e, h0, hgc, rest⟩ := hu
    refine ⟨hl, k, cap, cur, fz, e, h0, (setRow_other _ _ _ _ fun e2 => ?_).trans hgc, rest⟩
    subst e2
    have := hgc.symm.trans hb
    injection this with k1
    injection k1 with _ k2 _
    exact absurd k2.symm ty_hash
/-- append of one text in a region walked by hand. -/
theorem step_append_text {w : World} {ops : Array Oper} {o : Oper} {a : Act} {K : Act → World → Prop} {Q : Exit → Act → World → Prop} {E : Prop} (hgd : o.guard = none) (s x : Operand)
    (ho : o.op = .call { callee := .builtin .append, args := #[s, x], argTypes := #[68, 68] })
    (base : Nat) (v : Value) (ls : List (List UInt8)) (hs : a.eval s = v) (hown : SL w base v ls) (b : Nat) (u : Value) (l : List UInt8) (hu : TxV w u l) (hb : w.heap[b]? = some (.cells #[u] 27 (0, 0))) (hx : a.eval x = .slice (some ⟨b, 0, none⟩) 1 1)
    (hlim : ls.length + 1 ≤ 1000000) (hbase : base ≤ w.heap.size)
    (h : ∀ v' w', SL w' base v' (ls ++ [l]) → w.grownBy w' v.ownBlock → (∀ g, v'.ownBlock = some g → v.ownBlock = some g ∨ w.heap.size ≤ g) → K (a.put o.dst v') w') :
    if Region.wanted o (yielded ops a.tmps) = true then Oper.wp Tryd.prog o a w K Q else E := by
  obtain ⟨i, hi, hz, hsz, hby⟩ := info_parts infoSlice
  obtain ⟨vs, h1, h2⟩ := hown
  obtain ⟨A, c, rfl, _, _, _⟩ := hu.form
  refine step_append_lies (P := Tryd.prog) w hgd s x 68 ho base 27 i (.slice none 0 0) 1 24 Tryd.underlying68 hi hz hsz hby rfl (by omega) v ls.length vs hs h1 ⟨b, 0, none⟩ 1 1 [.slice A l.length c] hx rfl (fun j u hj => ?_) (fun u hu => ?_) (by omega) (by unfold maxLen; omega) (by omega) hbase w.heap.size rfl
    (fun g cap w' k1 k2 k3 _ => h _ w' ⟨vs ++ [.slice A l.length c], by rw [List.length_append]; exact k1, (h2.map fun _ _ t => t.apart h1 k2).snoc (hu.apart h1 k2)⟩ k2 fun g' hg' => ?_)
  · exact World.news_of_block hb j u (by simpa using hj)
  · simp at hu
    subst hu
    rfl
  · simp only [Value.ownBlock, Option.some.injEq] at hg'
    subst hg'
    rcases k3 with k3 | k3
    · exact .inl k3
    · exact .inr (by omega)
theorem yieldsIf_load_hash {ops : Array Oper} {S : World → Prop} {o : Oper} {a : Act} (hw : Region.wanted o (yielded ops a.tmps) = true) (x : Operand) (ho : o.op = .load 25 x)
    (b off : Nat) (hx : a.eval x = .pointer (some ⟨b, off, none⟩)) (h : List UInt8) (hl : h.length = 32) (hS : ∀ w, S w → w.rangeAt b off (Lib.byteCells h)) (X : Array Value) (hX : u8A h = X) : YieldsIf Tryd.prog ops S o (.agg X) a := by
  subst hX
  obtain ⟨i, z, hi, _, _, hsz, _⟩ := hash_parts
  exact yieldsIf_load_mid hw 25 x ho b off hx (Lib.byteCells h) _ hS Tryd.underlying25 rfl (by rw [hi, Option.map_some, hsz, Lib.byteCells_length, hl])
theorem run_load_hash {w : World} {ρ : Operand → Value} {o : Oper} (x : Operand) (ho : o.op = .load 25 x) (b off : Nat) (hx : ρ x = .pointer (some ⟨b, off, none⟩)) (h : List UInt8) (hl : h.length = 32) (hS : w.rangeAt b off (Lib.byteCells h)) {X : Array Value} (hX : u8A h = X) : (execOp ρ o).run Tryd.prog w = .ok (.value (.agg X)) w := by
  obtain ⟨i, z, hi, _, _, hsz, _⟩ := hash_parts
  exact run_load_row 25 x ho b off hx (Lib.byteCells h) _ hS Tryd.underlying25 rfl (by rw [hi, Option.map_some, hsz, Lib.byteCells_length, hl]) hX.symm
theorem SL.some {w : World} {B n c : Nat} {A : Option Addr} {ls : List (List UInt8)} (h : SL w B (.slice A n c) ls) (hn : 0 < ls.length) : ∃ b, A = .some ⟨b, 0, none⟩ := by
  obtain ⟨vs, h1, _⟩ := h
  rcases h1.2 with ⟨_, e⟩ | ⟨g, cap, cur, e, _⟩
  · omega
  · injection e with e1 _ _
    exact ⟨g, e1⟩
/-- The last pair of unlike texts with one hash. -/
def isBr (x : List UInt8 × List UInt8) : Bool := !(x.1 == x.2) && decide (shaL x.1 = shaL x.2)
def lastBr (ss ts : List (List UInt8)) : Option (List UInt8 × List UInt8) := (ss.zip ts).reverse.find? isBr
theorem lastBr_none {ss ts : List (List UInt8)} (h : ∀ x ∈ ss.zip ts, isBr x = false) : lastBr ss ts = none := by
  unfold lastBr
  rw [List.find?_eq_none]
  intro x hx
  rw [h x (List.mem_reverse.1 hx)]
  simp
theorem lastBr_hit {ss ts : List (List UInt8)} {k : Nat} (h1 : k < ss.length) (h2 : k < ts.length) (hno : ∀ x ∈ (ss.zip ts).drop (k + 1), isBr x = false) (hyes : isBr (ss[k], ts[k]) = true) : lastBr ss ts = .some (ss[k], ts[k]) := by
  have hk : k < (ss.zip ts).length := by rw [List.length_zip]; omega
  have e : ss.zip ts = (ss.zip ts).take k ++ (ss[k], ts[k]) :: (ss.zip ts).drop (k + 1) := by
    rw [show (ss[k], ts[k]) = (ss.zip ts)[k] by simp, ← List.drop_eq_getElem_cons hk, List.take_append_drop]
  unfold lastBr
  rw [e, List.reverse_append, List.reverse_cons, List.append_assoc, List.find?_append]
  have hn : ((ss.zip ts).drop (k + 1)).reverse.find? isBr = none := by
    rw [List.find?_eq_none]
    intro x hx
    rw [hno x (List.mem_reverse.1 hx)]
    simp
  rw [hn]
  simp [hyes]
end Go.Proofs.YtpfhhbfjemmkaaaDoor
namespace Go.Proofs.YtpfhhbfjemmkaaaDoor
open Go.RowKit

theorem zero32 (w : World) : (zeroValue 25).run Tryd.prog w = .ok (.agg (u8A zeroH)) w := by kernel_rfl
theorem wpList_alloc_hash {w : World} {ops : Array Oper} {rest : List Oper} {o : Oper} {a : Act} {Q : Exit → Act → World → Prop} (hgd : o.guard = none) (ho : o.op = .alloc 25) (Z : Array Value) (hZ : u8A zeroH = Z)
    (hk : wpList Tryd.prog ops Q rest (a.put o.dst (.pointer (some ⟨w.heap.size, 0, none⟩))) (w.alloc (.cells Z 25))) : wpList Tryd.prog ops Q (o :: rest) a w := by
  subst hZ
  refine wpList_plain hgd fun K hK => ?_
  have h := zero32
  unfold Oper.wp execOp
  rw [ho]
  go_simp
  exact hK _ _ hk
/-- One operation of a plain region, its value known; one that a guard bars. -/
theorem wpList_val {P : Program} {w : World} {ops : Array Oper} {rest : List Oper} {o : Oper} {a : Act} {Q : Exit → Act → World → Prop} (v : Value) (hw : Region.wanted o (yielded ops a.tmps) = true) (hrun : (execOp a.eval o).run P w = .ok (.value v) w)
    (hk : wpList P ops Q rest (a.put o.dst v) w) : wpList P ops Q (o :: rest) a w :=
  wpList_step fun K hK => by
    rw [if_pos hw]
    unfold Oper.wp
    rw [hrun]
    exact hK _ _ hk
/-- An array is loaded where a guard lets it. -/
theorem wpList_load_when {P : Program} {w : World} {ops : Array Oper} {rest : List Oper} {o : Oper} {a : Act} {Q : Exit → Act → World → Prop} (hw : Region.wanted o (yielded ops a.tmps) = true) (ty : TypeId) (x : Operand) (ho : o.op = .load ty x)
    (g : Nat) (hx : a.eval x = .pointer (some ⟨g, 0, none⟩)) (t : TypeId) (cs : Array Value) (d : TypeDesc) (hg : Blk w g cs t) (hu : P.underlying ty = some d) (hd : (match d with | .struct _ | .array _ _ => true | _ => false) = true) (hi : (P.info? ty).map (·.size) = some cs.size)
    (hk : wpList P ops Q rest (a.put o.dst (.agg cs)) w) : wpList P ops Q (o :: rest) a w :=
  wpList_step fun K hK => by
    rw [if_pos hw]
    exact wp_load_row ty x ho g hx t cs (0, 0) d hg hu hd hi (hK _ _ hk)
/-- The value reads as the bytes. -/
def TV (w : World) (v : Value) (l : List UInt8) : Prop := ∃ X c, v = .slice X l.length c ∧ l.length ≤ c ∧ Rd w w.heap.size X l
theorem TV.on {w w' : World} {v : Value} {l : List UInt8} (h : TV w v l) (hb : Below w.heap.size w w') : TV w' v l := by
  obtain ⟨X, c, h1, h2, h3⟩ := h
  exact ⟨X, c, h1, h2, (h3.below hb (Nat.le_refl _)).more hb.size⟩
theorem TV.nil (w : World) : TV w (.slice none 0 0) [] := ⟨none, 0, rfl, Nat.le_refl _, .inl rfl⟩
def wayH (i : Nat) (a : List UInt8) (p : List (List UInt8)) : List (List UInt8) := tree.way nodeT shaL i a p
def brkOK (n i : Int) (a b : List UInt8) (p q : List (List UInt8)) : Prop := climbOK n i p.length ∧ climbOK n i q.length ∧ climbV n i a p = climbV n i b q ∧ ¬ (a = b ∧ p = q)
instance (n i : Int) (a b : List UInt8) (p q : List (List UInt8)) : Decidable (brkOK n i a b p q) := by unfold brkOK; infer_instance
/-- What is answered of two ways. -/
def brkV (n i : Int) (a b : List UInt8) (p q : List (List UInt8)) : Option (List UInt8 × List UInt8) := if brkOK n i a b p q then lastBr (wayH i.toNat a p) (wayH i.toNat b q) else none
def BrkSaid (W : World) (r : Option (List UInt8 × List UInt8)) (e : Ending) (w' : World) : Prop :=
  ∃ A B, e = .returned (.tuple #[.agg #[A, B], .bool r.isSome]) ∧ TV w' A (r.getD ([], [])).1 ∧ TV w' B (r.getD ([], [])).2 ∧ Below W.heap.size W w'

theorem climbV_len {n i : Int} {a : List UInt8} (ha : a.length = 32) (p : List (List UInt8)) : (climbV n i a p).length = 32 := by
  unfold climbV
  by_cases h : climbOK n i p.length
  · rw [if_pos h]; exact climbH_len ha _ _
  · rw [if_neg h]; rfl
/-- Bytes don't lie where slices lie. -/
theorem Rd.set_far {w : World} {B g : Nat} {A A1 A2 : Option Addr} {l : List UInt8} {n1 n2 c1 c2 : Nat} {T : TypeId} (h : Rd w B A l) (hg : Blk w g #[.slice A1 n1 c1, .slice A2 n2 c2] T) (i : Nat) (u : Value) : Rd (w.setCell ⟨g, i, none⟩ u) B A l := by
  rcases h with rfl | ⟨b, off, rfl, hb, hc⟩
  · exact .inl rfl
  · by_cases e : b = g
    · subst e
      rcases l with _ | ⟨x, r⟩
      · exact .inl rfl
      · have h0 := hc 0 (by simp)
        rw [hg.cell] at h0
        match off, h0 with
        | 0, h0 => simp at h0
        | 1, h0 => simp at h0
        | k + 2, h0 => simp at h0
    · refine .inr ⟨b, off, rfl, hb, fun j hj => ?_⟩
      rw [World.cell?_setCell_far _ _ _ _ (fun e2 => e e2.symm)]
      exact hc j hj
theorem Rd.sizes {w : World} {g i j : Nat} {u v : Value} {A : Option Addr} {l : List UInt8} (h : Rd ((w.setCell ⟨g, i, none⟩ u).setCell ⟨g, j, none⟩ v) w.heap.size A l) : Rd ((w.setCell ⟨g, i, none⟩ u).setCell ⟨g, j, none⟩ v) ((w.setCell ⟨g, i, none⟩ u).setCell ⟨g, j, none⟩ v).heap.size A l := h.more (by simp)
theorem way_small : ∀ (p : List (List UInt8)), (∀ r ∈ p, r.length = 32) → ∀ (i : Nat) (a : List UInt8), a.length = 32 → ∀ t ∈ wayH i a p, t.length ≤ 1000000
  | [], _, _, _, _, t, ht => by cases ht
  | x :: p, hp, i, a, ha, t, ht => by
    have hx := hp x (List.mem_cons_self ..)
    have htx : (tree.text nodeT i a x).length ≤ 1000000 := by
      unfold tree.text
      by_cases h : i % 2 = 0
      · rw [if_pos h]; exact nodeT_len a x ha hx
      · rw [if_neg h]; exact nodeT_len x a hx ha
    rcases List.mem_cons.1 (show t ∈ tree.text nodeT i a x :: wayH (i / 2) (shaL (tree.text nodeT i a x)) p from ht) with rfl | h
    · exact htx
    · exact way_small p (fun r hr => hp r (List.mem_cons_of_mem _ hr)) (i / 2) _ (outTo_len _ 8 (by omega)) t h
theorem way_snoc (p : List (List UInt8)) (x : List UInt8) : ∀ (i : Nat) (a : List UInt8), wayH i a (p ++ [x]) = wayH i a p ++ [tree.text nodeT (i / 2 ^ p.length) (climbH i a p) x] := by
  induction p with
  | nil => intro i a; simp [wayH, climbH, tree.way, tree.climb]
  | cons y r ih =>
    intro i a
    have := ih (i / 2) (shaL (tree.text nodeT i a y))
    rw [List.cons_append, List.length_cons, Nat.pow_succ, Nat.mul_comm, ← Nat.div_div_eq_div_mul]
    show tree.text nodeT i a y :: wayH (i / 2) _ (r ++ [x]) = tree.text nodeT i a y :: (wayH (i / 2) _ r ++ _)
    rw [this]
    rfl
set_option maxRecDepth 100000 in
set_option maxHeartbeats 16000000 in
theorem rbreak7_any (n i : Int) (a b : List UInt8) (A B : Option Addr) (m l c d : Nat) (p q : List (List UInt8)) (w : World) (hm : p.length = m) (hl : q.length = l) (h1 : m ≤ 1024) (h2 : l ≤ 1024) (ha : a.length = 32) (hb : b.length = 32) (hpl : ∀ r ∈ p, r.length = 32) (hql : ∀ r ∈ q, r.length = 32)
    (hmc : m ≤ c) (hld : l ≤ d) (hp : RdH w w.heap.size A p) (hq : RdH w w.heap.size B q) :
    Calls Tryd.prog 33 #[.int .i64 n, .int .i64 i, .agg (u8A a), .agg (u8A b), .slice A m c, .slice B l d] w (BrkSaid w (brkV n i a b p q)) := by
  obtain ⟨X, hX⟩ : ∃ X, u8A a = X := ⟨_, rfl⟩
  obtain ⟨Y, hY⟩ : ∃ Y, u8A b = Y := ⟨_, rfl⟩
  have HX := Lib.hid hX
  have HY := Lib.hid hY
  rw [hX, hY]
  have HM := Lib.hid hm
  have HL := Lib.hid hl
  have HXZ := Lib.hid (show X.size = 32 by rw [← hX, u8A_size, ha])
  have HYZ := Lib.hid (show Y.size = 32 by rw [← hY, u8A_size, hb])
  clear hX hY
  go_enter Tryd.func33, Tryd.ntmps33
  go_upto_region 1 with fail
  generalize hw1 : World.alloc _ _ = w1
  obtain ⟨g8, hg8⟩ : ∃ g, w.heap.size = g := ⟨_, rfl⟩
  obtain ⟨g9, hg9⟩ : ∃ g, w.heap.size + 1 = g := ⟨_, rfl⟩
  obtain ⟨g12, hg12⟩ : ∃ g, w.heap.size + 1 + 1 = g := ⟨_, rfl⟩
  have hf : Blk w1 g8 X 25 ∧ Blk w1 g9 Y 25 ∧ Blk w1 g12 #[Value.slice none 0 0, Value.slice none 0 0] 41 ∧ Below w.heap.size w w1 := by
    have e1 : (w.alloc (.cells X 25)).heap.size = w.heap.size + 1 := by simp
    have e2 : ((w.alloc (.cells X 25)).alloc (.cells Y 25)).heap.size = w.heap.size + 1 + 1 := by simp
    rw [← hw1, ← hg8, ← hg9, ← hg12]
    refine ⟨((Blk.new w _ _).alloc _).alloc _, ?_, ?_, (((Below.refl _ _).alloc (Nat.le_refl _) _).alloc (by simp) _).alloc (by simp; omega) _⟩
    · rw [← e1]; exact (Blk.new _ _ _).alloc _
    · rw [← e2]; exact Blk.new _ _ _
  have HB8 := Lib.hid hf.1
  have HB9 := Lib.hid hf.2.1
  have HB12 := Lib.hid hf.2.2.1
  have HBW := Lib.hid hf.2.2.2
  have HG := Lib.hid (show w.heap.size = g8 ∧ g8 + 1 = g9 ∧ g9 + 1 = g12 from ⟨hg8, by omega, by omega⟩)
  clear hf hw1
  rw [hg12, hg9, hg8]
  clear hg8 hg9 hg12
  have HCA := Lib.hid (fun W (h : Below w.heap.size w W) => (show Calls Tryd.prog 30 #[.int .i64 n, .int .i64 i, .agg X, .slice A m c] W (ClimbEnd W n i a p) from by
    rw [← HX.out]
    exact rclimb7_any n i a A m c p W HM.out h1 ha hpl ((hp.below h (Nat.le_refl _)).more h.size)))
  have HCB := Lib.hid (fun W (h : Below w.heap.size w W) => (show Calls Tryd.prog 30 #[.int .i64 n, .int .i64 i, .agg Y, .slice B l d] W (ClimbEnd W n i b q) from by
    rw [← HY.out]
    exact rclimb7_any n i b B l d q W HL.out h2 hb hql ((hq.below h (Nat.le_refl _)).more h.size)))
  obtain ⟨Z, hZ⟩ : ∃ Z, u8A zeroH = Z := ⟨_, rfl⟩
  have HZ := Lib.hid hZ
  have HZZ := Lib.hid (show Z.size = 32 by rw [← hZ]; rfl)
  clear hZ
  go_wp2_with (with_reducible refine wpList_load_blk rfl 25 (.tmp 8) rfl g8 rfl 25 X _ HB8.out Tryd.underlying25 rfl (by rw [HXZ.out]; kernel_rfl) ?_)
  obtain ⟨CX, hCX⟩ : ∃ Z, u8A (climbV n i a p) = Z := ⟨_, rfl⟩
  obtain ⟨CY, hCY⟩ : ∃ Z, u8A (climbV n i b q) = Z := ⟨_, rfl⟩
  have HCX := Lib.hid hCX
  have HCY := Lib.hid hCY
  have HCXL := Lib.hid (climbV_len (n := n) (i := i) ha p)
  have HCYL := Lib.hid (climbV_len (n := n) (i := i) hb q)
  have HCXZ := Lib.hid (show CX.size = 32 by rw [← hCX, u8A_size]; exact HCXL.out)
  have HCYZ := Lib.hid (show CY.size = 32 by rw [← hCY, u8A_size]; exact HCYL.out)
  have HCXO := Lib.hid (show CX.all (·.oneCell') = true by rw [← hCX]; exact u8A_one _)
  have HCYO := Lib.hid (show CY.all (·.oneCell') = true by rw [← hCY]; exact u8A_one _)
  clear hCX hCY
  with_reducible refine (HCA.out w1 HBW.out).mono ?_
  intro e w2 h2
  obtain ⟨rfl, hb2⟩ := h2
  rw [HCX.out]
  obtain ⟨ok1, hok1⟩ : ∃ o, decide (climbOK n i p.length) = o := ⟨_, rfl⟩
  obtain ⟨ok2, hok2⟩ : ∃ o, decide (climbOK n i q.length) = o := ⟨_, rfl⟩
  have HOK1 := Lib.hid hok1
  have HOK2 := Lib.hid hok2
  rw [hok1]
  clear hok1 hok2
  have hbw2 : Below w.heap.size w w2 := HBW.out.trans (hb2.mono HBW.out.size)
  have hl1 : g12 < w1.heap.size := HB12.out.lt
  have hgg := HG.out
  have hs2 := hb2.size
  obtain ⟨g14, hg14⟩ : ∃ g, w2.heap.size = g := ⟨_, rfl⟩
  have hal2 : Below w2.heap.size w2 (w2.alloc (.cells Z 25)) := (Below.refl _ _).alloc (Nat.le_refl _) _
  have HB14 := Lib.hid (show Blk (w2.alloc (.cells Z 25)) g14 Z 25 by rw [← hg14]; exact Blk.new _ _ _)
  have hw3 : Below w.heap.size w ((w2.alloc (.cells Z 25)).setRow g14 CX) := below_row (hbw2.trans (hal2.mono hbw2.size)) (hbw2.trans (hal2.mono hbw2.size)).size (by rw [← hg14]; exact hbw2.size) _
  have HB8' := Lib.hid (((HB8.out.below hb2 HB8.out.lt).alloc (.cells Z 25)).rowOther (g' := g14) (by omega) CX)
  have HB9' := Lib.hid (((HB9.out.below hb2 HB9.out.lt).alloc (.cells Z 25)).rowOther (g' := g14) (by omega) CX)
  have HB12' := Lib.hid (((HB12.out.below hb2 HB12.out.lt).alloc (.cells Z 25)).rowOther (g' := g14) (by omega) CX)
  have HB14' := Lib.hid (HB14.out.row CX)
  clear HB8 HB9 HB12 hb2 hal2 hbw2
  go_wp2_with (first
    | (with_reducible refine wpList_alloc_hash rfl rfl Z HZ.out ?_; rw [hg14])
    | (with_reducible refine wpList_store_blk rfl 25 (.tmp 14) (.tmp 29) rfl g14 CX rfl rfl 25 Z HB14.out (by rw [HCXZ.out]; kernel_rfl) (by rw [HCXZ.out, HZZ.out]) HCXO.out ?_)
    | (with_reducible refine wpList_load_blk rfl 25 (.tmp 9) rfl g9 rfl 25 Y _ HB9'.out Tryd.underlying25 rfl (by rw [HYZ.out]; kernel_rfl) ?_))
  with_reducible refine (HCB.out _ hw3).mono ?_
  intro e w4 h4
  obtain ⟨rfl, hb4⟩ := h4
  rw [HCY.out, HOK2.out]
  have hs3 := hw3.size
  generalize World.setRow _ _ _ = w3 at *
  have hbw4 : Below w.heap.size w w4 := hw3.trans (hb4.mono hs3)
  have hl3 : g14 < w3.heap.size := HB14'.out.lt
  have hs4 := hb4.size
  obtain ⟨g16, hg16⟩ : ∃ g, w4.heap.size = g := ⟨_, rfl⟩
  have hal4 : Below w4.heap.size w4 (w4.alloc (.cells Z 25)) := (Below.refl _ _).alloc (Nat.le_refl _) _
  have HB16 := Lib.hid (show Blk (w4.alloc (.cells Z 25)) g16 Z 25 by rw [← hg16]; exact Blk.new _ _ _)
  have hw5 : Below w.heap.size w ((w4.alloc (.cells Z 25)).setRow g16 CY) := below_row (hbw4.trans (hal4.mono hbw4.size)) (hbw4.trans (hal4.mono hbw4.size)).size (by rw [← hg16]; exact hbw4.size) _
  have HB8 := Lib.hid (((HB8'.out.below hb4 HB8'.out.lt).alloc (.cells Z 25)).rowOther (g' := g16) (by omega) CY)
  have HB9 := Lib.hid (((HB9'.out.below hb4 HB9'.out.lt).alloc (.cells Z 25)).rowOther (g' := g16) (by omega) CY)
  have HB12 := Lib.hid (((HB12'.out.below hb4 HB12'.out.lt).alloc (.cells Z 25)).rowOther (g' := g16) (by omega) CY)
  have HBXX := Lib.hid (((HB14'.out.below hb4 HB14'.out.lt).alloc (.cells Z 25)).rowOther (g' := g16) (by omega) CY)
  have HB16' := Lib.hid (HB16.out.row CY)
  have HGX := Lib.hid (show w.heap.size = g8 ∧ g8 < g9 ∧ g9 < g12 ∧ g12 < g14 ∧ g14 < g16 by omega)
  clear HB8' HB9' HB12' HB14' HB14 hb4 hal4 hbw4 hw3 hl3 hl1 hgg hs2 hs3 hs4 HG HCA HCB HBW
  go_upto_region 3 with (first
    | (with_reducible refine wpList_alloc_hash rfl rfl Z HZ.out ?_; rw [hg16])
    | (with_reducible refine wpList_store_blk rfl 25 (.tmp 16) (.tmp 37) rfl g16 CY rfl rfl 25 Z HB16.out (by rw [HCYZ.out]; kernel_rfl) (by rw [HCYZ.out, HZZ.out]) HCYO.out ?_))
  have HB14 := Lib.hid HBXX.out
  clear HB16 HBXX
  have HB16 := Lib.hid HB16'.out
  clear HB16' hg16
  generalize World.setRow _ _ _ = w5 at *
  have HPV := Lib.hid (show HV w5 (.slice A m c) p from ⟨hpl, A, c, by rw [HM.out], by rw [HM.out]; exact hmc, (hp.below hw5 (Nat.le_refl _)).more hw5.size⟩)
  have HQV := Lib.hid (show HV w5 (.slice B l d) q from ⟨hql, B, d, by rw [HL.out], by rw [HL.out]; exact hld, (hq.below hw5 (Nat.le_refl _)).more hw5.size⟩)
  go_cut [59] from 39 to 59 (fun r wx => r = .bool (!decide (brkOK n i a b p q)) ∧ Hid (Below w5.heap.size w5 wx))
  case first =>
    by_cases k1 : climbOK n i p.length
    · obtain rfl : ok1 = true := by rw [← HOK1.out]; exact decide_eq_true k1
      by_cases k2 : climbOK n i q.length
      · obtain rfl : ok2 = true := by rw [← HOK2.out]; exact decide_eq_true k2
        by_cases k3 : climbV n i a p = climbV n i b q
        · by_cases ka : a = b
          · by_cases kp : p = q
            · have heq := fun W => (show (Op.equalIn 10000 25 (.agg CX) (.agg CY)).run Tryd.prog W = .ok true W by
                rw [← HCX.out, ← HCY.out, run_hash_eq W _ _ HCXL.out HCYL.out, decide_eq_true k3])
              have heq2 := fun W => (show (Op.equalIn 10000 25 (.agg X) (.agg Y)).run Tryd.prog W = .ok true W by
                rw [← HX.out, ← HY.out, run_hash_eq W _ _ ha hb, decide_eq_true ka])
              have HR := Lib.hid (show decide (brkOK n i a b p q) = false from decide_eq_false (fun h => h.2.2.2 ⟨ka, kp⟩))
              have HPQ := Lib.hid (decide_eq_true kp)
              refine wp_region_lit ?_
              refine wpList_val (.bool true) (by rfl) (by go_simp) ?_
              simp only [Act.put, List.setIfInBounds_toArray, List.set_cons_zero, List.set_cons_succ]
              refine wpList_val (.bool false) (by rfl) (by go_simp) ?_
              simp only [Act.put, List.setIfInBounds_toArray, List.set_cons_zero, List.set_cons_succ]
              refine wpList_val (.bool false) (by rfl) (by go_simp) ?_
              simp only [Act.put, List.setIfInBounds_toArray, List.set_cons_zero, List.set_cons_succ]
              refine wpList_val (.bool true) (by rfl) (by go_simp) ?_
              simp only [Act.put, List.setIfInBounds_toArray, List.set_cons_zero, List.set_cons_succ]
              refine wpList_val (.bool false) (by rfl) (by go_simp) ?_
              simp only [Act.put, List.setIfInBounds_toArray, List.set_cons_zero, List.set_cons_succ]
              refine wpList_val (.bool false) (by rfl) (by go_simp) ?_
              simp only [Act.put, List.setIfInBounds_toArray, List.set_cons_zero, List.set_cons_succ]
              refine wpList_val (.bool false) (by rfl) (by go_simp) ?_
              simp only [Act.put, List.setIfInBounds_toArray, List.set_cons_zero, List.set_cons_succ]
              refine wpList_load_when (by rfl) 25 (.tmp 14) rfl g14 rfl 25 CX _ HB14.out Tryd.underlying25 rfl (by rw [HCXZ.out]; kernel_rfl) ?_
              simp only [Act.put, List.setIfInBounds_toArray, List.set_cons_zero, List.set_cons_succ]
              refine wpList_load_when (by rfl) 25 (.tmp 16) rfl g16 rfl 25 CY _ HB16.out Tryd.underlying25 rfl (by rw [HCYZ.out]; kernel_rfl) ?_
              simp only [Act.put, List.setIfInBounds_toArray, List.set_cons_zero, List.set_cons_succ]
              refine wpList_val (.bool false) (by rfl) (by go_simp) ?_
              simp only [Act.put, List.setIfInBounds_toArray, List.set_cons_zero, List.set_cons_succ]
              refine wpList_val (.bool false) (by rfl) (by go_simp) ?_
              simp only [Act.put, List.setIfInBounds_toArray, List.set_cons_zero, List.set_cons_succ]
              refine wpList_val (.bool false) (by rfl) (by go_simp) ?_
              simp only [Act.put, List.setIfInBounds_toArray, List.set_cons_zero, List.set_cons_succ]
              refine wpList_load_when (by rfl) 25 (.tmp 8) rfl g8 rfl 25 X _ HB8.out Tryd.underlying25 rfl (by rw [HXZ.out]; kernel_rfl) ?_
              simp only [Act.put, List.setIfInBounds_toArray, List.set_cons_zero, List.set_cons_succ]
              refine wpList_load_when (by rfl) 25 (.tmp 9) rfl g9 rfl 25 Y _ HB9.out Tryd.underlying25 rfl (by rw [HYZ.out]; kernel_rfl) ?_
              simp only [Act.put, List.setIfInBounds_toArray, List.set_cons_zero, List.set_cons_succ]
              refine wpList_val (.bool true) (by rfl) (by go_simp) ?_
              simp only [Act.put, List.setIfInBounds_toArray, List.set_cons_zero, List.set_cons_succ]
              refine wpList_val (.bool true) (by rfl) (by go_simp) ?_
              simp only [Act.put, List.setIfInBounds_toArray, List.set_cons_zero, List.set_cons_succ]
              go_wp2_with fail
              with_reducible refine (rsame7_any HPV.out HQV.out (by rw [HM.out]; omega)).mono ?_
              rintro e w6 ⟨rfl, hb6⟩
              rw [HPQ.out]
              go_wp2_with fail
              go_meet
              case rel => exact ⟨by rw [HR.out]; rfl, Lib.hid hb6⟩
            · have heq := fun W => (show (Op.equalIn 10000 25 (.agg CX) (.agg CY)).run Tryd.prog W = .ok true W by
                rw [← HCX.out, ← HCY.out, run_hash_eq W _ _ HCXL.out HCYL.out, decide_eq_true k3])
              have heq2 := fun W => (show (Op.equalIn 10000 25 (.agg X) (.agg Y)).run Tryd.prog W = .ok true W by
                rw [← HX.out, ← HY.out, run_hash_eq W _ _ ha hb, decide_eq_true ka])
              have HR := Lib.hid (show decide (brkOK n i a b p q) = true from decide_eq_true ⟨k1, k2, k3, fun h => kp h.2⟩)
              have HPQ := Lib.hid (decide_eq_false kp)
              refine wp_region_lit ?_
              refine wpList_val (.bool true) (by rfl) (by go_simp) ?_
              simp only [Act.put, List.setIfInBounds_toArray, List.set_cons_zero, List.set_cons_succ]
              refine wpList_val (.bool false) (by rfl) (by go_simp) ?_
              simp only [Act.put, List.setIfInBounds_toArray, List.set_cons_zero, List.set_cons_succ]
              refine wpList_val (.bool false) (by rfl) (by go_simp) ?_
              simp only [Act.put, List.setIfInBounds_toArray, List.set_cons_zero, List.set_cons_succ]
              refine wpList_val (.bool true) (by rfl) (by go_simp) ?_
              simp only [Act.put, List.setIfInBounds_toArray, List.set_cons_zero, List.set_cons_succ]
              refine wpList_val (.bool false) (by rfl) (by go_simp) ?_
              simp only [Act.put, List.setIfInBounds_toArray, List.set_cons_zero, List.set_cons_succ]
              refine wpList_val (.bool false) (by rfl) (by go_simp) ?_
              simp only [Act.put, List.setIfInBounds_toArray, List.set_cons_zero, List.set_cons_succ]
              refine wpList_val (.bool false) (by rfl) (by go_simp) ?_
              simp only [Act.put, List.setIfInBounds_toArray, List.set_cons_zero, List.set_cons_succ]
              refine wpList_load_when (by rfl) 25 (.tmp 14) rfl g14 rfl 25 CX _ HB14.out Tryd.underlying25 rfl (by rw [HCXZ.out]; kernel_rfl) ?_
              simp only [Act.put, List.setIfInBounds_toArray, List.set_cons_zero, List.set_cons_succ]
              refine wpList_load_when (by rfl) 25 (.tmp 16) rfl g16 rfl 25 CY _ HB16.out Tryd.underlying25 rfl (by rw [HCYZ.out]; kernel_rfl) ?_
              simp only [Act.put, List.setIfInBounds_toArray, List.set_cons_zero, List.set_cons_succ]
              refine wpList_val (.bool false) (by rfl) (by go_simp) ?_
              simp only [Act.put, List.setIfInBounds_toArray, List.set_cons_zero, List.set_cons_succ]
              refine wpList_val (.bool false) (by rfl) (by go_simp) ?_
              simp only [Act.put, List.setIfInBounds_toArray, List.set_cons_zero, List.set_cons_succ]
              refine wpList_val (.bool false) (by rfl) (by go_simp) ?_
              simp only [Act.put, List.setIfInBounds_toArray, List.set_cons_zero, List.set_cons_succ]
              refine wpList_load_when (by rfl) 25 (.tmp 8) rfl g8 rfl 25 X _ HB8.out Tryd.underlying25 rfl (by rw [HXZ.out]; kernel_rfl) ?_
              simp only [Act.put, List.setIfInBounds_toArray, List.set_cons_zero, List.set_cons_succ]
              refine wpList_load_when (by rfl) 25 (.tmp 9) rfl g9 rfl 25 Y _ HB9.out Tryd.underlying25 rfl (by rw [HYZ.out]; kernel_rfl) ?_
              simp only [Act.put, List.setIfInBounds_toArray, List.set_cons_zero, List.set_cons_succ]
              refine wpList_val (.bool true) (by rfl) (by go_simp) ?_
              simp only [Act.put, List.setIfInBounds_toArray, List.set_cons_zero, List.set_cons_succ]
              refine wpList_val (.bool true) (by rfl) (by go_simp) ?_
              simp only [Act.put, List.setIfInBounds_toArray, List.set_cons_zero, List.set_cons_succ]
              go_wp2_with fail
              with_reducible refine (rsame7_any HPV.out HQV.out (by rw [HM.out]; omega)).mono ?_
              rintro e w6 ⟨rfl, hb6⟩
              rw [HPQ.out]
              go_wp2_with fail
              go_meet
              case rel => exact ⟨by rw [HR.out]; rfl, Lib.hid hb6⟩
          · have heq := fun W => (show (Op.equalIn 10000 25 (.agg CX) (.agg CY)).run Tryd.prog W = .ok true W by
              rw [← HCX.out, ← HCY.out, run_hash_eq W _ _ HCXL.out HCYL.out, decide_eq_true k3])
            have heq2 := fun W => (show (Op.equalIn 10000 25 (.agg X) (.agg Y)).run Tryd.prog W = .ok false W by
              rw [← HX.out, ← HY.out, run_hash_eq W _ _ ha hb, decide_eq_false ka])
            have HR := Lib.hid (show decide (brkOK n i a b p q) = true from decide_eq_true ⟨k1, k2, k3, fun h => ka h.1⟩)
            refine wp_region_lit ?_
            refine wpList_val (.bool true) (by rfl) (by go_simp) ?_
            simp only [Act.put, List.setIfInBounds_toArray, List.set_cons_zero, List.set_cons_succ]
            refine wpList_val (.bool false) (by rfl) (by go_simp) ?_
            simp only [Act.put, List.setIfInBounds_toArray, List.set_cons_zero, List.set_cons_succ]
            refine wpList_val (.bool false) (by rfl) (by go_simp) ?_
            simp only [Act.put, List.setIfInBounds_toArray, List.set_cons_zero, List.set_cons_succ]
            refine wpList_val (.bool true) (by rfl) (by go_simp) ?_
            simp only [Act.put, List.setIfInBounds_toArray, List.set_cons_zero, List.set_cons_succ]
            refine wpList_val (.bool false) (by rfl) (by go_simp) ?_
            simp only [Act.put, List.setIfInBounds_toArray, List.set_cons_zero, List.set_cons_succ]
            refine wpList_val (.bool false) (by rfl) (by go_simp) ?_
            simp only [Act.put, List.setIfInBounds_toArray, List.set_cons_zero, List.set_cons_succ]
            refine wpList_val (.bool false) (by rfl) (by go_simp) ?_
            simp only [Act.put, List.setIfInBounds_toArray, List.set_cons_zero, List.set_cons_succ]
            refine wpList_load_when (by rfl) 25 (.tmp 14) rfl g14 rfl 25 CX _ HB14.out Tryd.underlying25 rfl (by rw [HCXZ.out]; kernel_rfl) ?_
            simp only [Act.put, List.setIfInBounds_toArray, List.set_cons_zero, List.set_cons_succ]
            refine wpList_load_when (by rfl) 25 (.tmp 16) rfl g16 rfl 25 CY _ HB16.out Tryd.underlying25 rfl (by rw [HCYZ.out]; kernel_rfl) ?_
            simp only [Act.put, List.setIfInBounds_toArray, List.set_cons_zero, List.set_cons_succ]
            refine wpList_val (.bool false) (by rfl) (by go_simp) ?_
            simp only [Act.put, List.setIfInBounds_toArray, List.set_cons_zero, List.set_cons_succ]
            refine wpList_val (.bool false) (by rfl) (by go_simp) ?_
            simp only [Act.put, List.setIfInBounds_toArray, List.set_cons_zero, List.set_cons_succ]
            refine wpList_val (.bool false) (by rfl) (by go_simp) ?_
            simp only [Act.put, List.setIfInBounds_toArray, List.set_cons_zero, List.set_cons_succ]
            refine wpList_load_when (by rfl) 25 (.tmp 8) rfl g8 rfl 25 X _ HB8.out Tryd.underlying25 rfl (by rw [HXZ.out]; kernel_rfl) ?_
            simp only [Act.put, List.setIfInBounds_toArray, List.set_cons_zero, List.set_cons_succ]
            refine wpList_load_when (by rfl) 25 (.tmp 9) rfl g9 rfl 25 Y _ HB9.out Tryd.underlying25 rfl (by rw [HYZ.out]; kernel_rfl) ?_
            simp only [Act.put, List.setIfInBounds_toArray, List.set_cons_zero, List.set_cons_succ]
            refine wpList_val (.bool false) (by rfl) (by go_simp) ?_
            simp only [Act.put, List.setIfInBounds_toArray, List.set_cons_zero, List.set_cons_succ]
            refine wpList_val (.bool false) (by rfl) (by go_simp) ?_
            simp only [Act.put, List.setIfInBounds_toArray, List.set_cons_zero, List.set_cons_succ]
            go_wp2_with fail
            go_meet
            case rel => exact ⟨by rw [HR.out]; rfl, Lib.hid (Below.refl _ _)⟩
        · have heq := fun W => (show (Op.equalIn 10000 25 (.agg CX) (.agg CY)).run Tryd.prog W = .ok false W by
            rw [← HCX.out, ← HCY.out, run_hash_eq W _ _ HCXL.out HCYL.out, decide_eq_false k3])
          have HR := Lib.hid (show decide (brkOK n i a b p q) = false from decide_eq_false (fun h => k3 h.2.2.1))
          refine wp_region_lit ?_
          refine wpList_val (.bool true) (by rfl) (by go_simp) ?_
          simp only [Act.put, List.setIfInBounds_toArray, List.set_cons_zero, List.set_cons_succ]
          refine wpList_val (.bool false) (by rfl) (by go_simp) ?_
          simp only [Act.put, List.setIfInBounds_toArray, List.set_cons_zero, List.set_cons_succ]
          refine wpList_val (.bool false) (by rfl) (by go_simp) ?_
          simp only [Act.put, List.setIfInBounds_toArray, List.set_cons_zero, List.set_cons_succ]
          refine wpList_val (.bool true) (by rfl) (by go_simp) ?_
          simp only [Act.put, List.setIfInBounds_toArray, List.set_cons_zero, List.set_cons_succ]
          refine wpList_val (.bool false) (by rfl) (by go_simp) ?_
          simp only [Act.put, List.setIfInBounds_toArray, List.set_cons_zero, List.set_cons_succ]
          refine wpList_val (.bool false) (by rfl) (by go_simp) ?_
          simp only [Act.put, List.setIfInBounds_toArray, List.set_cons_zero, List.set_cons_succ]
          refine wpList_val (.bool false) (by rfl) (by go_simp) ?_
          simp only [Act.put, List.setIfInBounds_toArray, List.set_cons_zero, List.set_cons_succ]
          refine wpList_load_when (by rfl) 25 (.tmp 14) rfl g14 rfl 25 CX _ HB14.out Tryd.underlying25 rfl (by rw [HCXZ.out]; kernel_rfl) ?_
          simp only [Act.put, List.setIfInBounds_toArray, List.set_cons_zero, List.set_cons_succ]
          refine wpList_load_when (by rfl) 25 (.tmp 16) rfl g16 rfl 25 CY _ HB16.out Tryd.underlying25 rfl (by rw [HCYZ.out]; kernel_rfl) ?_
          simp only [Act.put, List.setIfInBounds_toArray, List.set_cons_zero, List.set_cons_succ]
          refine wpList_val (.bool true) (by rfl) (by go_simp) ?_
          simp only [Act.put, List.setIfInBounds_toArray, List.set_cons_zero, List.set_cons_succ]
          go_wp2_with fail
          go_meet
          case rel => exact ⟨by rw [HR.out]; rfl, Lib.hid (Below.refl _ _)⟩
      · obtain rfl : ok2 = false := by rw [← HOK2.out]; exact decide_eq_false k2
        have HR := Lib.hid (show decide (brkOK n i a b p q) = false from decide_eq_false (fun h => k2 h.2.1))
        go_wp2_with fail
        go_meet
        case rel => exact ⟨by rw [HR.out]; rfl, Lib.hid (Below.refl _ _)⟩
    · obtain rfl : ok1 = false := by rw [← HOK1.out]; exact decide_eq_false k1
      have HR := Lib.hid (show decide (brkOK n i a b p q) = false from decide_eq_false (fun h => k1 h.1))
      go_wp2_with fail
      go_meet
      case rel => exact ⟨by rw [HR.out]; rfl, Lib.hid (Below.refl _ _)⟩
  case rest =>
    obtain ⟨rfl, HBX⟩ := hcut
    have hbx := HBX.out
    have hwc : Below w.heap.size w wc := hw5.trans (hbx.mono hw5.size)
    have h8 := HB8.out.below hbx HB8.out.lt
    have h9 := HB9.out.below hbx HB9.out.lt
    have h12 := HB12.out.below hbx HB12.out.lt
    have HGC := Lib.hid (show g8 < wc.heap.size ∧ g9 < wc.heap.size ∧ g12 < wc.heap.size from ⟨h8.lt, h9.lt, h12.lt⟩)
    have H8 := Lib.hid h8
    have H9 := Lib.hid h9
    have H12 := Lib.hid h12
    clear HB8 HB9 HB12 HB14 HB16 HPV HQV HBX hbx hw5 h8 h9 h12 HCX HCY HCXL HCYL HCXZ HCYZ HCXO HCYO HZ HZZ HOK1 HOK2
    by_cases hk : brkOK n i a b p q
    · have HR := Lib.hid (show decide (brkOK n i a b p q) = true from decide_eq_true hk)
      rw [HR.out]
      simp only [Bool.not_true]
      obtain ⟨k1, k2, k3, k4⟩ := hk
      have hml : m = l := by
        have e1 := k1.2.2.2
        have e2 := k2.2.2.2
        rw [HM.out] at e1
        rw [HL.out] at e2
        omega
      subst hml
      obtain ⟨I, hI⟩ : ∃ I : Nat, i = (I : Int) := ⟨i.toNat, by have := k1.1; omega⟩
      subst hI
      have hI256 : I ≤ 256 := by
        have e1 := k1.2.1
        have e2 := k1.2.2.1
        omega
      obtain ⟨C, hC⟩ : ∃ C, wc.heap.size = C := ⟨_, rfl⟩
      have HCC := Lib.hid hC
      have HV1 := Lib.hid (show brkV n (I : Int) a b p q = lastBr (wayH I a p) (wayH I b q) from if_pos ⟨k1, k2, k3, k4⟩)
      have hwC : w.heap.size ≤ C := by rw [← hC]; exact hwc.size
      rw [hC] at HGC
      clear hC k1 k2 k3 k4 HR
      go_wp2_with fail
      go_loopw [1, 18, 19, 63] (fun iv sv tv t wr => ∃ j pI : Nat, j ≤ m ∧ t = .int .i64 (j : Int) ∧ iv = .int .i64 (pI : Int) ∧ Hid (pI = I / 2 ^ j) ∧ pI ≤ 256 ∧ Hid (Blk wr g8 (u8A (climbH I a (p.take j))) 25) ∧ Hid (Blk wr g9 (u8A (climbH I b (q.take j))) 25) ∧ Hid (Blk wr g12 #[Value.slice none 0 0, Value.slice none 0 0] 41) ∧ Hid (SL wr C sv (wayH I a (p.take j))) ∧ Hid (SL wr C tv (wayH I b (q.take j))) ∧ Hid (∀ g, sv.ownBlock = some g → tv.ownBlock ≠ some g) ∧ Below w.heap.size w wr ∧ C ≤ wr.heap.size) (fun _ _ _ t _ => m - (intOf t).toNat)
      case atStart => exact ⟨0, I, Nat.zero_le _, rfl, rfl, Lib.hid (by simp), hI256, Lib.hid (by
        show Blk wc g8 (u8A a) _
        rw [HX.out]; exact H8.out), Lib.hid (by
        show Blk wc g9 (u8A b) _
        rw [HY.out]; exact H9.out), H12, Lib.hid (SL.nil _ _), Lib.hid (SL.nil _ _), Lib.hid (fun g hg => by simp [Value.ownBlock] at hg), hwc, by rw [HCC.out]; exact Nat.le_refl _⟩
      case round =>
        clear H8 H9 H12 hwc
        obtain ⟨j, pI, hj, rfl, rfl, HP, hp256, HA, HB, H12, HSL, HTL, HNE, hbel, hCw⟩ := hrel
        by_cases hjm : j < m
        · have hji : (j : Int) < (m : Int) := by omega
          have hjp : j < p.length := by rw [HM.out]; exact hjm
          have hjq : j < q.length := by rw [HL.out]; exact hjm
          obtain ⟨x, hx⟩ : ∃ x, p[j] = x := ⟨_, rfl⟩
          obtain ⟨y, hy⟩ : ∃ y, q[j] = y := ⟨_, rfl⟩
          have HXL := Lib.hid (show x.length = 32 by rw [← hx]; exact hpl _ (List.getElem_mem _))
          have HYL := Lib.hid (show y.length = 32 by rw [← hy]; exact hql _ (List.getElem_mem _))
          have hlp : (p.take j).length = j := by rw [List.length_take]; omega
          have hlq : (q.take j).length = j := by rw [List.length_take]; omega
          have htp : p.take (j + 1) = p.take j ++ [x] := by rw [List.take_succ_eq_append_getElem hjp, hx]
          have htq : q.take (j + 1) = q.take j ++ [y] := by rw [List.take_succ_eq_append_getElem hjq, hy]
          have HW1 := Lib.hid (show wayH I a (p.take (j + 1)) = wayH I a (p.take j) ++ [tree.text nodeT pI (climbH I a (p.take j)) x] by rw [htp, way_snoc, hlp, ← HP.out])
          have HW2 := Lib.hid (show wayH I b (q.take (j + 1)) = wayH I b (q.take j) ++ [tree.text nodeT pI (climbH I b (q.take j)) y] by rw [htq, way_snoc, hlq, ← HP.out])
          have HN1 := Lib.hid (show climbH I a (p.take (j + 1)) = shaL (tree.text nodeT pI (climbH I a (p.take j)) x) by rw [htp, climb_snoc, hlp, ← HP.out])
          have HN2 := Lib.hid (show climbH I b (q.take (j + 1)) = shaL (tree.text nodeT pI (climbH I b (q.take j)) y) by rw [htq, climb_snoc, hlq, ← HP.out])
          have HCAL := Lib.hid (climbH_len ha (p.take j) I)
          have HCBL := Lib.hid (climbH_len hb (q.take j) I)
          have HSLN := Lib.hid (show (wayH I a (p.take j)).length = j by unfold wayH; rw [tree.way_len, hlp])
          have HTLN := Lib.hid (show (wayH I b (q.take j)).length = j by unfold wayH; rw [tree.way_len, hlq])
          have HP2 := Lib.hid (show pI / 2 = I / 2 ^ (j + 1) by rw [HP.out, Nat.pow_succ, Nat.div_div_eq_div_mul])
          rcases hp with h0 | ⟨b1, o1, rfl, hb1, hc1⟩
          · rw [h0] at hjp; simp at hjp
          rcases hq with h0 | ⟨b2, o2, rfl, hb2, hc2⟩
          · rw [h0] at hjq; simp at hjq
          have hx1 := hc1 j hjp
          have hy1 := hc2 j hjq
          rw [hx] at hx1
          rw [hy] at hy1
          obtain ⟨S1, sc, rfl, _, _⟩ := HSL.out.form HSLN.out
          obtain ⟨T1, tc, rfl, _, _⟩ := HTL.out.form HTLN.out
          generalize climbH I a (p.take j) = ca at *
          generalize climbH I b (q.take j) = cb at *
          generalize wayH I a (p.take j) = ssl at *
          generalize wayH I b (q.take j) = tsl at *
          have HRG := Lib.hid (fun W (h : Below C wr W) => (⟨range_of_blk (HA.out.below h HGC.out.1), range_of_blk (HB.out.below h HGC.out.2.1), rangeAt_keep hx1 fun j => (h.cell (p := ⟨b1, _, none⟩) (Nat.lt_of_lt_of_le hb1 hwC)).trans (hbel.cell (p := ⟨b1, _, none⟩) hb1), rangeAt_keep hy1 fun j => (h.cell (p := ⟨b2, _, none⟩) (Nat.lt_of_lt_of_le hb2 hwC)).trans (hbel.cell (p := ⟨b2, _, none⟩) hb2)⟩ : W.rangeAt g8 0 (Lib.byteCells ca) ∧ W.rangeAt g9 0 (Lib.byteCells cb) ∧ W.rangeAt b1 (o1 + j * 32) (Lib.byteCells x) ∧ W.rangeAt b2 (o2 + j * 32) (Lib.byteCells y)))
          obtain ⟨XA, hXA⟩ : ∃ X, u8A ca = X := ⟨_, rfl⟩
          obtain ⟨XB, hXB⟩ : ∃ X, u8A cb = X := ⟨_, rfl⟩
          obtain ⟨XX, hXX⟩ : ∃ X, u8A x = X := ⟨_, rfl⟩
          obtain ⟨XY, hXY⟩ : ∃ X, u8A y = X := ⟨_, rfl⟩
          have HXA := Lib.hid hXA
          have HXB := Lib.hid hXB
          have HXX := Lib.hid hXX
          have HXY := Lib.hid hXY
          clear hx hy hjp hjq hlp hlq htp htq hx1 hy1 hc1 hc2 hXA hXB hXX hXY HP
          by_cases he : pI % 2 = 0
          · have hei : (pI : Int) % 2 = 0 := by omega
            have HTX1 := Lib.hid (show tree.text nodeT pI ca x = nodeT ca x from if_pos he)
            have HTX2 := Lib.hid (show tree.text nodeT pI cb y = nodeT cb y from if_pos he)
            rw [HTX1.out] at HW1 HN1
            rw [HTX2.out] at HW2 HN2
            obtain ⟨tx1, htx1⟩ : ∃ t, nodeT ca x = t := ⟨_, rfl⟩
            obtain ⟨tx2, htx2⟩ : ∃ t, nodeT cb y = t := ⟨_, rfl⟩
            obtain ⟨n1, hn1⟩ : ∃ k, tx1.length = k := ⟨_, rfl⟩
            obtain ⟨n2, hn2⟩ : ∃ k, tx2.length = k := ⟨_, rfl⟩
            have HT1 := Lib.hid (fun W => (show Calls Tryd.prog 50 #[.agg XA, .agg XX] W fun e W' => ∃ v, e = .returned v ∧ OwnM W' W.heap.size 5 v n1 tx1 ∧ Below W.heap.size W W' from by
              rw [← HXA.out, ← HXX.out, ← hn1, ← htx1]
              exact rnodetext_own ca x W HCAL.out HXL.out))
            have HT2 := Lib.hid (fun W => (show Calls Tryd.prog 50 #[.agg XB, .agg XY] W fun e W' => ∃ v, e = .returned v ∧ OwnM W' W.heap.size 5 v n2 tx2 ∧ Below W.heap.size W W' from by
              rw [← HXB.out, ← HXY.out, ← hn2, ← htx2]
              exact rnodetext_own cb y W HCBL.out HYL.out))
            rw [htx1] at HW1
            rw [htx2] at HW2
            have HNN := Lib.hid (show tx1.length = n1 ∧ tx2.length = n2 from ⟨hn1, hn2⟩)
            obtain ⟨R1, hR1⟩ : ∃ R, u8A (shaL tx1) = R := ⟨_, rfl⟩
            obtain ⟨R2, hR2⟩ : ∃ R, u8A (shaL tx2) = R := ⟨_, rfl⟩
            have HRE1 := Lib.hid (show u8A (climbH I a (p.take (j + 1))) = R1 by rw [HN1.out, htx1]; exact hR1)
            have HRE2 := Lib.hid (show u8A (climbH I b (q.take (j + 1))) = R2 by rw [HN2.out, htx2]; exact hR2)
            have HRZ := Lib.hid (show R1.size = 32 ∧ R2.size = 32 from ⟨by rw [← hR1, u8A_size]; exact outTo_len _ 8 (by omega), by rw [← hR2, u8A_size]; exact outTo_len _ 8 (by omega)⟩)
            have HRO := Lib.hid (show R1.all (·.oneCell') = true ∧ R2.all (·.oneCell') = true from ⟨by rw [← hR1]; exact u8A_one _, by rw [← hR2]; exact u8A_one _⟩)
            have HXZ4 := Lib.hid (show XA.size = 32 ∧ XB.size = 32 from ⟨by rw [← HXA.out, u8A_size]; exact HCAL.out, by rw [← HXB.out, u8A_size]; exact HCBL.out⟩)
            have HND1 := Lib.hid (fun W => (show Calls Tryd.prog 27 #[.agg XA, .agg XX] W fun e W' => e = .returned (.agg R1) ∧ Below W.heap.size W W' from by
              rw [← HXA.out, ← HXX.out, ← hR1, ← htx1]
              exact rnode_any ca x W HCAL.out HXL.out))
            have HND2 := Lib.hid (fun W => (show Calls Tryd.prog 27 #[.agg XB, .agg XY] W fun e W' => e = .returned (.agg R2) ∧ Below W.heap.size W W' from by
              rw [← HXB.out, ← HXY.out, ← hR2, ← htx2]
              exact rnode_any cb y W HCBL.out HYL.out))
            clear hR1 hR2
            clear hn1 hn2 htx1 htx2
            go_wp2_with fail
            refine wp_region_held_drew (S := fun W => Below C wr W) (by kernel_rfl) ((Below.refl _ _).drew) (fun hHeld => ?_)
            refine wpAnyH_takeL (i := 0) (v := .slice S1 j sc) rfl (by kernel_rfl) (by kernel_rfl) (by kernel_rfl) (fun _ _ _ h => h) (Or.inl ⟨by rfl, fun W hW => by go_simp⟩) hHeld ?_
            simp only [Act.put, List.setIfInBounds_toArray, List.set_cons_zero, List.set_cons_succ]
            refine wpAnyH_takeL (i := 9) (v := .slice T1 j tc) rfl (by kernel_rfl) (by kernel_rfl) (by kernel_rfl) (fun _ _ _ h => h) (Or.inl ⟨by rfl, fun W hW => by go_simp⟩) hHeld ?_
            simp only [Act.put, List.setIfInBounds_toArray, List.set_cons_zero, List.set_cons_succ]
            refine wpAnyH_takeL (i := 2) (v := .slice (some ⟨b1, o1, none⟩) m c) rfl (by kernel_rfl) (by kernel_rfl) (by kernel_rfl) (fun _ _ _ h => h) (Or.inl ⟨by rfl, fun W hW => by go_simp⟩) hHeld ?_
            simp only [Act.put, List.setIfInBounds_toArray, List.set_cons_zero, List.set_cons_succ]
            refine wpAnyH_takeL (i := 3) (v := .int .i64 (j : Int)) rfl (by kernel_rfl) (by kernel_rfl) (by kernel_rfl) (fun _ _ _ h => h) (Or.inl ⟨by rfl, fun W hW => by go_simp⟩) hHeld ?_
            simp only [Act.put, List.setIfInBounds_toArray, List.set_cons_zero, List.set_cons_succ]
            refine wpAnyH_takeL (i := 4) (v := .pointer (some ⟨b1, o1 + j * 32, none⟩)) rfl (by kernel_rfl) (by kernel_rfl) (by kernel_rfl) (fun _ _ _ h => h) (Or.inl ⟨by rfl, fun W hW => by go_simp⟩) hHeld ?_
            simp only [Act.put, List.setIfInBounds_toArray, List.set_cons_zero, List.set_cons_succ]
            refine wpAnyH_takeL (i := 11) (v := .slice (some ⟨b2, o2, none⟩) m d) rfl (by kernel_rfl) (by kernel_rfl) (by kernel_rfl) (fun _ _ _ h => h) (Or.inl ⟨by rfl, fun W hW => by go_simp⟩) hHeld ?_
            simp only [Act.put, List.setIfInBounds_toArray, List.set_cons_zero, List.set_cons_succ]
            refine wpAnyH_takeL (i := 12) (v := .int .i64 (j : Int)) rfl (by kernel_rfl) (by kernel_rfl) (by kernel_rfl) (fun _ _ _ h => h) (Or.inl ⟨by rfl, fun W hW => by go_simp⟩) hHeld ?_
            simp only [Act.put, List.setIfInBounds_toArray, List.set_cons_zero, List.set_cons_succ]
            refine wpAnyH_takeL (i := 13) (v := .pointer (some ⟨b2, o2 + j * 32, none⟩)) rfl (by kernel_rfl) (by kernel_rfl) (by kernel_rfl) (fun _ _ _ h => h) (Or.inl ⟨by rfl, fun W hW => by go_simp⟩) hHeld ?_
            simp only [Act.put, List.setIfInBounds_toArray, List.set_cons_zero, List.set_cons_succ]
            refine wpAnyH_takeL (i := 1) (v := .agg XA) rfl (by kernel_rfl) (by kernel_rfl) (by kernel_rfl) (fun _ _ _ h => h) ?_ hHeld ?_
            · exact yieldsIf_load_hash (by rfl) (.tmp 8) rfl g8 (0) (by kernel_rfl) ca HCAL.out (fun W hW => (HRG.out W hW).1) XA HXA.out
            simp only [Act.put, List.setIfInBounds_toArray, List.set_cons_zero, List.set_cons_succ]
            refine wpAnyH_takeL (i := 5) (v := .agg XX) rfl (by kernel_rfl) (by kernel_rfl) (by kernel_rfl) (fun _ _ _ h => h) ?_ hHeld ?_
            · exact yieldsIf_load_hash (by rfl) (.tmp 73) rfl b1 (o1 + j * 32) (by kernel_rfl) x HXL.out (fun W hW => (HRG.out W hW).2.2.1) XX HXX.out
            simp only [Act.put, List.setIfInBounds_toArray, List.set_cons_zero, List.set_cons_succ]
            refine wpAnyH_takeL (i := 10) (v := .agg XB) rfl (by kernel_rfl) (by kernel_rfl) (by kernel_rfl) (fun _ _ _ h => h) ?_ hHeld ?_
            · exact yieldsIf_load_hash (by rfl) (.tmp 9) rfl g9 (0) (by kernel_rfl) cb HCBL.out (fun W hW => (HRG.out W hW).2.1) XB HXB.out
            simp only [Act.put, List.setIfInBounds_toArray, List.set_cons_zero, List.set_cons_succ]
            refine wpAnyH_takeL (i := 14) (v := .agg XY) rfl (by kernel_rfl) (by kernel_rfl) (by kernel_rfl) (fun _ _ _ h => h) ?_ hHeld ?_
            · exact yieldsIf_load_hash (by rfl) (.tmp 82) rfl b2 (o2 + j * 32) (by kernel_rfl) y HYL.out (fun W hW => (HRG.out W hW).2.2.2) XY HXY.out
            simp only [Act.put, List.setIfInBounds_toArray, List.set_cons_zero, List.set_cons_succ]
            refine wpAnyH_ready (rs := [6]) (by kernel_rfl) (by simp) ?_
            refine allReadyH_consL rfl fun K hK => ?_
            rw [if_pos (by rfl)]
            go_simp
            with_reducible refine (HT1.out _).mono ?_
            rintro e w4 ⟨u4, rfl, hu4, hb4⟩
            have HTX4 := Lib.hid (TxV.of hu4)
            obtain ⟨gu4, cu4, rfl, _, _⟩ := ownM_form hu4
            have hq4 : Below wr.heap.size wr w4 := (Below.refl _ _).drew.trans hb4
            have HC4 := Lib.hid (show C ≤ w4.heap.size from Nat.le_trans hCw hq4.size)
            clear hu4
            go_wp2_with fail
            refine hK.out _ _ (hHeld.trans (hb4.mono hCw)) (fun hHeld => ?_)
            clear hK K
            try simp only [Act.put, List.setIfInBounds_toArray, List.set_cons_zero, List.set_cons_succ]
            refine wpAnyH_ready (rs := [7]) (by kernel_rfl) (by simp) ?_
            refine allReadyH_consL rfl fun K hK => ?_
            rw [if_pos (by rfl)]
            go_simp
            refine hK.out _ _ (hHeld.alloc HC4.out _) (fun hHeld => ?_)
            clear hK K
            try simp only [Act.put, List.setIfInBounds_toArray, List.set_cons_zero, List.set_cons_succ]
            refine wpAnyH_ready (rs := [8]) (by kernel_rfl) (by simp) ?_
            refine allReadyH_consL rfl fun K hK => ?_
            have hal4 : Below w4.heap.size w4 (w4.alloc (.cells #[.slice (some ⟨gu4, 0, none⟩) n1 cu4] 27)) := (Below.refl _ _).alloc (Nat.le_refl _) _
            have HS4 := Lib.hid ((HSL.out.on hq4).on hal4)
            have HT4 := Lib.hid ((HTL.out.on hq4).on hal4)
            have HX4 := Lib.hid (HTX4.out.on hal4)
            clear HSL HTL HTX4
            refine step_append_text rfl _ _ rfl C _ ssl (by kernel_rfl) HS4.out w4.heap.size _ tx1 HX4.out (heap_alloc_new _ _) (by kernel_rfl) (by rw [HSLN.out]; omega) (by have := HC4.out; simp; omega) ?_
            intro v5 w5x hsl5 hg5 hf5
            have hs5 := hg5.size
            obtain ⟨S5, sc5, rfl, _, _⟩ := hsl5.form (n := j + 1) (by rw [List.length_append, HSLN.out]; rfl)
            have HT5 := Lib.hid (HT4.out.apart HS4.out hg5 fun g hg e => HNE.out g e hg)
            have HS5 := Lib.hid hsl5
            have HF5 := Lib.hid (show ∀ g, (Value.slice S5 (j + 1) sc5).ownBlock = some g → (Value.slice T1 j tc).ownBlock ≠ some g from fun g hg e => by
              rcases hf5 g hg with h | h
              · exact HNE.out g h e
              · have := (HT4.out.inside g e).2
                omega)
            have HC5 := Lib.hid (show C ≤ w5x.heap.size from by have := HC4.out; simp at hs5; omega)
            have HSI4 := Lib.hid (fun k hk => (HS4.out.inside k hk).1)
            clear hsl5 hf5 hs5 hal4 HX4 HT4 HNE
            refine hK.out _ _ (hHeld.grown hg5 (by have := HC4.out; simp; omega) HSI4.out) (fun hHeld => ?_)
            clear hK K
            try simp only [Act.put, List.setIfInBounds_toArray, List.set_cons_zero, List.set_cons_succ]
            refine wpAnyH_ready (rs := [15]) (by kernel_rfl) (by simp) ?_
            refine allReadyH_consL rfl fun K hK => ?_
            rw [if_pos (by rfl)]
            go_simp
            with_reducible refine (HT2.out _).mono ?_
            rintro e w6 ⟨u6, rfl, hu6, hb6⟩
            have HTX6 := Lib.hid (TxV.of hu6)
            obtain ⟨gu6, cu6, rfl, _, _⟩ := ownM_form hu6
            have HC6 := Lib.hid (show C ≤ w6.heap.size from Nat.le_trans HC5.out hb6.size)
            clear hu6
            go_wp2_with fail
            refine hK.out _ _ (hHeld.trans (hb6.mono HC5.out)) (fun hHeld => ?_)
            clear hK K
            try simp only [Act.put, List.setIfInBounds_toArray, List.set_cons_zero, List.set_cons_succ]
            refine wpAnyH_ready (rs := [16]) (by kernel_rfl) (by simp) ?_
            refine allReadyH_consL rfl fun K hK => ?_
            rw [if_pos (by rfl)]
            go_simp
            refine hK.out _ _ (hHeld.alloc HC6.out _) (fun hHeld => ?_)
            clear hK K
            try simp only [Act.put, List.setIfInBounds_toArray, List.set_cons_zero, List.set_cons_succ]
            refine wpAnyH_ready (rs := [17]) (by kernel_rfl) (by simp) ?_
            refine allReadyH_consL rfl fun K hK => ?_
            have hal6 : Below w6.heap.size w6 (w6.alloc (.cells #[.slice (some ⟨gu6, 0, none⟩) n2 cu6] 27)) := (Below.refl _ _).alloc (Nat.le_refl _) _
            have HS6 := Lib.hid ((HS5.out.on hb6).on hal6)
            have HT6 := Lib.hid ((HT5.out.on hb6).on hal6)
            have HX6 := Lib.hid (HTX6.out.on hal6)
            clear HS5 HT5 HTX6
            refine step_append_text rfl _ _ rfl C _ tsl (by kernel_rfl) HT6.out w6.heap.size _ tx2 HX6.out (heap_alloc_new _ _) (by kernel_rfl) (by rw [HTLN.out]; omega) (by have := HC6.out; simp; omega) ?_
            intro v7 w7 htl7 hg7 hf7
            have hs7 := hg7.size
            obtain ⟨T7, tc7, rfl, _, _⟩ := htl7.form (n := j + 1) (by rw [List.length_append, HTLN.out]; rfl)
            have HS7 := Lib.hid (HS6.out.apart HT6.out hg7 HF5.out)
            have HT7 := Lib.hid htl7
            have HNE7 := Lib.hid (show ∀ g, (Value.slice S5 (j + 1) sc5).ownBlock = some g → (Value.slice T7 (j + 1) tc7).ownBlock ≠ some g from fun g hg e => by
              rcases hf7 g e with h | h
              · exact HF5.out g hg h
              · have := (HS6.out.inside g hg).2
                omega)
            have HC7 := Lib.hid (show C ≤ w7.heap.size from by have := HC6.out; simp at hs7; omega)
            have HTI6 := Lib.hid (fun k hk => (HT6.out.inside k hk).1)
            clear htl7 hf7 hs7 hal6 HX6 HT6 HF5
            refine hK.out _ _ (hHeld.grown hg7 (by have := HC6.out; simp; omega) HTI6.out) (fun hHeld => ?_)
            clear hK K
            try simp only [Act.put, List.setIfInBounds_toArray, List.set_cons_zero, List.set_cons_succ]
            refine wpAnyH_takeL (i := 18) (v := .slice S5 (j + 1) sc5) rfl (by kernel_rfl) (by kernel_rfl) (by kernel_rfl) (fun _ _ _ h => h) (Or.inl ⟨by rfl, fun W hW => by go_simp⟩) hHeld ?_
            simp only [Act.put, List.setIfInBounds_toArray, List.set_cons_zero, List.set_cons_succ]
            refine wpAnyH_takeL (i := 19) (v := .slice T7 (j + 1) tc7) rfl (by kernel_rfl) (by kernel_rfl) (by kernel_rfl) (fun _ _ _ h => h) (Or.inl ⟨by rfl, fun W hW => by go_simp⟩) hHeld ?_
            simp only [Act.put, List.setIfInBounds_toArray, List.set_cons_zero, List.set_cons_succ]
            refine wpAnyH_done (by kernel_rfl) ?_ _
            have HR7 := Lib.hid (fun W (hb : Below w7.heap.size w7 W) => HRG.out W (hHeld.trans (hb.mono HC7.out)))
            go_wp2_with fail
            refine wp_region_loose 12 2 (fun i => false) (promises [.is (.agg XA), .is (.slice (some ⟨b1, o1, none⟩) m c), .is (.int .i64 (j : Int)), .is (.pointer (some ⟨b1, o1 + j * 32, none⟩)), .is (.agg XX), .is (.agg R1), .is (.agg XB), .is (.slice (some ⟨b2, o2, none⟩) m d), .is (.int .i64 (j : Int)), .is (.pointer (some ⟨b2, o2 + j * 32, none⟩)), .is (.agg XY), .is (.agg R2)]) (by kernel_rfl) rfl (by kernel_rfl) (fun i v w w' h hb => Spec.keep h hb) ⟨?_, ?_, ?_, ?_, ?_, ?_, ?_, ?_, ?_, ?_, ?_, ?_, trivial⟩ ?_
            · refine StepOKl.of ?_
              intro ac w hb hu hk
              refine ⟨wanted_none rfl, ?_⟩
              have e8 : ac.eval (.tmp 8) = .pointer (some ⟨g8, 0, none⟩) := hu.is (t := 8) (by kernel_rfl)
              refine step_value (w' := w) (v := .agg XA) (run_load_hash (.tmp 8) rfl g8 (0) e8 ca HCAL.out (HR7.out w hb).1 HXA.out) (Below.refl _ _) rfl
            · refine StepOKl.of ?_
              intro ac w hb hu hk
              refine ⟨wanted_none rfl, ?_⟩
              have e4 : ac.eval (.tmp 4) = .slice (some ⟨b1, o1, none⟩) m c := hu.is (t := 4) (by kernel_rfl)
              exact step_value (BigFrame.run_move (.tmp 4) rfl w) (Below.refl _ _) e4
            · refine StepOKl.of ?_
              intro ac w hb hu hk
              refine ⟨wanted_none rfl, ?_⟩
              have e20 : ac.eval (.tmp 20) = .int .i64 (j : Int) := hu.is (t := 20) (by kernel_rfl)
              exact step_value (BigFrame.run_move (.tmp 20) rfl w) (Below.refl _ _) e20
            · refine StepOKl.of ?_
              intro ac w hb hu hk
              refine ⟨wanted_none rfl, ?_⟩
              have e88 : ac.eval (.tmp 88) = (.slice (some ⟨b1, o1, none⟩) m c) := (hk ⟨1, .data⟩ (by simp) rfl).is rfl rfl
              have e89 : ac.eval (.tmp 89) = (.int .i64 (j : Int)) := (hk ⟨2, .data⟩ (by simp) rfl).is rfl rfl
              refine step_value (w' := w) (v := (.pointer (some ⟨b1, o1 + j * 32, none⟩))) ?_ (Below.refl _ _) rfl
              generalize ac.eval = ρ at e88 e89 ⊢
              go_simp
            · refine StepOKl.of ?_
              intro ac w hb hu hk
              refine ⟨wanted_none rfl, ?_⟩
              have e90 : ac.eval (.tmp 90) = (.pointer (some ⟨b1, o1 + j * 32, none⟩)) := (hk ⟨3, .data⟩ (by simp) rfl).is rfl rfl
              refine step_value (w' := w) (v := .agg XX) (run_load_hash (.tmp 90) rfl b1 (o1 + j * 32) e90 x HXL.out (HR7.out w hb).2.2.1 HXX.out) (Below.refl _ _) rfl
            · refine StepOKl.of ?_
              intro ac w hb hu hk
              refine ⟨wanted_none rfl, ?_⟩
              have e87 : ac.eval (.tmp 87) = (.agg XA) := (hk ⟨0, .data⟩ (by simp) rfl).is rfl rfl
              have e91 : ac.eval (.tmp 91) = (.agg XX) := (hk ⟨4, .data⟩ (by simp) rfl).is rfl rfl
              have ef : ac.eval (.func 27) = .func (.func 27) #[] #[] := rfl
              refine step_enter (f := 27) (args := #[.agg XA, .agg XX]) ?_ ?_
              · generalize ac.eval = ρ at e87 e91 ef ⊢
                go_simp
              · exact (HND1.out w).mono fun e w' ⟨he, hq⟩ => ⟨_, he, rfl, hq⟩
            · refine StepOKl.of ?_
              intro ac w hb hu hk
              refine ⟨wanted_none rfl, ?_⟩
              have e9 : ac.eval (.tmp 9) = .pointer (some ⟨g9, 0, none⟩) := hu.is (t := 9) (by kernel_rfl)
              refine step_value (w' := w) (v := .agg XB) (run_load_hash (.tmp 9) rfl g9 (0) e9 cb HCBL.out (HR7.out w hb).2.1 HXB.out) (Below.refl _ _) rfl
            · refine StepOKl.of ?_
              intro ac w hb hu hk
              refine ⟨wanted_none rfl, ?_⟩
              have e5 : ac.eval (.tmp 5) = .slice (some ⟨b2, o2, none⟩) m d := hu.is (t := 5) (by kernel_rfl)
              exact step_value (BigFrame.run_move (.tmp 5) rfl w) (Below.refl _ _) e5
            · refine StepOKl.of ?_
              intro ac w hb hu hk
              refine ⟨wanted_none rfl, ?_⟩
              have e20 : ac.eval (.tmp 20) = .int .i64 (j : Int) := hu.is (t := 20) (by kernel_rfl)
              exact step_value (BigFrame.run_move (.tmp 20) rfl w) (Below.refl _ _) e20
            · refine StepOKl.of ?_
              intro ac w hb hu hk
              refine ⟨wanted_none rfl, ?_⟩
              have e94 : ac.eval (.tmp 94) = (.slice (some ⟨b2, o2, none⟩) m d) := (hk ⟨7, .data⟩ (by simp) rfl).is rfl rfl
              have e95 : ac.eval (.tmp 95) = (.int .i64 (j : Int)) := (hk ⟨8, .data⟩ (by simp) rfl).is rfl rfl
              refine step_value (w' := w) (v := (.pointer (some ⟨b2, o2 + j * 32, none⟩))) ?_ (Below.refl _ _) rfl
              generalize ac.eval = ρ at e94 e95 ⊢
              go_simp
            · refine StepOKl.of ?_
              intro ac w hb hu hk
              refine ⟨wanted_none rfl, ?_⟩
              have e96 : ac.eval (.tmp 96) = (.pointer (some ⟨b2, o2 + j * 32, none⟩)) := (hk ⟨9, .data⟩ (by simp) rfl).is rfl rfl
              refine step_value (w' := w) (v := .agg XY) (run_load_hash (.tmp 96) rfl b2 (o2 + j * 32) e96 y HYL.out (HR7.out w hb).2.2.2 HXY.out) (Below.refl _ _) rfl
            · refine StepOKl.of ?_
              intro ac w hb hu hk
              refine ⟨wanted_none rfl, ?_⟩
              have e93 : ac.eval (.tmp 93) = (.agg XB) := (hk ⟨6, .data⟩ (by simp) rfl).is rfl rfl
              have e97 : ac.eval (.tmp 97) = (.agg XY) := (hk ⟨10, .data⟩ (by simp) rfl).is rfl rfl
              have ef : ac.eval (.func 27) = .func (.func 27) #[] #[] := rfl
              refine step_enter (f := 27) (args := #[.agg XB, .agg XY]) ?_ ?_
              · generalize ac.eval = ρ at e93 e97 ef ⊢
                go_simp
              · exact (HND2.out w).mono fun e w' ⟨he, hq⟩ => ⟨_, he, rfl, hq⟩
            · intro ac w' hb hu hk hap
              obtain ⟨_, h87, rfl⟩ := (hk 0 (by decide)).put rfl rfl
              obtain ⟨_, h88, rfl⟩ := (hk 1 (by decide)).put rfl rfl
              obtain ⟨_, h89, rfl⟩ := (hk 2 (by decide)).put rfl rfl
              obtain ⟨_, h90, rfl⟩ := (hk 3 (by decide)).put rfl rfl
              obtain ⟨_, h91, rfl⟩ := (hk 4 (by decide)).put rfl rfl
              obtain ⟨_, h92, rfl⟩ := (hk 5 (by decide)).put rfl rfl
              obtain ⟨_, h93, rfl⟩ := (hk 6 (by decide)).put rfl rfl
              obtain ⟨_, h94, rfl⟩ := (hk 7 (by decide)).put rfl rfl
              obtain ⟨_, h95, rfl⟩ := (hk 8 (by decide)).put rfl rfl
              obtain ⟨_, h96, rfl⟩ := (hk 9 (by decide)).put rfl rfl
              obtain ⟨_, h97, rfl⟩ := (hk 10 (by decide)).put rfl rfl
              obtain ⟨_, h98, rfl⟩ := (hk 11 (by decide)).put rfl rfl
              clear hap
              have hF : AllPuts ac.tmps ((87, _) :: (88, _) :: (89, _) :: (90, _) :: (91, _) :: (92, _) :: (93, _) :: (94, _) :: (95, _) :: (96, _) :: (97, _) :: (98, _) :: []) := ⟨h87, h88, h89, h90, h91, h92, h93, h94, h95, h96, h97, h98, trivial⟩
              obtain rfl := frame_puts hu (by kernel_rfl) hF
              simp only [puts, Act.put, List.setIfInBounds_toArray, List.set_cons_zero, List.set_cons_succ, List.drop_succ_cons, List.drop_zero]
              clear hk hu hF h87 h88 h89 h90 h91 h92 h93 h94 h95 h96 h97 h98
              have hgx := HGX.out
              have hgc := HGC.out
              have hw7 : Below C wr w' := hHeld.trans (hb.mono HC7.out)
              have hA' : Blk w' g8 XA 25 := by rw [← HXA.out]; exact HA.out.below hw7 hgc.1
              have hB' : Blk w' g9 XB 25 := by rw [← HXB.out]; exact HB.out.below hw7 hgc.2.1
              have h12' := H12.out.below hw7 hgc.2.2
              have hB2 : Blk (w'.setRow g8 R1) g9 XB 25 := hB'.rowOther (by omega) _
              have HS8 := Lib.hid ((HS7.out.on hb).row hgc.1 hA' R1)
              have HT8 := Lib.hid ((HT7.out.on hb).row hgc.1 hA' R1)
              have HS9 := Lib.hid (HS8.out.row hgc.2.1 hB2 R2)
              have HT9 := Lib.hid (HT8.out.row hgc.2.1 hB2 R2)
              rw [← HW1.out] at HS9
              rw [← HW2.out] at HT9
              have HA9 := Lib.hid (show Blk ((w'.setRow g8 R1).setRow g9 R2) g8 (u8A (climbH I a (p.take (j + 1)))) 25 by
                rw [HRE1.out]; exact (hA'.row R1).rowOther (by omega) _)
              have HB9 := Lib.hid (show Blk ((w'.setRow g8 R1).setRow g9 R2) g9 (u8A (climbH I b (q.take (j + 1)))) 25 by
                rw [HRE2.out]; exact hB2.row R2)
              have H129 := Lib.hid (show Blk ((w'.setRow g8 R1).setRow g9 R2) g12 #[Value.slice none 0 0, Value.slice none 0 0] 41 from (h12'.rowOther (by omega) _).rowOther (by omega) _)
              have hbw : Below w.heap.size w w' := hbel.trans (hw7.mono hwC)
              have hb9 : Below w.heap.size w ((w'.setRow g8 R1).setRow g9 R2) := below_row (below_row hbw hbw.size (by omega) _) (below_row hbw hbw.size (by omega) _).size (by omega) _
              have hC9 : C ≤ ((w'.setRow g8 R1).setRow g9 R2).heap.size := by
                have h1 := HC7.out
                have h2 := hb.size
                simp [World.setRow]
                omega
              have HA8 := Lib.hid hA'
              have HB8 := Lib.hid hB2
              clear hgx hgc hw7 hA' hB' h12' hB2 hbw HS8 HT8 HS7 HT7 HA HB H12 hbel hHeld hb HRG HR7 HND1 HND2 HT1 HT2 hCw
              go_wp2_with (first
                | (with_reducible refine wpList_store_blk rfl 25 (.tmp 8) (.tmp 92) rfl g8 R1 rfl rfl 25 XA HA8.out (by rw [HRZ.out.1]; kernel_rfl) (by rw [HRZ.out.1]; exact HXZ4.out.1) HRO.out.1 ?_)
                | (with_reducible refine wpList_store_blk rfl 25 (.tmp 9) (.tmp 98) rfl g9 R2 rfl rfl 25 XB HB8.out (by rw [HRZ.out.2]; kernel_rfl) (by rw [HRZ.out.2]; exact HXZ4.out.2) HRO.out.2 ?_))
              go_roundw
              case rel => exact ⟨j + 1, pI / 2, hjm, by go_num, by go_num, HP2, by omega, HA9, HB9, H129, HS9, HT9, HNE7, hb9, hC9⟩
              case measure => simp [intOf]; omega
          · have hei : ¬ (pI : Int) % 2 = 0 := by omega
            have HTX1 := Lib.hid (show tree.text nodeT pI ca x = nodeT x ca from if_neg he)
            have HTX2 := Lib.hid (show tree.text nodeT pI cb y = nodeT y cb from if_neg he)
            rw [HTX1.out] at HW1 HN1
            rw [HTX2.out] at HW2 HN2
            obtain ⟨tx1, htx1⟩ : ∃ t, nodeT x ca = t := ⟨_, rfl⟩
            obtain ⟨tx2, htx2⟩ : ∃ t, nodeT y cb = t := ⟨_, rfl⟩
            obtain ⟨n1, hn1⟩ : ∃ k, tx1.length = k := ⟨_, rfl⟩
            obtain ⟨n2, hn2⟩ : ∃ k, tx2.length = k := ⟨_, rfl⟩
            have HT1 := Lib.hid (fun W => (show Calls Tryd.prog 50 #[.agg XX, .agg XA] W fun e W' => ∃ v, e = .returned v ∧ OwnM W' W.heap.size 5 v n1 tx1 ∧ Below W.heap.size W W' from by
              rw [← HXX.out, ← HXA.out, ← hn1, ← htx1]
              exact rnodetext_own x ca W HXL.out HCAL.out))
            have HT2 := Lib.hid (fun W => (show Calls Tryd.prog 50 #[.agg XY, .agg XB] W fun e W' => ∃ v, e = .returned v ∧ OwnM W' W.heap.size 5 v n2 tx2 ∧ Below W.heap.size W W' from by
              rw [← HXY.out, ← HXB.out, ← hn2, ← htx2]
              exact rnodetext_own y cb W HYL.out HCBL.out))
            rw [htx1] at HW1
            rw [htx2] at HW2
            have HNN := Lib.hid (show tx1.length = n1 ∧ tx2.length = n2 from ⟨hn1, hn2⟩)
            obtain ⟨R1, hR1⟩ : ∃ R, u8A (shaL tx1) = R := ⟨_, rfl⟩
            obtain ⟨R2, hR2⟩ : ∃ R, u8A (shaL tx2) = R := ⟨_, rfl⟩
            have HRE1 := Lib.hid (show u8A (climbH I a (p.take (j + 1))) = R1 by rw [HN1.out, htx1]; exact hR1)
            have HRE2 := Lib.hid (show u8A (climbH I b (q.take (j + 1))) = R2 by rw [HN2.out, htx2]; exact hR2)
            have HRZ := Lib.hid (show R1.size = 32 ∧ R2.size = 32 from ⟨by rw [← hR1, u8A_size]; exact outTo_len _ 8 (by omega), by rw [← hR2, u8A_size]; exact outTo_len _ 8 (by omega)⟩)
            have HRO := Lib.hid (show R1.all (·.oneCell') = true ∧ R2.all (·.oneCell') = true from ⟨by rw [← hR1]; exact u8A_one _, by rw [← hR2]; exact u8A_one _⟩)
            have HXZ4 := Lib.hid (show XA.size = 32 ∧ XB.size = 32 from ⟨by rw [← HXA.out, u8A_size]; exact HCAL.out, by rw [← HXB.out, u8A_size]; exact HCBL.out⟩)
            have HND1 := Lib.hid (fun W => (show Calls Tryd.prog 27 #[.agg XX, .agg XA] W fun e W' => e = .returned (.agg R1) ∧ Below W.heap.size W W' from by
              rw [← HXX.out, ← HXA.out, ← hR1, ← htx1]
              exact rnode_any x ca W HXL.out HCAL.out))
            have HND2 := Lib.hid (fun W => (show Calls Tryd.prog 27 #[.agg XY, .agg XB] W fun e W' => e = .returned (.agg R2) ∧ Below W.heap.size W W' from by
              rw [← HXY.out, ← HXB.out, ← hR2, ← htx2]
              exact rnode_any y cb W HYL.out HCBL.out))
            clear hR1 hR2
            clear hn1 hn2 htx1 htx2
            go_wp2_with fail
            refine wp_region_held_drew (S := fun W => Below C wr W) (by kernel_rfl) ((Below.refl _ _).drew) (fun hHeld => ?_)
            refine wpAnyH_takeL (i := 0) (v := .slice S1 j sc) rfl (by kernel_rfl) (by kernel_rfl) (by kernel_rfl) (fun _ _ _ h => h) (Or.inl ⟨by rfl, fun W hW => by go_simp⟩) hHeld ?_
            simp only [Act.put, List.setIfInBounds_toArray, List.set_cons_zero, List.set_cons_succ]
            refine wpAnyH_takeL (i := 9) (v := .slice T1 j tc) rfl (by kernel_rfl) (by kernel_rfl) (by kernel_rfl) (fun _ _ _ h => h) (Or.inl ⟨by rfl, fun W hW => by go_simp⟩) hHeld ?_
            simp only [Act.put, List.setIfInBounds_toArray, List.set_cons_zero, List.set_cons_succ]
            refine wpAnyH_takeL (i := 1) (v := .slice (some ⟨b1, o1, none⟩) m c) rfl (by kernel_rfl) (by kernel_rfl) (by kernel_rfl) (fun _ _ _ h => h) (Or.inl ⟨by rfl, fun W hW => by go_simp⟩) hHeld ?_
            simp only [Act.put, List.setIfInBounds_toArray, List.set_cons_zero, List.set_cons_succ]
            refine wpAnyH_takeL (i := 2) (v := .int .i64 (j : Int)) rfl (by kernel_rfl) (by kernel_rfl) (by kernel_rfl) (fun _ _ _ h => h) (Or.inl ⟨by rfl, fun W hW => by go_simp⟩) hHeld ?_
            simp only [Act.put, List.setIfInBounds_toArray, List.set_cons_zero, List.set_cons_succ]
            refine wpAnyH_takeL (i := 3) (v := .pointer (some ⟨b1, o1 + j * 32, none⟩)) rfl (by kernel_rfl) (by kernel_rfl) (by kernel_rfl) (fun _ _ _ h => h) (Or.inl ⟨by rfl, fun W hW => by go_simp⟩) hHeld ?_
            simp only [Act.put, List.setIfInBounds_toArray, List.set_cons_zero, List.set_cons_succ]
            refine wpAnyH_takeL (i := 10) (v := .slice (some ⟨b2, o2, none⟩) m d) rfl (by kernel_rfl) (by kernel_rfl) (by kernel_rfl) (fun _ _ _ h => h) (Or.inl ⟨by rfl, fun W hW => by go_simp⟩) hHeld ?_
            simp only [Act.put, List.setIfInBounds_toArray, List.set_cons_zero, List.set_cons_succ]
            refine wpAnyH_takeL (i := 11) (v := .int .i64 (j : Int)) rfl (by kernel_rfl) (by kernel_rfl) (by kernel_rfl) (fun _ _ _ h => h) (Or.inl ⟨by rfl, fun W hW => by go_simp⟩) hHeld ?_
            simp only [Act.put, List.setIfInBounds_toArray, List.set_cons_zero, List.set_cons_succ]
            refine wpAnyH_takeL (i := 12) (v := .pointer (some ⟨b2, o2 + j * 32, none⟩)) rfl (by kernel_rfl) (by kernel_rfl) (by kernel_rfl) (fun _ _ _ h => h) (Or.inl ⟨by rfl, fun W hW => by go_simp⟩) hHeld ?_
            simp only [Act.put, List.setIfInBounds_toArray, List.set_cons_zero, List.set_cons_succ]
            refine wpAnyH_takeL (i := 5) (v := .agg XA) rfl (by kernel_rfl) (by kernel_rfl) (by kernel_rfl) (fun _ _ _ h => h) ?_ hHeld ?_
            · exact yieldsIf_load_hash (by rfl) (.tmp 8) rfl g8 (0) (by kernel_rfl) ca HCAL.out (fun W hW => (HRG.out W hW).1) XA HXA.out
            simp only [Act.put, List.setIfInBounds_toArray, List.set_cons_zero, List.set_cons_succ]
            refine wpAnyH_takeL (i := 4) (v := .agg XX) rfl (by kernel_rfl) (by kernel_rfl) (by kernel_rfl) (fun _ _ _ h => h) ?_ hHeld ?_
            · exact yieldsIf_load_hash (by rfl) (.tmp 102) rfl b1 (o1 + j * 32) (by kernel_rfl) x HXL.out (fun W hW => (HRG.out W hW).2.2.1) XX HXX.out
            simp only [Act.put, List.setIfInBounds_toArray, List.set_cons_zero, List.set_cons_succ]
            refine wpAnyH_takeL (i := 14) (v := .agg XB) rfl (by kernel_rfl) (by kernel_rfl) (by kernel_rfl) (fun _ _ _ h => h) ?_ hHeld ?_
            · exact yieldsIf_load_hash (by rfl) (.tmp 9) rfl g9 (0) (by kernel_rfl) cb HCBL.out (fun W hW => (HRG.out W hW).2.1) XB HXB.out
            simp only [Act.put, List.setIfInBounds_toArray, List.set_cons_zero, List.set_cons_succ]
            refine wpAnyH_takeL (i := 13) (v := .agg XY) rfl (by kernel_rfl) (by kernel_rfl) (by kernel_rfl) (fun _ _ _ h => h) ?_ hHeld ?_
            · exact yieldsIf_load_hash (by rfl) (.tmp 111) rfl b2 (o2 + j * 32) (by kernel_rfl) y HYL.out (fun W hW => (HRG.out W hW).2.2.2) XY HXY.out
            simp only [Act.put, List.setIfInBounds_toArray, List.set_cons_zero, List.set_cons_succ]
            refine wpAnyH_ready (rs := [6]) (by kernel_rfl) (by simp) ?_
            refine allReadyH_consL rfl fun K hK => ?_
            rw [if_pos (by rfl)]
            go_simp
            with_reducible refine (HT1.out _).mono ?_
            rintro e w4 ⟨u4, rfl, hu4, hb4⟩
            have HTX4 := Lib.hid (TxV.of hu4)
            obtain ⟨gu4, cu4, rfl, _, _⟩ := ownM_form hu4
            have hq4 : Below wr.heap.size wr w4 := (Below.refl _ _).drew.trans hb4
            have HC4 := Lib.hid (show C ≤ w4.heap.size from Nat.le_trans hCw hq4.size)
            clear hu4
            go_wp2_with fail
            refine hK.out _ _ (hHeld.trans (hb4.mono hCw)) (fun hHeld => ?_)
            clear hK K
            try simp only [Act.put, List.setIfInBounds_toArray, List.set_cons_zero, List.set_cons_succ]
            refine wpAnyH_ready (rs := [7]) (by kernel_rfl) (by simp) ?_
            refine allReadyH_consL rfl fun K hK => ?_
            rw [if_pos (by rfl)]
            go_simp
            refine hK.out _ _ (hHeld.alloc HC4.out _) (fun hHeld => ?_)
            clear hK K
            try simp only [Act.put, List.setIfInBounds_toArray, List.set_cons_zero, List.set_cons_succ]
            refine wpAnyH_ready (rs := [8]) (by kernel_rfl) (by simp) ?_
            refine allReadyH_consL rfl fun K hK => ?_
            have hal4 : Below w4.heap.size w4 (w4.alloc (.cells #[.slice (some ⟨gu4, 0, none⟩) n1 cu4] 27)) := (Below.refl _ _).alloc (Nat.le_refl _) _
            have HS4 := Lib.hid ((HSL.out.on hq4).on hal4)
            have HT4 := Lib.hid ((HTL.out.on hq4).on hal4)
            have HX4 := Lib.hid (HTX4.out.on hal4)
            clear HSL HTL HTX4
            refine step_append_text rfl _ _ rfl C _ ssl (by kernel_rfl) HS4.out w4.heap.size _ tx1 HX4.out (heap_alloc_new _ _) (by kernel_rfl) (by rw [HSLN.out]; omega) (by have := HC4.out; simp; omega) ?_
            intro v5 w5x hsl5 hg5 hf5
            have hs5 := hg5.size
            obtain ⟨S5, sc5, rfl, _, _⟩ := hsl5.form (n := j + 1) (by rw [List.length_append, HSLN.out]; rfl)
            have HT5 := Lib.hid (HT4.out.apart HS4.out hg5 fun g hg e => HNE.out g e hg)
            have HS5 := Lib.hid hsl5
            have HF5 := Lib.hid (show ∀ g, (Value.slice S5 (j + 1) sc5).ownBlock = some g → (Value.slice T1 j tc).ownBlock ≠ some g from fun g hg e => by
              rcases hf5 g hg with h | h
              · exact HNE.out g h e
              · have := (HT4.out.inside g e).2
                omega)
            have HC5 := Lib.hid (show C ≤ w5x.heap.size from by have := HC4.out; simp at hs5; omega)
            have HSI4 := Lib.hid (fun k hk => (HS4.out.inside k hk).1)
            clear hsl5 hf5 hs5 hal4 HX4 HT4 HNE
            refine hK.out _ _ (hHeld.grown hg5 (by have := HC4.out; simp; omega) HSI4.out) (fun hHeld => ?_)
            clear hK K
            try simp only [Act.put, List.setIfInBounds_toArray, List.set_cons_zero, List.set_cons_succ]
            refine wpAnyH_ready (rs := [15]) (by kernel_rfl) (by simp) ?_
            refine allReadyH_consL rfl fun K hK => ?_
            rw [if_pos (by rfl)]
            go_simp
            with_reducible refine (HT2.out _).mono ?_
            rintro e w6 ⟨u6, rfl, hu6, hb6⟩
            have HTX6 := Lib.hid (TxV.of hu6)
            obtain ⟨gu6, cu6, rfl, _, _⟩ := ownM_form hu6
            have HC6 := Lib.hid (show C ≤ w6.heap.size from Nat.le_trans HC5.out hb6.size)
            clear hu6
            go_wp2_with fail
            refine hK.out _ _ (hHeld.trans (hb6.mono HC5.out)) (fun hHeld => ?_)
            clear hK K
            try simp only [Act.put, List.setIfInBounds_toArray, List.set_cons_zero, List.set_cons_succ]
            refine wpAnyH_ready (rs := [16]) (by kernel_rfl) (by simp) ?_
            refine allReadyH_consL rfl fun K hK => ?_
            rw [if_pos (by rfl)]
            go_simp
            refine hK.out _ _ (hHeld.alloc HC6.out _) (fun hHeld => ?_)
            clear hK K
            try simp only [Act.put, List.setIfInBounds_toArray, List.set_cons_zero, List.set_cons_succ]
            refine wpAnyH_ready (rs := [17]) (by kernel_rfl) (by simp) ?_
            refine allReadyH_consL rfl fun K hK => ?_
            have hal6 : Below w6.heap.size w6 (w6.alloc (.cells #[.slice (some ⟨gu6, 0, none⟩) n2 cu6] 27)) := (Below.refl _ _).alloc (Nat.le_refl _) _
            have HS6 := Lib.hid ((HS5.out.on hb6).on hal6)
            have HT6 := Lib.hid ((HT5.out.on hb6).on hal6)
            have HX6 := Lib.hid (HTX6.out.on hal6)
            clear HS5 HT5 HTX6
            refine step_append_text rfl _ _ rfl C _ tsl (by kernel_rfl) HT6.out w6.heap.size _ tx2 HX6.out (heap_alloc_new _ _) (by kernel_rfl) (by rw [HTLN.out]; omega) (by have := HC6.out; simp; omega) ?_
            intro v7 w7 htl7 hg7 hf7
            have hs7 := hg7.size
            obtain ⟨T7, tc7, rfl, _, _⟩ := htl7.form (n := j + 1) (by rw [List.length_append, HTLN.out]; rfl)
            have HS7 := Lib.hid (HS6.out.apart HT6.out hg7 HF5.out)
            have HT7 := Lib.hid htl7
            have HNE7 := Lib.hid (show ∀ g, (Value.slice S5 (j + 1) sc5).ownBlock = some g → (Value.slice T7 (j + 1) tc7).ownBlock ≠ some g from fun g hg e => by
              rcases hf7 g e with h | h
              · exact HF5.out g hg h
              · have := (HS6.out.inside g hg).2
                omega)
            have HC7 := Lib.hid (show C ≤ w7.heap.size from by have := HC6.out; simp at hs7; omega)
            have HTI6 := Lib.hid (fun k hk => (HT6.out.inside k hk).1)
            clear htl7 hf7 hs7 hal6 HX6 HT6 HF5
            refine hK.out _ _ (hHeld.grown hg7 (by have := HC6.out; simp; omega) HTI6.out) (fun hHeld => ?_)
            clear hK K
            try simp only [Act.put, List.setIfInBounds_toArray, List.set_cons_zero, List.set_cons_succ]
            refine wpAnyH_takeL (i := 18) (v := .slice S5 (j + 1) sc5) rfl (by kernel_rfl) (by kernel_rfl) (by kernel_rfl) (fun _ _ _ h => h) (Or.inl ⟨by rfl, fun W hW => by go_simp⟩) hHeld ?_
            simp only [Act.put, List.setIfInBounds_toArray, List.set_cons_zero, List.set_cons_succ]
            refine wpAnyH_takeL (i := 19) (v := .slice T7 (j + 1) tc7) rfl (by kernel_rfl) (by kernel_rfl) (by kernel_rfl) (fun _ _ _ h => h) (Or.inl ⟨by rfl, fun W hW => by go_simp⟩) hHeld ?_
            simp only [Act.put, List.setIfInBounds_toArray, List.set_cons_zero, List.set_cons_succ]
            refine wpAnyH_done (by kernel_rfl) ?_ _
            have HR7 := Lib.hid (fun W (hb : Below w7.heap.size w7 W) => HRG.out W (hHeld.trans (hb.mono HC7.out)))
            go_wp2_with fail
            refine wp_region_loose 12 2 (fun i => false) (promises [.is (.slice (some ⟨b1, o1, none⟩) m c), .is (.int .i64 (j : Int)), .is (.pointer (some ⟨b1, o1 + j * 32, none⟩)), .is (.agg XX), .is (.agg XA), .is (.agg R1), .is (.slice (some ⟨b2, o2, none⟩) m d), .is (.int .i64 (j : Int)), .is (.pointer (some ⟨b2, o2 + j * 32, none⟩)), .is (.agg XY), .is (.agg XB), .is (.agg R2)]) (by kernel_rfl) rfl (by kernel_rfl) (fun i v w w' h hb => Spec.keep h hb) ⟨?_, ?_, ?_, ?_, ?_, ?_, ?_, ?_, ?_, ?_, ?_, ?_, trivial⟩ ?_
            · refine StepOKl.of ?_
              intro ac w hb hu hk
              refine ⟨wanted_none rfl, ?_⟩
              have e4 : ac.eval (.tmp 4) = .slice (some ⟨b1, o1, none⟩) m c := hu.is (t := 4) (by kernel_rfl)
              exact step_value (BigFrame.run_move (.tmp 4) rfl w) (Below.refl _ _) e4
            · refine StepOKl.of ?_
              intro ac w hb hu hk
              refine ⟨wanted_none rfl, ?_⟩
              have e20 : ac.eval (.tmp 20) = .int .i64 (j : Int) := hu.is (t := 20) (by kernel_rfl)
              exact step_value (BigFrame.run_move (.tmp 20) rfl w) (Below.refl _ _) e20
            · refine StepOKl.of ?_
              intro ac w hb hu hk
              refine ⟨wanted_none rfl, ?_⟩
              have e117 : ac.eval (.tmp 117) = (.slice (some ⟨b1, o1, none⟩) m c) := (hk ⟨0, .data⟩ (by simp) rfl).is rfl rfl
              have e118 : ac.eval (.tmp 118) = (.int .i64 (j : Int)) := (hk ⟨1, .data⟩ (by simp) rfl).is rfl rfl
              refine step_value (w' := w) (v := (.pointer (some ⟨b1, o1 + j * 32, none⟩))) ?_ (Below.refl _ _) rfl
              generalize ac.eval = ρ at e117 e118 ⊢
              go_simp
            · refine StepOKl.of ?_
              intro ac w hb hu hk
              refine ⟨wanted_none rfl, ?_⟩
              have e119 : ac.eval (.tmp 119) = (.pointer (some ⟨b1, o1 + j * 32, none⟩)) := (hk ⟨2, .data⟩ (by simp) rfl).is rfl rfl
              refine step_value (w' := w) (v := .agg XX) (run_load_hash (.tmp 119) rfl b1 (o1 + j * 32) e119 x HXL.out (HR7.out w hb).2.2.1 HXX.out) (Below.refl _ _) rfl
            · refine StepOKl.of ?_
              intro ac w hb hu hk
              refine ⟨wanted_none rfl, ?_⟩
              have e8 : ac.eval (.tmp 8) = .pointer (some ⟨g8, 0, none⟩) := hu.is (t := 8) (by kernel_rfl)
              refine step_value (w' := w) (v := .agg XA) (run_load_hash (.tmp 8) rfl g8 (0) e8 ca HCAL.out (HR7.out w hb).1 HXA.out) (Below.refl _ _) rfl
            · refine StepOKl.of ?_
              intro ac w hb hu hk
              refine ⟨wanted_none rfl, ?_⟩
              have e120 : ac.eval (.tmp 120) = (.agg XX) := (hk ⟨3, .data⟩ (by simp) rfl).is rfl rfl
              have e121 : ac.eval (.tmp 121) = (.agg XA) := (hk ⟨4, .data⟩ (by simp) rfl).is rfl rfl
              have ef : ac.eval (.func 27) = .func (.func 27) #[] #[] := rfl
              refine step_enter (f := 27) (args := #[.agg XX, .agg XA]) ?_ ?_
              · generalize ac.eval = ρ at e120 e121 ef ⊢
                go_simp
              · exact (HND1.out w).mono fun e w' ⟨he, hq⟩ => ⟨_, he, rfl, hq⟩
            · refine StepOKl.of ?_
              intro ac w hb hu hk
              refine ⟨wanted_none rfl, ?_⟩
              have e5 : ac.eval (.tmp 5) = .slice (some ⟨b2, o2, none⟩) m d := hu.is (t := 5) (by kernel_rfl)
              exact step_value (BigFrame.run_move (.tmp 5) rfl w) (Below.refl _ _) e5
            · refine StepOKl.of ?_
              intro ac w hb hu hk
              refine ⟨wanted_none rfl, ?_⟩
              have e20 : ac.eval (.tmp 20) = .int .i64 (j : Int) := hu.is (t := 20) (by kernel_rfl)
              exact step_value (BigFrame.run_move (.tmp 20) rfl w) (Below.refl _ _) e20
            · refine StepOKl.of ?_
              intro ac w hb hu hk
              refine ⟨wanted_none rfl, ?_⟩
              have e123 : ac.eval (.tmp 123) = (.slice (some ⟨b2, o2, none⟩) m d) := (hk ⟨6, .data⟩ (by simp) rfl).is rfl rfl
              have e124 : ac.eval (.tmp 124) = (.int .i64 (j : Int)) := (hk ⟨7, .data⟩ (by simp) rfl).is rfl rfl
              refine step_value (w' := w) (v := (.pointer (some ⟨b2, o2 + j * 32, none⟩))) ?_ (Below.refl _ _) rfl
              generalize ac.eval = ρ at e123 e124 ⊢
              go_simp
            · refine StepOKl.of ?_
              intro ac w hb hu hk
              refine ⟨wanted_none rfl, ?_⟩
              have e125 : ac.eval (.tmp 125) = (.pointer (some ⟨b2, o2 + j * 32, none⟩)) := (hk ⟨8, .data⟩ (by simp) rfl).is rfl rfl
              refine step_value (w' := w) (v := .agg XY) (run_load_hash (.tmp 125) rfl b2 (o2 + j * 32) e125 y HYL.out (HR7.out w hb).2.2.2 HXY.out) (Below.refl _ _) rfl
            · refine StepOKl.of ?_
              intro ac w hb hu hk
              refine ⟨wanted_none rfl, ?_⟩
              have e9 : ac.eval (.tmp 9) = .pointer (some ⟨g9, 0, none⟩) := hu.is (t := 9) (by kernel_rfl)
              refine step_value (w' := w) (v := .agg XB) (run_load_hash (.tmp 9) rfl g9 (0) e9 cb HCBL.out (HR7.out w hb).2.1 HXB.out) (Below.refl _ _) rfl
            · refine StepOKl.of ?_
              intro ac w hb hu hk
              refine ⟨wanted_none rfl, ?_⟩
              have e126 : ac.eval (.tmp 126) = (.agg XY) := (hk ⟨9, .data⟩ (by simp) rfl).is rfl rfl
              have e127 : ac.eval (.tmp 127) = (.agg XB) := (hk ⟨10, .data⟩ (by simp) rfl).is rfl rfl
              have ef : ac.eval (.func 27) = .func (.func 27) #[] #[] := rfl
              refine step_enter (f := 27) (args := #[.agg XY, .agg XB]) ?_ ?_
              · generalize ac.eval = ρ at e126 e127 ef ⊢
                go_simp
              · exact (HND2.out w).mono fun e w' ⟨he, hq⟩ => ⟨_, he, rfl, hq⟩
            · intro ac w' hb hu hk hap
              obtain ⟨_, h117, rfl⟩ := (hk 0 (by decide)).put rfl rfl
              obtain ⟨_, h118, rfl⟩ := (hk 1 (by decide)).put rfl rfl
              obtain ⟨_, h119, rfl⟩ := (hk 2 (by decide)).put rfl rfl
              obtain ⟨_, h120, rfl⟩ := (hk 3 (by decide)).put rfl rfl
              obtain ⟨_, h121, rfl⟩ := (hk 4 (by decide)).put rfl rfl
              obtain ⟨_, h122, rfl⟩ := (hk 5 (by decide)).put rfl rfl
              obtain ⟨_, h123, rfl⟩ := (hk 6 (by decide)).put rfl rfl
              obtain ⟨_, h124, rfl⟩ := (hk 7 (by decide)).put rfl rfl
              obtain ⟨_, h125, rfl⟩ := (hk 8 (by decide)).put rfl rfl
              obtain ⟨_, h126, rfl⟩ := (hk 9 (by decide)).put rfl rfl
              obtain ⟨_, h127, rfl⟩ := (hk 10 (by decide)).put rfl rfl
              obtain ⟨_, h128, rfl⟩ := (hk 11 (by decide)).put rfl rfl
              clear hap
              have hF : AllPuts ac.tmps ((117, _) :: (118, _) :: (119, _) :: (120, _) :: (121, _) :: (122, _) :: (123, _) :: (124, _) :: (125, _) :: (126, _) :: (127, _) :: (128, _) :: []) := ⟨h117, h118, h119, h120, h121, h122, h123, h124, h125, h126, h127, h128, trivial⟩
              obtain rfl := frame_puts hu (by kernel_rfl) hF
              simp only [puts, Act.put, List.setIfInBounds_toArray, List.set_cons_zero, List.set_cons_succ, List.drop_succ_cons, List.drop_zero]
              clear hk hu hF h117 h118 h119 h120 h121 h122 h123 h124 h125 h126 h127 h128
              have hgx := HGX.out
              have hgc := HGC.out
              have hw7 : Below C wr w' := hHeld.trans (hb.mono HC7.out)
              have hA' : Blk w' g8 XA 25 := by rw [← HXA.out]; exact HA.out.below hw7 hgc.1
              have hB' : Blk w' g9 XB 25 := by rw [← HXB.out]; exact HB.out.below hw7 hgc.2.1
              have h12' := H12.out.below hw7 hgc.2.2
              have hB2 : Blk (w'.setRow g8 R1) g9 XB 25 := hB'.rowOther (by omega) _
              have HS8 := Lib.hid ((HS7.out.on hb).row hgc.1 hA' R1)
              have HT8 := Lib.hid ((HT7.out.on hb).row hgc.1 hA' R1)
              have HS9 := Lib.hid (HS8.out.row hgc.2.1 hB2 R2)
              have HT9 := Lib.hid (HT8.out.row hgc.2.1 hB2 R2)
              rw [← HW1.out] at HS9
              rw [← HW2.out] at HT9
              have HA9 := Lib.hid (show Blk ((w'.setRow g8 R1).setRow g9 R2) g8 (u8A (climbH I a (p.take (j + 1)))) 25 by
                rw [HRE1.out]; exact (hA'.row R1).rowOther (by omega) _)
              have HB9 := Lib.hid (show Blk ((w'.setRow g8 R1).setRow g9 R2) g9 (u8A (climbH I b (q.take (j + 1)))) 25 by
                rw [HRE2.out]; exact hB2.row R2)
              have H129 := Lib.hid (show Blk ((w'.setRow g8 R1).setRow g9 R2) g12 #[Value.slice none 0 0, Value.slice none 0 0] 41 from (h12'.rowOther (by omega) _).rowOther (by omega) _)
              have hbw : Below w.heap.size w w' := hbel.trans (hw7.mono hwC)
              have hb9 : Below w.heap.size w ((w'.setRow g8 R1).setRow g9 R2) := below_row (below_row hbw hbw.size (by omega) _) (below_row hbw hbw.size (by omega) _).size (by omega) _
              have hC9 : C ≤ ((w'.setRow g8 R1).setRow g9 R2).heap.size := by
                have h1 := HC7.out
                have h2 := hb.size
                simp [World.setRow]
                omega
              have HA8 := Lib.hid hA'
              have HB8 := Lib.hid hB2
              clear hgx hgc hw7 hA' hB' h12' hB2 hbw HS8 HT8 HS7 HT7 HA HB H12 hbel hHeld hb HRG HR7 HND1 HND2 HT1 HT2 hCw
              go_wp2_with (first
                | (with_reducible refine wpList_store_blk rfl 25 (.tmp 8) (.tmp 122) rfl g8 R1 rfl rfl 25 XA HA8.out (by rw [HRZ.out.1]; kernel_rfl) (by rw [HRZ.out.1]; exact HXZ4.out.1) HRO.out.1 ?_)
                | (with_reducible refine wpList_store_blk rfl 25 (.tmp 9) (.tmp 128) rfl g9 R2 rfl rfl 25 XB HB8.out (by rw [HRZ.out.2]; kernel_rfl) (by rw [HRZ.out.2]; exact HXZ4.out.2) HRO.out.2 ?_))
              go_roundw
              case rel => exact ⟨j + 1, pI / 2, hjm, by go_num, by go_num, HP2, by omega, HA9, HB9, H129, HS9, HT9, HNE7, hb9, hC9⟩
              case measure => simp [intOf]; omega
        · obtain rfl : j = m := by omega
          have hji : ¬ (j : Int) < (j : Int) := by omega
          have htp : p.take j = p := List.take_of_length_le (by rw [HM.out]; exact Nat.le_refl _)
          have htq : q.take j = q := List.take_of_length_le (by rw [HL.out]; exact Nat.le_refl _)
          rw [htp] at HSL
          rw [htq] at HTL
          have HSLN := Lib.hid (show (wayH I a p).length = j by unfold wayH; rw [tree.way_len, HM.out])
          have HTLN := Lib.hid (show (wayH I b q).length = j by unfold wayH; rw [tree.way_len, HL.out])
          have HWS := Lib.hid (show (∀ t ∈ wayH I a p, t.length ≤ 1000000) ∧ ∀ t ∈ wayH I b q, t.length ≤ 1000000 from ⟨way_small p hpl I a ha, way_small q hql I b hb⟩)
          obtain ⟨S1, sc, rfl, _, _⟩ := HSL.out.form HSLN.out
          obtain ⟨T1, tc, rfl, _, _⟩ := HTL.out.form HTLN.out
          generalize wayH I a p = ssl at *
          generalize wayH I b q = tsl at *
          clear HA HB HP HNE htp htq hp hq
          obtain ⟨wo, rfl⟩ : ∃ y : World, y = wr := ⟨_, rfl⟩
          go_wp2_with fail
          go_loopw [21] (fun t wq => ∃ (z : Int) (e : Nat), t = .int .i64 z ∧ z + 1 = (e : Int) ∧ e ≤ j ∧ Hid (∀ x ∈ (ssl.zip tsl).drop e, isBr x = false) ∧ Below wo.heap.size wo wq) (fun t _ => (intOf t + 1).toNat)
          case atStart => exact ⟨_, j, rfl, by omega, Nat.le_refl _, Lib.hid (by rw [List.drop_of_length_le (by rw [List.length_zip, HSLN.out, HTLN.out]; omega)]; intro x hx; cases hx), Below.refl _ _⟩
          case round =>
            obtain ⟨z, e, rfl, hze, hej, HNO, hbq⟩ := hrel
            have H12q := Lib.hid (H12.out.below hbq (Nat.lt_of_lt_of_le HGC.out.2.2 hCw))
            have hbw : Below w.heap.size w wr := hbel.trans (hbq.mono hbel.size)
            rcases Nat.eq_zero_or_pos e with rfl | he
            · obtain rfl : z = -1 := by omega
              have HV2 := Lib.hid (show brkV n (I : Int) a b p q = none by rw [HV1.out]; exact lastBr_none (fun x hx => HNO.out x (by simpa using hx)))
              have hc0 := H12q.out.cell 0
              have hc1 := H12q.out.cell 1
              have hf0 := H12q.out.frozen 0
              have hf1 := H12q.out.frozen 1
              simp at hc0 hc1
              clear HNO hbq
              go_wp2_with fail
              refine bodyPost_ret (v := .tuple #[.agg #[.slice none 0 0, .slice none 0 0], .bool false]) (results_cell_tmp (p := 12) (q := 13) (ty := 41) (by kernel_rfl) _ _ g12 41 _ (0, 0) _ (.bool false) rfl rfl ((H12q.out.set 0 _).set 1 _) Tryd.underlying41 rfl (by kernel_rfl)) rfl
                ⟨.slice none 0 0, .slice none 0 0, by rw [HV2.out]; rfl, by rw [HV2.out]; exact TV.nil _, by rw [HV2.out]; exact TV.nil _, (hbw.setCell (p := ⟨g12, 0, none⟩) (show w.heap.size ≤ g12 by have := HGX.out; omega) _).setCell (p := ⟨g12, 1, none⟩) (show w.heap.size ≤ g12 by have := HGX.out; omega) _⟩
            · obtain ⟨k, rfl⟩ : ∃ k, e = k + 1 := ⟨e - 1, by omega⟩
              obtain rfl : z = (k : Int) := by omega
              have hkj : (k : Int) < (j : Int) := by omega
              have hk0 : (0 : Int) ≤ (k : Int) := by omega
              have hks : k < ssl.length := by rw [HSLN.out]; omega
              have hkt : k < tsl.length := by rw [HTLN.out]; omega
              obtain ⟨gs, rfl⟩ := HSL.out.some (by omega)
              obtain ⟨gt, rfl⟩ := HTL.out.some (by omega)
              obtain ⟨hgs, A1, d1, hcs, hd1, hm1, hr1⟩ := (HSL.out.on hbq).at_ hks
              obtain ⟨hgt, A2, d2, hct, hd2, hm2, hr2⟩ := (HTL.out.on hbq).at_ hkt
              rw [Nat.zero_add] at hcs hct
              have HNX := Lib.hid (fun h => lastBr_hit hks hkt HNO.out h)
              have HDR := Lib.hid (fun (h : isBr (ssl[k], tsl[k]) = false) => (show ∀ x ∈ (ssl.zip tsl).drop k, isBr x = false from fun x hx => by
                rw [List.drop_eq_getElem_cons (by rw [List.length_zip]; omega)] at hx
                rcases List.mem_cons.1 hx with rfl | hx
                · simpa using h
                · exact HNO.out x hx))
              have HS32 := Lib.hid (show ssl[k].length ≤ 1000000 ∧ tsl[k].length ≤ 1000000 from ⟨HWS.out.1 _ (List.getElem_mem _), HWS.out.2 _ (List.getElem_mem _)⟩)
              obtain ⟨s, hs⟩ : ∃ s, ssl[k] = s := ⟨_, rfl⟩
              obtain ⟨t, ht⟩ : ∃ t, tsl[k] = t := ⟨_, rfl⟩
              rw [hs] at hcs hr1 hd1 HNX HDR HS32
              rw [ht] at hct hr2 hd2 HNX HDR HS32
              obtain ⟨sl, hsl⟩ : ∃ k, s.length = k := ⟨_, rfl⟩
              obtain ⟨tl, htl⟩ : ∃ k, t.length = k := ⟨_, rfl⟩
              rw [hsl] at hcs hd1 HS32
              rw [htl] at hct hd2 HS32
              have HSL2 := Lib.hid hsl
              have HTL2 := Lib.hid htl
              have HR1 := Lib.hid hr1
              have HR2 := Lib.hid hr2
              clear hs ht hsl htl hr1 hr2 HNO hks hkt
              obtain ⟨wm, rfl⟩ : ∃ y : World, y = wr := ⟨_, rfl⟩
              have HKEEP := Lib.hid (fun W (h : Below wm.heap.size wm W) => (⟨(h.cell (p := ⟨gs, k, none⟩) hgs).trans hcs, (h.cell (p := ⟨gt, k, none⟩) hgt).trans hct, h⟩ : W.cell? ⟨gs, k, none⟩ = some (.slice A1 sl d1) ∧ W.cell? ⟨gt, k, none⟩ = some (.slice A2 tl d2) ∧ Below wm.heap.size wm W))
              have hb0 : Below wm.heap.size wm wm := Below.refl _ _
              go_wp2_with fail
              go_region_held3 (fun W => W.cell? ⟨gs, k, none⟩ = some (.slice A1 sl d1) ∧ W.cell? ⟨gt, k, none⟩ = some (.slice A2 tl d2) ∧ Below wm.heap.size wm W)
                ((first | exact HKEEP.out _ ‹_› | exact HKEEP.out _ (Below.drew ‹_›) | exact HKEEP.out _ (((Below.refl _ _).alloc (Nat.le_refl _) _).drew) | exact HKEEP.out _ (((((Below.refl _ _).alloc (Nat.le_refl _) _).setCell (Nat.le_refl _) _).setCell (Nat.le_refl _) _).drew) | exact HKEEP.out _ (((((Below.refl _ _).alloc (Nat.le_refl _) _).drew).setCell (Nat.le_refl _) _).setCell (Nat.le_refl _) _)))
                (fail)
              have hbb : Below wm.heap.size wm (wm.alloc (.cells #[.slice A1 sl d1, .slice A2 tl d2] 41)).drew := ((Below.refl _ _).alloc (Nat.le_refl _) _).drew
              have HBB := Lib.hid (show Blk (wm.alloc (.cells #[.slice A1 sl d1, .slice A2 tl d2] 41)).drew wm.heap.size #[.slice A1 sl d1, .slice A2 tl d2] 41 from (Blk.new wm _ _).drewN 1)
              obtain ⟨gb, hgb⟩ : ∃ g, wm.heap.size = g := ⟨_, rfl⟩
              rw [hgb] at HBB ⊢
              clear HKEEP hcs hct hb0 hgb
              generalize World.drew _ = w2 at *
              have HSM := Lib.hid (show Calls Tryd.prog 35 #[.agg #[.slice A1 sl d1, .slice A2 tl d2]] w2 fun e w' => e = .returned (.bool (isBr (s, t))) ∧ Below w2.heap.size w2 w' from
                breakR A1 A2 sl tl d1 d2 s t w2 HSL2.out HTL2.out HS32.out.1 HS32.out.2 ((HR1.out.below hbb (Nat.le_refl _)).more hbb.size) ((HR2.out.below hbb (Nat.le_refl _)).more hbb.size))
              have hcb0 := HBB.out.cell 0
              have hcb1 := HBB.out.cell 1
              simp at hcb0 hcb1
              cases hbr : isBr (s, t)
              · rw [hbr] at HSM
                have HD2 := Lib.hid (HDR.out hbr)
                clear HNX HDR hbr
                go_wp2_with fail
                with_reducible refine (HSM.out).mono ?_
                rintro e w3 ⟨rfl, hb3⟩
                have hb03 : Below wo.heap.size wo w3 := hbq.trans ((hbb.trans (hb3.mono hbb.size)).mono hbq.size)
                clear hcb0 hcb1 HSM hbq hb3 hbb HBB
                go_wp2_with fail
                go_roundw
                case rel => exact ⟨_, k, rfl, by omega, by omega, HD2, hb03⟩
                case measure => simp [intOf]
              · rw [hbr] at HSM
                have HV3 := Lib.hid (show brkV n (I : Int) a b p q = some (s, t) by rw [HV1.out]; exact HNX.out hbr)
                clear HNX HDR hbr
                go_wp2_with fail
                with_reducible refine (HSM.out).mono ?_
                rintro e w3 ⟨rfl, hb3⟩
                have hm3 : Below wm.heap.size wm w3 := hbb.trans (hb3.mono hbb.size)
                have h123 := H12q.out.below hm3 H12q.out.lt
                have hB3 := HBB.out.below hb3 HBB.out.lt
                have hq0 := hB3.cell 0
                have hq1 := hB3.cell 1
                have hc0 := h123.cell 0
                have hc1 := h123.cell 1
                have hf0 := h123.frozen 0
                have hf1 := h123.frozen 1
                simp at hq0 hq1 hc0 hc1
                have HRS1 := Lib.hid ((HR1.out.below hm3 (Nat.le_refl _)).more hm3.size)
                have HRS2 := Lib.hid ((HR2.out.below hm3 (Nat.le_refl _)).more hm3.size)
                have hbw3 : Below w.heap.size w w3 := hbw.trans (hm3.mono hbw.size)
                have H123 := Lib.hid h123
                clear hcb0 hcb1 HSM hbq hb3 hbb HBB hm3 h123 hB3 HR1 HR2
                go_wp2_with fail
                refine bodyPost_ret (v := .tuple #[.agg #[.slice A1 sl d1, .slice A2 tl d2], .bool true]) (results_cell_tmp (p := 12) (q := 13) (ty := 41) (by kernel_rfl) _ _ g12 41 _ (0, 0) _ (.bool true) rfl rfl ((H123.out.set 0 _).set 1 _) Tryd.underlying41 rfl (by kernel_rfl)) rfl
                  ⟨.slice A1 sl d1, .slice A2 tl d2, by rw [HV3.out]; rfl, ?_, ?_, (hbw3.setCell (p := ⟨g12, 0, none⟩) (show w.heap.size ≤ g12 by have := HGX.out; omega) _).setCell (p := ⟨g12, 1, none⟩) (show w.heap.size ≤ g12 by have := HGX.out; omega) _⟩
                · rw [HV3.out]
                  exact ⟨A1, d1, by rw [show ((some (s, t)).getD ([], [])).1.length = sl from HSL2.out], by rw [show ((some (s, t)).getD ([], [])).1.length = sl from HSL2.out]; exact hd1, (Rd.sizes ((HRS1.out.set_far H123.out 0 _).set_far (H123.out.set 0 (.slice A1 sl d1)) 1 _))⟩
                · rw [HV3.out]
                  exact ⟨A2, d2, by rw [show ((some (s, t)).getD ([], [])).2.length = tl from HTL2.out], by rw [show ((some (s, t)).getD ([], [])).2.length = tl from HTL2.out]; exact hd2, (Rd.sizes ((HRS2.out.set_far H123.out 0 _).set_far (H123.out.set 0 (.slice A1 sl d1)) 1 _))⟩
    · have HR := Lib.hid (show decide (brkOK n i a b p q) = false from decide_eq_false hk)
      rw [HR.out]
      simp only [Bool.not_false]
      have HV2 := Lib.hid (show brkV n i a b p q = none from if_neg hk)
      have hc0 := H12.out.cell 0
      have hc1 := H12.out.cell 1
      have hf0 := H12.out.frozen 0
      have hf1 := H12.out.frozen 1
      simp at hc0 hc1
      clear hk
      go_wp2_with fail
      refine bodyPost_ret (v := .tuple #[.agg #[.slice none 0 0, .slice none 0 0], .bool false]) (results_cell_tmp (p := 12) (q := 13) (ty := 41) (by kernel_rfl) _ _ g12 41 _ (0, 0) _ (.bool false) rfl rfl ((H12.out.set 0 _).set 1 _) Tryd.underlying41 rfl (by kernel_rfl)) rfl
        ⟨.slice none 0 0, .slice none 0 0, by rw [HV2.out]; rfl, by rw [HV2.out]; exact TV.nil _, by rw [HV2.out]; exact TV.nil _, (hwc.setCell (p := ⟨g12, 0, none⟩) (show w.heap.size ≤ g12 by have := HGX.out; omega) _).setCell (p := ⟨g12, 1, none⟩) (show w.heap.size ≤ g12 by have := HGX.out; omega) _⟩
end Go.Proofs.YtpfhhbfjemmkaaaDoor
