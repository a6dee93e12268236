/- append in a region that draws its order: bytes onto bytes of one's own; one slice onto a row of slices of one's own. Texts of nodes in memory, and rows of such; regions walked by hand. The document's own tree: a break of two ways to one root. -/
import Derived.Test.YtfgieebccjoboaaDoorHashS
import Derived.Test.YtfgieebccjoboaaDoorNet
import Derived.Test.YtfgieebccjoboaaDoorU8
import Derived.Test.YtfgieebccjoboaaDoorMakeA
import Derived.Test.YtfgieebccjoboaaDoorRTSame
import Derived.Test.YtfgieebccjoboaaDoorRTClimb
import Derived.Deep.RegionHeld3
import Derived.Test.YtfgieebccjoboaaDoorBreaks
namespace Go.Proofs.YtfgieebccjoboaaDoor
open Go.RowKit

section
variable {P : Program} {w : World}
theorem step_append_B {ops : Array Oper} {o : Oper} {a : Act} {K : Act → World → Prop} {Q : Exit → Act → World → Prop} {E : Prop} (hgd : o.guard = none) (s x : Operand) (t tx : TypeId)
    (ho : o.op = .call { callee := .builtin .append, args := #[s, x], argTypes := #[t, tx] })
    (base : Nat) (e : TypeId) (i : TypeInfo) (ht : P.underlying t = some (.slice e)) (hi : P.info? e = some i) (hz : i.zero = some (.int .u8 0)) (hsize : i.size = 1) (hby : i.bytes = 1)
    (v : Value) (n : Nat) (xl : List UInt8) (hs : a.eval s = v) (hown : OwnB w base e v n xl) (y : Value) (hx : a.eval x = y) (m : Nat) (l : List UInt8) (hl : l.length = m) (hsrc : Src P 1 tx y m (Lib.byteCells l) w)
    (hlim : n + m ≤ 140737488355328) (hbase : base ≤ w.heap.size) (hm : 0 < m) (k : Nat) (hk : n + m = k)
    (h : ∀ g cap full w', base ≤ g → Blk w' g (u8A full) e → k ≤ cap → cap ≤ maxLen → full.length = cap → full.take k = xl ++ l → w.grownBy w' v.ownBlock → K (a.put o.dst (.slice (some ⟨g, 0, none⟩) k cap)) w') :
    if Region.wanted o (yielded ops a.tmps) = true then Oper.wp P o a w K Q else E := by
  have hw : Region.wanted o (yielded ops a.tmps) = true := by simp [Region.wanted, hgd]
  rw [if_pos hw]
  obtain ⟨v', w', hrun, h2, h3⟩ := run_append_B (P := P) base t tx o.type e i ht hi hz hsize hby v n xl hown y m l hl hsrc hlim hbase
  obtain ⟨_, ⟨rfl, h0⟩ | ⟨g, cap, full, rfl, h4, h5, h6, h7, h8, h9⟩⟩ := h2
  · omega
  · unfold Oper.wp execOp
    simp only [ho, resolve, invoke, builtin, Sem.run_bind, Sem.run_pure, Result.andThen_ok, List.map_toArray, List.map_cons, List.map_nil, hs, hx, hrun]
    rw [hk] at h6 h9 ⊢
    exact h g cap full w' h4 h5 h6 h7 h8 h9 h3
theorem step_append_one {ops : Array Oper} {o : Oper} {a : Act} {K : Act → World → Prop} {Q : Exit → Act → World → Prop} {E : Prop} (hgd : o.guard = none) (s x : Operand) (t : TypeId)
    (ho : o.op = .call { callee := .builtin .append, args := #[s, x], argTypes := #[t, t] })
    (base : Nat) (e : TypeId) (i : TypeInfo) (ht : P.underlying t = some (.slice e)) (hi : P.info? e = some i) (hz : i.zero = some (.slice none 0 0)) (hsize : i.size = 1) (hby : i.bytes = 24)
    (v : Value) (n : Nat) (xs : List Value) (hs : a.eval s = v) (hown : w.ownsRow base e 1 v n xs) (b : Nat) (A : Option Addr) (m c : Nat) (hb : w.heap[b]? = some (.cells #[.slice A m c] e (0, 0))) (hx : a.eval x = .slice (some ⟨b, 0, none⟩) 1 1)
    (hlim : n + 1 ≤ 1000000) (hbase : base ≤ w.heap.size)
    (h : ∀ v' w', w'.ownsRow base e 1 v' (n + 1) (xs ++ [.slice A m c]) → w.grownBy w' v.ownBlock → K (a.put o.dst v') w') :
    if Region.wanted o (yielded ops a.tmps) = true then Oper.wp P o a w K Q else E := by
  refine step_append_lies (P := P) w hgd s x t ho base e i (.slice none 0 0) 1 24 ht hi hz hsize hby rfl (by omega) v n xs hs hown ⟨b, 0, none⟩ 1 1 [.slice A m c] hx rfl (fun j u hj => ?_) (fun u hu => ?_) (by omega) (by unfold maxLen; omega) (by omega) hbase w.heap.size rfl (fun g cap w' h1 h2 _ _ => h _ w' h1 h2)
  · exact World.news_of_block hb j u (by simpa using hj)
  · simp at hu
    subst hu
    rfl
/-- One byte onto a row of bytes of one's own. -/
theorem step_append_byte {ops : Array Oper} {o : Oper} {a : Act} {K : Act → World → Prop} {Q : Exit → Act → World → Prop} {E : Prop} (hgd : o.guard = none) (s x : Operand) (t : TypeId)
    (ho : o.op = .call { callee := .builtin .append, args := #[s, x], argTypes := #[t, t] })
    (base : Nat) (e : TypeId) (i : TypeInfo) (ht : P.underlying t = some (.slice e)) (hi : P.info? e = some i) (hz : i.zero = some (.int .u8 0)) (hsize : i.size = 1) (hby : i.bytes = 1)
    (v : Value) (n : Nat) (xs : List Value) (hs : a.eval s = v) (hown : w.ownsRow base e 1 v n xs) (b : Nat) (y : Int) (hb : w.heap[b]? = some (.cells #[.int .u8 y] e (0, 0))) (hx : a.eval x = .slice (some ⟨b, 0, none⟩) 1 1)
    (hlim : n + 1 ≤ 1000000) (hbase : base ≤ w.heap.size)
    (h : ∀ v' w', w'.ownsRow base e 1 v' (n + 1) (xs ++ [.int .u8 y]) → w.grownBy w' v.ownBlock → K (a.put o.dst v') w') :
    if Region.wanted o (yielded ops a.tmps) = true then Oper.wp P o a w K Q else E := by
  refine step_append_lies (P := P) w hgd s x t ho base e i (.int .u8 0) 1 1 ht hi hz hsize hby rfl (by omega) v n xs hs hown ⟨b, 0, none⟩ 1 1 [.int .u8 y] hx rfl (fun j u hj => ?_) (fun u hu => ?_) (by omega) (by unfold maxLen; omega) (by omega) hbase w.heap.size rfl (fun g cap w' h1 h2 _ _ => h _ w' h1 h2)
  · exact World.news_of_block hb j u (by simpa using hj)
  · simp at hu
    subst hu
    rfl
end
end Go.Proofs.YtfgieebccjoboaaDoor
namespace Go.Proofs.YtfgieebccjoboaaDoor
open Go.RowKit

/-- Of a region walked by hand: an operation found in the list of all (so it stands written out). -/
theorem wpAnyH_takeL {P : Program} {md : Region.Mode} {ops : Array Oper} {Q : Exit → Act → World → Prop} {S : World → Prop} {i : Nat} {oi : Oper} {v : Value} {fuel : Nat} {listed : Array Bool} {a : Act} {w : World} (hi : ops.toList[i]? = some oi)
    (hs : Region.noSelect ops = true) (hf : Region.free md ops listed i = true) (hr : (Region.ready md ops listed).contains i = true)
    (hQ : ∀ c a w, Q (.panic c) (a.put oi.dst v) w → Q (.panic c) a w) (hy : YieldsIf P ops S oi v a) (hS : S w)
    (h : wpAnyH P md ops Q S fuel (listed.setIfInBounds i true) (a.put oi.dst v) w) : wpAnyH P md ops Q S (fuel + 1) listed a w :=
  wpAnyH_take (by rw [← Array.getElem?_toList]; exact hi) hs hf hr hQ hy hS h
theorem allReadyH_consL {P : Program} {md : Region.Mode} {ops : Array Oper} {Q : Exit → Act → World → Prop} {S : World → Prop} {fuel : Nat} {listed : Array Bool} {a : Act} {w : World} {i : Nat} {o : Oper} (ho : ops.toList[i]? = some o)
    (h : ∀ K' : Act → World → Prop, Shut (∀ a w, S w → (S w → wpAnyH P md ops Q S fuel (listed.setIfInBounds i true) a w) → K' a w) → if Region.wanted o (yielded ops a.tmps) = true then Oper.wp P o a w K' Q else K' (a.put o.dst undef) w) : AllReadyH P md ops Q S fuel listed a w [i] :=
  AllReadyH.cons (by rw [← Array.getElem?_toList]; exact ho) h AllReadyH.nil
/-- The value is bytes in a block of bytes. -/
def TxV (w : World) (v : Value) (l : List UInt8) : Prop := OwnM w 0 5 v l.length l
theorem TxV.of {w : World} {B n : Nat} {v : Value} {l : List UInt8} (h : OwnM w B 5 v n l) : TxV w v l := by
  obtain ⟨hl, g, cap, cur, fz, e, hb, rest⟩ := h
  subst hl
  exact ⟨rfl, g, cap, cur, fz, e, Nat.zero_le _, rest⟩
theorem TxV.on {w w' : World} {v : Value} {l : List UInt8} (h : TxV w v l) (hb : Below w.heap.size w w') : TxV w' v l := by
  obtain ⟨hl, g, cap, cur, fz, e, h0, hg, rest⟩ := h
  exact ⟨hl, g, cap, cur, fz, e, h0, (hb.block g (Array.getElem?_eq_some_iff.1 hg).1).trans hg, rest⟩
theorem TxV.apart {w w' : World} {v u : Value} {l : List UInt8} {B n : Nat} {xs : List Value} (h : TxV w v l) (hown : w.ownsRow B 24 1 u n xs) (hg : w.grownBy w' u.ownBlock) : TxV w' v l := by
  obtain ⟨hl, g, cap, cur, fz, e, h0, hgc, rest⟩ := h
  have hne : some g ≠ u.ownBlock := by
    rcases hown.2 with ⟨rfl, _⟩ | ⟨g2, cap2, cur2, rfl, _, h3, _⟩
    · simp [Value.ownBlock]
    · simp only [Value.ownBlock, ne_eq, Option.some.injEq]
      rintro rfl
      have := hgc.symm.trans h3
      injection this with h1
      injection h1 with _ h2 _
      exact absurd h2 (by decide)
  exact ⟨hl, g, cap, cur, fz, e, h0, (hg.block g (Array.getElem?_eq_some_iff.1 hgc).1 hne).trans hgc, rest⟩
theorem TxV.form {w : World} {v : Value} {l : List UInt8} (h : TxV w v l) : ∃ A c, v = .slice A l.length c ∧ l.length ≤ c ∧ c ≤ maxLen ∧ Rd w w.heap.size A l := by
  obtain ⟨g, c, rfl, h1, h2⟩ := ownM_form h
  exact ⟨_, c, rfl, h1, h2, OwnM.rd h⟩
/-- The values are the texts. -/
def TxL (w : World) (vs : List Value) (ls : List (List UInt8)) : Prop := vs.length = ls.length ∧ ∀ i (h : i < ls.length), ∃ v, vs[i]? = some v ∧ TxV w v ls[i]
theorem TxL.nil (w : World) : TxL w [] [] := ⟨rfl, fun i h => by simp at h⟩
theorem TxL.map {w w' : World} {vs : List Value} {ls : List (List UInt8)} (h : TxL w vs ls) (hk : ∀ v l, TxV w v l → TxV w' v l) : TxL w' vs ls := ⟨h.1, fun i hi => by
  obtain ⟨v, h1, h2⟩ := h.2 i hi
  exact ⟨v, h1, hk v _ h2⟩⟩
theorem TxL.snoc {w : World} {vs : List Value} {ls : List (List UInt8)} {v : Value} {l : List UInt8} (h : TxL w vs ls) (hv : TxV w v l) : TxL w (vs ++ [v]) (ls ++ [l]) := by
  refine ⟨by rw [List.length_append, List.length_append, h.1]; rfl, fun i hi => ?_⟩
  by_cases hlt : i < ls.length
  · obtain ⟨u, h1, h2⟩ := h.2 i hlt
    refine ⟨u, ?_, by rw [List.getElem_append_left hlt]; exact h2⟩
    rw [List.getElem?_append_left (by rw [h.1]; exact hlt)]; exact h1
  · have hie : i = ls.length := by simp at hi; omega
    subst hie
    refine ⟨v, ?_, ?_⟩
    · rw [List.getElem?_append_right (by rw [h.1]; exact Nat.le_refl _), h.1, Nat.sub_self]; rfl
    · simpa using hv
/-- A row of texts of the call's own, from block B on. -/
def SL (w : World) (B : Nat) (v : Value) (ls : List (List UInt8)) : Prop := ∃ vs, w.ownsRow B 24 1 v ls.length vs ∧ TxL w vs ls
theorem SL.nil (w : World) (B : Nat) : SL w B (.slice none 0 0) [] := ⟨[], World.ownsRow_nil _ _ _ _, TxL.nil w⟩
theorem SL.on {w w' : World} {B : Nat} {v : Value} {ls : List (List UInt8)} (h : SL w B v ls) (hb : Below w.heap.size w w') : SL w' B v ls := by
  obtain ⟨vs, h1, h2⟩ := h
  exact ⟨vs, own_keep h1 hb, h2.map fun _ _ h => h.on hb⟩
theorem SL.form {w : World} {B n : Nat} {v : Value} {ls : List (List UInt8)} (h : SL w B v ls) (hn : ls.length = n) : ∃ A c, v = .slice A n c ∧ n ≤ c ∧ c ≤ maxLen := by
  subst hn
  obtain ⟨vs, h1, _⟩ := h
  exact own_caps h1
theorem SL.inside {w : World} {B : Nat} {v : Value} {ls : List (List UInt8)} (h : SL w B v ls) : ∀ g, v.ownBlock = some g → B ≤ g ∧ g < w.heap.size := by
  obtain ⟨vs, h1, _⟩ := h
  exact fun g hg => h1.lt g hg
/-- Another row of the same kind has grown. -/
theorem SL.apart {w w' : World} {B C : Nat} {v u : Value} {ls ks : List (List UInt8)} (h : SL w B v ls) (k : SL w C u ks) (hg : w.grownBy w' u.ownBlock) (hne : ∀ g, v.ownBlock = some g → u.ownBlock ≠ some g) : SL w' B v ls := by
  obtain ⟨vs, h1, h2⟩ := h
  obtain ⟨us, k1, _⟩ := k
  refine ⟨vs, ⟨h1.1, ?_⟩, h2.map fun _ _ h => h.apart k1 hg⟩
  rcases h1.2 with h0 | ⟨g, cap, cur, rfl, q1, q2, q3⟩
  · exact .inl h0
  · exact .inr ⟨g, cap, cur, rfl, q1, (hg.block g (Array.getElem?_eq_some_iff.1 q2).1 (fun e => hne g (by simp [Value.ownBlock]) e.symm)).trans q2, q3⟩
theorem SL.at_ {w : World} {B n c i b off : Nat} {ls : List (List UInt8)} (h : SL w B (.slice (some ⟨b, off, none⟩) n c) ls) (hi : i < ls.length) :
    b < w.heap.size ∧ ∃ A d, w.cell? ⟨b, off + i, none⟩ = some (.slice A ls[i].length d) ∧ ls[i].length ≤ d ∧ d ≤ maxLen ∧ Rd w w.heap.size A ls[i] := by
  obtain ⟨vs, h1, h2⟩ := h
  rcases h1.2 with ⟨e, _⟩ | ⟨g, cap, cur, e, _, q2, q3, _, _, q6⟩
  · cases e
  · injection e with e1 e2 e3
    injection e1 with e1
    injection e1 with e4 e5
    subst e4 e5
    obtain ⟨v, hv, ht⟩ := h2.2 i hi
    obtain ⟨A, d, rfl, k1, k2, k3⟩ := ht.form
    refine ⟨(Array.getElem?_eq_some_iff.1 q2).1, A, d, ?_, k1, k2, k3⟩
    have hb : Blk w b cur 24 := q2
    rw [Nat.zero_add, hb.cell i, ← Array.getElem?_toList]
    have e := congrArg (fun l : List Value => l[i]?) q6
    simp only [List.getElem?_take, Nat.mul_one, if_pos hi] at e
    rw [e]
    exact hv
theorem ty_hash : (29 : TypeId) ≠ 5 := by decide
/-- A hash elsewhere has been written. -/
theorem SL.row {w : World} {B g : Nat} {v : Value} {ls : List (List UInt8)} {cs : Array Value} (h : SL w B v ls) (hg : g < B) (hb : Blk w g cs 29) (X : Array Value) : SL (w.setRow g X) B v ls := by
  obtain ⟨vs, h1, h2⟩ := h
  refine ⟨vs, ⟨h1.1, ?_⟩, h2.map fun u l hu => ?_⟩
  · rcases h1.2 with h0 | ⟨k, cap, cur, rfl, q1, q2, q3⟩
    · exact .inl h0
    · exact .inr ⟨k, cap, cur, rfl, q1, Blk.rowOther (T := 24) q2 (by omega) _, q3⟩
  · obtain ⟨hl, k, cap, cur, fz, e, h0, hgc, rest⟩ := hu
    refine ⟨hl, k, cap, cur, fz, e, h0, (setRow_other _ _ _ _ fun e2 => ?_).trans hgc, rest⟩
    subst e2
    have := hgc.symm.trans hb
    injection this with k1
    injection k1 with _ k2 _
    exact absurd k2.symm ty_hash
/-- append of one text in a region walked by hand. -/
theorem step_append_text {w : World} {ops : Array Oper} {o : Oper} {a : Act} {K : Act → World → Prop} {Q : Exit → Act → World → Prop} {E : Prop} (hgd : o.guard = none) (s x : Operand)
    (ho : o.op = .call { callee := .builtin .append, args := #[s, x], argTypes := #[39, 39] })
    (base : Nat) (v : Value) (ls : List (List UInt8)) (hs : a.eval s = v) (hown : SL w base v ls) (b : Nat) (u : Value) (l : List UInt8) (hu : TxV w u l) (hb : w.heap[b]? = some (.cells #[u] 24 (0, 0))) (hx : a.eval x = .slice (some ⟨b, 0, none⟩) 1 1)
    (hlim : ls.length + 1 ≤ 1000000) (hbase : base ≤ w.heap.size)
    (h : ∀ v' w', SL w' base v' (ls ++ [l]) → w.grownBy w' v.ownBlock → (∀ g, v'.ownBlock = some g → v.ownBlock = some g ∨ w.heap.size ≤ g) → K (a.put o.dst v') w') :
    if Region.wanted o (yielded ops a.tmps) = true then Oper.wp Tryd.prog o a w K Q else E := by
  obtain ⟨i, hi, hz, hsz, hby⟩ := info_parts infoSlice
  obtain ⟨vs, h1, h2⟩ := hown
  obtain ⟨A, c, rfl, _, _, _⟩ := hu.form
  refine step_append_lies (P := Tryd.prog) w hgd s x 39 ho base 24 i (.slice none 0 0) 1 24 Tryd.underlying39 hi hz hsz hby rfl (by omega) v ls.length vs hs h1 ⟨b, 0, none⟩ 1 1 [.slice A l.length c] hx rfl (fun j u hj => ?_) (fun u hu => ?_) (by omega) (by unfold maxLen; omega) (by omega) hbase w.heap.size rfl
    (fun g cap w' k1 k2 k3 _ => h _ w' ⟨vs ++ [.slice A l.length c], by rw [List.length_append]; exact k1, (h2.map fun _ _ t => t.apart h1 k2).snoc (hu.apart h1 k2)⟩ k2 fun g' hg' => ?_)
  · exact World.news_of_block hb j u (by simpa using hj)
  · simp at hu
    subst hu
    rfl
  · simp only [Value.ownBlock, Option.some.injEq] at hg'
    subst hg'
    rcases k3 with k3 | k3
    · exact .inl k3
    · exact .inr (by omega)
theorem yieldsIf_load_hash {ops : Array Oper} {S : World → Prop} {o : Oper} {a : Act} (hw : Region.wanted o (yielded ops a.tmps) = true) (x : Operand) (ho : o.op = .load 29 x)
    (b off : Nat) (hx : a.eval x = .pointer (some ⟨b, off, none⟩)) (h : List UInt8) (hl : h.length = 32) (hS : ∀ w, S w → w.rangeAt b off (Lib.byteCells h)) (X : Array Value) (hX : u8A h = X) : YieldsIf Tryd.prog ops S o (.agg X) a := by
  subst hX
  obtain ⟨i, z, hi, _, _, hsz, _⟩ := hash_parts
  exact yieldsIf_load_mid hw 29 x ho b off hx (Lib.byteCells h) _ hS Tryd.underlying29 rfl (by rw [hi, Option.map_some, hsz, Lib.byteCells_length, hl])
theorem SL.some {w : World} {B n c : Nat} {A : Option Addr} {ls : List (List UInt8)} (h : SL w B (.slice A n c) ls) (hn : 0 < ls.length) : ∃ b, A = .some ⟨b, 0, none⟩ := by
  obtain ⟨vs, h1, _⟩ := h
  rcases h1.2 with ⟨_, e⟩ | ⟨g, cap, cur, e, _⟩
  · omega
  · injection e with e1 _ _
    exact ⟨g, e1⟩
/-- The last pair of unlike texts with one hash. -/
def isBr (x : List UInt8 × List UInt8) : Bool := !(x.1 == x.2) && decide (shaL x.1 = shaL x.2)
def lastBr (ss ts : List (List UInt8)) : Option (List UInt8 × List UInt8) := (ss.zip ts).reverse.find? isBr
theorem lastBr_none {ss ts : List (List UInt8)} (h : ∀ x ∈ ss.zip ts, isBr x = false) : lastBr ss ts = none := by
  unfold lastBr
  rw [List.find?_eq_none]
  intro x hx
  rw [h x (List.mem_reverse.1 hx)]
  simp
theorem lastBr_hit {ss ts : List (List UInt8)} {k : Nat} (h1 : k < ss.length) (h2 : k < ts.length) (hno : ∀ x ∈ (ss.zip ts).drop (k + 1), isBr x = false) (hyes : isBr (ss[k], ts[k]) = true) : lastBr ss ts = .some (ss[k], ts[k]) := by
  have hk : k < (ss.zip ts).length := by rw [List.length_zip]; omega
  have e : ss.zip ts = (ss.zip ts).take k ++ (ss[k], ts[k]) :: (ss.zip ts).drop (k + 1) := by
    rw [show (ss[k], ts[k]) = (ss.zip ts)[k] by simp, ← List.drop_eq_getElem_cons hk, List.take_append_drop]
  unfold lastBr
  rw [e, List.reverse_append, List.reverse_cons, List.append_assoc, List.find?_append]
  have hn : ((ss.zip ts).drop (k + 1)).reverse.find? isBr = none := by
    rw [List.find?_eq_none]
    intro x hx
    rw [hno x (List.mem_reverse.1 hx)]
    simp
  rw [hn]
  simp [hyes]
end Go.Proofs.YtfgieebccjoboaaDoor
namespace Go.Proofs.YtfgieebccjoboaaDoor
open Go.RowKit

theorem zero32 (w : World) : (zeroValue 29).run Tryd.prog w = .ok (.agg (u8A zeroH)) w := by kernel_rfl
theorem wpList_alloc_hash {w : World} {ops : Array Oper} {rest : List Oper} {o : Oper} {a : Act} {Q : Exit → Act → World → Prop} (hgd : o.guard = none) (ho : o.op = .alloc 29) (Z : Array Value) (hZ : u8A zeroH = Z)
    (hk : wpList Tryd.prog ops Q rest (a.put o.dst (.pointer (some ⟨w.heap.size, 0, none⟩))) (w.alloc (.cells Z 29))) : wpList Tryd.prog ops Q (o :: rest) a w := by
  subst hZ
  refine wpList_plain hgd fun K hK => ?_
  have h := zero32
  unfold Oper.wp execOp
  rw [ho]
  go_simp
  exact hK _ _ hk
/-- One operation of a plain region, its value known; one that a guard bars. -/
theorem wpList_val {P : Program} {w : World} {ops : Array Oper} {rest : List Oper} {o : Oper} {a : Act} {Q : Exit → Act → World → Prop} (v : Value) (hw : Region.wanted o (yielded ops a.tmps) = true) (hrun : (execOp a.eval o).run P w = .ok (.value v) w)
    (hk : wpList P ops Q rest (a.put o.dst v) w) : wpList P ops Q (o :: rest) a w :=
  wpList_step fun K hK => by
    rw [if_pos hw]
    unfold Oper.wp
    rw [hrun]
    exact hK _ _ hk
/-- An array is loaded where a guard lets it. -/
theorem wpList_load_when {P : Program} {w : World} {ops : Array Oper} {rest : List Oper} {o : Oper} {a : Act} {Q : Exit → Act → World → Prop} (hw : Region.wanted o (yielded ops a.tmps) = true) (ty : TypeId) (x : Operand) (ho : o.op = .load ty x)
    (g : Nat) (hx : a.eval x = .pointer (some ⟨g, 0, none⟩)) (t : TypeId) (cs : Array Value) (d : TypeDesc) (hg : Blk w g cs t) (hu : P.underlying ty = some d) (hd : (match d with | .struct _ | .array _ _ => true | _ => false) = true) (hi : (P.info? ty).map (·.size) = some cs.size)
    (hk : wpList P ops Q rest (a.put o.dst (.agg cs)) w) : wpList P ops Q (o :: rest) a w :=
  wpList_step fun K hK => by
    rw [if_pos hw]
    exact wp_load_row ty x ho g hx t cs (0, 0) d hg hu hd hi (hK _ _ hk)
/-- The value reads as the bytes. -/
def TV (w : World) (v : Value) (l : List UInt8) : Prop := ∃ X c, v = .slice X l.length c ∧ l.length ≤ c ∧ Rd w w.heap.size X l
theorem TV.on {w w' : World} {v : Value} {l : List UInt8} (h : TV w v l) (hb : Below w.heap.size w w') : TV w' v l := by
  obtain ⟨X, c, h1, h2, h3⟩ := h
  exact ⟨X, c, h1, h2, (h3.below hb (Nat.le_refl _)).more hb.size⟩
theorem TV.nil (w : World) : TV w (.slice none 0 0) [] := ⟨none, 0, rfl, Nat.le_refl _, .inl rfl⟩
def wayH (i : Nat) (a : List UInt8) (p : List (List UInt8)) : List (List UInt8) := tree.way nodeT shaL i a p
def brkOK (n i : Int) (a b : List UInt8) (p q : List (List UInt8)) : Prop := climbOK n i p.length ∧ climbOK n i q.length ∧ climbV n i a p = climbV n i b q ∧ ¬ (a = b ∧ p = q)
instance (n i : Int) (a b : List UInt8) (p q : List (List UInt8)) : Decidable (brkOK n i a b p q) := by unfold brkOK; infer_instance
/-- What is answered of two ways. -/
def brkV (n i : Int) (a b : List UInt8) (p q : List (List UInt8)) : Option (List UInt8 × List UInt8) := if brkOK n i a b p q then lastBr (wayH i.toNat a p) (wayH i.toNat b q) else none
def BrkSaid (W : World) (r : Option (List UInt8 × List UInt8)) (e : Ending) (w' : World) : Prop :=
  ∃ A B, e = .returned (.tuple #[.agg #[A, B], .bool r.isSome]) ∧ TV w' A (r.getD ([], [])).1 ∧ TV w' B (r.getD ([], [])).2 ∧ Below W.heap.size W w'

theorem climbV_len {n i : Int} {a : List UInt8} (ha : a.length = 32) (p : List (List UInt8)) : (climbV n i a p).length = 32 := by
  unfold climbV
  by_cases h : climbOK n i p.length
  · rw [if_pos h]; exact climbH_len ha _ _
  · rw [if_neg h]; rfl
/-- Bytes don't lie where slices lie. -/
theorem Rd.set_far {w : World} {B g : Nat} {A A1 A2 : Option Addr} {l : List UInt8} {n1 n2 c1 c2 : Nat} {T : TypeId} (h : Rd w B A l) (hg : Blk w g #[.slice A1 n1 c1, .slice A2 n2 c2] T) (i : Nat) (u : Value) : Rd (w.setCell ⟨g, i, none⟩ u) B A l := by
  rcases h with rfl | ⟨b, off, rfl, hb, hc⟩
  · exact .inl rfl
  · by_cases e : b = g
    · subst e
      rcases l with _ | ⟨x, r⟩
      · exact .inl rfl
      · have h0 := hc 0 (by simp)
        rw [hg.cell] at h0
        match off, h0 with
        | 0, h0 => simp at h0
        | 1, h0 => simp at h0
        | k + 2, h0 => simp at h0
    · refine .inr ⟨b, off, rfl, hb, fun j hj => ?_⟩
      rw [World.cell?_setCell_far _ _ _ _ (fun e2 => e e2.symm)]
      exact hc j hj
theorem Rd.sizes {w : World} {g i j : Nat} {u v : Value} {A : Option Addr} {l : List UInt8} (h : Rd ((w.setCell ⟨g, i, none⟩ u).setCell ⟨g, j, none⟩ v) w.heap.size A l) : Rd ((w.setCell ⟨g, i, none⟩ u).setCell ⟨g, j, none⟩ v) ((w.setCell ⟨g, i, none⟩ u).setCell ⟨g, j, none⟩ v).heap.size A l := h.more (by simp)
theorem way_small : ∀ (p : List (List UInt8)), (∀ r ∈ p, r.length = 32) → ∀ (i : Nat) (a : List UInt8), a.length = 32 → ∀ t ∈ wayH i a p, t.length ≤ 1000000
  | [], _, _, _, _, t, ht => by cases ht
  | x :: p, hp, i, a, ha, t, ht => by
    have hx := hp x (List.mem_cons_self ..)
    have htx : (tree.text nodeT i a x).length ≤ 1000000 := by
      unfold tree.text
      by_cases h : i % 2 = 0
      · rw [if_pos h]; exact nodeT_len a x ha hx
      · rw [if_neg h]; exact nodeT_len x a hx ha
    rcases List.mem_cons.1 (show t ∈ tree.text nodeT i a x :: wayH (i / 2) (shaL (tree.text nodeT i a x)) p from ht) with rfl | h
    · exact htx
    · exact way_small p (fun r hr => hp r (List.mem_cons_of_mem _ hr)) (i / 2) _ (outTo_len _ 8 (by omega)) t h
theorem way_snoc (p : List (List UInt8)) (x : List UInt8) : ∀ (i : Nat) (a : List UInt8), wayH i a (p ++ [x]) = wayH i a p ++ [tree.text nodeT (i / 2 ^ p.length) (climbH i a p) x] := by
  induction p with
  | nil => intro i a; simp [wayH, climbH, tree.way, tree.climb]
  | cons y r ih =>
    intro i a
    have := ih (i / 2) (shaL (tree.text nodeT i a y))
    rw [List.cons_append, List.length_cons, Nat.pow_succ, Nat.mul_comm, ← Nat.div_div_eq_div_mul]
    show tree.text nodeT i a y :: wayH (i / 2) _ (r ++ [x]) = tree.text nodeT i a y :: (wayH (i / 2) _ r ++ _)
    rw [this]
    rfl
end Go.Proofs.YtfgieebccjoboaaDoor
