/- Texts of nodes in memory, and rows of such; regions walked by hand. -/
import Derived.Test.YtpfhhbfjemmkaaaDoorRTSame
import Derived.Test.YtpfhhbfjemmkaaaDoorRTClimb
import Derived.Test.YtpfhhbfjemmkaaaDoorStepA
import Derived.Deep.RegionHeld3
namespace Go.Proofs.YtpfhhbfjemmkaaaDoor
open Go.RowKit

/-- Of a region walked by hand: an operation found in the list of all (so it stands written out). -/
theorem wpAnyH_takeL {P : Program} {md : Region.Mode} {ops : Array Oper} {Q : Exit → Act → World → Prop} {S : World → Prop} {i : Nat} {oi : Oper} {v : Value} {fuel : Nat} {listed : Array Bool} {a : Act} {w : World} (hi : ops.toList[i]? = some oi)
    (hs : Region.noSelect ops = true) (hf : Region.free md ops listed i = true) (hr : (Region.ready md ops listed).contains i = true)
    (hQ : ∀ c a w, Q (.panic c) (a.put oi.dst v) w → Q (.panic c) a w) (hy : YieldsIf P ops S oi v a) (hS : S w)
    (h : wpAnyH P md ops Q S fuel (listed.setIfInBounds i true) (a.put oi.dst v) w) : wpAnyH P md ops Q S (fuel + 1) listed a w :=
  wpAnyH_take (by rw [← Array.getElem?_toList]; exact hi) hs hf hr hQ hy hS h
theorem allReadyH_consL {P : Program} {md : Region.Mode} {ops : Array Oper} {Q : Exit → Act → World → Prop} {S : World → Prop} {fuel : Nat} {listed : Array Bool} {a : Act} {w : World} {i : Nat} {o : Oper} (ho : ops.toList[i]? = some o)
    (h : ∀ K' : Act → World → Prop, Shut (∀ a w, S w → (S w → wpAnyH P md ops Q S fuel (listed.setIfInBounds i true) a w) → K' a w) → if Region.wanted o (yielded ops a.tmps) = true then Oper.wp P o a w K' Q else K' (a.put o.dst undef) w) : AllReadyH P md ops Q S fuel listed a w [i] :=
  AllReadyH.cons (by rw [← Array.getElem?_toList]; exact ho) h AllReadyH.nil
/-- The value is bytes in a block of bytes. -/
def TxV (w : World) (v : Value) (l : List UInt8) : Prop := OwnM w 0 5 v l.length l
theorem TxV.of {w : World} {B n : Nat} {v : Value} {l : List UInt8} (h : OwnM w B 5 v n l) : TxV w v l := by
  obtain ⟨hl, g, cap, cur, fz, e, hb, rest⟩ := h
  subst hl
  exact ⟨rfl, g, cap, cur, fz, e, Nat.zero_le _, rest⟩
theorem TxV.on {w w' : World} {v : Value} {l : List UInt8} (h : TxV w v l) (hb : Below w.heap.size w w') : TxV w' v l := by
  obtain ⟨hl, g, cap, cur, fz, e, h0, hg, rest⟩ := h
  exact ⟨hl, g, cap, cur, fz, e, h0, (hb.block g (Array.getElem?_eq_some_iff.1 hg).1).trans hg, rest⟩
theorem TxV.apart {w w' : World} {v u : Value} {l : List UInt8} {B n : Nat} {xs : List Value} (h : TxV w v l) (hown : w.ownsRow B 27 1 u n xs) (hg : w.grownBy w' u.ownBlock) : TxV w' v l := by
  obtain ⟨hl, g, cap, cur, fz, e, h0, hgc, rest⟩ := h
  have hne : some g ≠ u.ownBlock := by
    rcases hown.2 with ⟨rfl, _⟩ | ⟨g2, cap2, cur2, rfl, _, h3, _⟩
    · simp [Value.ownBlock]
    · simp only [Value.ownBlock, ne_eq, Option.some.injEq]
      rintro rfl
      have := hgc.symm.trans h3
      injection this with h1
      injection h1 with _ h2 _
      exact absurd h2 (by decide)
  exact ⟨hl, g, cap, cur, fz, e, h0, (hg.block g (Array.getElem?_eq_some_iff.1 hgc).1 hne).trans hgc, rest⟩
theorem TxV.form {w : World} {v : Value} {l : List UInt8} (h : TxV w v l) : ∃ A c, v = .slice A l.length c ∧ l.length ≤ c ∧ c ≤ maxLen ∧ Rd w w.heap.size A l := by
  obtain ⟨g, c, rfl, h1, h2⟩ := ownM_form h
  exact ⟨_, c, rfl, h1, h2, OwnM.rd h⟩
/-- The values are the texts. -/
def TxL (w : World) (vs : List Value) (ls : List (List UInt8)) : Prop := vs.length = ls.length ∧ ∀ i (h : i < ls.length), ∃ v, vs[i]? = some v ∧ TxV w v ls[i]
theorem TxL.nil (w : World) : TxL w [] [] := ⟨rfl, fun i h => by simp at h⟩
theorem TxL.map {w w' : World} {vs : List Value} {ls : List (List UInt8)} (h : TxL w vs ls) (hk : ∀ v l, TxV w v l → TxV w' v l) : TxL w' vs ls := ⟨h.1, fun i hi => by
  obtain ⟨v, h1, h2⟩ := h.2 i hi
  exact ⟨v, h1, hk v _ h2⟩⟩
theorem TxL.snoc {w : World} {vs : List Value} {ls : List (List UInt8)} {v : Value} {l : List UInt8} (h : TxL w vs ls) (hv : TxV w v l) : TxL w (vs ++ [v]) (ls ++ [l]) := by
  refine ⟨by rw [List.length_append, List.length_append, h.1]; rfl, fun i hi => ?_⟩
  by_cases hlt : i < ls.length
  · obtain ⟨u, h1, h2⟩ := h.2 i hlt
    refine ⟨u, ?_, by rw [List.getElem_append_left hlt]; exact h2⟩
    rw [List.getElem?_append_left (by rw [h.1]; exact hlt)]; exact h1
  · have hie : i = ls.length := by simp at hi; omega
    subst hie
    refine ⟨v, ?_, ?_⟩
    · rw [List.getElem?_append_right (by rw [h.1]; exact Nat.le_refl _), h.1, Nat.sub_self]; rfl
    · simpa using hv
/-- A row of texts of the call's own, from block B on. -/
def SL (w : World) (B : Nat) (v : Value) (ls : List (List UInt8)) : Prop := ∃ vs, w.ownsRow B 27 1 v ls.length vs ∧ TxL w vs ls
theorem SL.nil (w : World) (B : Nat) : SL w B (.slice none 0 0) [] := ⟨[], World.ownsRow_nil _ _ _ _, TxL.nil w⟩
theorem SL.on {w w' : World} {B : Nat} {v : Value} {ls : List (List UInt8)} (h : SL w B v ls) (hb : Below w.heap.size w w') : SL w' B v ls := by
  obtain ⟨vs, h1, h2⟩ := h
  exact ⟨vs, own_keep h1 hb, h2.map fun _ _ h => h.on hb⟩
theorem SL.form {w : World} {B n : Nat} {v : Value} {ls : List (List UInt8)} (h : SL w B v ls) (hn : ls.length = n) : ∃ A c, v = .slice A n c ∧ n ≤ c ∧ c ≤ maxLen := by
  subst hn
  obtain ⟨vs, h1, _⟩ := h
  exact own_caps h1
theorem SL.inside {w : World} {B : Nat} {v : Value} {ls : List (List UInt8)} (h : SL w B v ls) : ∀ g, v.ownBlock = some g → B ≤ g ∧ g < w.heap.size := by
  obtain ⟨vs, h1, _⟩ := h
  exact fun g hg => h1.lt g hg
/-- Another row of the same kind has grown. -/
theorem SL.apart {w w' : World} {B C : Nat} {v u : Value} {ls ks : List (List UInt8)} (h : SL w B v ls) (k : SL w C u ks) (hg : w.grownBy w' u.ownBlock) (hne : ∀ g, v.ownBlock = some g → u.ownBlock ≠ some g) : SL w' B v ls := by
  obtain ⟨vs, h1, h2⟩ := h
  obtain ⟨us, k1, _⟩ := k
  refine ⟨vs, ⟨h1.1, ?_⟩, h2.map fun _ _ h => h.apart k1 hg⟩
  rcases h1.2 with h0 | ⟨g, cap, cur, rfl, q1, q2, q3⟩
  · exact .inl h0
  · exact .inr ⟨g, cap, cur, rfl, q1, (hg.block g (Array.getElem?_eq_some_iff.1 q2).1 (fun e => hne g (by simp [Value.ownBlock]) e.symm)).trans q2, q3⟩
theorem SL.at_ {w : World} {B n c i b off : Nat} {ls : List (List UInt8)} (h : SL w B (.slice (some ⟨b, off, none⟩) n c) ls) (hi : i < ls.length) :
    b < w.heap.size ∧ ∃ A d, w.cell? ⟨b, off + i, none⟩ = some (.slice A ls[i].length d) ∧ ls[i].length ≤ d ∧ d ≤ maxLen ∧ Rd w w.heap.size A ls[i] := by
  obtain ⟨vs, h1, h2⟩ := h
  rcases h1.2 with ⟨e, _⟩ | ⟨g, cap, cur, e, _, q2, q3, _, _, q6⟩
  · cases e
  · injection e with e1 e2 e3
    injection e1 with e1
    injection e1 with e4 e5
    subst e4 e5
    obtain ⟨v, hv, ht⟩ := h2.2 i hi
    obtain ⟨A, d, rfl, k1, k2, k3⟩ := ht.form
    refine ⟨(Array.getElem?_eq_some_iff.1 q2).1, A, d, ?_, k1, k2, k3⟩
    have hb : Blk w b cur 27 := q2
    rw [Nat.zero_add, hb.cell i, ← Array.getElem?_toList]
    have e := congrArg (fun l : List Value => l[i]?) q6
    simp only [List.getElem?_take, Nat.mul_one, if_pos hi] at e
    rw [e]
    exact hv
theorem ty_hash : (25 : TypeId) ≠ 5 := by decide
/-- A hash elsewhere has been written. -/
theorem SL.row {w : World} {B g : Nat} {v : Value} {ls : List (List UInt8)} {cs : Array Value} (h : SL w B v ls) (hg : g < B) (hb : Blk w g cs 25) (X : Array Value) : SL (w.setRow g X) B v ls := by
  obtain ⟨vs, h1, h2⟩ := h
  refine ⟨vs, ⟨h1.1, ?_⟩, h2.map fun u l hu => ?_⟩
  · rcases h1.2 with h0 | ⟨k, cap, cur, rfl, q1, q2, q3⟩
    · exact .inl h0
    · exact .inr ⟨k, cap, cur, rfl, q1, Blk.rowOther (T := 27) q2 (by omega) _, q3⟩
  · obtain ⟨hl, k, cap, cur, fz, e, h0, hgc, rest⟩ := hu
    refine ⟨hl, k, cap, cur, fz, e, h0, (setRow_other _ _ _ _ fun e2 => ?_).trans hgc, rest⟩
    subst e2
    have := hgc.symm.trans hb
    injection this with k1
    injection k1 with _ k2 _
    exact absurd k2.symm ty_hash
/-- append of one text in a region walked by hand. -/
theorem step_append_text {w : World} {ops : Array Oper} {o : Oper} {a : Act} {K : Act → World → Prop} {Q : Exit → Act → World → Prop} {E : Prop} (hgd : o.guard = none) (s x : Operand)
    (ho : o.op = .call { callee := .builtin .append, args := #[s, x], argTypes := #[68, 68] })
    (base : Nat) (v : Value) (ls : List (List UInt8)) (hs : a.eval s = v) (hown : SL w base v ls) (b : Nat) (u : Value) (l : List UInt8) (hu : TxV w u l) (hb : w.heap[b]? = some (.cells #[u] 27 (0, 0))) (hx : a.eval x = .slice (some ⟨b, 0, none⟩) 1 1)
    (hlim : ls.length + 1 ≤ 1000000) (hbase : base ≤ w.heap.size)
    (h : ∀ v' w', SL w' base v' (ls ++ [l]) → w.grownBy w' v.ownBlock → (∀ g, v'.ownBlock = some g → v.ownBlock = some g ∨ w.heap.size ≤ g) → K (a.put o.dst v') w') :
    if Region.wanted o (yielded ops a.tmps) = true then Oper.wp Tryd.prog o a w K Q else E := by
  obtain ⟨i, hi, hz, hsz, hby⟩ := info_parts infoSlice
  obtain ⟨vs, h1, h2⟩ := hown
  obtain ⟨A, c, rfl, _, _, _⟩ := hu.form
  refine step_append_lies (P := Tryd.prog) w hgd s x 68 ho base 27 i (.slice none 0 0) 1 24 Tryd.underlying68 hi hz hsz hby rfl (by omega) v ls.length vs hs h1 ⟨b, 0, none⟩ 1 1 [.slice A l.length c] hx rfl (fun j u hj => ?_) (fun u hu => ?_) (by omega) (by unfold maxLen; omega) (by omega) hbase w.heap.size rfl
    (fun g cap w' k1 k2 k3 _ => h _ w' ⟨vs ++ [.slice A l.length c], by rw [List.length_append]; exact k1, (h2.map fun _ _ t => t.apart h1 k2).snoc (hu.apart h1 k2)⟩ k2 fun g' hg' => ?_)
  · exact World.news_of_block hb j u (by simpa using hj)
  · simp at hu
    subst hu
    rfl
  · simp only [Value.ownBlock, Option.some.injEq] at hg'
    subst hg'
    rcases k3 with k3 | k3
    · exact .inl k3
    · exact .inr (by omega)
theorem yieldsIf_load_hash {ops : Array Oper} {S : World → Prop} {o : Oper} {a : Act} (hw : Region.wanted o (yielded ops a.tmps) = true) (x : Operand) (ho : o.op = .load 25 x)
    (b off : Nat) (hx : a.eval x = .pointer (some ⟨b, off, none⟩)) (h : List UInt8) (hl : h.length = 32) (hS : ∀ w, S w → w.rangeAt b off (Lib.byteCells h)) (X : Array Value) (hX : u8A h = X) : YieldsIf Tryd.prog ops S o (.agg X) a := by
  subst hX
  obtain ⟨i, z, hi, _, _, hsz, _⟩ := hash_parts
  exact yieldsIf_load_mid hw 25 x ho b off hx (Lib.byteCells h) _ hS Tryd.underlying25 rfl (by rw [hi, Option.map_some, hsz, Lib.byteCells_length, hl])
theorem run_load_hash {w : World} {ρ : Operand → Value} {o : Oper} (x : Operand) (ho : o.op = .load 25 x) (b off : Nat) (hx : ρ x = .pointer (some ⟨b, off, none⟩)) (h : List UInt8) (hl : h.length = 32) (hS : w.rangeAt b off (Lib.byteCells h)) {X : Array Value} (hX : u8A h = X) : (execOp ρ o).run Tryd.prog w = .ok (.value (.agg X)) w := by
  obtain ⟨i, z, hi, _, _, hsz, _⟩ := hash_parts
  exact run_load_row 25 x ho b off hx (Lib.byteCells h) _ hS Tryd.underlying25 rfl (by rw [hi, Option.map_some, hsz, Lib.byteCells_length, hl]) hX.symm
theorem SL.some {w : World} {B n c : Nat} {A : Option Addr} {ls : List (List UInt8)} (h : SL w B (.slice A n c) ls) (hn : 0 < ls.length) : ∃ b, A = .some ⟨b, 0, none⟩ := by
  obtain ⟨vs, h1, _⟩ := h
  rcases h1.2 with ⟨_, e⟩ | ⟨g, cap, cur, e, _⟩
  · omega
  · injection e with e1 _ _
    exact ⟨g, e1⟩
/-- The last pair of unlike texts with one hash. -/
def isBr (x : List UInt8 × List UInt8) : Bool := !(x.1 == x.2) && decide (shaL x.1 = shaL x.2)
def lastBr (ss ts : List (List UInt8)) : Option (List UInt8 × List UInt8) := (ss.zip ts).reverse.find? isBr
theorem lastBr_none {ss ts : List (List UInt8)} (h : ∀ x ∈ ss.zip ts, isBr x = false) : lastBr ss ts = none := by
  unfold lastBr
  rw [List.find?_eq_none]
  intro x hx
  rw [h x (List.mem_reverse.1 hx)]
  simp
theorem lastBr_hit {ss ts : List (List UInt8)} {k : Nat} (h1 : k < ss.length) (h2 : k < ts.length) (hno : ∀ x ∈ (ss.zip ts).drop (k + 1), isBr x = false) (hyes : isBr (ss[k], ts[k]) = true) : lastBr ss ts = .some (ss[k], ts[k]) := by
  have hk : k < (ss.zip ts).length := by rw [List.length_zip]; omega
  have e : ss.zip ts = (ss.zip ts).take k ++ (ss[k], ts[k]) :: (ss.zip ts).drop (k + 1) := by
    rw [show (ss[k], ts[k]) = (ss.zip ts)[k] by simp, ← List.drop_eq_getElem_cons hk, List.take_append_drop]
  unfold lastBr
  rw [e, List.reverse_append, List.reverse_cons, List.append_assoc, List.find?_append]
  have hn : ((ss.zip ts).drop (k + 1)).reverse.find? isBr = none := by
    rw [List.find?_eq_none]
    intro x hx
    rw [hno x (List.mem_reverse.1 hx)]
    simp
  rw [hn]
  simp [hyes]
end Go.Proofs.YtpfhhbfjemmkaaaDoor
