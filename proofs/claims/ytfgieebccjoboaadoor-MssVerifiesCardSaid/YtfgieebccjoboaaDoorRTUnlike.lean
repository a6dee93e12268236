/- Rows of rows of hashes in memory of one's own. The texts of rows, the first unlike pair of one hash. The document's own tree: a break of two unlike rows of leaves with one root. -/
import Derived.Test.YtfgieebccjoboaaDoorRTBrkA
namespace Go.Proofs.YtfgieebccjoboaaDoor
open Go.RowKit

theorem infoHashes : (Tryd.prog.info? 33).map (fun i => (i.zero, i.size, i.bytes)) = some (some (.slice none 0 0), 1, 24) := by kernel_rfl
theorem ty_hashes : (33 : TypeId) ≠ 29 := by decide
/-- The value is hashes in a block of hashes. -/
def HxV (w : World) (v : Value) (l : List (List UInt8)) : Prop := OwnH w 0 v l
theorem HxV.of {w : World} {B : Nat} {v : Value} {l : List (List UInt8)} (h : OwnH w B v l) : HxV w v l := by
  refine ⟨h.1, h.2.1, ?_⟩
  rcases h.2.2 with h0 | ⟨g, cap, cur, e, _, h3⟩
  · exact .inl h0
  · exact .inr ⟨g, cap, cur, e, Nat.zero_le _, h3⟩
theorem HxV.on {w w' : World} {v : Value} {l : List (List UInt8)} (h : HxV w v l) (hb : Below w.heap.size w w') : HxV w' v l := OwnH.on h hb
theorem HxV.apart {w w' : World} {v u : Value} {l : List (List UInt8)} {B n : Nat} {xs : List Value} (h : HxV w v l) (hown : w.ownsRow B 33 1 u n xs) (hg : w.grownBy w' u.ownBlock) : HxV w' v l := by
  refine OwnH.apart h hg fun g hgv e => ?_
  rcases h.2.2 with ⟨rfl, _⟩ | ⟨g1, cap1, cur1, rfl, _, h3, _⟩
  · simp [Value.ownBlock] at hgv
  · rcases hown.2 with ⟨rfl, _⟩ | ⟨g2, cap2, cur2, rfl, _, h4, _⟩
    · simp [Value.ownBlock] at e
    · simp only [Value.ownBlock, Option.some.injEq] at hgv e
      subst hgv
      subst e
      have := h3.symm.trans h4
      injection this with k1
      injection k1 with _ k2 _
      exact absurd k2.symm ty_hashes
theorem HxV.form {w : World} {v : Value} {l : List (List UInt8)} (h : HxV w v l) : ∃ A c, v = .slice A l.length c ∧ l.length ≤ c ∧ c ≤ maxLen := OwnH.form h rfl
/-- The values are the rows. -/
def HxL (w : World) (vs : List Value) (ls : List (List (List UInt8))) : Prop := vs.length = ls.length ∧ ∀ i (h : i < ls.length), ∃ v, vs[i]? = some v ∧ HxV w v ls[i]
theorem HxL.nil (w : World) : HxL w [] [] := ⟨rfl, fun i h => by simp at h⟩
theorem HxL.map {w w' : World} {vs : List Value} {ls : List (List (List UInt8))} (h : HxL w vs ls) (hk : ∀ v l, HxV w v l → HxV w' v l) : HxL w' vs ls := ⟨h.1, fun i hi => by
  obtain ⟨v, h1, h2⟩ := h.2 i hi
  exact ⟨v, h1, hk v _ h2⟩⟩
theorem HxL.snoc {w : World} {vs : List Value} {ls : List (List (List UInt8))} {v : Value} {l : List (List UInt8)} (h : HxL w vs ls) (hv : HxV w v l) : HxL w (vs ++ [v]) (ls ++ [l]) := by
  refine ⟨by rw [List.length_append, List.length_append, h.1]; rfl, fun i hi => ?_⟩
  by_cases hlt : i < ls.length
  · obtain ⟨u, h1, h2⟩ := h.2 i hlt
    refine ⟨u, ?_, by rw [List.getElem_append_left hlt]; exact h2⟩
    rw [List.getElem?_append_left (by rw [h.1]; exact hlt)]; exact h1
  · have hie : i = ls.length := by simp at hi; omega
    subst hie
    refine ⟨v, ?_, ?_⟩
    · rw [List.getElem?_append_right (by rw [h.1]; exact Nat.le_refl _), h.1, Nat.sub_self]; rfl
    · simpa using hv
/-- A row of rows of the call's own, from block B on. -/
def RL (w : World) (B : Nat) (v : Value) (ls : List (List (List UInt8))) : Prop := ∃ vs, w.ownsRow B 33 1 v ls.length vs ∧ HxL w vs ls
theorem RL.nil (w : World) (B : Nat) : RL w B (.slice none 0 0) [] := ⟨[], World.ownsRow_nil _ _ _ _, HxL.nil w⟩
theorem RL.on {w w' : World} {B : Nat} {v : Value} {ls : List (List (List UInt8))} (h : RL w B v ls) (hb : Below w.heap.size w w') : RL w' B v ls := by
  obtain ⟨vs, h1, h2⟩ := h
  exact ⟨vs, own_keepK h1 hb, h2.map fun _ _ h => h.on hb⟩
theorem RL.form {w : World} {B n : Nat} {v : Value} {ls : List (List (List UInt8))} (h : RL w B v ls) (hn : ls.length = n) : ∃ A c, v = .slice A n c ∧ n ≤ c ∧ c ≤ maxLen := by
  subst hn
  obtain ⟨vs, h1, _⟩ := h
  exact own_caps h1
theorem RL.inside {w : World} {B : Nat} {v : Value} {ls : List (List (List UInt8))} (h : RL w B v ls) : ∀ g, v.ownBlock = some g → B ≤ g ∧ g < w.heap.size := by
  obtain ⟨vs, h1, _⟩ := h
  exact fun g hg => h1.lt g hg
/-- Another row of the same kind has grown. -/
theorem RL.apart {w w' : World} {B C : Nat} {v u : Value} {ls ks : List (List (List UInt8))} (h : RL w B v ls) (k : RL w C u ks) (hg : w.grownBy w' u.ownBlock) (hne : ∀ g, v.ownBlock = some g → u.ownBlock ≠ some g) : RL w' B v ls := by
  obtain ⟨vs, h1, h2⟩ := h
  obtain ⟨us, k1, _⟩ := k
  refine ⟨vs, ⟨h1.1, ?_⟩, h2.map fun _ _ h => h.apart k1 hg⟩
  rcases h1.2 with h0 | ⟨g, cap, cur, rfl, q1, q2, q3⟩
  · exact .inl h0
  · exact .inr ⟨g, cap, cur, rfl, q1, (hg.block g (Array.getElem?_eq_some_iff.1 q2).1 (fun e => hne g (by simp [Value.ownBlock]) e.symm)).trans q2, q3⟩
theorem RL.hx {w w' : World} {C : Nat} {v u : Value} {l : List (List UInt8)} {ks : List (List (List UInt8))} (h : HxV w v l) (k : RL w C u ks) (hg : w.grownBy w' u.ownBlock) : HxV w' v l := by
  obtain ⟨us, k1, _⟩ := k
  exact h.apart k1 hg
theorem RL.at_ {w : World} {B n c i b off : Nat} {ls : List (List (List UInt8))} (h : RL w B (.slice (some ⟨b, off, none⟩) n c) ls) (hi : i < ls.length) :
    b < w.heap.size ∧ ∃ A d, w.cell? ⟨b, off + i, none⟩ = some (.slice A ls[i].length d) ∧ HV w (.slice A ls[i].length d) ls[i] := by
  obtain ⟨vs, h1, h2⟩ := h
  rcases h1.2 with ⟨e, _⟩ | ⟨g, cap, cur, e, _, q2, q3, _, _, q6⟩
  · cases e
  · injection e with e1 e2 e3
    injection e1 with e1
    injection e1 with e4 e5
    subst e4 e5
    obtain ⟨v, hv, ht⟩ := h2.2 i hi
    obtain ⟨A, d, rfl, k1, k2⟩ := ht.form
    refine ⟨(Array.getElem?_eq_some_iff.1 q2).1, A, d, ?_, OwnH.hv ht⟩
    have hb : Blk w b cur 33 := q2
    rw [Nat.zero_add, hb.cell i, ← Array.getElem?_toList]
    have e := congrArg (fun l : List Value => l[i]?) q6
    simp only [List.getElem?_take, Nat.mul_one, if_pos hi] at e
    rw [e]
    exact hv
theorem RL.some {w : World} {B n c : Nat} {A : Option Addr} {ls : List (List (List UInt8))} (h : RL w B (.slice A n c) ls) (hn : 0 < ls.length) : ∃ b, A = .some ⟨b, 0, none⟩ := by
  obtain ⟨vs, h1, _⟩ := h
  rcases h1.2 with ⟨_, e⟩ | ⟨g, cap, cur, e, _⟩
  · omega
  · injection e with e1 _ _
    exact ⟨g, e1⟩
/-- append of one row in a region walked by hand. -/
theorem step_append_row {w : World} {ops : Array Oper} {o : Oper} {a : Act} {K : Act → World → Prop} {Q : Exit → Act → World → Prop} {E : Prop} (hgd : o.guard = none) (s x : Operand)
    (ho : o.op = .call { callee := .builtin .append, args := #[s, x], argTypes := #[107, 107] })
    (base : Nat) (v : Value) (ls : List (List (List UInt8))) (hs : a.eval s = v) (hown : RL w base v ls) (b : Nat) (u : Value) (l : List (List UInt8)) (hu : HxV w u l) (hb : w.heap[b]? = some (.cells #[u] 33 (0, 0))) (hx : a.eval x = .slice (some ⟨b, 0, none⟩) 1 1)
    (hlim : ls.length + 1 ≤ 1000000) (hbase : base ≤ w.heap.size)
    (h : ∀ v' w', RL w' base v' (ls ++ [l]) → w.grownBy w' v.ownBlock → (∀ g, v'.ownBlock = some g → v.ownBlock = some g ∨ w.heap.size ≤ g) → K (a.put o.dst v') w') :
    if Region.wanted o (yielded ops a.tmps) = true then Oper.wp Tryd.prog o a w K Q else E := by
  obtain ⟨i, hi, hz, hsz, hby⟩ := info_parts infoHashes
  obtain ⟨vs, h1, h2⟩ := hown
  obtain ⟨A, c, rfl, _, _⟩ := hu.form
  refine step_append_lies (P := Tryd.prog) w hgd s x 107 ho base 33 i (.slice none 0 0) 1 24 Tryd.underlying107 hi hz hsz hby rfl (by omega) v ls.length vs hs h1 ⟨b, 0, none⟩ 1 1 [.slice A l.length c] hx rfl (fun j u hj => ?_) (fun u hu => ?_) (by omega) (by unfold maxLen; omega) (by omega) hbase w.heap.size rfl
    (fun g cap w' k1 k2 k3 _ => h _ w' ⟨vs ++ [.slice A l.length c], by rw [List.length_append]; exact k1, (h2.map fun _ _ t => t.apart h1 k2).snoc (hu.apart h1 k2)⟩ k2 fun g' hg' => ?_)
  · exact World.news_of_block hb j u (by simpa using hj)
  · simp at hu
    subst hu
    rfl
  · simp only [Value.ownBlock, Option.some.injEq] at hg'
    subst hg'
    rcases k3 with k3 | k3
    · exact .inl k3
    · exact .inr (by omega)
theorem wpList_append_row {w : World} {ops : Array Oper} {rest : List Oper} {o : Oper} {a : Act} {Q : Exit → Act → World → Prop} (hgd : o.guard = none) (s x : Operand)
    (ho : o.op = .call { callee := .builtin .append, args := #[s, x], argTypes := #[107, 107] })
    (base : Nat) (v : Value) (ls : List (List (List UInt8))) (hs : a.eval s = v) (hown : RL w base v ls) (b : Nat) (u : Value) (l : List (List UInt8)) (hu : HxV w u l) (hb : w.heap[b]? = some (.cells #[u] 33 (0, 0))) (hx : a.eval x = .slice (some ⟨b, 0, none⟩) 1 1)
    (hlim : ls.length + 1 ≤ 1000000) (hbase : base ≤ w.heap.size)
    (h : ∀ v' w', RL w' base v' (ls ++ [l]) → w.grownBy w' v.ownBlock → (∀ g, v'.ownBlock = some g → v.ownBlock = some g ∨ w.heap.size ≤ g) → wpList Tryd.prog ops Q rest (a.put o.dst v') w') : wpList Tryd.prog ops Q (o :: rest) a w := by
  refine wpList_plain hgd fun K hK => ?_
  have hw : Region.wanted o (yielded ops a.tmps) = true := by simp [Region.wanted, hgd]
  have := step_append_row (ops := ops) (K := K) (Q := Q) (E := True) hgd s x ho base v ls hs hown b u l hu hb hx hlim hbase (fun v' w' k1 k2 k3 => hK _ _ (h v' w' k1 k2 k3))
  rwa [if_pos hw] at this
end Go.Proofs.YtfgieebccjoboaaDoor
namespace Go.Proofs.YtfgieebccjoboaaDoor
open Go.RowKit

/-- The root of a row of leaves. -/
def rootV (l : List (List UInt8)) : List UInt8 := rootH (tree.high l.length) (rowH l)
def unlOK (l k : List (List UInt8)) : Prop := l.length = k.length ∧ l ≠ k ∧ rootV l = rootV k
instance (l k : List (List UInt8)) : Decidable (unlOK l k) := by unfold unlOK; infer_instance
/-- The texts of a row's nodes; the first pair of unlike ones with one hash; on the highest row that has one. -/
def textsH (l : List (List UInt8)) : List (List UInt8) := tree.texts nodeT l
def firstBr (ss ts : List (List UInt8)) : Option (List UInt8 × List UInt8) := (ss.zip ts).find? isBr
def seekBr : Nat → List (List UInt8) → List (List UInt8) → Option (List UInt8 × List UInt8)
  | 0, _, _ => none
  | k + 1, R, S => (firstBr (textsH (upNH k R)) (textsH (upNH k S))).or (seekBr k R S)
def unlV (l k : List (List UInt8)) : Option (List UInt8 × List UInt8) := if unlOK l k then seekBr (tree.high l.length) (rowH l) (rowH k) else none
theorem rootH_hash (k : Nat) {l : List (List UInt8)} (h : ∀ r ∈ l, r.length = 32) (hl : l.length = 2 ^ k) : (rootH k l).length = 32 := by
  have e := upNH_len k l
  rw [hl, Nat.div_self (Nat.two_pow_pos k)] at e
  have h2 := upNH_hash h k
  unfold rootH tree.root
  unfold upNH at e h2
  match h3 : tree.upN nodeT shaL k l, e with
  | [x], _ =>
    rw [h3] at h2
    exact h2 x (by simp)
theorem rootV_len {l : List (List UInt8)} (h : ∀ r ∈ l, r.length = 32) : (rootV l).length = 32 := rootH_hash _ (rowH_hash h) (rowH_len l)
theorem texts_at : ∀ (l : List (List UInt8)) (i : Nat), 2 * i + 1 < l.length → (textsH l)[i]? = some (nodeT (l.getD (2 * i) []) (l.getD (2 * i + 1) []))
  | [], i, h => by simp at h
  | [_], i, h => by simp at h
  | a :: b :: r, 0, _ => rfl
  | a :: b :: r, i + 1, h => by
    have := texts_at r i (by simp at h; omega)
    unfold textsH at this ⊢
    simp only [tree.texts, List.getElem?_cons_succ, this]
    rw [show 2 * (i + 1) = 2 * i + 1 + 1 by omega, show 2 * i + 1 + 1 + 1 = (2 * i + 1) + 1 + 1 by omega]
    simp [List.getD_eq_getElem?_getD]
theorem textsH_len (l : List (List UInt8)) : (textsH l).length = l.length / 2 := tree.texts_len nodeT l
theorem firstBr_none {ss ts : List (List UInt8)} (h : ∀ x ∈ ss.zip ts, isBr x = false) : firstBr ss ts = none := by
  unfold firstBr
  rw [List.find?_eq_none]
  intro x hx
  rw [h x hx]
  simp
theorem zip_step {ss ts : List (List UInt8)} {i : Nat} {s t : List UInt8} (h1 : ss[i]? = some s) (h2 : ts[i]? = some t) : (ss.zip ts).take (i + 1) = (ss.zip ts).take i ++ [(s, t)] := by
  have e : (ss.zip ts)[i]? = some (s, t) := List.getElem?_zip_eq_some.2 ⟨h1, h2⟩
  obtain ⟨hi, e⟩ := List.getElem?_eq_some_iff.1 e
  rw [List.take_succ_eq_append_getElem hi, e]
theorem firstBr_hit {ss ts : List (List UInt8)} {i : Nat} {s t : List UInt8} (h1 : ss[i]? = some s) (h2 : ts[i]? = some t) (hno : ∀ x ∈ (ss.zip ts).take i, isBr x = false) (hyes : isBr (s, t) = true) : firstBr ss ts = .some (s, t) := by
  have e : ss.zip ts = (ss.zip ts).take i ++ (s, t) :: (ss.zip ts).drop (i + 1) := by
    have h := List.take_append_drop (i + 1) (ss.zip ts)
    rw [zip_step h1 h2, List.append_assoc] at h
    exact h.symm
  unfold firstBr
  rw [e, List.find?_append]
  have hn : ((ss.zip ts).take i).find? isBr = none := by
    rw [List.find?_eq_none]
    intro x hx
    rw [hno x hx]
    simp
  rw [hn]
  simp [hyes]
theorem allReadyH_two {P : Program} {md : Region.Mode} {ops : Array Oper} {Q : Exit → Act → World → Prop} {S : World → Prop} {fuel : Nat} {listed : Array Bool} {a : Act} {w : World} {i j : Nat} {o o' : Oper} (ho : ops.toList[i]? = some o) (ho' : ops.toList[j]? = some o')
    (h : ∀ K' : Act → World → Prop, Shut (∀ a w, S w → (S w → wpAnyH P md ops Q S fuel (listed.setIfInBounds i true) a w) → K' a w) → if Region.wanted o (yielded ops a.tmps) = true then Oper.wp P o a w K' Q else K' (a.put o.dst undef) w)
    (h' : ∀ K' : Act → World → Prop, Shut (∀ a w, S w → (S w → wpAnyH P md ops Q S fuel (listed.setIfInBounds j true) a w) → K' a w) → if Region.wanted o' (yielded ops a.tmps) = true then Oper.wp P o' a w K' Q else K' (a.put o'.dst undef) w) : AllReadyH P md ops Q S fuel listed a w [i, j] :=
  AllReadyH.cons (by rw [← Array.getElem?_toList]; exact ho) h (allReadyH_consL ho' h')
theorem TxV.rd {w : World} {A : Option Addr} {n c : Nat} {l : List UInt8} (h : TxV w (.slice A n c) l) : Rd w w.heap.size A l := by
  obtain ⟨X, d, e, _, _, h2⟩ := h.form
  injection e with e1 _ _
  rw [e1]
  exact h2
end Go.Proofs.YtfgieebccjoboaaDoor
namespace Go.Proofs.YtfgieebccjoboaaDoor
open Go.RowKit

end Go.Proofs.YtfgieebccjoboaaDoor
