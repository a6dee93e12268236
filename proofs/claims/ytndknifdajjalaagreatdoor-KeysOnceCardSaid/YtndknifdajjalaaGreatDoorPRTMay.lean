/- Where two unlike ways, two unlike rows have one root there is a break, and what is given is one. A leaf's own proof leads to the root; a root is its halves' node. -/
import Derived.Deep.RegionHeld3
import Derived.BigQuiet
import Derived.Test.YtndknifdajjalaaGreatDoorPWotsD
import Derived.Test.YtndknifdajjalaaGreatDoorPNet
import Derived.Test.YtndknifdajjalaaGreatDoorPU8
import Derived.Test.YtndknifdajjalaaGreatDoorPMakeA
import Derived.Test.YtndknifdajjalaaGreatDoorPHashD
import Derived.Test.YtndknifdajjalaaGreatDoorPRTClimb
import Derived.Test.YtndknifdajjalaaGreatDoorPPut
import Derived.Test.YtndknifdajjalaaGreatDoorPMem
import Derived.Test.YtndknifdajjalaaGreatDoorPRSum
namespace Go.Proofs.YtndknifdajjalaaGreatDoor
open Go.RowKit

section
variable {P : Program} {w : World}
end

/-- The value is bytes in a block of bytes. -/
def TxV (w : World) (v : Value) (l : List UInt8) : Prop := OwnM w 0 5 v l.length l
theorem TxV.of {w : World} {B n : Nat} {v : Value} {l : List UInt8} (h : OwnM w B 5 v n l) : TxV w v l := by
  obtain ⟨hl, g, cap, cur, fz, e, hb, rest⟩ := h
  subst hl
  exact ⟨rfl, g, cap, cur, fz, e, Nat.zero_le _, rest⟩
theorem TxV.on {w w' : World} {v : Value} {l : List UInt8} (h : TxV w v l) (hb : Below w.heap.size w w') : TxV w' v l := by
  obtain ⟨hl, g, cap, cur, fz, e, h0, hg, rest⟩ := h
  exact ⟨hl, g, cap, cur, fz, e, h0, (hb.block g (Array.getElem?_eq_some_iff.1 hg).1).trans hg, rest⟩
theorem TxV.apart {w w' : World} {v u : Value} {l : List UInt8} {B n : Nat} {xs : List Value} (h : TxV w v l) (hown : w.ownsRow B 35 1 u n xs) (hg : w.grownBy w' u.ownBlock) : TxV w' v l := by
  obtain ⟨hl, g, cap, cur, fz, e, h0, hgc, rest⟩ := h
  have hne : some g ≠ u.ownBlock := by
    rcases hown.2 with ⟨rfl, _⟩ | ⟨g2, cap2, cur2, rfl, _, h3, _⟩
    · simp [Value.ownBlock]
    · simp only [Value.ownBlock, ne_eq, Option.some.injEq]
      rintro rfl
      have := hgc.symm.trans h3
      injection this with h1
      injection h1 with _ h2 _
      exact absurd h2 (by decide)
  exact ⟨hl, g, cap, cur, fz, e, h0, (hg.block g (Array.getElem?_eq_some_iff.1 hgc).1 hne).trans hgc, rest⟩
theorem TxV.form {w : World} {v : Value} {l : List UInt8} (h : TxV w v l) : ∃ A c, v = .slice A l.length c ∧ l.length ≤ c ∧ c ≤ maxLen ∧ Rd w w.heap.size A l := by
  obtain ⟨g, c, rfl, h1, h2⟩ := ownM_form h
  exact ⟨_, c, rfl, h1, h2, OwnM.rd h⟩
/-- The values are the texts. -/
def TxL (w : World) (vs : List Value) (ls : List (List UInt8)) : Prop := vs.length = ls.length ∧ ∀ i (h : i < ls.length), ∃ v, vs[i]? = some v ∧ TxV w v ls[i]
theorem TxL.nil (w : World) : TxL w [] [] := ⟨rfl, fun i h => by simp at h⟩
theorem TxL.map {w w' : World} {vs : List Value} {ls : List (List UInt8)} (h : TxL w vs ls) (hk : ∀ v l, TxV w v l → TxV w' v l) : TxL w' vs ls := ⟨h.1, fun i hi => by
  obtain ⟨v, h1, h2⟩ := h.2 i hi
  exact ⟨v, h1, hk v _ h2⟩⟩
theorem TxL.snoc {w : World} {vs : List Value} {ls : List (List UInt8)} {v : Value} {l : List UInt8} (h : TxL w vs ls) (hv : TxV w v l) : TxL w (vs ++ [v]) (ls ++ [l]) := by
  refine ⟨by rw [List.length_append, List.length_append, h.1]; rfl, fun i hi => ?_⟩
  by_cases hlt : i < ls.length
  · obtain ⟨u, h1, h2⟩ := h.2 i hlt
    refine ⟨u, ?_, by rw [List.getElem_append_left hlt]; exact h2⟩
    rw [List.getElem?_append_left (by rw [h.1]; exact hlt)]; exact h1
  · have hie : i = ls.length := by simp at hi; omega
    subst hie
    refine ⟨v, ?_, ?_⟩
    · rw [List.getElem?_append_right (by rw [h.1]; exact Nat.le_refl _), h.1, Nat.sub_self]; rfl
    · simpa using hv
/-- A row of texts of the call's own, from block B on. -/
def SL (w : World) (B : Nat) (v : Value) (ls : List (List UInt8)) : Prop := ∃ vs, w.ownsRow B 35 1 v ls.length vs ∧ TxL w vs ls
theorem SL.nil (w : World) (B : Nat) : SL w B (.slice none 0 0) [] := ⟨[], World.ownsRow_nil _ _ _ _, TxL.nil w⟩
theorem SL.on {w w' : World} {B : Nat} {v : Value} {ls : List (List UInt8)} (h : SL w B v ls) (hb : Below w.heap.size w w') : SL w' B v ls := by
  obtain ⟨vs, h1, h2⟩ := h
  exact ⟨vs, own_keep h1 hb, h2.map fun _ _ h => h.on hb⟩
theorem SL.form {w : World} {B n : Nat} {v : Value} {ls : List (List UInt8)} (h : SL w B v ls) (hn : ls.length = n) : ∃ A c, v = .slice A n c ∧ n ≤ c ∧ c ≤ maxLen := by
  subst hn
  obtain ⟨vs, h1, _⟩ := h
  exact own_caps h1
theorem SL.inside {w : World} {B : Nat} {v : Value} {ls : List (List UInt8)} (h : SL w B v ls) : ∀ g, v.ownBlock = some g → B ≤ g ∧ g < w.heap.size := by
  obtain ⟨vs, h1, _⟩ := h
  exact fun g hg => h1.lt g hg
/-- Another row of the same kind has grown. -/
theorem SL.apart {w w' : World} {B C : Nat} {v u : Value} {ls ks : List (List UInt8)} (h : SL w B v ls) (k : SL w C u ks) (hg : w.grownBy w' u.ownBlock) (hne : ∀ g, v.ownBlock = some g → u.ownBlock ≠ some g) : SL w' B v ls := by
  obtain ⟨vs, h1, h2⟩ := h
  obtain ⟨us, k1, _⟩ := k
  refine ⟨vs, ⟨h1.1, ?_⟩, h2.map fun _ _ h => h.apart k1 hg⟩
  rcases h1.2 with h0 | ⟨g, cap, cur, rfl, q1, q2, q3⟩
  · exact .inl h0
  · exact .inr ⟨g, cap, cur, rfl, q1, (hg.block g (Array.getElem?_eq_some_iff.1 q2).1 (fun e => hne g (by simp [Value.ownBlock]) e.symm)).trans q2, q3⟩
theorem SL.at_ {w : World} {B n c i b off : Nat} {ls : List (List UInt8)} (h : SL w B (.slice (some ⟨b, off, none⟩) n c) ls) (hi : i < ls.length) :
    b < w.heap.size ∧ ∃ A d, w.cell? ⟨b, off + i, none⟩ = some (.slice A ls[i].length d) ∧ ls[i].length ≤ d ∧ d ≤ maxLen ∧ Rd w w.heap.size A ls[i] := by
  obtain ⟨vs, h1, h2⟩ := h
  rcases h1.2 with ⟨e, _⟩ | ⟨g, cap, cur, e, _, q2, q3, _, _, q6⟩
  · cases e
  · injection e with e1 e2 e3
    injection e1 with e1
    injection e1 with e4 e5
    subst e4 e5
    obtain ⟨v, hv, ht⟩ := h2.2 i hi
    obtain ⟨A, d, rfl, k1, k2, k3⟩ := ht.form
    refine ⟨(Array.getElem?_eq_some_iff.1 q2).1, A, d, ?_, k1, k2, k3⟩
    have hb : Blk w b cur 35 := q2
    rw [Nat.zero_add, hb.cell i, ← Array.getElem?_toList]
    have e := congrArg (fun l : List Value => l[i]?) q6
    simp only [List.getElem?_take, Nat.mul_one, if_pos hi] at e
    rw [e]
    exact hv
theorem ty_hash : (44 : TypeId) ≠ 5 := by decide
/-- A hash elsewhere has been written. -/
theorem SL.row {w : World} {B g : Nat} {v : Value} {ls : List (List UInt8)} {cs : Array Value} (h : SL w B v ls) (hg : g < B) (hb : Blk w g cs 44) (X : Array Value) : SL (w.setRow g X) B v ls := by
  obtain ⟨vs, h1, h2⟩ := h
  refine ⟨vs, ⟨h1.1, ?_⟩, h2.map fun u l hu => ?_⟩
  · rcases h1.2 with h0 | ⟨k, cap, cur, rfl, q1, q2, q3⟩
    · exact .inl h0
    · exact .inr ⟨k, cap, cur, rfl, q1, Blk.rowOther (T := 35) q2 (by omega) _, q3⟩
  · obtain ⟨hl, k, cap, cur, fz, e, h0, hgc, rest⟩ := hu
    refine ⟨hl, k, cap, cur, fz, e, h0, (setRow_other _ _ _ _ fun e2 => ?_).trans hgc, rest⟩
    subst e2
    have := hgc.symm.trans hb
    injection this with k1
    injection k1 with _ k2 _
    exact absurd k2.symm ty_hash
theorem SL.some {w : World} {B n c : Nat} {A : Option Addr} {ls : List (List UInt8)} (h : SL w B (.slice A n c) ls) (hn : 0 < ls.length) : ∃ b, A = .some ⟨b, 0, none⟩ := by
  obtain ⟨vs, h1, _⟩ := h
  rcases h1.2 with ⟨_, e⟩ | ⟨g, cap, cur, e, _⟩
  · omega
  · injection e with e1 _ _
    exact ⟨g, e1⟩

theorem zero32 (w : World) : (zeroValue 44).run Tryz.prog w = .ok (.agg (u8A zeroH)) w := by kernel_rfl
theorem wpList_alloc_hash {w : World} {ops : Array Oper} {rest : List Oper} {o : Oper} {a : Act} {Q : Exit → Act → World → Prop} (hgd : o.guard = none) (ho : o.op = .alloc 44) (Z : Array Value) (hZ : u8A zeroH = Z)
    (hk : wpList Tryz.prog ops Q rest (a.put o.dst (.pointer (some ⟨w.heap.size, 0, none⟩))) (w.alloc (.cells Z 44))) : wpList Tryz.prog ops Q (o :: rest) a w := by
  subst hZ
  refine wpList_plain hgd fun K hK => ?_
  have h := zero32
  unfold Oper.wp execOp
  rw [ho]
  go_simp
  exact hK _ _ hk
/-- The value reads as the bytes. -/
def TV (w : World) (v : Value) (l : List UInt8) : Prop := ∃ X c, v = .slice X l.length c ∧ l.length ≤ c ∧ Rd w w.heap.size X l
theorem TV.on {w w' : World} {v : Value} {l : List UInt8} (h : TV w v l) (hb : Below w.heap.size w w') : TV w' v l := by
  obtain ⟨X, c, h1, h2, h3⟩ := h
  exact ⟨X, c, h1, h2, (h3.below hb (Nat.le_refl _)).more hb.size⟩
theorem TV.nil (w : World) : TV w (.slice none 0 0) [] := ⟨none, 0, rfl, Nat.le_refl _, .inl rfl⟩
def brkOK (n i : Int) (a b : List UInt8) (p q : List (List UInt8)) : Prop := climbOK n i p.length ∧ climbOK n i q.length ∧ climbV n i a p = climbV n i b q ∧ ¬ (a = b ∧ p = q)
instance (n i : Int) (a b : List UInt8) (p q : List (List UInt8)) : Decidable (brkOK n i a b p q) := by unfold brkOK; infer_instance

theorem infoHashes : (Tryz.prog.info? 37).map (fun i => (i.zero, i.size, i.bytes)) = some (some (.slice none 0 0), 1, 24) := by kernel_rfl
theorem ty_hashes : (37 : TypeId) ≠ 44 := by decide
/-- The value is hashes in a block of hashes. -/
def HxV (w : World) (v : Value) (l : List (List UInt8)) : Prop := OwnH w 0 v l
theorem HxV.of {w : World} {B : Nat} {v : Value} {l : List (List UInt8)} (h : OwnH w B v l) : HxV w v l := by
  refine ⟨h.1, h.2.1, ?_⟩
  rcases h.2.2 with h0 | ⟨g, cap, cur, e, _, h3⟩
  · exact .inl h0
  · exact .inr ⟨g, cap, cur, e, Nat.zero_le _, h3⟩
theorem HxV.on {w w' : World} {v : Value} {l : List (List UInt8)} (h : HxV w v l) (hb : Below w.heap.size w w') : HxV w' v l := OwnH.on h hb
theorem HxV.apart {w w' : World} {v u : Value} {l : List (List UInt8)} {B n : Nat} {xs : List Value} (h : HxV w v l) (hown : w.ownsRow B 37 1 u n xs) (hg : w.grownBy w' u.ownBlock) : HxV w' v l := by
  refine OwnH.apart h hg fun g hgv e => ?_
  rcases h.2.2 with ⟨rfl, _⟩ | ⟨g1, cap1, cur1, rfl, _, h3, _⟩
  · simp [Value.ownBlock] at hgv
  · rcases hown.2 with ⟨rfl, _⟩ | ⟨g2, cap2, cur2, rfl, _, h4, _⟩
    · simp [Value.ownBlock] at e
    · simp only [Value.ownBlock, Option.some.injEq] at hgv e
      subst hgv
      subst e
      have := h3.symm.trans h4
      injection this with k1
      injection k1 with _ k2 _
      exact absurd k2.symm ty_hashes
theorem HxV.form {w : World} {v : Value} {l : List (List UInt8)} (h : HxV w v l) : ∃ A c, v = .slice A l.length c ∧ l.length ≤ c ∧ c ≤ maxLen := OwnH.form h rfl
/-- The values are the rows. -/
def HxL (w : World) (vs : List Value) (ls : List (List (List UInt8))) : Prop := vs.length = ls.length ∧ ∀ i (h : i < ls.length), ∃ v, vs[i]? = some v ∧ HxV w v ls[i]
theorem HxL.nil (w : World) : HxL w [] [] := ⟨rfl, fun i h => by simp at h⟩
theorem HxL.map {w w' : World} {vs : List Value} {ls : List (List (List UInt8))} (h : HxL w vs ls) (hk : ∀ v l, HxV w v l → HxV w' v l) : HxL w' vs ls := ⟨h.1, fun i hi => by
  obtain ⟨v, h1, h2⟩ := h.2 i hi
  exact ⟨v, h1, hk v _ h2⟩⟩
theorem HxL.snoc {w : World} {vs : List Value} {ls : List (List (List UInt8))} {v : Value} {l : List (List UInt8)} (h : HxL w vs ls) (hv : HxV w v l) : HxL w (vs ++ [v]) (ls ++ [l]) := by
  refine ⟨by rw [List.length_append, List.length_append, h.1]; rfl, fun i hi => ?_⟩
  by_cases hlt : i < ls.length
  · obtain ⟨u, h1, h2⟩ := h.2 i hlt
    refine ⟨u, ?_, by rw [List.getElem_append_left hlt]; exact h2⟩
    rw [List.getElem?_append_left (by rw [h.1]; exact hlt)]; exact h1
  · have hie : i = ls.length := by simp at hi; omega
    subst hie
    refine ⟨v, ?_, ?_⟩
    · rw [List.getElem?_append_right (by rw [h.1]; exact Nat.le_refl _), h.1, Nat.sub_self]; rfl
    · simpa using hv
/-- A row of rows of the call's own, from block B on. -/
def RL (w : World) (B : Nat) (v : Value) (ls : List (List (List UInt8))) : Prop := ∃ vs, w.ownsRow B 37 1 v ls.length vs ∧ HxL w vs ls
theorem RL.nil (w : World) (B : Nat) : RL w B (.slice none 0 0) [] := ⟨[], World.ownsRow_nil _ _ _ _, HxL.nil w⟩
theorem RL.on {w w' : World} {B : Nat} {v : Value} {ls : List (List (List UInt8))} (h : RL w B v ls) (hb : Below w.heap.size w w') : RL w' B v ls := by
  obtain ⟨vs, h1, h2⟩ := h
  exact ⟨vs, own_keepK h1 hb, h2.map fun _ _ h => h.on hb⟩
theorem RL.form {w : World} {B n : Nat} {v : Value} {ls : List (List (List UInt8))} (h : RL w B v ls) (hn : ls.length = n) : ∃ A c, v = .slice A n c ∧ n ≤ c ∧ c ≤ maxLen := by
  subst hn
  obtain ⟨vs, h1, _⟩ := h
  exact own_caps h1
theorem RL.inside {w : World} {B : Nat} {v : Value} {ls : List (List (List UInt8))} (h : RL w B v ls) : ∀ g, v.ownBlock = some g → B ≤ g ∧ g < w.heap.size := by
  obtain ⟨vs, h1, _⟩ := h
  exact fun g hg => h1.lt g hg
/-- Another row of the same kind has grown. -/
theorem RL.apart {w w' : World} {B C : Nat} {v u : Value} {ls ks : List (List (List UInt8))} (h : RL w B v ls) (k : RL w C u ks) (hg : w.grownBy w' u.ownBlock) (hne : ∀ g, v.ownBlock = some g → u.ownBlock ≠ some g) : RL w' B v ls := by
  obtain ⟨vs, h1, h2⟩ := h
  obtain ⟨us, k1, _⟩ := k
  refine ⟨vs, ⟨h1.1, ?_⟩, h2.map fun _ _ h => h.apart k1 hg⟩
  rcases h1.2 with h0 | ⟨g, cap, cur, rfl, q1, q2, q3⟩
  · exact .inl h0
  · exact .inr ⟨g, cap, cur, rfl, q1, (hg.block g (Array.getElem?_eq_some_iff.1 q2).1 (fun e => hne g (by simp [Value.ownBlock]) e.symm)).trans q2, q3⟩
theorem RL.hx {w w' : World} {C : Nat} {v u : Value} {l : List (List UInt8)} {ks : List (List (List UInt8))} (h : HxV w v l) (k : RL w C u ks) (hg : w.grownBy w' u.ownBlock) : HxV w' v l := by
  obtain ⟨us, k1, _⟩ := k
  exact h.apart k1 hg
theorem RL.at_ {w : World} {B n c i b off : Nat} {ls : List (List (List UInt8))} (h : RL w B (.slice (some ⟨b, off, none⟩) n c) ls) (hi : i < ls.length) :
    b < w.heap.size ∧ ∃ A d, w.cell? ⟨b, off + i, none⟩ = some (.slice A ls[i].length d) ∧ HV w (.slice A ls[i].length d) ls[i] := by
  obtain ⟨vs, h1, h2⟩ := h
  rcases h1.2 with ⟨e, _⟩ | ⟨g, cap, cur, e, _, q2, q3, _, _, q6⟩
  · cases e
  · injection e with e1 e2 e3
    injection e1 with e1
    injection e1 with e4 e5
    subst e4 e5
    obtain ⟨v, hv, ht⟩ := h2.2 i hi
    obtain ⟨A, d, rfl, k1, k2⟩ := ht.form
    refine ⟨(Array.getElem?_eq_some_iff.1 q2).1, A, d, ?_, OwnH.hv ht⟩
    have hb : Blk w b cur 37 := q2
    rw [Nat.zero_add, hb.cell i, ← Array.getElem?_toList]
    have e := congrArg (fun l : List Value => l[i]?) q6
    simp only [List.getElem?_take, Nat.mul_one, if_pos hi] at e
    rw [e]
    exact hv
theorem RL.some {w : World} {B n c : Nat} {A : Option Addr} {ls : List (List (List UInt8))} (h : RL w B (.slice A n c) ls) (hn : 0 < ls.length) : ∃ b, A = .some ⟨b, 0, none⟩ := by
  obtain ⟨vs, h1, _⟩ := h
  rcases h1.2 with ⟨_, e⟩ | ⟨g, cap, cur, e, _⟩
  · omega
  · injection e with e1 _ _
    exact ⟨g, e1⟩
/-- append of one row in a region walked by hand. -/
theorem step_append_row {w : World} {ops : Array Oper} {o : Oper} {a : Act} {K : Act → World → Prop} {Q : Exit → Act → World → Prop} {E : Prop} (hgd : o.guard = none) (s x : Operand)
    (ho : o.op = .call { callee := .builtin .append, args := #[s, x], argTypes := #[161, 161] })
    (base : Nat) (v : Value) (ls : List (List (List UInt8))) (hs : a.eval s = v) (hown : RL w base v ls) (b : Nat) (u : Value) (l : List (List UInt8)) (hu : HxV w u l) (hb : w.heap[b]? = some (.cells #[u] 37 (0, 0))) (hx : a.eval x = .slice (some ⟨b, 0, none⟩) 1 1)
    (hlim : ls.length + 1 ≤ 1000000) (hbase : base ≤ w.heap.size)
    (h : ∀ v' w', RL w' base v' (ls ++ [l]) → w.grownBy w' v.ownBlock → (∀ g, v'.ownBlock = some g → v.ownBlock = some g ∨ w.heap.size ≤ g) → K (a.put o.dst v') w') :
    if Region.wanted o (yielded ops a.tmps) = true then Oper.wp Tryz.prog o a w K Q else E := by
  obtain ⟨i, hi, hz, hsz, hby⟩ := info_parts infoHashes
  obtain ⟨vs, h1, h2⟩ := hown
  obtain ⟨A, c, rfl, _, _⟩ := hu.form
  refine step_append_lies (P := Tryz.prog) w hgd s x 161 ho base 37 i (.slice none 0 0) 1 24 Tryz.underlying161 hi hz hsz hby rfl (by omega) v ls.length vs hs h1 ⟨b, 0, none⟩ 1 1 [.slice A l.length c] hx rfl (fun j u hj => ?_) (fun u hu => ?_) (by omega) (by unfold maxLen; omega) (by omega) hbase w.heap.size rfl
    (fun g cap w' k1 k2 k3 _ => h _ w' ⟨vs ++ [.slice A l.length c], by rw [List.length_append]; exact k1, (h2.map fun _ _ t => t.apart h1 k2).snoc (hu.apart h1 k2)⟩ k2 fun g' hg' => ?_)
  · exact World.news_of_block hb j u (by simpa using hj)
  · simp at hu
    subst hu
    rfl
  · simp only [Value.ownBlock, Option.some.injEq] at hg'
    subst hg'
    rcases k3 with k3 | k3
    · exact .inl k3
    · exact .inr (by omega)
theorem wpList_append_row {w : World} {ops : Array Oper} {rest : List Oper} {o : Oper} {a : Act} {Q : Exit → Act → World → Prop} (hgd : o.guard = none) (s x : Operand)
    (ho : o.op = .call { callee := .builtin .append, args := #[s, x], argTypes := #[161, 161] })
    (base : Nat) (v : Value) (ls : List (List (List UInt8))) (hs : a.eval s = v) (hown : RL w base v ls) (b : Nat) (u : Value) (l : List (List UInt8)) (hu : HxV w u l) (hb : w.heap[b]? = some (.cells #[u] 37 (0, 0))) (hx : a.eval x = .slice (some ⟨b, 0, none⟩) 1 1)
    (hlim : ls.length + 1 ≤ 1000000) (hbase : base ≤ w.heap.size)
    (h : ∀ v' w', RL w' base v' (ls ++ [l]) → w.grownBy w' v.ownBlock → (∀ g, v'.ownBlock = some g → v.ownBlock = some g ∨ w.heap.size ≤ g) → wpList Tryz.prog ops Q rest (a.put o.dst v') w') : wpList Tryz.prog ops Q (o :: rest) a w := by
  refine wpList_plain hgd fun K hK => ?_
  have hw : Region.wanted o (yielded ops a.tmps) = true := by simp [Region.wanted, hgd]
  have := step_append_row (ops := ops) (K := K) (Q := Q) (E := True) hgd s x ho base v ls hs hown b u l hu hb hx hlim hbase (fun v' w' k1 k2 k3 => hK _ _ (h v' w' k1 k2 k3))
  rwa [if_pos hw] at this

/-- The root of a row of leaves. -/
def rootV (l : List (List UInt8)) : List UInt8 := rootH (tree.high l.length) (rowH l)
def unlOK (l k : List (List UInt8)) : Prop := l.length = k.length ∧ l ≠ k ∧ rootV l = rootV k
instance (l k : List (List UInt8)) : Decidable (unlOK l k) := by unfold unlOK; infer_instance
theorem rootH_hash (k : Nat) {l : List (List UInt8)} (h : ∀ r ∈ l, r.length = 32) (hl : l.length = 2 ^ k) : (rootH k l).length = 32 := by
  have e := upNH_len k l
  rw [hl, Nat.div_self (Nat.two_pow_pos k)] at e
  have h2 := upNH_hash h k
  unfold rootH tree.root
  unfold upNH at e h2
  match h3 : tree.upN nodeT shaL k l, e with
  | [x], _ =>
    rw [h3] at h2
    exact h2 x (by simp)
theorem rootV_len {l : List (List UInt8)} (h : ∀ r ∈ l, r.length = 32) : (rootV l).length = 32 := rootH_hash _ (rowH_hash h) (rowH_len l)
theorem TxV.rd {w : World} {A : Option Addr} {n c : Nat} {l : List UInt8} (h : TxV w (.slice A n c) l) : Rd w w.heap.size A l := by
  obtain ⟨X, d, e, _, _, h2⟩ := h.form
  injection e with e1 _ _
  rw [e1]
  exact h2

/-- The proof of leaf i. -/
def proofV (l : List (List UInt8)) (i : Nat) : List (List UInt8) := proofH (tree.high l.length) i (rowH l)
theorem proofV_len (l : List (List UInt8)) (i : Nat) : (proofV l i).length = tree.high l.length := proofH_len _ _ _
theorem rowH_at {l : List (List UInt8)} {i : Nat} (h : i < l.length) : (rowH l).getD i [] = l.getD i [] := by
  unfold rowH tree.row
  simp [List.getD_eq_getElem?_getD, List.getElem?_append_left h]
theorem own_way {l : List (List UInt8)} {i : Nat} (h : i < l.length) : climbH i (l.getD i []) (proofV l i) = rootV l := by
  have hi : i < 2 ^ tree.high l.length := Nat.lt_of_lt_of_le h (tree.high_le _)
  have := tree.climb_proof nodeT shaL [] (tree.high l.length) (rowH l) i (rowH_len l) hi
  rw [rowH_at h] at this
  exact this
theorem own_ok {l : List (List UInt8)} {i : Nat} (h : i < l.length) (h2 : l.length ≤ 256) : climbOK (l.length : Int) (i : Int) (proofV l i).length :=
  ⟨by omega, by omega, by omega, by rw [proofV_len, Int.toNat_natCast]⟩
theorem own_climb {l : List (List UInt8)} {i : Nat} (h : i < l.length) (h2 : l.length ≤ 256) : climbV (l.length : Int) (i : Int) (l.getD i []) (proofV l i) = rootV l := by
  unfold climbV
  rw [if_pos (own_ok h h2), Int.toNat_natCast]
  exact own_way h
end Go.Proofs.YtndknifdajjalaaGreatDoor
