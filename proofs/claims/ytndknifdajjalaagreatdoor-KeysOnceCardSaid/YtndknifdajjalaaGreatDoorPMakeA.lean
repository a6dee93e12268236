/- The statements' own comparison of two byte slices answers whether they are the same list; it changes nothing. The statements' own comparison of two lists of rows; their copies. Lists of rows that a statement makes: one row more at the end; copies of rows. Copies of rows in new memory read as the rows. -/
import Derived.Test.YtndknifdajjalaaGreatDoorProg
import Derived.Test.YtndknifdajjalaaGreatDoorPMem
import Derived.Test.YtndknifdajjalaaGreatDoorPPut
namespace Go.Proofs.YtndknifdajjalaaGreatDoor
open Go.RowKit

theorem infoSlice : (Tryz.prog.info? 35).map (fun i => (i.zero, i.size, i.bytes)) = some (some (.slice none 0 0), 1, 24) := by kernel_rfl

section
variable {P : Program} {w : World}

/-- append of one slice value onto a row of the call's own. -/
theorem wpList_append_one {ops : Array Oper} {rest : List Oper} {o : Oper} {a : Act} {Q : Exit → Act → World → Prop} (hgd : o.guard = none) (s x : Operand) (t : TypeId)
    (ho : o.op = .call { callee := .builtin .append, args := #[s, x], argTypes := #[t, t] })
    (base : Nat) (e : TypeId) (i : TypeInfo) (ht : P.underlying t = some (.slice e)) (hi : P.info? e = some i) (hz : i.zero = some (.slice none 0 0)) (hsize : i.size = 1) (hby : i.bytes = 24)
    (v : Value) (n : Nat) (xs : List Value) (hs : a.eval s = v) (W : World) (A : Option Addr) (m c : Nat) (hw : w = W.alloc (.cells #[.slice A m c] e)) (hown : W.ownsRow base e 1 v n xs) (hx : a.eval x = .slice (some ⟨W.heap.size, 0, none⟩) 1 1)
    (hlim : n + 1 ≤ 1000000) (hbase : base ≤ W.heap.size)
    (h : ∀ v' w', w'.ownsRow base e 1 v' (n + 1) (xs ++ [.slice A m c]) → w.grownBy w' v.ownBlock → wpList P ops Q rest (a.put o.dst v') w') : wpList P ops Q (o :: rest) a w := by
  subst hw
  refine wpList_append_own (P := P) _ hgd s x t ho base e i (.slice none 0 0) 1 24 ht hi hz hsize hby rfl (by omega) v n xs hs (hown.alloc _) ⟨W.heap.size, 0, none⟩ 1 1 [.slice A m c] hx rfl ?_ ?_ (by unfold maxLen; omega) (by omega) (by simp; omega) (fun v' w' h1 h2 _ => h v' w' h1 h2)
  · intro j u hj
    match j, hj with
    | 0, hj =>
      simp at hj
      subst hj
      simp [Addr.add]
  · intro u hu
    simp at hu
    subst hu
    rfl
end

theorem own_keep {w w' : World} {base : Nat} {e : TypeId} {v : Value} {n : Nat} {xs : List Value} (h : w.ownsRow base e 1 v n xs) (hb : Below w.heap.size w w') : w'.ownsRow base e 1 v n xs := by
  refine ⟨h.1, ?_⟩
  rcases h.2 with h0 | ⟨g, cap, cur, h1, h2, h3, h4⟩
  · exact .inl h0
  · refine .inr ⟨g, cap, cur, h1, h2, ?_, h4⟩
    rw [hb.block g (Array.getElem?_eq_some_iff.1 h3).1]
    exact h3
/-- Slice values, each of which owns its bytes. -/
def sliceOwn (w : World) (B : Nat) (e : TypeId) (vs : List Value) (ls : List (List UInt8)) : Prop :=
  vs.length = ls.length ∧ ∀ i (h : i < ls.length), ∃ A c, vs[i]? = some (.slice A ls[i].length c) ∧ ls[i].length ≤ c ∧ c ≤ maxLen ∧ w.ownsRow B e 1 (.slice A ls[i].length c) ls[i].length (Lib.byteCells ls[i])
theorem sliceOwn.map {w w' : World} {B : Nat} {e : TypeId} {vs : List Value} {ls : List (List UInt8)} (h : sliceOwn w B e vs ls) (hk : ∀ v n xs, w.ownsRow B e 1 v n xs → w'.ownsRow B e 1 v n xs) : sliceOwn w' B e vs ls :=
  ⟨h.1, fun i hi => by
    obtain ⟨A, c, h1, h2, h3, h4⟩ := h.2 i hi
    exact ⟨A, c, h1, h2, h3, hk _ _ _ h4⟩⟩
theorem sliceOwn.snoc {w : World} {B : Nat} {e : TypeId} {vs : List Value} {ls : List (List UInt8)} (h : sliceOwn w B e vs ls) {A : Option Addr} {n c : Nat} {l : List UInt8} (hn : l.length = n) (hc : n ≤ c) (hm : c ≤ maxLen) (hr : w.ownsRow B e 1 (.slice A n c) n (Lib.byteCells l)) :
    sliceOwn w B e (vs ++ [.slice A n c]) (ls ++ [l]) := by
  subst hn
  refine ⟨by simp [h.1], fun i hi => ?_⟩
  by_cases he : i < ls.length
  · obtain ⟨A', c', h1, h2⟩ := h.2 i he
    refine ⟨A', c', ?_, ?_⟩
    · rw [List.getElem?_append_left (by rw [h.1]; exact he)]
      simpa [List.getElem_append_left he] using h1
    · simpa [List.getElem_append_left he] using h2
  · have hi' : i = ls.length := by simp at hi; omega
    subst hi'
    refine ⟨A, c, ?_, ?_⟩
    · rw [List.getElem?_append_right (by rw [h.1]; exact Nat.le_refl _)]
      simp [h.1]
    · simpa using ⟨hc, hm, hr⟩
theorem sliceOwn.vals {w : World} {B : Nat} {e : TypeId} {vs : List Value} {ls : List (List UInt8)} (h : sliceOwn w B e vs ls) : sliceVals w w.heap.size vs ls :=
  ⟨h.1, fun i hi => by
    obtain ⟨A, c, h1, h2, h3, h4⟩ := h.2 i hi
    exact ⟨A, c, h1, h2, h3, Rd.of_own h4⟩⟩

theorem own_caps {w : World} {base : Nat} {e : TypeId} {v : Value} {n : Nat} {xs : List Value} (h : w.ownsRow base e 1 v n xs) : ∃ A c, v = .slice A n c ∧ n ≤ c ∧ c ≤ maxLen := by
  rcases h.2 with ⟨rfl, rfl⟩ | ⟨g, cap, cur, rfl, _, _, hc, hm, _⟩
  · exact ⟨none, 0, rfl, Nat.le_refl _, Nat.zero_le _⟩
  · exact ⟨_, cap, rfl, hc, hm⟩

end Go.Proofs.YtndknifdajjalaaGreatDoor
