/- Copies of rows in new memory read as the rows. -/
import Derived.Test.YtdaofffkbnkljaaMake
namespace Go.Proofs.Ytdaofffkbnkljaa
open Go.RowKit

theorem own_keep {w w' : World} {base : Nat} {e : TypeId} {v : Value} {n : Nat} {xs : List Value} (h : w.ownsRow base e 1 v n xs) (hb : Below w.heap.size w w') : w'.ownsRow base e 1 v n xs := by
  refine ⟨h.1, ?_⟩
  rcases h.2 with h0 | ⟨g, cap, cur, h1, h2, h3, h4⟩
  · exact .inl h0
  · refine .inr ⟨g, cap, cur, h1, h2, ?_, h4⟩
    rw [hb.block g (Array.getElem?_eq_some_iff.1 h3).1]
    exact h3
theorem own_base {w : World} {base base' : Nat} {e : TypeId} {v : Value} {n : Nat} {xs : List Value} (h : w.ownsRow base e 1 v n xs) (hb : base' ≤ base) : w.ownsRow base' e 1 v n xs := by
  refine ⟨h.1, ?_⟩
  rcases h.2 with h0 | ⟨g, cap, cur, h1, h2, h3⟩
  · exact .inl h0
  · exact .inr ⟨g, cap, cur, h1, Nat.le_trans hb h2, h3⟩
/-- Rows of unlike element types are unlike blocks. -/
theorem own_apart {w w' : World} {b b' : Nat} {e e' : TypeId} {v u : Value} {n m : Nat} {xs ys : List Value} (h : w.ownsRow b e 1 v n xs) (k : w.ownsRow b' e' 1 u m ys) (hne : e ≠ e') (hg : w.grownBy w' u.ownBlock) : w'.ownsRow b e 1 v n xs := by
  refine h.kept hg ?_
  rcases h.2 with ⟨rfl, _⟩ | ⟨g, cap, cur, rfl, _, h3, _⟩
  · exact .inl rfl
  · right
    rcases k.2 with ⟨rfl, _⟩ | ⟨g', cap', cur', rfl, _, k3, _⟩
    · simp [Value.ownBlock]
    · simp only [Value.ownBlock, ne_eq, Option.some.injEq]
      rintro rfl
      rw [h3] at k3
      injection k3 with k3
      injection k3 with _ k4
      exact hne k4

/-- Slice values, each of which owns its bytes. -/
def sliceOwn (w : World) (B : Nat) (e : TypeId) (vs : List Value) (ls : List (List UInt8)) : Prop :=
  vs.length = ls.length ∧ ∀ i (h : i < ls.length), ∃ A c, vs[i]? = some (.slice A ls[i].length c) ∧ ls[i].length ≤ c ∧ c ≤ maxLen ∧ w.ownsRow B e 1 (.slice A ls[i].length c) ls[i].length (Lib.byteCells ls[i])
theorem sliceOwn.map {w w' : World} {B : Nat} {e : TypeId} {vs : List Value} {ls : List (List UInt8)} (h : sliceOwn w B e vs ls) (hk : ∀ v n xs, w.ownsRow B e 1 v n xs → w'.ownsRow B e 1 v n xs) : sliceOwn w' B e vs ls :=
  ⟨h.1, fun i hi => by
    obtain ⟨A, c, h1, h2, h3, h4⟩ := h.2 i hi
    exact ⟨A, c, h1, h2, h3, hk _ _ _ h4⟩⟩
theorem sliceOwn.snoc {w : World} {B : Nat} {e : TypeId} {vs : List Value} {ls : List (List UInt8)} (h : sliceOwn w B e vs ls) {A : Option Addr} {n c : Nat} {l : List UInt8} (hn : l.length = n) (hc : n ≤ c) (hm : c ≤ maxLen) (hr : w.ownsRow B e 1 (.slice A n c) n (Lib.byteCells l)) :
    sliceOwn w B e (vs ++ [.slice A n c]) (ls ++ [l]) := by
  subst hn
  refine ⟨by simp [h.1], fun i hi => ?_⟩
  by_cases he : i < ls.length
  · obtain ⟨A', c', h1, h2⟩ := h.2 i he
    refine ⟨A', c', ?_, ?_⟩
    · rw [List.getElem?_append_left (by rw [h.1]; exact he)]
      simpa [List.getElem_append_left he] using h1
    · simpa [List.getElem_append_left he] using h2
  · have hi' : i = ls.length := by simp at hi; omega
    subst hi'
    refine ⟨A, c, ?_, ?_⟩
    · rw [List.getElem?_append_right (by rw [h.1]; exact Nat.le_refl _)]
      simp [h.1]
    · simpa using ⟨hc, hm, hr⟩
theorem sliceOwn.vals {w : World} {B : Nat} {e : TypeId} {vs : List Value} {ls : List (List UInt8)} (h : sliceOwn w B e vs ls) : sliceVals w w.heap.size vs ls :=
  ⟨h.1, fun i hi => by
    obtain ⟨A, c, h1, h2, h3, h4⟩ := h.2 i hi
    exact ⟨A, c, h1, h2, h3, Rd.of_own h4⟩⟩

theorem own_caps {w : World} {base : Nat} {e : TypeId} {v : Value} {n : Nat} {xs : List Value} (h : w.ownsRow base e 1 v n xs) : ∃ A c, v = .slice A n c ∧ n ≤ c ∧ c ≤ maxLen := by
  rcases h.2 with ⟨rfl, rfl⟩ | ⟨g, cap, cur, rfl, _, _, hc, hm, _⟩
  · exact ⟨none, 0, rfl, Nat.le_refl _, Nat.zero_le _⟩
  · exact ⟨_, cap, rfl, hc, hm⟩

set_option maxHeartbeats 400000 in
theorem copy_any (A : Option Addr) (n c C : Nat) (l : List UInt8) (w : World) (hn : l.length = n) (h1 : n ≤ 1000000) (hr : Rd w C A l) :
    Calls Try.prog 18 #[.slice A n c] w fun e w' => ∃ A' c', e = .returned (.slice A' n c') ∧ n ≤ c' ∧ c' ≤ maxLen ∧ w'.ownsRow w.heap.size 5 1 (.slice A' n c') n (Lib.byteCells l) ∧ Below w.heap.size w w' := by
  obtain ⟨i0, hi, hz0, hz1, hz2⟩ := info_parts info5
  have HN := Lib.hid hn
  clear hn
  go_enter Try.func18, Try.ntmps18
  go_wp2_with (at_builtin; refine wpList_append_rd rfl _ _ 22 rfl w.heap.size 5 i0 Try.underlying22 hi hz0 hz1 hz2 _ 0 [] rfl (World.ownsRow_nil _ _ _ _) C A n c l rfl HN.out hr (by omega) (Nat.le_refl _) ?_)
  intro v1 w1 hown1 hg1
  have hb1 : Below w.heap.size w w1 := (Below.refl _ _).grown hg1 (Nat.le_refl _) (by simp [Value.ownBlock])
  have h2 : w1.ownsRow w.heap.size 5 1 v1 n (Lib.byteCells l) := by simpa using hown1
  obtain ⟨A', c', rfl, hc1, hc2⟩ := own_caps h2
  have HO := Lib.hid h2
  clear hown1 hg1 h2
  go_wp2_with fail
  go_ret
  exact ⟨A', c', rfl, hc1, hc2, HO.out, hb1⟩

end Go.Proofs.Ytdaofffkbnkljaa
