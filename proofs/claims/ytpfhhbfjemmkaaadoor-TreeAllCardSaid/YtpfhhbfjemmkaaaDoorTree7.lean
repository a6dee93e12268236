/- A break that is told: two short texts of one hash; held against another one. -/
import Derived.Test.YtpfhhbfjemmkaaaDoorTreeB
import Derived.Test.YtpfhhbfjemmkaaaDoorRTMay
import Derived.Test.YtpfhhbfjemmkaaaDoorSame
import Derived.Test.YtpfhhbfjemmkaaaDoorBreaks
namespace Go.Proofs.YtpfhhbfjemmkaaaDoor
open Go.RowKit

/-- What is told of a break is short and is one. -/
def Told (r : Option (List UInt8 × List UInt8)) : Prop := ∀ x, r = some x → isBr x = true ∧ x.1.length ≤ 800000 ∧ x.2.length ≤ 800000
theorem way_small8 : ∀ (p : List (List UInt8)), (∀ r ∈ p, r.length = 32) → ∀ (i : Nat) (a : List UInt8), a.length = 32 → ∀ t ∈ wayH i a p, t.length ≤ 800000
  | [], _, _, _, _, t, ht => by cases ht
  | x :: p, hp, i, a, ha, t, ht => by
    have hx := hp x (List.mem_cons_self ..)
    have htx : (tree.text nodeT i a x).length ≤ 800000 := by
      unfold tree.text
      by_cases h : i % 2 = 0
      · rw [if_pos h]; exact nodeT_len8 a x ha hx
      · rw [if_neg h]; exact nodeT_len8 x a hx ha
    rcases List.mem_cons.1 (show t ∈ tree.text nodeT i a x :: wayH (i / 2) (shaL (tree.text nodeT i a x)) p from ht) with rfl | h
    · exact htx
    · exact way_small8 p (fun r hr => hp r (List.mem_cons_of_mem _ hr)) (i / 2) _ (outTo_len _ 8 (by omega)) t h
theorem zip_mem {ss ts : List (List UInt8)} {x : List UInt8 × List UInt8} (h : x ∈ ss.zip ts) : x.1 ∈ ss ∧ x.2 ∈ ts := List.of_mem_zip (a := x.1) (b := x.2) h
theorem brk_told {n i : Int} {a b : List UInt8} {p q : List (List UInt8)} (ha : a.length = 32) (hb : b.length = 32) (hp : ∀ r ∈ p, r.length = 32) (hq : ∀ r ∈ q, r.length = 32) : Told (brkV n i a b p q) := fun x hx => by
  unfold brkV at hx
  by_cases h : brkOK n i a b p q
  · rw [if_pos h] at hx
    unfold lastBr at hx
    have hm := zip_mem (List.mem_reverse.1 (List.mem_of_find?_eq_some hx))
    exact ⟨List.find?_some hx, way_small8 p hp _ _ ha _ hm.1, way_small8 q hq _ _ hb _ hm.2⟩
  · rw [if_neg h] at hx
    cases hx
theorem texts_small : ∀ (l : List (List UInt8)), (∀ r ∈ l, r.length = 32) → ∀ t ∈ textsH l, t.length ≤ 800000
  | [], _, _, ht => by cases ht
  | [_], _, _, ht => by cases ht
  | a :: b :: r, h, t, ht => by
    rcases List.mem_cons.1 (show t ∈ nodeT a b :: textsH r from ht) with rfl | h2
    · exact nodeT_len8 a b (h a (by simp)) (h b (by simp))
    · exact texts_small r (fun x hx => h x (by simp [hx])) t h2
theorem seek_told {R S : List (List UInt8)} (hR : ∀ r ∈ R, r.length = 32) (hS : ∀ r ∈ S, r.length = 32) : ∀ k, Told (seekBr k R S)
  | 0 => fun x hx => by cases hx
  | k + 1 => fun x hx => by
    rw [seekBr] at hx
    cases hc : firstBr (textsH (upNH k R)) (textsH (upNH k S)) with
    | none =>
      rw [hc, Option.none_or] at hx
      exact seek_told hR hS k x hx
    | some y =>
      rw [hc, Option.some_or] at hx
      injection hx with hx
      subst hx
      unfold firstBr at hc
      have hm := zip_mem (List.mem_of_find?_eq_some hc)
      exact ⟨List.find?_some hc, texts_small _ (upNH_hash hR k) _ hm.1, texts_small _ (upNH_hash hS k) _ hm.2⟩
theorem unl_told {l k : List (List UInt8)} (hl : ∀ r ∈ l, r.length = 32) (hk : ∀ r ∈ k, r.length = 32) : Told (unlV l k) := fun x hx => by
  unfold unlV at hx
  by_cases h : unlOK l k
  · rw [if_pos h] at hx
    exact seek_told (rowH_hash hl) (rowH_hash hk) _ x hx
  · rw [if_neg h] at hx
    cases hx
theorem told_small {r : Option (List UInt8 × List UInt8)} (h : Told r) : (r.getD ([], [])).1.length ≤ 800000 ∧ (r.getD ([], [])).2.length ≤ 800000 := by
  cases hr : r with
  | none => exact ⟨Nat.zero_le _, Nat.zero_le _⟩
  | some x => exact (h x hr).2
theorem told_br {r : Option (List UInt8 × List UInt8)} (h : Told r) (hs : r.isSome = true) : isBr ((r.getD ([], [])).1, (r.getD ([], [])).2) = true := by
  cases hr : r with
  | none => rw [hr] at hs; cases hs
  | some x => exact (h x hr).1
theorem wpList_load_w {w : World} {ops : Array Oper} {rest : List Oper} {o : Oper} {a : Act} {Q : Exit → Act → World → Prop} (x : Operand) (ho : o.op = .load 25 x)
    (g : Nat) (hx : a.eval x = .pointer (some ⟨g, 0, none⟩)) (cs : Array Value) (hg : Blk w g cs 25) (hz : cs.size = 32)
    (hw : Region.wanted o (yielded ops a.tmps) = true) (hk : wpList Tryd.prog ops Q rest (a.put o.dst (.agg cs)) w) : wpList Tryd.prog ops Q (o :: rest) a w :=
  wpList_load_when hw 25 x ho g hx 25 cs _ hg Tryd.underlying25 rfl (by rw [hz]; kernel_rfl) hk
theorem wpList_load_wb {w : World} {ops : Array Oper} {rest : List Oper} {o : Oper} {a : Act} {Q : Exit → Act → World → Prop} (x : Operand) (ho : o.op = .load 41 x)
    (g : Nat) (hx : a.eval x = .pointer (some ⟨g, 0, none⟩)) (A B : Value) (hg : Blk w g #[A, B] 41)
    (hw : Region.wanted o (yielded ops a.tmps) = true) (hk : wpList Tryd.prog ops Q rest (a.put o.dst (.agg #[A, B])) w) : wpList Tryd.prog ops Q (o :: rest) a w :=
  wpList_load_when hw 41 x ho g hx 41 #[A, B] _ hg Tryd.underlying41 rfl (by kernel_rfl) hk
theorem wpList_store_brk {w : World} {ops : Array Oper} {rest : List Oper} {o : Oper} {a : Act} {Q : Exit → Act → World → Prop} (hgd : o.guard = none) (x y : Operand) (ho : o.op = .store 41 x y) (g : Nat) (X Y : Option Addr) (n m c d : Nat)
    (hx : a.eval x = .pointer (some ⟨g, 0, none⟩)) (hy : a.eval y = .agg #[.slice X n c, .slice Y m d]) (hg : Blk w g #[.slice none 0 0, .slice none 0 0] 41)
    (h : wpList Tryd.prog ops Q rest (a.put o.dst undef) (w.setRow g #[.slice X n c, .slice Y m d])) : wpList Tryd.prog ops Q (o :: rest) a w :=
  wpList_store_blk hgd 41 x y ho g _ hx hy 41 _ hg (by kernel_rfl) (by rfl) (by simp [Value.oneCell']) h
/-- Two slices that read as one text are the same. -/
theorem same_tv {w : World} {a b : Value} {l : List UInt8} (ha : TV w a l) (hb : TV w b l) (h : l.length ≤ 800000) : Calls Tryd.prog 34 #[a, b] w fun e w' => e = .returned (.bool true) ∧ Below w.heap.size w w' := by
  obtain ⟨A, c, rfl, _, h2⟩ := ha
  obtain ⟨B, d, rfl, _, h4⟩ := hb
  refine (same_any A B _ _ c d _ _ l l w rfl rfl (by unfold maxLen; omega) h2 h4).mono ?_
  rintro e w' ⟨rfl, q, rfl⟩
  exact ⟨by rw [decide_eq_true rfl], below_drewN (Below.refl _ _) q⟩
/-- A break is one, says the document's own Same. -/
theorem is_br {w : World} {a b : Value} {x : List UInt8 × List UInt8} (ha : TV w a x.1) (hb : TV w b x.2) (h1 : x.1.length ≤ 800000) (h2 : x.2.length ≤ 800000) (h : isBr x = true) : Calls Tryd.prog 35 #[.agg #[a, b]] w fun e w' => e = .returned (.bool true) ∧ Below w.heap.size w w' := by
  obtain ⟨A, c, rfl, _, h3⟩ := ha
  obtain ⟨B, d, rfl, _, h4⟩ := hb
  have := breakR A B _ _ c d x.1 x.2 w rfl rfl (by omega) (by omega) h3 h4
  unfold isBr at h
  rw [h] at this
  exact this
theorem is_brS {w : World} {a b : Value} {x : List UInt8 × List UInt8} (ha : TV w a x.1) (hb : TV w b x.2) (h1 : x.1.length ≤ 800000) (h2 : x.2.length ≤ 800000) (h : isBr x = true) : Calls Tryd.prog 31 #[.agg #[a, b]] w fun e w' => e = .returned (.bool true) ∧ Below w.heap.size w w' := by
  obtain ⟨A, c, rfl, hc, h3⟩ := ha
  obtain ⟨B, d, rfl, hd, h4⟩ := hb
  have := breakS A B _ _ c d x.1 x.2 w rfl rfl hc hd h1 h2 h3 h4
  unfold isBr at h
  rw [h] at this
  exact this
end Go.Proofs.YtpfhhbfjemmkaaaDoor
