/- What a leaf signed is right; a row of messages of which one is signed. -/
import Derived.Test.YtfgieebccjoboaaDoorMpC
import Derived.Test.YtfgieebccjoboaaDoorMpJ
import Derived.Test.YtfgieebccjoboaaDoorMssP
import Derived.Test.YtfgieebccjoboaaDoorHashD
namespace Go.Proofs.YtfgieebccjoboaaDoor
open Go.RowKit

theorem ends_own (sd : List UInt8) (leaf : Int) {h : List UInt8} (hh : h.length = 32) : atL (endF (digH h) (atL (signF sd leaf (digH h)) 67)) 67 = endsL sd leaf 67 := by
  refine atL_congr fun i hi => ?_
  unfold endF
  rw [atL_get _ hi]
  exact wots.along_rest stepH (digH_at hh i) _
theorem rec_own (sd m : List UInt8) (leaf : Int) : recV m (atL (signF sd leaf (digH (msgH m))) 67) = pubH (endsL sd leaf 67) := by
  unfold recV
  rw [ends_own sd leaf (msgH_len m)]
theorem pubs_at (sd : List UInt8) {n i : Nat} (h : i < n) : (pubsL sd n).getD i [] = pubH (endsL sd (i : Int) 67) := atL_get (fun (i : Nat) => pubH (endsL sd (i : Int) 67)) h
theorem root_own (sd m : List UInt8) {p i : Nat} (hp : p ≤ 4) (hi : i < 2 ^ p) :
    sigOK ⟨(p : Int), (i : Int), atL (signF sd (i : Int) (digH (msgH m))) 67, proofV (pubsL sd (2 ^ p)) i⟩ ∧ sigRoot m ⟨(p : Int), (i : Int), atL (signF sd (i : Int) (digH (msgH m))) 67, proofV (pubsL sd (2 ^ p)) i⟩ = keyRoot sd p := by
  have h16 : 2 ^ p ≤ 16 := Nat.pow_le_pow_right (n := 2) (by omega) hp
  have hl := pubsL_len sd (2 ^ p)
  have hok := own_ok (l := pubsL sd (2 ^ p)) (i := i) (by omega) (by omega)
  have hcl := own_climb (l := pubsL sd (2 ^ p)) (i := i) (by omega) (by omega)
  rw [hl] at hok hcl
  rw [pubs_at sd hi] at hcl
  refine ⟨⟨by simp, by simp; omega, atL_len _ _, ?_⟩, ?_⟩
  · simp only [Int.toNat_natCast]
    exact hok
  · unfold sigRoot keyRoot
    simp only [Int.toNat_natCast]
    rw [rec_own]
    exact hcl
theorem ver_own (sd m : List UInt8) {p i : Nat} (hp : p ≤ 4) (hi : i < 2 ^ p) (fp : List UInt8) :
    verP fp m ⟨(p : Int), (i : Int), atL (signF sd (i : Int) (digH (msgH m))) 67, proofV (pubsL sd (2 ^ p)) i⟩ ↔ printH (p : Int) (keyRoot sd p) = fp := by
  obtain ⟨h1, h2⟩ := root_own sd m hp hi
  unfold verP
  rw [h2]
  exact ⟨fun h => h.2, fun h => ⟨h1, h⟩⟩

/-- make([][]byte, n): nothing in each. -/
theorem wpList_make_nils {w : World} {ops : Array Oper} {rest : List Oper} {o : Oper} {a : Act} {Q : Exit → Act → World → Prop} (hgd : o.guard = none) (l c : Operand) (ho : o.op = .makeSlice 39 l c)
    (n : Nat) (hn : n ≤ 1000) (hl : a.eval l = .int .i64 (n : Int)) (hc : a.eval c = .int .i64 (n : Int))
    (hk : ∀ w' cs, Blk w' w.heap.size cs 24 → cs.size = n → (∀ j, j < n → cs[j]? = some (.slice none 0 0)) → Below w.heap.size w w' → wpList Tryd.prog ops Q rest (a.put o.dst (.slice (some ⟨w.heap.size, 0, none⟩) n n)) w') : wpList Tryd.prog ops Q (o :: rest) a w := by
  obtain ⟨i, hi, hz, hsz, hby⟩ := info_parts infoSlice
  obtain ⟨w', hrun, r1, r2⟩ := run_make_full (P := Tryd.prog) w w.heap.size 39 24 i (.slice none 0 0) 1 Tryd.underlying39 hi hz hsz .i64 .i64 n (by rw [hby]; omega) (by unfold maxLen; omega) (Nat.le_refl _)
  rcases r1.2 with ⟨e, _⟩ | ⟨g, cap, cur, e, _, hg, _, _, hcs, ht⟩
  · cases e
  · injection e with e1 e2 e3
    injection e1 with e1
    injection e1 with e1
    subst e1 e3
    refine wpList_plain hgd fun K hK => ?_
    unfold Oper.wp
    simp [execOp, ho, hl, hc, hrun, Result.andThen]
    refine hK _ _ (hk w' cur hg (by rw [hcs, Nat.mul_one]) (fun j hj => ?_) ((Below.refl _ _).grown r2 (Nat.le_refl _) (fun k hk => by cases hk)))
    have h2 : cur.toList[j]? = (madeCells (Value.slice none 0 0).cells (n * 1)).toList[j]? := by
      rw [← ht, List.getElem?_take_of_lt (by omega)]
    rw [Array.getElem?_toList] at h2
    rw [h2]
    simp [madeCells, Value.cells, Nat.mod_one, hj]
/-- Of which one is there. -/
def oneL (n i : Nat) (m : List UInt8) : List (List UInt8) := (List.replicate n []).set i m
theorem oneL_len (n i : Nat) (m : List UInt8) : (oneL n i m).length = n := by simp [oneL]
theorem oneL_short {n i : Nat} {m : List UInt8} (h : m.length ≤ 1000) : ∀ r ∈ oneL n i m, r.length ≤ 1000 := by
  intro r hr
  rcases List.mem_or_eq_of_mem_set hr with h1 | rfl
  · rw [(List.mem_replicate.1 h1).2]; simp
  · exact h
theorem oneL_at {n i : Nat} (m : List UInt8) (h : i < n) : (oneL n i m).getD i [] = m := by simp [oneL, List.getD_eq_getElem?_getD, h]
theorem oneL_off {n i j : Nat} (m : List UInt8) (h : i ≠ j) : (oneL n i m).getD j [] = [] := by
  unfold oneL
  rw [List.getD_eq_getElem?_getD, List.getElem?_set_ne h, List.getElem?_replicate]
  split <;> rfl
theorem oneL_read {w : World} {g n i : Nat} {cs : Array Value} {A : Option Addr} {c : Nat} {m : List UInt8} (hb : Blk w g cs 24) (hz : cs.size = n) (hcs : ∀ j, j < n → cs[j]? = some (.slice none 0 0)) (hi : i < n)
    (hc : m.length ≤ c) (hm : c ≤ maxLen) (hr : ∀ w', Below g w w' → Rd w' w'.heap.size A m) : RdR (w.setCell ⟨g, i, none⟩ (.slice A m.length c)) (w.setCell ⟨g, i, none⟩ (.slice A m.length c)).heap.size (some ⟨g, 0, none⟩) (oneL n i m) := by
  have hB := hb.set i (.slice A m.length c)
  refine .inr ⟨g, 0, rfl, hB.lt, fun j hj => ?_⟩
  rw [oneL_len] at hj
  have hcell := hB.cell j
  rw [Nat.zero_add]
  by_cases he : i = j
  · subst he
    have e1 : (oneL n i m)[i]'(by rw [oneL_len]; exact hj) = m := by
      have := oneL_at m hi
      rwa [List.getD_eq_getElem?_getD, List.getElem?_eq_getElem (by rw [oneL_len]; exact hj)] at this
    refine ⟨A, c, ?_, by rw [e1]; exact hc, hm, by rw [e1]; exact hr _ ((Below.refl _ _).setCell (p := ⟨g, i, none⟩) (Nat.le_refl _) _)⟩
    rw [hcell, e1]
    simp [hz, hj]
  · have e1 : (oneL n i m)[j]'(by rw [oneL_len]; exact hj) = [] := by
      have := oneL_off (n := n) m he
      rwa [List.getD_eq_getElem?_getD, List.getElem?_eq_getElem (by rw [oneL_len]; exact hj)] at this
    refine ⟨none, 0, ?_, by rw [e1]; exact Nat.le_refl _, by decide, by rw [e1]; exact .inl rfl⟩
    rw [hcell, e1, Array.getElem?_setIfInBounds_ne (by omega), hcs j hj]
    rfl
theorem OwnH.cell_off {w : World} {B g : Nat} {v : Value} {hs : List (List UInt8)} {Z : Array Value} {T : TypeId} (h : OwnH w B v hs) (hg : Blk w g Z T) (hT : T ≠ 29) (i : Nat) (x : Value) : OwnH (w.setCell ⟨g, i, none⟩ x) B v hs := by
  refine ⟨h.1, h.2.1, ?_⟩
  rcases h.2.2 with h0 | ⟨b, cap, cur, h1, h2, h3, h4⟩
  · exact .inl h0
  · have hb : Blk w b cur 29 := h3
    refine .inr ⟨b, cap, cur, h1, h2, hb.other (p := ⟨g, i, none⟩) (fun e => ?_) x, h4⟩
    subst e
    have hg' : w.heap[b]? = some (.cells Z T (0, 0)) := hg
    rw [hg'] at h3
    injection h3 with h3
    injection h3 with _ h5
    exact hT h5
theorem run_key_eq (W : World) (x y : List UInt8) (hx : x.length = 16) (hy : y.length = 16) : (Op.equalIn 10000 23 (.agg (u8A x)) (.agg (u8A y))).run Tryd.prog W = .ok (decide (x = y)) W := by
  obtain ⟨i, hi, _⟩ := infoByte
  rw [show (10000 : Nat) = 9999 + 1 from rfl, run_equalIn_array W 9999 (u8A x) (u8A y) Tryd.underlying23 hi, show Tryd.prog.cellsOf 5 = 1 from by kernel_rfl, run_items W x y 9998 _ (fun j hj => by have := List.mem_range.1 hj; omega), all_upto 16 x y hx hy]
end Go.Proofs.YtfgieebccjoboaaDoor
