/- A matrix that is being filled: its rows are laid one by one into slices that are there. The program's own question: is it a matrix? -/
import Derived.Test.YtdaofffkbnkljaaMxL
import Derived.Test.YtdaofffkbnkljaaRMUnit
namespace Go.Proofs.Ytdaofffkbnkljaa
open Go.RowKit

/-- At g there are N slices. -/
def MxH (w : World) (g N : Nat) : Prop := ∃ cur, Blk w g cur 22 ∧ cur.size = N
section
variable {w : World} {B g N n m : Nat} {β γ : Nat → Nat} {f : Mx}
theorem MxH.at_ (h : MxH w g N) {i : Nat} (hi : i < N) : ∃ o, w.cell? ⟨g, i, none⟩ = some o := by
  obtain ⟨cur, h1, h2⟩ := h
  exact ⟨_, (h1.cell i).trans (Array.getElem?_eq_getElem (by omega))⟩
theorem MxH.free (h : MxH w g N) (i : Nat) : w.frozen? ⟨g, i, none⟩ = false := by
  obtain ⟨cur, h1, h2⟩ := h
  exact h1.frozen i
theorem MxH.lt (h : MxH w g N) : g < w.heap.size := by
  obtain ⟨cur, h1, h2⟩ := h
  exact h1.lt
theorem MxH.drewN (h : MxH w g N) (q : Nat) : MxH (w.drewN q) g N := h
theorem MxH.below {w' : World} (h : MxH w g N) (hb : Below w.heap.size w w') : MxH w' g N := by
  obtain ⟨cur, h1, h2⟩ := h
  exact ⟨cur, h1.below hb h1.lt, h2⟩
theorem MxH.alloc (h : MxH w g N) (o : Obj) : MxH (w.alloc o) g N := by
  obtain ⟨cur, h1, h2⟩ := h
  exact ⟨cur, h1.alloc o, h2⟩
theorem MxH.put (h : MxH w g N) (i : Nat) (v : Value) : MxH (w.setCell ⟨g, i, none⟩ v) g N := by
  obtain ⟨cur, h1, h2⟩ := h
  exact ⟨_, h1.set i v, by rw [Array.size_setIfInBounds, h2]⟩
theorem MxH.other (h : MxH w g N) {b : Nat} (hb : g ≠ b) (i : Nat) (v : Value) : MxH (w.setCell ⟨b, i, none⟩ v) g N := by
  obtain ⟨cur, h1, h2⟩ := h
  exact ⟨cur, h1.other hb v, h2⟩
theorem MxH.new (w : World) (n : Nat) : MxH (w.alloc (.cells (madeCells #[Value.slice none 0 0] n) 22)) w.heap.size n :=
  ⟨_, Blk.new _ _ _, by simp [madeCells]⟩
theorem MxW.noRows (w : World) {B : Nat} (hB : B ≤ g) (h : MxH w g N) (m : Nat) (f : Mx) : MxW w B g β γ 0 m f := by
  obtain ⟨cur, h1, h2⟩ := h
  exact ⟨hB, ⟨cur, h1, fun i hi => by omega⟩, fun i hi => by omega, fun i k hi => by omega⟩
/-- One row more, in a block that has been laid already. -/
theorem MxW.row_in (h : MxW w B g β γ n m f) (hH : MxH w g N) (hn : n < N) {b c : Nat} {rc : Array Value} (hb : Blk w b rc 5) (hB : B ≤ b) (hc : m ≤ c) (hm : c ≤ maxLen) (hne : ∀ i, i < n → β i ≠ b) {f' : Mx} (hf : ∀ i j, i < n → j < m → f i j = f' i j) (hr : ∀ j, j < m → rc[j]? = some (.int .u8 ((f' n j).toNat : Int))) :
    MxW (w.setCell ⟨g, n, none⟩ (.slice (some ⟨b, 0, none⟩) m c)) B g (fun i => if i = n then b else β i) (fun i => if i = n then c else γ i) (n + 1) m f' := by
  obtain ⟨cur, hcur, hsz⟩ := hH
  have hgb : g ≠ b := blk_apart hcur hb tys_ne
  refine ⟨h.base, ⟨_, hcur.set n _, fun i hi => ?_⟩, fun i hi => ?_, fun i k hi hk e => ?_⟩
  · by_cases e : i = n
    · subst e
      simp only [if_pos]
      rw [Array.getElem?_setIfInBounds_self_of_lt (by omega)]
    · simp only [if_neg e]
      rw [Array.getElem?_setIfInBounds_ne (fun e2 => e e2.symm)]
      obtain ⟨cur', h1, h2⟩ := h.head
      have := hcur.symm.trans h1
      injection this with this
      injection this with this
      rw [this]
      exact h2 i (by omega)
  · by_cases e : i = n
    · subst e
      simp only [if_pos]
      exact ⟨hB, hc, hm, rc, hb.other (fun e2 => hgb e2.symm) _, hr⟩
    · simp only [if_neg e]
      obtain ⟨a1, a2, a3, rc', a4, a5⟩ := h.rows i (by omega)
      exact ⟨a1, a2, a3, rc', a4.other (fun e2 => h.ne (i := i) (by omega) e2.symm) _, fun j hj => by rw [a5 j hj, hf i j (by omega) hj]⟩
  · have e : (if i = n then b else β i) = (if k = n then b else β k) := e
    by_cases ei : i = n
    · by_cases ek : k = n
      · omega
      · rw [if_pos ei, if_neg ek] at e
        exact absurd e.symm (hne k (by omega))
    · by_cases ek : k = n
      · rw [if_neg ei, if_pos ek] at e
        exact absurd e (hne i (by omega))
      · rw [if_neg ei, if_neg ek] at e
        exact h.apart i k (by omega) (by omega) e
/-- The rows ahead of i, and the first j bytes of row i, are f; the rest is noughts. -/
def rowTo (f : Mx) (i j : Nat) : Mx := fun a b => if a < i ∨ b < j then f a b else 0
theorem rowTo_step (f : Mx) (i j : Nat) (a b : Nat) (ha : a < i + 1) : putM i j (f i j) (rowTo f i j) a b = rowTo f i (j + 1) a b := by
  unfold putM rowTo
  by_cases h : a = i ∧ b = j
  · obtain ⟨rfl, rfl⟩ := h
    rw [if_pos ⟨rfl, rfl⟩, if_pos (by omega)]
  · rw [if_neg h]
    by_cases h2 : a < i ∨ b < j
    · rw [if_pos h2, if_pos (by omega)]
    · rw [if_neg h2, if_neg (by omega)]
theorem rowTo_all (f : Mx) (i k : Nat) (a b : Nat) (hb : b < k) : rowTo f i k a b = f a b := if_pos (.inr hb)
theorem made_bytes (k : Nat) : madeCells #[Value.int .u8 0] k = u8A (List.replicate k 0) := made_zeros k
/-- A new row of noughts, laid into its place. -/
theorem MxW.newRow (h : MxW w B g β γ n m f) (hH : MxH w g N) (hn : n < N) (hB : B ≤ w.heap.size) (hm : m ≤ maxLen) :
    MxW ((w.alloc (.cells (madeCells #[Value.int .u8 0] m) 5)).setCell ⟨g, n, none⟩ (.slice (some ⟨w.heap.size, 0, none⟩) m m)) B g (fun i => if i = n then w.heap.size else β i) (fun i => if i = n then m else γ i) (n + 1) m (rowTo f n 0) := by
  refine MxW.row_in (h.below ((Below.refl _ _).alloc (Nat.le_refl _) _)) (hH.alloc _) hn (Blk.new _ _ _) hB (Nat.le_refl _) hm (fun i hi => ?_) (fun i j hi hj => ?_) (fun j hj => ?_)
  · obtain ⟨_, _, _, rc, a4, _⟩ := h.rows i hi
    exact Nat.ne_of_lt a4.lt
  · unfold rowTo; rw [if_pos (.inl hi)]
  · unfold rowTo
    rw [if_neg (by omega), made_bytes, u8A_at (by rw [List.length_replicate]; exact hj)]
    simp [List.getD_eq_getElem?_getD, hj]
theorem MxW.rdr (h : MxW w B g β γ n m f) : RdR w w.heap.size (some ⟨g, 0, none⟩) (rowsL f 0 m n) := by
  obtain ⟨cur, h1, h2⟩ := h.head
  refine .inr ⟨g, 0, rfl, h1.lt, fun i hi => ?_⟩
  rw [rowsL_len] at hi
  have e : (rowsL f 0 m n)[i]'(by rw [rowsL_len]; exact hi) = rowL f 0 m i := by simp [rowsL]
  rw [e, rowL_len]
  obtain ⟨_, a2, a3, _⟩ := h.rows i hi
  exact ⟨some ⟨β i, 0, none⟩, γ i, by rw [Nat.zero_add]; exact h.header hi, a2, a3, h.row hi⟩
theorem MxW.mv (h : MxW w B g β γ n m f) {c : Nat} (hc : n ≤ c) : MV w (.slice (some ⟨g, 0, none⟩) n c) (rowsL f 0 m n) := MV.mk (rowsL_len _ _ _ _) hc h.rdr
end
end Go.Proofs.Ytdaofffkbnkljaa
namespace Go.Proofs.Ytdaofffkbnkljaa
open Go.RowKit

/-- A side: from 1 to 16. -/
def sideB (n : Int) : Bool := decide (1 ≤ n ∧ n ≤ 16)
theorem sideB_yes {n : Int} (h1 : 1 ≤ n) (h2 : n ≤ 16) : sideB n = true := decide_eq_true ⟨h1, h2⟩
theorem sideB_no {n : Int} (h : n < 1 ∨ 16 < n) : sideB n = false := decide_eq_false (by omega)
theorem pside_any (n : Int) (w : World) :
    Calls Try.prog 68 #[.int .i64 n] w fun e w' => e = .returned (.bool (sideB n)) ∧ w = w' := by
  by_cases h1 : 1 ≤ n
  · by_cases h2 : n ≤ 16
    · have HS := Lib.hid (sideB_yes h1 h2)
      have d1 : decide (1 ≤ n) = true := decide_eq_true h1
      have d2 : decide (n ≤ 16) = true := decide_eq_true h2
      go_enter Try.func68, Try.ntmps68
      go_wp2_with fail
      go_ret
      exact ⟨ret_bool HS.out.symm, rfl⟩
    · have HS := Lib.hid (sideB_no (n := n) (by omega))
      have d1 : decide (1 ≤ n) = true := decide_eq_true h1
      have d2 : decide (n ≤ 16) = false := decide_eq_false h2
      go_enter Try.func68, Try.ntmps68
      go_wp2_with fail
      go_ret
      exact ⟨ret_bool HS.out.symm, rfl⟩
  · have HS := Lib.hid (sideB_no (n := n) (by omega))
    have d1 : decide (1 ≤ n) = false := decide_eq_false h1
    go_enter Try.func68, Try.ntmps68
    go_wp2_with fail
    go_ret
    exact ⟨ret_bool HS.out.symm, rfl⟩
theorem pside_yes {n : Nat} (w : World) (h1 : 1 ≤ n) (h2 : n ≤ 16) :
    Calls Try.prog 68 #[.int .i64 (n : Int)] w fun e w' => e = .returned (.bool true) ∧ w = w' := by
  have := pside_any (n : Int) w
  rwa [sideB_yes (by omega) (by omega)] at this
theorem pside_no {n : Int} (w : World) (h : n < 1 ∨ 16 < n) :
    Calls Try.prog 68 #[.int .i64 n] w fun e w' => e = .returned (.bool false) ∧ w = w' := by
  have := pside_any n w
  rwa [sideB_no h] at this

set_option maxRecDepth 100000 in
set_option maxHeartbeats 1000000 in
theorem pmay_any (A : Option Addr) (n c : Nat) (ls : List (List UInt8)) (w : World) (hn : ls.length = n) (hr : RdR w w.heap.size A ls) :
    Calls Try.prog 50 #[.slice A n c] w fun e w' => e = .returned (.bool (decide (IsMx ls))) ∧ w = w' := by
  by_cases h1 : n < 1 ∨ 16 < n
  · have HF := Lib.hid (show decide (IsMx ls) = false from decide_eq_false fun m => by have := m.1; have := m.2.1; omega)
    have HC := Lib.hid (pside_no (n := (n : Int)) w (by omega))
    clear h1
    go_enter Try.func50, Try.ntmps50
    go_wp2_with fail
    with_reducible refine (HC.out).mono ?_
    rintro e w1 ⟨rfl, rfl⟩
    go_wp2_with fail
    go_ret
    exact ⟨ret_bool HF.out.symm, rfl⟩
  · have hl0 : 0 < ls.length := by omega
    obtain ⟨b, off, A0, c0, rfl, hb0, hc0, hlc0, hcm0, hrd0⟩ := hr.at_ 0 hl0
    obtain ⟨k, hk⟩ : ∃ k, ls[0].length = k := ⟨_, rfl⟩
    rw [hk, Nat.add_zero] at hc0
    have HK := Lib.hid (show (ls.getD 0 []).length = k by rw [← hk]; simp [List.getD_eq_getElem?_getD, hl0])
    have HN := Lib.hid hn
    have hni : (0 : Int) < (n : Int) := by omega
    have HC := Lib.hid (pside_yes (n := n) w (by omega) (by omega))
    have hn16 : n ≤ 16 := by omega
    clear h1 hrd0 hlc0 hcm0 hk
    by_cases h2 : k < 1 ∨ 16 < k
    · have HF := Lib.hid (show decide (IsMx ls) = false from decide_eq_false fun m => by
        have := m.2.2 0 (by rw [HN.out]; omega)
        unfold rowOK at this
        rw [HK.out] at this
        omega)
      have HC2 := Lib.hid (pside_no (n := (k : Int)) w (by omega))
      clear h2
      go_enter Try.func50, Try.ntmps50
      go_wp2_with fail
      with_reducible refine (HC.out).mono ?_
      rintro e w1 ⟨rfl, rfl⟩
      go_wp2_with fail
      with_reducible refine (HC2.out).mono ?_
      rintro e w1 ⟨rfl, rfl⟩
      go_wp2_with fail
      go_ret
      exact ⟨ret_bool HF.out.symm, rfl⟩
    · have HC2 := Lib.hid (pside_yes (n := k) w (by omega) (by omega))
      have hk1 : 1 ≤ k := by omega
      have hk16 : k ≤ 16 := by omega
      clear h2
      go_enter Try.func50, Try.ntmps50
      go_wp2_with fail
      with_reducible refine (HC.out).mono ?_
      rintro e w1 ⟨rfl, rfl⟩
      go_wp2_with fail
      with_reducible refine (HC2.out).mono ?_
      rintro e w1 ⟨rfl, rfl⟩
      go_wp2_with fail
      go_loop [4, 19] (fun _ t => ∃ i : Nat, i ≤ n ∧ t = .int .i64 i ∧ Hid (∀ j (h : j < ls.length), j < i → ls[j].length = k)) (fun _ t => n - (intOf t).toNat)
      case atStart => exact ⟨0, by omega, rfl, Lib.hid (fun j _ h => by omega)⟩
      case round =>
        obtain ⟨i, hi, rfl, HP⟩ := hrel
        by_cases hlt : i < n
        · have hii : (i : Int) < (n : Int) := by omega
          have hil : i < ls.length := by rw [HN.out]; exact hlt
          obtain ⟨b', off', A1, c1, hA, hbs, hc, hlc, hcm, hrd⟩ := hr.at_ i hil
          obtain ⟨rfl, rfl⟩ : b = b' ∧ off = off' := by
            injection hA with hA
            injection hA with e1 e2
            exact ⟨e1, e2⟩
          obtain ⟨s, hs⟩ : ∃ s, ls[i].length = s := ⟨_, rfl⟩
          rw [hs] at hc hlc
          by_cases g3 : s = k
          · have HP2 := Lib.hid (show ∀ j (h : j < ls.length), j < i + 1 → ls[j].length = k from fun j hj hji => by
              by_cases e : j = i
              · subst e; rw [hs, g3]
              · exact HP.out j hj (by omega))
            clear hA hrd hs hil HP
            subst g3
            have hne : ((s : Int) != (s : Int)) = false := by simp
            go_wp2_with fail
            go_round
            case rel => exact ⟨i + 1, by omega, by go_num, HP2⟩
            case measure => simp [intOf]; omega
          · have HF := Lib.hid (show decide (IsMx ls) = false from isMx_no hil (by rw [HK.out, hs]; exact fun h => g3 h.2.2))
            have hne : ((s : Int) != (k : Int)) = true := by simp only [bne_iff_ne, ne_eq]; omega
            clear hA hrd hs hil HP g3
            go_wp2_with fail
            go_ret
            exact ⟨ret_bool HF.out.symm, rfl⟩
        · obtain rfl : i = n := by omega
          have HT := Lib.hid (show decide (IsMx ls) = true from decide_eq_true ⟨by rw [HN.out]; omega, by rw [HN.out]; omega, fun j hj => by
            unfold rowOK
            rw [HK.out, HP.out j hj (by rw [← HN.out]; exact hj)]
            exact ⟨hk1, hk16, rfl⟩⟩)
          have hni : ¬ (i : Int) < (i : Int) := by omega
          go_wp2_with fail
          go_ret
          exact ⟨ret_bool HT.out.symm, rfl⟩
end Go.Proofs.Ytdaofffkbnkljaa
