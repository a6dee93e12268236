/- The statements' own comparison of two byte slices answers whether they are the same list; it changes nothing. The statements' own comparison of two lists of rows; their copies. Lists of rows that a statement makes: one row more at the end; copies of rows. Copies of rows in new memory read as the rows. -/
import Derived.Test.YtkkokngdhhakdaaDoorProg
import Derived.Test.YtkkokngdhhakdaaDoorMem
import Derived.Test.YtkkokngdhhakdaaDoorPut
namespace Go.Proofs.YtkkokngdhhakdaaDoor
open Go.RowKit

theorem take_succ_ne {l k : List UInt8} {j : Nat} (h1 : j < l.length) (h2 : j < k.length) (h : l[j] ≠ k[j]) : l ≠ k := by
  rintro rfl
  exact h rfl

theorem take_succ_eq {l k : List UInt8} {j : Nat} (h1 : j < l.length) (h2 : j < k.length) (ht : l.take j = k.take j) (h : l[j] = k[j]) : l.take (j + 1) = k.take (j + 1) := by
  rw [List.take_succ_eq_append_getElem h1, List.take_succ_eq_append_getElem h2, ht, h]

set_option maxHeartbeats 400000 in
theorem same_any (A B : Option Addr) (n m c d C D : Nat) (l k : List UInt8) (w : World) (hn : l.length = n) (hm : k.length = m) (h1 : n ≤ maxLen) (ha : Rd w C A l) (hb : Rd w D B k) :
    Calls Tryd.prog 48 #[.slice A n c, .slice B m d] w fun e w' => e = .returned (.bool (decide (l = k))) ∧ ∃ q, w' = w.drewN q := by
  unfold maxLen at h1
  by_cases hnm : n = m
  · have hne : ((n : Int) != (m : Int)) = false := by simp [hnm]
    have HN := Lib.hid hn
    have HM := Lib.hid hm
    have HE := Lib.hid hnm
    clear hn hm hnm
    go_enter Tryd.func48, Tryd.ntmps48
    go_wp2
    go_loopw [5] (fun i wr => ∃ j q : Nat, j ≤ n ∧ i = .int .i64 j ∧ Hid (l.take j = k.take j) ∧ wr = w.drewN q) (fun i _ => n - (intOf i).toNat)
    case atStart => exact ⟨0, 0, Nat.zero_le _, rfl, Lib.hid rfl, rfl⟩
    case round =>
      obtain ⟨j, q, hj, rfl, ht, rfl⟩ := hrel
      by_cases hlt : j < n
      · have hl1 : j < l.length := by rw [HN.out]; exact hlt
        have hk1 : j < k.length := by rw [HM.out, ← HE.out]; exact hlt
        have hmm : j < m := by rw [← HE.out]; exact hlt
        obtain ⟨b, off, rfl, _, hc⟩ := ha.at_ j hl1
        obtain ⟨b', off', rfl, _, hc'⟩ := hb.at_ j hk1
        have h0 : (0 : Int) ≤ (j : Int) := by omega
        have hi1 : (j : Int) < (n : Int) := by omega
        have hi2 : (j : Int) < (m : Int) := by omega
        by_cases he : l[j] = k[j]
        · have hb0 : (((l[j].toNat : Nat) : Int) != ((k[j].toNat : Nat) : Int)) = false := by rw [he]; simp
          have HT := Lib.hid (take_succ_eq hl1 hk1 ht.out he)
          clear he
          go_wp2
          go_quiet (fail)
          go_wp2
          go_roundw
          case rel => exact ⟨j + 1, _, by omega, by go_num, HT, rfl⟩
          case measure => simp [intOf]; omega
        · have hb0 : (((l[j].toNat : Nat) : Int) != ((k[j].toNat : Nat) : Int)) = true := by
            simp only [bne_iff_ne, ne_eq]
            intro e
            exact he (UInt8.toNat_inj.1 (by omega))
          have hf : decide (l = k) = false := decide_eq_false (take_succ_ne hl1 hk1 he)
          have HF := Lib.hid hf
          clear hf he
          go_wp2
          go_quiet (fail)
          go_wp2
          go_ret
          exact ⟨ret_bool HF.out.symm, _, World.drewN_drewN _ _ _⟩
      · have hjn : j = n := by omega
        have ht' : decide (l = k) = true := decide_eq_true (by
          have := ht.out
          rwa [List.take_of_length_le (by rw [HN.out]; omega), List.take_of_length_le (by rw [HM.out, ← HE.out]; omega)] at this)
        have HF := Lib.hid ht'
        clear ht'
        have hge : ¬ (j : Int) < (n : Int) := by omega
        clear hjn
        go_wp2
        go_ret
        exact ⟨ret_bool HF.out.symm, _, rfl⟩
  · have hne : ((n : Int) != (m : Int)) = true := by simp only [bne_iff_ne, ne_eq]; omega
    have HF := Lib.hid (show decide (l = k) = false from decide_eq_false (by rintro rfl; exact hnm (hn.symm.trans hm)))
    clear hn hm hnm
    go_enter Tryd.func48, Tryd.ntmps48
    go_wp2
    go_ret
    exact ⟨ret_bool HF.out.symm, 0, rfl⟩
end Go.Proofs.YtkkokngdhhakdaaDoor
namespace Go.Proofs.YtkkokngdhhakdaaDoor
open Go.RowKit

theorem rows_take_eq {l k : List (List UInt8)} {j : Nat} (h1 : j < l.length) (h2 : j < k.length) (ht : l.take j = k.take j) (h : l[j] = k[j]) : l.take (j + 1) = k.take (j + 1) := by
  rw [List.take_succ_eq_append_getElem h1, List.take_succ_eq_append_getElem h2, ht, h]

theorem quiet_at {P : Program} {f : FuncId} {args : Array Value} {w : World} {a n : Nat} {v : Value}
    (h : ∀ m, Calls P f args (w.drewN m) fun e w' => e = .returned v ∧ ∃ q, w' = (w.drewN m).drewN q) :
    Calls P f args (w.drewN (a + n)) fun e w'' => e = .returned v ∧ ∃ m, w'' = w.drewN (a + m) :=
  (h (a + n)).mono fun _ _ ⟨he, m, hm⟩ => ⟨he, n + m, by rw [hm, World.drewN_drewN, Nat.add_assoc]⟩

end Go.Proofs.YtkkokngdhhakdaaDoor
namespace Go.Proofs.YtkkokngdhhakdaaDoor
open Go.RowKit

theorem infoSlice : (Tryd.prog.info? 26).map (fun i => (i.zero, i.size, i.bytes)) = some (some (.slice none 0 0), 1, 24) := by kernel_rfl

section
variable {P : Program} {w : World}

/-- append of one slice value onto a row of the call's own. -/
theorem wpList_append_one {ops : Array Oper} {rest : List Oper} {o : Oper} {a : Act} {Q : Exit → Act → World → Prop} (hgd : o.guard = none) (s x : Operand) (t : TypeId)
    (ho : o.op = .call { callee := .builtin .append, args := #[s, x], argTypes := #[t, t] })
    (base : Nat) (e : TypeId) (i : TypeInfo) (ht : P.underlying t = some (.slice e)) (hi : P.info? e = some i) (hz : i.zero = some (.slice none 0 0)) (hsize : i.size = 1) (hby : i.bytes = 24)
    (v : Value) (n : Nat) (xs : List Value) (hs : a.eval s = v) (W : World) (A : Option Addr) (m c : Nat) (hw : w = W.alloc (.cells #[.slice A m c] e)) (hown : W.ownsRow base e 1 v n xs) (hx : a.eval x = .slice (some ⟨W.heap.size, 0, none⟩) 1 1)
    (hlim : n + 1 ≤ 1000000) (hbase : base ≤ W.heap.size)
    (h : ∀ v' w', w'.ownsRow base e 1 v' (n + 1) (xs ++ [.slice A m c]) → w.grownBy w' v.ownBlock → wpList P ops Q rest (a.put o.dst v') w') : wpList P ops Q (o :: rest) a w := by
  subst hw
  refine wpList_append_own (P := P) _ hgd s x t ho base e i (.slice none 0 0) 1 24 ht hi hz hsize hby rfl (by omega) v n xs hs (hown.alloc _) ⟨W.heap.size, 0, none⟩ 1 1 [.slice A m c] hx rfl ?_ ?_ (by unfold maxLen; omega) (by omega) (by simp; omega) (fun v' w' h1 h2 _ => h v' w' h1 h2)
  · intro j u hj
    match j, hj with
    | 0, hj =>
      simp at hj
      subst hj
      simp [Addr.add]
  · intro u hu
    simp at hu
    subst hu
    rfl
end
end Go.Proofs.YtkkokngdhhakdaaDoor
namespace Go.Proofs.YtkkokngdhhakdaaDoor
open Go.RowKit

theorem own_keep {w w' : World} {base : Nat} {e : TypeId} {v : Value} {n : Nat} {xs : List Value} (h : w.ownsRow base e 1 v n xs) (hb : Below w.heap.size w w') : w'.ownsRow base e 1 v n xs := by
  refine ⟨h.1, ?_⟩
  rcases h.2 with h0 | ⟨g, cap, cur, h1, h2, h3, h4⟩
  · exact .inl h0
  · refine .inr ⟨g, cap, cur, h1, h2, ?_, h4⟩
    rw [hb.block g (Array.getElem?_eq_some_iff.1 h3).1]
    exact h3
theorem own_base {w : World} {base base' : Nat} {e : TypeId} {v : Value} {n : Nat} {xs : List Value} (h : w.ownsRow base e 1 v n xs) (hb : base' ≤ base) : w.ownsRow base' e 1 v n xs := by
  refine ⟨h.1, ?_⟩
  rcases h.2 with h0 | ⟨g, cap, cur, h1, h2, h3⟩
  · exact .inl h0
  · exact .inr ⟨g, cap, cur, h1, Nat.le_trans hb h2, h3⟩
/-- Rows of unlike element types are unlike blocks. -/
theorem own_apart {w w' : World} {b b' : Nat} {e e' : TypeId} {v u : Value} {n m : Nat} {xs ys : List Value} (h : w.ownsRow b e 1 v n xs) (k : w.ownsRow b' e' 1 u m ys) (hne : e ≠ e') (hg : w.grownBy w' u.ownBlock) : w'.ownsRow b e 1 v n xs := by
  refine h.kept hg ?_
  rcases h.2 with ⟨rfl, _⟩ | ⟨g, cap, cur, rfl, _, h3, _⟩
  · exact .inl rfl
  · right
    rcases k.2 with ⟨rfl, _⟩ | ⟨g', cap', cur', rfl, _, k3, _⟩
    · simp [Value.ownBlock]
    · simp only [Value.ownBlock, ne_eq, Option.some.injEq]
      rintro rfl
      rw [h3] at k3
      injection k3 with k3
      injection k3 with _ k4
      exact hne k4

/-- Slice values, each of which owns its bytes. -/
def sliceOwn (w : World) (B : Nat) (e : TypeId) (vs : List Value) (ls : List (List UInt8)) : Prop :=
  vs.length = ls.length ∧ ∀ i (h : i < ls.length), ∃ A c, vs[i]? = some (.slice A ls[i].length c) ∧ ls[i].length ≤ c ∧ c ≤ maxLen ∧ w.ownsRow B e 1 (.slice A ls[i].length c) ls[i].length (Lib.byteCells ls[i])
theorem sliceOwn.map {w w' : World} {B : Nat} {e : TypeId} {vs : List Value} {ls : List (List UInt8)} (h : sliceOwn w B e vs ls) (hk : ∀ v n xs, w.ownsRow B e 1 v n xs → w'.ownsRow B e 1 v n xs) : sliceOwn w' B e vs ls :=
  ⟨h.1, fun i hi => by
    obtain ⟨A, c, h1, h2, h3, h4⟩ := h.2 i hi
    exact ⟨A, c, h1, h2, h3, hk _ _ _ h4⟩⟩
theorem sliceOwn.snoc {w : World} {B : Nat} {e : TypeId} {vs : List Value} {ls : List (List UInt8)} (h : sliceOwn w B e vs ls) {A : Option Addr} {n c : Nat} {l : List UInt8} (hn : l.length = n) (hc : n ≤ c) (hm : c ≤ maxLen) (hr : w.ownsRow B e 1 (.slice A n c) n (Lib.byteCells l)) :
    sliceOwn w B e (vs ++ [.slice A n c]) (ls ++ [l]) := by
  subst hn
  refine ⟨by simp [h.1], fun i hi => ?_⟩
  by_cases he : i < ls.length
  · obtain ⟨A', c', h1, h2⟩ := h.2 i he
    refine ⟨A', c', ?_, ?_⟩
    · rw [List.getElem?_append_left (by rw [h.1]; exact he)]
      simpa [List.getElem_append_left he] using h1
    · simpa [List.getElem_append_left he] using h2
  · have hi' : i = ls.length := by simp at hi; omega
    subst hi'
    refine ⟨A, c, ?_, ?_⟩
    · rw [List.getElem?_append_right (by rw [h.1]; exact Nat.le_refl _)]
      simp [h.1]
    · simpa using ⟨hc, hm, hr⟩
theorem sliceOwn.vals {w : World} {B : Nat} {e : TypeId} {vs : List Value} {ls : List (List UInt8)} (h : sliceOwn w B e vs ls) : sliceVals w w.heap.size vs ls :=
  ⟨h.1, fun i hi => by
    obtain ⟨A, c, h1, h2, h3, h4⟩ := h.2 i hi
    exact ⟨A, c, h1, h2, h3, Rd.of_own h4⟩⟩

theorem own_caps {w : World} {base : Nat} {e : TypeId} {v : Value} {n : Nat} {xs : List Value} (h : w.ownsRow base e 1 v n xs) : ∃ A c, v = .slice A n c ∧ n ≤ c ∧ c ≤ maxLen := by
  rcases h.2 with ⟨rfl, rfl⟩ | ⟨g, cap, cur, rfl, _, _, hc, hm, _⟩
  · exact ⟨none, 0, rfl, Nat.le_refl _, Nat.zero_le _⟩
  · exact ⟨_, cap, rfl, hc, hm⟩

set_option maxHeartbeats 400000 in
theorem copy_any (A : Option Addr) (n c C : Nat) (l : List UInt8) (w : World) (hn : l.length = n) (h1 : n ≤ 1000000) (hr : Rd w C A l) :
    Calls Tryd.prog 43 #[.slice A n c] w fun e w' => ∃ A' c', e = .returned (.slice A' n c') ∧ n ≤ c' ∧ c' ≤ maxLen ∧ w'.ownsRow w.heap.size 5 1 (.slice A' n c') n (Lib.byteCells l) ∧ Below w.heap.size w w' := by
  obtain ⟨i0, hi, hz0, hz1, hz2⟩ := info_parts info5
  have HN := Lib.hid hn
  clear hn
  go_enter Tryd.func43, Tryd.ntmps43
  go_wp2_with (at_builtin; refine wpList_append_rd rfl _ _ 26 rfl w.heap.size 5 i0 Tryd.underlying26 hi hz0 hz1 hz2 _ 0 [] rfl (World.ownsRow_nil _ _ _ _) C A n c l rfl HN.out hr (by omega) (Nat.le_refl _) ?_)
  intro v1 w1 hown1 hg1
  have hb1 : Below w.heap.size w w1 := (Below.refl _ _).grown hg1 (Nat.le_refl _) (by simp [Value.ownBlock])
  have h2 : w1.ownsRow w.heap.size 5 1 v1 n (Lib.byteCells l) := by simpa using hown1
  obtain ⟨A', c', rfl, hc1, hc2⟩ := own_caps h2
  have HO := Lib.hid h2
  clear hown1 hg1 h2
  go_wp2_with fail
  go_ret
  exact ⟨A', c', rfl, hc1, hc2, HO.out, hb1⟩

end Go.Proofs.YtkkokngdhhakdaaDoor
