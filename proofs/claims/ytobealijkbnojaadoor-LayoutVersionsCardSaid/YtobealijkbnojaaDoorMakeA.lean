/- The statements' own comparison of two byte slices answers whether they are the same list; it changes nothing. The statements' own comparison of two lists of rows; their copies. Lists of rows that a statement makes: one row more at the end; copies of rows. Copies of rows in new memory read as the rows. -/
import Derived.Test.YtobealijkbnojaaDoorProg
import Derived.Test.YtobealijkbnojaaDoorMem
import Derived.Test.YtobealijkbnojaaDoorPut
namespace Go.Proofs.YtobealijkbnojaaDoor
open Go.RowKit

theorem take_succ_ne {l k : List UInt8} {j : Nat} (h1 : j < l.length) (h2 : j < k.length) (h : l[j] ≠ k[j]) : l ≠ k := by
  rintro rfl
  exact h rfl

theorem take_succ_eq {l k : List UInt8} {j : Nat} (h1 : j < l.length) (h2 : j < k.length) (ht : l.take j = k.take j) (h : l[j] = k[j]) : l.take (j + 1) = k.take (j + 1) := by
  rw [List.take_succ_eq_append_getElem h1, List.take_succ_eq_append_getElem h2, ht, h]

set_option maxHeartbeats 400000 in
theorem same_any (A B : Option Addr) (n m c d C D : Nat) (l k : List UInt8) (w : World) (hn : l.length = n) (hm : k.length = m) (h1 : n ≤ maxLen) (ha : Rd w C A l) (hb : Rd w D B k) :
    Calls Tryd.prog 13 #[.slice A n c, .slice B m d] w fun e w' => e = .returned (.bool (decide (l = k))) ∧ ∃ q, w' = w.drewN q := by
  unfold maxLen at h1
  by_cases hnm : n = m
  · have hne : ((n : Int) != (m : Int)) = false := by simp [hnm]
    have HN := Lib.hid hn
    have HM := Lib.hid hm
    have HE := Lib.hid hnm
    clear hn hm hnm
    go_enter Tryd.func13, Tryd.ntmps13
    go_wp2
    go_loopw [5] (fun i wr => ∃ j q : Nat, j ≤ n ∧ i = .int .i64 j ∧ Hid (l.take j = k.take j) ∧ wr = w.drewN q) (fun i _ => n - (intOf i).toNat)
    case atStart => exact ⟨0, 0, Nat.zero_le _, rfl, Lib.hid rfl, rfl⟩
    case round =>
      obtain ⟨j, q, hj, rfl, ht, rfl⟩ := hrel
      by_cases hlt : j < n
      · have hl1 : j < l.length := by rw [HN.out]; exact hlt
        have hk1 : j < k.length := by rw [HM.out, ← HE.out]; exact hlt
        have hmm : j < m := by rw [← HE.out]; exact hlt
        obtain ⟨b, off, rfl, _, hc⟩ := ha.at_ j hl1
        obtain ⟨b', off', rfl, _, hc'⟩ := hb.at_ j hk1
        have h0 : (0 : Int) ≤ (j : Int) := by omega
        have hi1 : (j : Int) < (n : Int) := by omega
        have hi2 : (j : Int) < (m : Int) := by omega
        by_cases he : l[j] = k[j]
        · have hb0 : (((l[j].toNat : Nat) : Int) != ((k[j].toNat : Nat) : Int)) = false := by rw [he]; simp
          have HT := Lib.hid (take_succ_eq hl1 hk1 ht.out he)
          clear he
          go_wp2
          go_quiet (fail)
          go_wp2
          go_roundw
          case rel => exact ⟨j + 1, _, by omega, by go_num, HT, rfl⟩
          case measure => simp [intOf]; omega
        · have hb0 : (((l[j].toNat : Nat) : Int) != ((k[j].toNat : Nat) : Int)) = true := by
            simp only [bne_iff_ne, ne_eq]
            intro e
            exact he (UInt8.toNat_inj.1 (by omega))
          have hf : decide (l = k) = false := decide_eq_false (take_succ_ne hl1 hk1 he)
          have HF := Lib.hid hf
          clear hf he
          go_wp2
          go_quiet (fail)
          go_wp2
          go_ret
          exact ⟨ret_bool HF.out.symm, _, World.drewN_drewN _ _ _⟩
      · have hjn : j = n := by omega
        have ht' : decide (l = k) = true := decide_eq_true (by
          have := ht.out
          rwa [List.take_of_length_le (by rw [HN.out]; omega), List.take_of_length_le (by rw [HM.out, ← HE.out]; omega)] at this)
        have HF := Lib.hid ht'
        clear ht'
        have hge : ¬ (j : Int) < (n : Int) := by omega
        clear hjn
        go_wp2
        go_ret
        exact ⟨ret_bool HF.out.symm, _, rfl⟩
  · have hne : ((n : Int) != (m : Int)) = true := by simp only [bne_iff_ne, ne_eq]; omega
    have HF := Lib.hid (show decide (l = k) = false from decide_eq_false (by rintro rfl; exact hnm (hn.symm.trans hm)))
    clear hn hm hnm
    go_enter Tryd.func13, Tryd.ntmps13
    go_wp2
    go_ret
    exact ⟨ret_bool HF.out.symm, 0, rfl⟩
end Go.Proofs.YtobealijkbnojaaDoor
namespace Go.Proofs.YtobealijkbnojaaDoor
open Go.RowKit

theorem rows_take_eq {l k : List (List UInt8)} {j : Nat} (h1 : j < l.length) (h2 : j < k.length) (ht : l.take j = k.take j) (h : l[j] = k[j]) : l.take (j + 1) = k.take (j + 1) := by
  rw [List.take_succ_eq_append_getElem h1, List.take_succ_eq_append_getElem h2, ht, h]

theorem quiet_at {P : Program} {f : FuncId} {args : Array Value} {w : World} {a n : Nat} {v : Value}
    (h : ∀ m, Calls P f args (w.drewN m) fun e w' => e = .returned v ∧ ∃ q, w' = (w.drewN m).drewN q) :
    Calls P f args (w.drewN (a + n)) fun e w'' => e = .returned v ∧ ∃ m, w'' = w.drewN (a + m) :=
  (h (a + n)).mono fun _ _ ⟨he, m, hm⟩ => ⟨he, n + m, by rw [hm, World.drewN_drewN, Nat.add_assoc]⟩

set_option maxHeartbeats 1000000 in
theorem rows_any (A B : Option Addr) (n m c d C D : Nat) (l k : List (List UInt8)) (w : World) (hn : l.length = n) (hm : k.length = m) (h1 : n ≤ maxLen) (ha : RdR w C A l) (hb : RdR w D B k) (h2 : ∀ r ∈ l, r.length ≤ maxLen) :
    Calls Tryd.prog 50 #[.slice A n c, .slice B m d] w fun e w' => e = .returned (.bool (decide (l = k))) ∧ ∃ q, w' = w.drewN q := by
  unfold maxLen at h1
  by_cases hnm : n = m
  · have hne : ((n : Int) != (m : Int)) = false := by simp [hnm]
    have HN := Lib.hid hn
    have HM := Lib.hid hm
    have HE := Lib.hid hnm
    have H2 := Lib.hid h2
    clear hn hm hnm h2
    go_enter Tryd.func50, Tryd.ntmps50
    go_wp2
    go_loopw [5] (fun i wr => ∃ j q : Nat, j ≤ n ∧ i = .int .i64 j ∧ Hid (l.take j = k.take j) ∧ wr = w.drewN q) (fun i _ => n - (intOf i).toNat)
    case atStart => exact ⟨0, 0, Nat.zero_le _, rfl, Lib.hid rfl, rfl⟩
    case round =>
      obtain ⟨j, q, hj, rfl, ht, rfl⟩ := hrel
      by_cases hlt : j < n
      · have hl1 : j < l.length := by rw [HN.out]; exact hlt
        have hk1 : j < k.length := by rw [HM.out, ← HE.out]; exact hlt
        have hmm : j < m := by rw [← HE.out]; exact hlt
        obtain ⟨b, off, A1, c1, rfl, _, hc, _, _, hr1⟩ := ha.at_ j hl1
        obtain ⟨b', off', B1, d1, rfl, _, hc', _, _, hr2⟩ := hb.at_ j hk1
        have h0 : (0 : Int) ≤ (j : Int) := by omega
        have hi1 : (j : Int) < (n : Int) := by omega
        have hi2 : (j : Int) < (m : Int) := by omega
        have hlm : l[j].length ≤ maxLen := H2.out _ (List.getElem_mem hl1)
        have HR1 := Lib.hid hr1
        have HR2 := Lib.hid hr2
        have HSC := Lib.hid (fun W (h1 : Rd W C A1 l[j]) (h2 : Rd W D B1 k[j]) => same_any A1 B1 l[j].length k[j].length c1 d1 C D l[j] k[j] W rfl rfl hlm h1 h2)
        have HS2 := Lib.hid (fun m => HSC.out (w.drewN m) (HR1.out.drewN m) (HR2.out.drewN m))
        by_cases he : l[j] = k[j]
        · have HT := Lib.hid (rows_take_eq hl1 hk1 ht.out he)
          have HD := Lib.hid (show decide (l[j] = k[j]) = true from decide_eq_true he)
          rw [HD.out] at HS2
          clear he hr1 hr2 hlm HSC HD
          go_wp2
          go_quiet ((go_at_call 13; exact quiet_at HS2.out))
          go_wp2
          go_roundw
          case rel => exact ⟨j + 1, _, by omega, by go_num, HT, rfl⟩
          case measure => simp [intOf]; omega
        · have HF := Lib.hid (show decide (l = k) = false from decide_eq_false (by rintro rfl; exact he rfl))
          have HD := Lib.hid (show decide (l[j] = k[j]) = false from decide_eq_false he)
          rw [HD.out] at HS2
          clear he hr1 hr2 hlm HSC HD
          go_wp2
          go_quiet ((go_at_call 13; exact quiet_at HS2.out))
          go_wp2
          go_ret
          exact ⟨ret_bool HF.out.symm, _, World.drewN_drewN _ _ _⟩
      · have ht' : decide (l = k) = true := decide_eq_true (by
          have := ht.out
          rwa [List.take_of_length_le (by rw [HN.out]; omega), List.take_of_length_le (by rw [HM.out, ← HE.out]; omega)] at this)
        have HF := Lib.hid ht'
        have hge : ¬ (j : Int) < (n : Int) := by omega
        clear ht'
        go_wp2
        go_ret
        exact ⟨ret_bool HF.out.symm, _, rfl⟩
  · have hne : ((n : Int) != (m : Int)) = true := by simp only [bne_iff_ne, ne_eq]; omega
    have HF := Lib.hid (show decide (l = k) = false from decide_eq_false (by rintro rfl; exact hnm (hn.symm.trans hm)))
    clear hn hm hnm h2
    go_enter Tryd.func50, Tryd.ntmps50
    go_wp2
    go_ret
    exact ⟨ret_bool HF.out.symm, 0, rfl⟩
end Go.Proofs.YtobealijkbnojaaDoor
namespace Go.Proofs.YtobealijkbnojaaDoor
open Go.RowKit

theorem infoSlice : (Tryd.prog.info? 24).map (fun i => (i.zero, i.size, i.bytes)) = some (some (.slice none 0 0), 1, 24) := by kernel_rfl

section
variable {P : Program} {w : World}

/-- append of one slice value onto a row of the call's own. -/
theorem wpList_append_one {ops : Array Oper} {rest : List Oper} {o : Oper} {a : Act} {Q : Exit → Act → World → Prop} (hgd : o.guard = none) (s x : Operand) (t : TypeId)
    (ho : o.op = .call { callee := .builtin .append, args := #[s, x], argTypes := #[t, t] })
    (base : Nat) (e : TypeId) (i : TypeInfo) (ht : P.underlying t = some (.slice e)) (hi : P.info? e = some i) (hz : i.zero = some (.slice none 0 0)) (hsize : i.size = 1) (hby : i.bytes = 24)
    (v : Value) (n : Nat) (xs : List Value) (hs : a.eval s = v) (W : World) (A : Option Addr) (m c : Nat) (hw : w = W.alloc (.cells #[.slice A m c] e)) (hown : W.ownsRow base e 1 v n xs) (hx : a.eval x = .slice (some ⟨W.heap.size, 0, none⟩) 1 1)
    (hlim : n + 1 ≤ 1000000) (hbase : base ≤ W.heap.size)
    (h : ∀ v' w', w'.ownsRow base e 1 v' (n + 1) (xs ++ [.slice A m c]) → w.grownBy w' v.ownBlock → wpList P ops Q rest (a.put o.dst v') w') : wpList P ops Q (o :: rest) a w := by
  subst hw
  refine wpList_append_own (P := P) _ hgd s x t ho base e i (.slice none 0 0) 1 24 ht hi hz hsize hby rfl (by omega) v n xs hs (hown.alloc _) ⟨W.heap.size, 0, none⟩ 1 1 [.slice A m c] hx rfl ?_ ?_ (by unfold maxLen; omega) (by omega) (by simp; omega) (fun v' w' h1 h2 _ => h v' w' h1 h2)
  · intro j u hj
    match j, hj with
    | 0, hj =>
      simp at hj
      subst hj
      simp [Addr.add]
  · intro u hu
    simp at hu
    subst hu
    rfl
end
end Go.Proofs.YtobealijkbnojaaDoor
namespace Go.Proofs.YtobealijkbnojaaDoor
open Go.RowKit

theorem own_keep {w w' : World} {base : Nat} {e : TypeId} {v : Value} {n : Nat} {xs : List Value} (h : w.ownsRow base e 1 v n xs) (hb : Below w.heap.size w w') : w'.ownsRow base e 1 v n xs := by
  refine ⟨h.1, ?_⟩
  rcases h.2 with h0 | ⟨g, cap, cur, h1, h2, h3, h4⟩
  · exact .inl h0
  · refine .inr ⟨g, cap, cur, h1, h2, ?_, h4⟩
    rw [hb.block g (Array.getElem?_eq_some_iff.1 h3).1]
    exact h3
theorem own_base {w : World} {base base' : Nat} {e : TypeId} {v : Value} {n : Nat} {xs : List Value} (h : w.ownsRow base e 1 v n xs) (hb : base' ≤ base) : w.ownsRow base' e 1 v n xs := by
  refine ⟨h.1, ?_⟩
  rcases h.2 with h0 | ⟨g, cap, cur, h1, h2, h3⟩
  · exact .inl h0
  · exact .inr ⟨g, cap, cur, h1, Nat.le_trans hb h2, h3⟩
/-- Rows of unlike element types are unlike blocks. -/
theorem own_apart {w w' : World} {b b' : Nat} {e e' : TypeId} {v u : Value} {n m : Nat} {xs ys : List Value} (h : w.ownsRow b e 1 v n xs) (k : w.ownsRow b' e' 1 u m ys) (hne : e ≠ e') (hg : w.grownBy w' u.ownBlock) : w'.ownsRow b e 1 v n xs := by
  refine h.kept hg ?_
  rcases h.2 with ⟨rfl, _⟩ | ⟨g, cap, cur, rfl, _, h3, _⟩
  · exact .inl rfl
  · right
    rcases k.2 with ⟨rfl, _⟩ | ⟨g', cap', cur', rfl, _, k3, _⟩
    · simp [Value.ownBlock]
    · simp only [Value.ownBlock, ne_eq, Option.some.injEq]
      rintro rfl
      rw [h3] at k3
      injection k3 with k3
      injection k3 with _ k4
      exact hne k4

/-- Slice values, each of which owns its bytes. -/
def sliceOwn (w : World) (B : Nat) (e : TypeId) (vs : List Value) (ls : List (List UInt8)) : Prop :=
  vs.length = ls.length ∧ ∀ i (h : i < ls.length), ∃ A c, vs[i]? = some (.slice A ls[i].length c) ∧ ls[i].length ≤ c ∧ c ≤ maxLen ∧ w.ownsRow B e 1 (.slice A ls[i].length c) ls[i].length (Lib.byteCells ls[i])
theorem sliceOwn.map {w w' : World} {B : Nat} {e : TypeId} {vs : List Value} {ls : List (List UInt8)} (h : sliceOwn w B e vs ls) (hk : ∀ v n xs, w.ownsRow B e 1 v n xs → w'.ownsRow B e 1 v n xs) : sliceOwn w' B e vs ls :=
  ⟨h.1, fun i hi => by
    obtain ⟨A, c, h1, h2, h3, h4⟩ := h.2 i hi
    exact ⟨A, c, h1, h2, h3, hk _ _ _ h4⟩⟩
theorem sliceOwn.snoc {w : World} {B : Nat} {e : TypeId} {vs : List Value} {ls : List (List UInt8)} (h : sliceOwn w B e vs ls) {A : Option Addr} {n c : Nat} {l : List UInt8} (hn : l.length = n) (hc : n ≤ c) (hm : c ≤ maxLen) (hr : w.ownsRow B e 1 (.slice A n c) n (Lib.byteCells l)) :
    sliceOwn w B e (vs ++ [.slice A n c]) (ls ++ [l]) := by
  subst hn
  refine ⟨by simp [h.1], fun i hi => ?_⟩
  by_cases he : i < ls.length
  · obtain ⟨A', c', h1, h2⟩ := h.2 i he
    refine ⟨A', c', ?_, ?_⟩
    · rw [List.getElem?_append_left (by rw [h.1]; exact he)]
      simpa [List.getElem_append_left he] using h1
    · simpa [List.getElem_append_left he] using h2
  · have hi' : i = ls.length := by simp at hi; omega
    subst hi'
    refine ⟨A, c, ?_, ?_⟩
    · rw [List.getElem?_append_right (by rw [h.1]; exact Nat.le_refl _)]
      simp [h.1]
    · simpa using ⟨hc, hm, hr⟩
theorem sliceOwn.vals {w : World} {B : Nat} {e : TypeId} {vs : List Value} {ls : List (List UInt8)} (h : sliceOwn w B e vs ls) : sliceVals w w.heap.size vs ls :=
  ⟨h.1, fun i hi => by
    obtain ⟨A, c, h1, h2, h3, h4⟩ := h.2 i hi
    exact ⟨A, c, h1, h2, h3, Rd.of_own h4⟩⟩

theorem own_caps {w : World} {base : Nat} {e : TypeId} {v : Value} {n : Nat} {xs : List Value} (h : w.ownsRow base e 1 v n xs) : ∃ A c, v = .slice A n c ∧ n ≤ c ∧ c ≤ maxLen := by
  rcases h.2 with ⟨rfl, rfl⟩ | ⟨g, cap, cur, rfl, _, _, hc, hm, _⟩
  · exact ⟨none, 0, rfl, Nat.le_refl _, Nat.zero_le _⟩
  · exact ⟨_, cap, rfl, hc, hm⟩

set_option maxHeartbeats 400000 in
theorem copy_any (A : Option Addr) (n c C : Nat) (l : List UInt8) (w : World) (hn : l.length = n) (h1 : n ≤ 1000000) (hr : Rd w C A l) :
    Calls Tryd.prog 39 #[.slice A n c] w fun e w' => ∃ A' c', e = .returned (.slice A' n c') ∧ n ≤ c' ∧ c' ≤ maxLen ∧ w'.ownsRow w.heap.size 5 1 (.slice A' n c') n (Lib.byteCells l) ∧ Below w.heap.size w w' := by
  obtain ⟨i0, hi, hz0, hz1, hz2⟩ := info_parts info5
  have HN := Lib.hid hn
  clear hn
  go_enter Tryd.func39, Tryd.ntmps39
  go_wp2_with (at_builtin; refine wpList_append_rd rfl _ _ 24 rfl w.heap.size 5 i0 Tryd.underlying24 hi hz0 hz1 hz2 _ 0 [] rfl (World.ownsRow_nil _ _ _ _) C A n c l rfl HN.out hr (by omega) (Nat.le_refl _) ?_)
  intro v1 w1 hown1 hg1
  have hb1 : Below w.heap.size w w1 := (Below.refl _ _).grown hg1 (Nat.le_refl _) (by simp [Value.ownBlock])
  have h2 : w1.ownsRow w.heap.size 5 1 v1 n (Lib.byteCells l) := by simpa using hown1
  obtain ⟨A', c', rfl, hc1, hc2⟩ := own_caps h2
  have HO := Lib.hid h2
  clear hown1 hg1 h2
  go_wp2_with fail
  go_ret
  exact ⟨A', c', rfl, hc1, hc2, HO.out, hb1⟩

set_option maxHeartbeats 1000000 in
theorem copyRows_any (A : Option Addr) (n c : Nat) (ls : List (List UInt8)) (w : World) (hn : ls.length = n) (h1 : n ≤ 1000) (h2 : ∀ r ∈ ls, r.length ≤ 1000) (hr : RdR w w.heap.size A ls) :
    Calls Tryd.prog 41 #[.slice A n c] w fun e w' => ∃ A' c', e = .returned (.slice A' n c') ∧ RdR w' w'.heap.size A' ls ∧ Below w.heap.size w w' := by
  obtain ⟨i1, hi, hz0, hz1, hz2⟩ := info_parts infoSlice
  have HN := Lib.hid hn
  have H2 := Lib.hid h2
  clear hn h2
  go_enter Tryd.func41, Tryd.ntmps41
  go_wp2
  go_loopw [3, 7] (fun v i wr => ∃ (k : Nat) (vs : List Value), k ≤ n ∧ i = .int .i64 k ∧ Hid (wr.ownsRow w.heap.size 24 1 v k vs) ∧ Hid (sliceOwn wr w.heap.size 5 vs (ls.take k)) ∧ Below w.heap.size w wr) (fun _ i _ => n - (intOf i).toNat)
  case atStart => exact ⟨0, [], Nat.zero_le _, rfl, Lib.hid (World.ownsRow_nil _ _ _ _), Lib.hid ⟨rfl, fun i h => by simp at h⟩, Below.refl _ _⟩
  case round =>
    obtain ⟨k, vs, hk, rfl, HO, HS, hbel⟩ := hrel
    by_cases hlt : k < n
    · have hl1 : k < ls.length := by rw [HN.out]; exact hlt
      obtain ⟨b, off, A1, c1, rfl, _, hc, _, _, hrd⟩ := (hr.below hbel (Nat.le_refl _)).at_ k hl1
      have HT := Lib.hid (List.take_succ_eq_append_getElem hl1)
      have hlen : ls[k].length ≤ 1000 := H2.out _ (List.getElem_mem hl1)
      generalize ls[k] = l at *
      obtain ⟨q, hq⟩ : ∃ q, l.length = q := ⟨_, rfl⟩
      have HQ := Lib.hid hq
      rw [hq] at hc hlen
      have hle := hbel.size
      clear hq
      go_wp2_with fail
      refine (copy_any A1 q c1 _ l _ HQ.out (by omega) hrd).mono ?_
      rintro e w1 ⟨A2, c2, rfl, hc21, hc22, hown1, hb1⟩
      have hO1 := Lib.hid (own_keep HO.out hb1)
      have hS1 := Lib.hid (HS.out.map (fun _ _ _ h => own_keep h hb1))
      have hN1 := Lib.hid (own_base hown1 hle)
      have hbel1 := hbel.trans (hb1.mono hle)
      clear hown1 hb1 hbel hle hrd hc
      go_wp2_with (at_builtin; refine wpList_append_one rfl _ _ 33 rfl w.heap.size 24 i1 Tryd.underlying33 hi hz0 hz1 hz2 _ k vs rfl w1 A2 q c2 rfl hO1.out rfl (by omega) hbel1.size ?_)
      intro v2 w2 hown2 hg2
      have hO2 := Lib.hid hown2
      have hS2 := Lib.hid ((hS1.out.snoc HQ.out hc21 hc22 hN1.out).map (w' := w2) (fun _ _ _ h => own_apart (h.alloc (.cells #[.slice A2 q c2] 24)) (hO1.out.alloc (.cells #[.slice A2 q c2] 24)) (by decide) hg2))
      rw [← HT.out] at hS2
      have hbel2 : Below w.heap.size w w2 := (hbel1.alloc hbel1.size _).grown hg2 (by have := hbel1.size; simp; omega) (fun k hk => (hO1.out.lt k hk).1)
      clear hown2 hg2 hbel1
      go_wp2_with fail
      go_roundw
      case rel => exact ⟨k + 1, _, by omega, by go_num, hO2, hS2, hbel2⟩
      case measure => simp [intOf]; omega
    · have hge : ¬ (k : Int) < (n : Int) := by omega
      obtain rfl : k = n := by omega
      have ht : ls.take k = ls := List.take_of_length_le (by rw [HN.out]; exact Nat.le_refl _)
      rw [ht] at HS
      obtain ⟨A', c', rfl, _⟩ := own_slice HO.out
      have HR := Lib.hid (RdR.of_own HO.out HS.out.vals (Nat.le_refl _))
      clear ht
      go_wp2_with fail
      go_ret
      exact ⟨A', ⟨c', rfl⟩, HR.out, hbel⟩
end Go.Proofs.YtobealijkbnojaaDoor
