/- The text of a tag and rows, as the program writes it. -/
import Derived.Test.YtdjnaeifmeffoaaDoorNets
import Derived.Test.YtdjnaeifmeffoaaDoorMake
import Derived.Test.YtdjnaeifmeffoaaDoorCopyRows
import Derived.Test.YtdjnaeifmeffoaaDoorMarked
import Derived.Test.YtdjnaeifmeffoaaDoorSum
namespace Go.Proofs.YtdjnaeifmeffoaaDoor
open Go.RowKit

/-- The values of a slice of byte slices. -/
theorem RdR.vals {w : World} {B : Nat} {ad : Addr} {ls : List (List UInt8)} (h : RdR w B (some ad) ls) :
    ∃ vs : List Value, sliceVals w B vs ls ∧ (∀ j u, vs[j]? = some u → w.cell? (ad.add j) = some u) ∧ ∀ u ∈ vs, u.oneCell' = true := by
  have each : ∀ i, ∃ v : Value, i < ls.length → w.cell? (ad.add i) = some v ∧ ∃ A' c, v = .slice A' (ls.getD i []).length c ∧ (ls.getD i []).length ≤ c ∧ c ≤ maxLen ∧ Rd w B A' (ls.getD i []) := by
    intro i
    by_cases hi : i < ls.length
    · obtain ⟨b, off, A', c, e, _, h1, h2, h3, h4⟩ := h.at_ i hi
      injection e with e
      subst e
      have hg : ls.getD i [] = ls[i] := by rw [List.getD_eq_getElem?_getD, List.getElem?_eq_getElem hi]; rfl
      refine ⟨_, fun _ => ⟨by rw [Addr.add_mid]; exact h1, A', c, by rw [hg], by rw [hg]; exact h2, h3, by rw [hg]; exact h4⟩⟩
    · exact ⟨.bool true, fun h => absurd h hi⟩
  obtain ⟨f, hf⟩ := Classical.axiomOfChoice each
  refine ⟨(List.range ls.length).map f, ⟨by simp, fun i hi => ?_⟩, fun j u hu => ?_, fun u hu => ?_⟩
  · obtain ⟨_, A', c, h1, h2, h3, h4⟩ := hf i hi
    have hg : ls.getD i [] = ls[i] := by rw [List.getD_eq_getElem?_getD, List.getElem?_eq_getElem hi]; rfl
    rw [hg] at h1 h2 h4
    exact ⟨A', c, by rw [List.getElem?_map, List.getElem?_range hi]; simp [h1], h2, h3, h4⟩
  · rcases Nat.lt_or_ge j ls.length with hj | hj
    · rw [List.getElem?_map, List.getElem?_range hj] at hu
      simp only [Option.map_some, Option.some.injEq] at hu
      subst hu
      exact (hf j hj).1
    · rw [List.getElem?_eq_none (by simpa using hj)] at hu; cases hu
  · obtain ⟨j, hj, rfl⟩ := List.mem_map.1 hu
    obtain ⟨_, A', c, h1, _⟩ := hf j (List.mem_range.1 hj)
    rw [h1]; rfl

theorem sliceVals.append {w : World} {B : Nat} {vs us : List Value} {ls ks : List (List UInt8)} (h : sliceVals w B vs ls) (k : sliceVals w B us ks) : sliceVals w B (vs ++ us) (ls ++ ks) := by
  refine ⟨by rw [List.length_append, List.length_append, h.1, k.1], fun i hi => ?_⟩
  by_cases he : i < ls.length
  · obtain ⟨A', c, h1, h2⟩ := h.2 i he
    refine ⟨A', c, ?_, ?_⟩
    · rw [List.getElem?_append_left (by rw [h.1]; exact he)]
      simpa [List.getElem_append_left he] using h1
    · simpa [List.getElem_append_left he] using h2
  · have hi' : i - ls.length < ks.length := by simp at hi; omega
    obtain ⟨A', c, h1, h2⟩ := k.2 (i - ls.length) hi'
    refine ⟨A', c, ?_, ?_⟩
    · rw [List.getElem?_append_right (by rw [h.1]; omega), h.1]
      simpa [List.getElem_append_right (show ls.length ≤ i by omega)] using h1
    · simpa [List.getElem_append_right (show ls.length ≤ i by omega)] using h2

section
variable {P : Program} {w : World}
theorem run_append_rows (base : Nat) (t ty e : TypeId) (i : TypeInfo) (ht : P.underlying t = some (.slice e)) (hi : P.info? e = some i) (hz : i.zero = some (.slice none 0 0)) (hsize : i.size = 1) (hby : i.bytes = 24)
    (v : Value) (n : Nat) (xs : List Value) (hown : w.ownsRow base e 1 v n xs) (C : Nat) (A : Option Addr) (m c : Nat) (ls : List (List UInt8)) (hl : ls.length = m) (hr : RdR w C A ls)
    (hlim : n + m ≤ 1000000) (hbase : base ≤ w.heap.size) :
    ∃ v' w' us, (Builtin.append_ #[t, t] ty #[v, .slice A m c]).run P w = .ok v' w' ∧ w'.ownsRow base e 1 v' (n + m) (xs ++ us) ∧ sliceVals w C us ls ∧ w.grownBy w' v.ownBlock := by
  rcases A with _ | ad
  · have h0 : ls = [] := by
      rcases hr with rfl | ⟨b, off, e, _⟩
      · rfl
      · cases e
    subst h0
    obtain rfl : m = 0 := by simpa using hl.symm
    refine ⟨v, w, [], ?_, by simpa using hown, sliceVals.nil _ _, World.grownBy.refl w _⟩
    rcases hown.2 with ⟨rfl, rfl⟩ | ⟨g, cap, cur, rfl, _, _, hnc, _⟩
    · simp [Builtin.append_, run_underlying ht, sizeOf, typeInfo, hi, Builtin.lenOf, Builtin.firstCells]
    · simp [Builtin.append_, run_underlying ht, sizeOf, typeInfo, hi, Builtin.lenOf, Builtin.firstCells, hnc, storeCells]
  · obtain ⟨us, h1, h2, h3⟩ := hr.vals
    obtain ⟨v', w', hrun, k2, k3, _⟩ := run_append_own (P := P) w base t ty e i (.slice none 0 0) 1 24 ht hi hz hsize hby rfl (by omega) v n xs hown ad m c us (by rw [h1.1, hl, Nat.mul_one]) h2 h3 (by unfold maxLen; omega) (by omega) hbase
    exact ⟨v', w', us, hrun, k2, h1, k3⟩
theorem wpList_append_rows {ops : Array Oper} {rest : List Oper} {o : Oper} {a : Act} {Q : Exit → Act → World → Prop} (hgd : o.guard = none) (s x : Operand) (t : TypeId)
    (ho : o.op = .call { callee := .builtin .append, args := #[s, x], argTypes := #[t, t] })
    (base : Nat) (e : TypeId) (i : TypeInfo) (ht : P.underlying t = some (.slice e)) (hi : P.info? e = some i) (hz : i.zero = some (.slice none 0 0)) (hsize : i.size = 1) (hby : i.bytes = 24)
    (v : Value) (n : Nat) (xs : List Value) (hs : a.eval s = v) (hown : w.ownsRow base e 1 v n xs) (C : Nat) (A : Option Addr) (m c : Nat) (ls : List (List UInt8)) (hx : a.eval x = .slice A m c) (hl : ls.length = m) (hr : RdR w C A ls)
    (hlim : n + m ≤ 1000000) (hbase : base ≤ w.heap.size)
    (h : ∀ v' w' us, w'.ownsRow base e 1 v' (n + m) (xs ++ us) → sliceVals w C us ls → w.grownBy w' v.ownBlock → wpList P ops Q rest (a.put o.dst v') w') : wpList P ops Q (o :: rest) a w := by
  refine wpList_plain hgd fun K hK => ?_
  obtain ⟨v', w', us, hrun, h2, h3, h4⟩ := run_append_rows (P := P) base t o.type e i ht hi hz hsize hby v n xs hown C A m c ls hl hr hlim hbase
  unfold Oper.wp execOp
  simp only [ho, resolve, invoke, builtin, Sem.run_bind, Sem.run_pure, Result.andThen_ok, List.map_toArray, List.map_cons, List.map_nil, hs, hx, hrun]
  exact hK _ _ (h v' w' us h2 h3 h4)
end

theorem ownM_heap {w : World} {base : Nat} {e : TypeId} {g n c : Nat} {l : List UInt8} (h : OwnM w base e (.slice (some ⟨g, 0, none⟩) n c) n l) : ∃ cur fz, w.heap[g]? = some (.cells cur e fz) ∧ g < w.heap.size ∧ base ≤ g := by
  obtain ⟨_, g', cap, cur, fz, hv, hb, hg, _⟩ := h
  injection hv with hv _ _
  injection hv with hv
  injection hv with hv
  subst hv
  exact ⟨cur, fz, hg, (Array.getElem?_eq_some_iff.1 hg).1, hb⟩
theorem own_not {w : World} {base : Nat} {e e' : TypeId} {v : Value} {n b : Nat} {xs : List Value} {cur : Array Value} {fz : Nat × Nat} (h : w.ownsRow base e 1 v n xs) (hn : 0 < n) (hb : w.heap[b]? = some (.cells cur e' fz)) (hne : e ≠ e') : some b ≠ v.ownBlock := by
  intro he
  rcases h.2 with ⟨_, h0⟩ | ⟨g, cap, cur', rfl, _, hg, _⟩
  · omega
  · simp [Value.ownBlock] at he
    subst he
    rw [hg] at hb
    injection hb with hb
    injection hb with _ hb _
    exact hne hb
theorem Rd.viaN {w w' : World} {b : Nat} {row : Option Nat} {l : List UInt8} (h : Rd w w.heap.size (some ⟨b, 0, none⟩) l) (hg : w.grownBy w' row) (hne : some b ≠ row) : Rd w' w'.heap.size (some ⟨b, 0, none⟩) l := by
  rcases h with h | ⟨b', off, e, hb, hc⟩
  · exact .inl h
  · injection e with e; injection e with e1 e2; subst e1 e2
    exact .inr ⟨b, 0, rfl, Nat.lt_of_lt_of_le hb hg.size, fun i hi => (World.cell?_of_block (hg.block b hb hne)).trans (hc i hi)⟩
theorem Rd.via {w w' : World} {o : Obj} {b : Nat} {row : Option Nat} {l : List UInt8} (h : Rd w w.heap.size (some ⟨b, 0, none⟩) l) (hg : (w.alloc o).grownBy w' row) (hne : some b ≠ row) : Rd w' w'.heap.size (some ⟨b, 0, none⟩) l :=
  Rd.viaN (w := w.alloc o) ((h.alloc (Nat.le_refl _) o).more (by simp)) hg hne
theorem ownM_form {w : World} {base : Nat} {e : TypeId} {v : Value} {n : Nat} {l : List UInt8} (h : OwnM w base e v n l) : ∃ g c, v = .slice (some ⟨g, 0, none⟩) n c ∧ n ≤ c ∧ c ≤ maxLen := by
  obtain ⟨_, g, cap, _, _, hv, _, _, _, hc, hm, _⟩ := h
  exact ⟨g, cap, hv, hc, hm⟩
set_option maxRecDepth 100000 in
set_option maxHeartbeats 2000000 in
theorem text_any (tag : List UInt8) (A : Option Addr) (n c : Nat) (ls : List (List UInt8)) (w : World) (ht : tag.length ≤ 1000) (hn : ls.length = n) (h1 : n ≤ 100) (h2 : ∀ r ∈ ls, r.length ≤ 1000) (hr : RdR w w.heap.size A ls) (htab : Pow10 w.heap.size w) :
    Calls Tryd.prog 12 #[.string ⟨tag.toArray⟩, .slice A n c] w fun e w' => ∃ A' c', e = .returned (.slice A' (netsL (tag :: ls)).length c') ∧ (netsL (tag :: ls)).length ≤ c' ∧ Rd w' w'.heap.size A' (netsL (tag :: ls)) ∧ Below w.heap.size w w' := by
  obtain ⟨i1, hi, hz0, hz1, hz2⟩ := info_parts infoSlice
  have HN := Lib.hid hn
  have H2 := Lib.hid h2
  have HT := Lib.hid htab
  clear hn h2 htab
  go_enter Tryd.func12, Tryd.ntmps12
  go_wp2_with (first
    | (with_reducible refine wpList_make_own _ rfl _ _ 36 rfl w.heap.size 22 i1 (.slice none 0 0) 1 Tryd.underlying36 hi hz0 hz1 _ _ _ (n + 1) rfl rfl (by omega) (by rw [hz2]; omega) (by unfold maxLen; omega) (Nat.le_refl _) ?_
       intro w1 hown1 hg1
       obtain ⟨v2, w2, hcv, hown2, hb2⟩ := run_bytes_M (P := Tryd.prog) (w := w1) 9 22 5 tag (by omega) Tryd.underlying9 Tryd.underlying22 Tryd.underlying5
       obtain ⟨g2, c2, hv2, hc2, hcm2⟩ := ownM_form hown2
       subst hv2)
    | (at_builtin; refine wpList_append_one rfl _ _ 36 rfl w.heap.size 22 i1 Tryd.underlying36 hi hz0 hz1 hz2 _ 0 [] rfl w2 (some ⟨g2, 0, none⟩) tag.length c2 rfl (own_on hown1 hb2) rfl (by omega) (by have := hg1.size; have := hb2.size; omega) ?_))
  intro v3 w3 hown3 hg3
  have hb1 : Below w.heap.size w w1 := (Below.refl _ _).grown hg1 (Nat.le_refl _) (by simp)
  have hbel2 := hb1.trans (hb2.mono hb1.size)
  have hbel3 : Below w.heap.size w w3 := (hbel2.alloc hbel2.size _).grown hg3 (by have := hbel2.size; simp; omega) (fun k hk => by have := (own_on hown1 hb2).lt k hk; omega)
  have hr2 := hown2.rd
  obtain ⟨cur, fz, hgb, hg2l, hg2b⟩ := ownM_heap hown2
  have hne3 : some g2 ≠ (Value.slice (some ⟨w.heap.size, 0, none⟩) 0 (n + 1)).ownBlock := by
    intro e
    simp [Value.ownBlock] at e
    have := (hown1.lt w.heap.size rfl).2
    omega
  have hr3 := hr2.via hg3 hne3
  have hgb3 : w3.heap[g2]? = some (.cells cur 5 fz) := by
    rw [hg3.block g2 (by simp; omega) hne3, heap_alloc_old _ _ hg2l]; exact hgb
  have hne4 := own_not hown3 (by omega) hgb3 (by decide)
  have hsv3 := (sliceVals.nil w3 w3.heap.size).snoc rfl hc2 hcm2 hr3
  have HO3 := Lib.hid hown3
  have HSV3 := Lib.hid hsv3
  have HR3 := Lib.hid (hr.below hbel3 (Nat.le_refl _))
  have hs3 := hbel3.size
  clear hown3 hg3 hown1 hg1 hb2 hcv hown2 hb1 hbel2 hr2 hgb hg2l hg2b hne3 hsv3 hc2 hcm2
  go_wp2_with (at_builtin; refine wpList_append_rows rfl _ _ 36 rfl w.heap.size 22 i1 Tryd.underlying36 hi hz0 hz1 hz2 _ 1 _ rfl HO3.out w.heap.size A n c ls rfl HN.out HR3.out (by omega) hs3 ?_)
  intro v4 w4 us hown4 hus hg4
  have hbel4 := hbel3.grown hg4 hs3 (fun k hk => (HO3.out.lt k hk).1)
  have hr4 := hr3.viaN hg4 hne4
  have hsv4 := ((sliceVals.nil w4 w4.heap.size).snoc (l := tag) (c := c2) rfl (by have := HSV3.out.2 0 (by simp); obtain ⟨_, _, e, h, _⟩ := this; simp at e; obtain ⟨_, rfl⟩ := e; exact h) (by have := HSV3.out.2 0 (by simp); obtain ⟨_, _, e, _, h, _⟩ := this; simp at e; obtain ⟨_, rfl⟩ := e; exact h) hr4).append ((hus.keep (fun p hp => World.cell?_of_block (hg4.block p.block (by omega) (fun e => by have := (HO3.out.lt _ e.symm).1; omega)))).more hbel4.size)
  obtain ⟨A4, c4, rfl, _⟩ := own_slice hown4
  have hrr := RdR.of_own hown4 hsv4 (Nat.le_refl _)
  rw [show 1 + n = n + 1 by omega] at hown4 ⊢
  have HRR := Lib.hid hrr
  have HTW := Lib.hid (tab_on HT.out hbel4 hbel4.size)
  have HLL := Lib.hid (show (tag :: ls).length = n + 1 by simp [HN.out])
  have HRL := Lib.hid (show ∀ r ∈ tag :: ls, r.length ≤ 1000 by
    intro r hr
    rcases List.mem_cons.1 hr with rfl | hr
    · exact ht
    · exact H2.out r hr)
  obtain ⟨all, hall⟩ : ∃ y, tag :: ls = y := ⟨_, rfl⟩
  rw [show [] ++ [tag] ++ ls = tag :: ls by simp, hall] at HRR
  rw [hall] at HLL HRL
  have HALL := Lib.hid hall
  clear hown4 hus hg4 hsv4 hrr hr4 hr3 hne4 hgb3 HO3 HSV3 HR3 hbel3 hs3 hall
  go_wp2_with fail
  refine (nets_any A4 (n + 1) c4 all w4 HLL.out (by omega) HRL.out HRR.out HTW.out).mono ?_
  rintro e w5 ⟨A5, c5, rfl, hc5, hr5, hb5⟩
  have hbel5 := Below.then hbel4 hb5
  have HR5 := Lib.hid hr5
  have HC5 := Lib.hid hc5
  clear hr5 hc5 hb5
  go_wp2_with fail
  go_ret
  rw [HALL.out]
  exact ⟨A5, c5, rfl, HC5.out, HR5.out, hbel5⟩

theorem nets_short (ls : List (List UInt8)) (h : ls.length ≤ 101) (h2 : ∀ r ∈ ls, r.length ≤ 1000) : (netsL ls).length ≤ 103222 := by
  have := netsL_len ls h2 ls.length (Nat.le_refl _)
  rw [List.take_length] at this
  omega

set_option maxRecDepth 100000 in
set_option maxHeartbeats 2000000 in
theorem tagged_any (tag : List UInt8) (A : Option Addr) (n c : Nat) (ls : List (List UInt8)) (w : World) (ht : tag.length ≤ 1000) (hn : ls.length = n) (h1 : n ≤ 100) (h2 : ∀ r ∈ ls, r.length ≤ 1000) (hr : RdR w w.heap.size A ls) (htab : Pow10 w.heap.size w) :
    Calls Tryd.prog 9 #[.string ⟨tag.toArray⟩, .slice A n c] w fun e w' => e = .returned (.agg (u8A (shaL (netsL (tag :: ls))))) ∧ Below w.heap.size w w' := by
  have hnl := nets_short (tag :: ls) (by simp [hn]; omega) (by
    intro r hr
    rcases List.mem_cons.1 hr with rfl | hr
    · exact ht
    · exact h2 r hr)
  have HTX := Lib.hid (fun (W : World) (hb : Below w.heap.size w W) => text_any tag A n c ls W ht hn h1 h2 ((hr.below hb (Nat.le_refl _)).more hb.size) (tab_on htab hb hb.size))
  clear hr htab h2 hn
  go_enter Tryd.func9, Tryd.ntmps9
  go_wp2_with fail
  generalize hw1 : w.alloc _ = w1
  have hb1 : Below w.heap.size w w1 := by rw [← hw1]; exact (Below.refl _ _).alloc (Nat.le_refl _) _
  have HR1 := Lib.hid (show ∃ rs, Blk w1 w.heap.size rs 29 ∧ rs.size = 32 by rw [← hw1]; exact ⟨_, Blk.new w _ _, rfl⟩)
  have hs1 : w.heap.size < w1.heap.size := by rw [← hw1]; simp
  clear hw1
  refine (HTX.out _ hb1).mono ?_
  rintro e w2 ⟨A2, c2, rfl, hc2, hr2, hb2⟩
  obtain ⟨nl, hnle⟩ : ∃ y, netsL (tag :: ls) = y := ⟨_, rfl⟩
  rw [hnle] at hnl hc2 hr2 ⊢
  have HNL := Lib.hid hnle
  have HR2 := Lib.hid (show ∃ rs, Blk w2 w.heap.size rs 29 ∧ rs.size = 32 by obtain ⟨rs, h, hz⟩ := HR1.out; exact ⟨rs, h.below hb2 hs1, hz⟩)
  have hb02 := hb1.trans (hb2.mono (Nat.le_of_lt hs1))
  have HRD := Lib.hid hr2
  have HC2 := Lib.hid hc2
  obtain ⟨k, hk⟩ : ∃ k, nl.length = k := ⟨_, rfl⟩
  have HK := Lib.hid hk
  rw [hk] at hnl ⊢
  have hs2 := Nat.lt_of_lt_of_le hs1 hb2.size
  clear hb2 hr2 hc2 hnle HR1 hk hb1
  go_wp2_with fail
  refine (sum_any A2 k c2 nl _ HK.out (by rw [← HK.out]; exact HC2.out) (by omega) HRD.out).mono ?_
  rintro e w3 ⟨rfl, hb3⟩
  have hb03 := hb02.trans (hb3.mono (Nat.le_of_lt hs2))
  obtain ⟨rs, hrs2, hrz⟩ := HR2.out
  have hrs := hrs2.below hb3 hs2
  have hsz : (u8A (shaL nl)).size = 32 := by rw [u8A_size]; exact outTo_len _ 8 (by omega)
  have hone := u8A_one (shaL nl)
  obtain ⟨fin, hfe⟩ : ∃ x, u8A (shaL nl) = x := ⟨_, rfl⟩
  rw [hfe] at hsz hone
  rw [hfe]
  have HFE := Lib.hid hfe
  have HZ := Lib.hid hsz
  have HONE2 := Lib.hid hone
  have HRZ := Lib.hid hrz
  have hin := hrs.lt
  clear hfe hsz hone hrz hb3 hrs2 HR2 hb02
  go_wp2_with (with_reducible refine wpList_store_blk rfl 29 (.tmp 4) (.tmp 8) rfl w.heap.size fin rfl rfl 29 rs hrs (by rw [HZ.out]; kernel_rfl) (by rw [HZ.out, HRZ.out]) HONE2.out ?_)
  refine bodyPost_ret (v := .agg fin) (results_cell_row (p := 4) (ty := 29) (by kernel_rfl) _ _ w.heap.size 29 _ (0, 0) _ rfl (hrs.row fin) Tryd.underlying29 rfl (by rw [HZ.out]; kernel_rfl)) rfl ⟨by rw [HNL.out, HFE.out], below_row hb03 (by omega) (Nat.le_refl _) _⟩
end Go.Proofs.YtdjnaeifmeffoaaDoor
