/- The program's store: Names. -/
import Derived.Test.YtffllpjlghehiaaDoorStpQ
namespace Go.Proofs.YtffllpjlghehiaaDoor
open Go.RowKit Go.Sort
set_option maxRecDepth 100000

abbrev Name := List UInt8
def namesE (E : Nat → Ent) (k : Nat) : List Name := (List.range k).filterMap fun i => (E i).map (·.1)
theorem namesE_none {E : Nat → Ent} {k : Nat} (h : E k = none) : namesE E (k + 1) = namesE E k := by
  unfold namesE
  rw [List.range_succ, List.filterMap_append]
  simp [h]
theorem namesE_some {E : Nat → Ent} {k : Nat} {x : Name × Nat} (h : E k = some x) : namesE E (k + 1) = namesE E k ++ [x.1] := by
  unfold namesE
  rw [List.range_succ, List.filterMap_append]
  simp [h]
theorem namesE_len (E : Nat → Ent) (k : Nat) : (namesE E k).length ≤ k := by
  unfold namesE
  have := List.length_filterMap_le (fun i => (E i).map (·.1)) (List.range k)
  simpa using this
theorem name_total (a b : Name) : (decide (a ≤ b) || decide (b ≤ a)) = true := by
  rcases List.le_total a b with h | h <;> simp [h]
theorem name_le_trans (a b c : Name) (h1 : decide (a ≤ b) = true) (h2 : decide (b ≤ c) = true) : decide (a ≤ c) = true :=
  decide_eq_true (List.le_trans (of_decide_eq_true h1) (of_decide_eq_true h2))
/-- Rising lists of the same names are the same. -/
theorem strict_ext {l m : List Name} (hl : l.Pairwise (· < ·)) (hm : m.Pairwise (· < ·)) (h : ∀ x, x ∈ l ↔ x ∈ m) : l = m := by
  have e : (l.map fun x => ((⟨x, 0, []⟩ : Rec11), 0)) = m.map fun x => ((⟨x, 0, []⟩ : Rec11), 0) := by
    refine Rising.ext ?_ ?_ fun x => ?_
    · unfold Rising; rw [List.pairwise_map]; exact hl
    · unfold Rising; rw [List.pairwise_map]; exact hm
    · rw [List.mem_map, List.mem_map]
      constructor
      · rintro ⟨a, ha, rfl⟩; exact ⟨a, (h a).1 ha, rfl⟩
      · rintro ⟨a, ha, rfl⟩; exact ⟨a, (h a).2 ha, rfl⟩
  have e2 := congrArg (List.map fun x : Rec11 × Nat => x.1.name) e
  rw [List.map_map, List.map_map] at e2
  have e3 : ((fun x : Rec11 × Nat => x.1.name) ∘ fun x : Name => ((⟨x, 0, []⟩ : Rec11), 0)) = id := rfl
  rw [e3, List.map_id, List.map_id] at e2
  exact e2
/-- The names of a store in good order, sorted. -/
theorem names_sorted {t : Sto} {s : Dsk} {R n m : Nat} (h : Good t s R n m) (hd : t.died = false) : ((namesE (viewE s.B R) n).mergeSort fun x y => decide (x ≤ y)) = t.l.map (·.1.name) := by
  have hc := (h.clean hd).1
  have hr := hc.1.1
  have hs : (t.l.map (·.1.name)).Pairwise (· < ·) := by rw [List.pairwise_map]; exact hr
  have hmem : ∀ x, x ∈ namesE (viewE s.B R) n ↔ x ∈ t.l.map (·.1.name) := fun x => by
    unfold namesE
    rw [List.mem_filterMap, List.mem_map]
    constructor
    · rintro ⟨i, hi, hx⟩
      rcases clean_view hc (List.mem_range.1 hi) with ⟨q, hq, hv⟩ | ⟨_, hv⟩
      · rw [hv] at hx
        exact ⟨(q, i), hq, Option.some.inj hx⟩
      · rw [hv] at hx; cases hx
    · rintro ⟨y, hy, rfl⟩
      have := ((hc.1.2 y).1 hy)
      exact ⟨y.2, List.mem_range.2 this.1, by rw [view_in hc (r := y.1) (i := y.2) hy]; rfl⟩
  have hnd : (namesE (viewE s.B R) n).Pairwise (· ≠ ·) := by
    refine List.Pairwise.filterMap (R := fun a b : Nat => a ≠ b ∧ a < n ∧ b < n) _ (fun a a' hne x hx y hy e => ?_) ?_
    · subst e
      obtain ⟨hne, ha, ha'⟩ := hne
      rcases clean_view hc ha with ⟨q, hq, hv⟩ | ⟨_, hv⟩
      · rcases clean_view hc ha' with ⟨q', hq', hv'⟩ | ⟨_, hv'⟩
        · rw [hv] at hx
          rw [hv'] at hy
          have e1 := Option.some.inj hx
          have e2 := Option.some.inj hy
          have o1 := oldE_of hr hq
          have o2 := oldE_of hr hq'
          have e3 : q.name = q'.name := e1.trans e2.symm
          have o1' : oldE t.l q.name = some (q, a) := o1
          rw [e3] at o1'
          have o2' : oldE t.l q'.name = some (q', a') := o2
          rw [o2'] at o1'
          exact hne (congrArg Prod.snd (Option.some.inj o1')).symm
        · rw [hv'] at hy; cases hy
      · rw [hv] at hx; cases hx
    · refine List.Pairwise.imp_of_mem (R := (· ≠ ·)) (fun ha hb h => ⟨h, List.mem_range.1 ha, List.mem_range.1 hb⟩) List.nodup_range
  have hp := List.mergeSort_perm (namesE (viewE s.B R) n) fun x y => decide (x ≤ y)
  have h1 := List.pairwise_mergeSort (le := fun x y : Name => decide (x ≤ y)) name_le_trans name_total (namesE (viewE s.B R) n)
  have h2 : ((namesE (viewE s.B R) n).mergeSort fun x y => decide (x ≤ y)).Pairwise (· ≠ ·) := hp.nodup_iff.2 hnd
  refine strict_ext ?_ hs fun x => (hp.mem_iff).trans (hmem x)
  refine (h1.and h2).imp fun {a b} hab => ?_
  have hle := of_decide_eq_true hab.1
  exact Classical.byContradiction fun hn => hab.2 (Classical.byContradiction fun hne => List.not_lt.2 hle (name_tri hn hne))

/-- Names in memory. -/
def RdS (w : World) (B : Nat) (A : Option Addr) (ls : List Name) : Prop := ls = [] ∨ ∃ b off, A = some ⟨b, off, none⟩ ∧ b < B ∧ ∀ i (h : i < ls.length), w.cell? ⟨b, off + i, none⟩ = some (.string ⟨ls[i].toArray⟩)
theorem infoStr : (Tryd.prog.info? 9).map (fun i => (i.zero, i.size, i.bytes)) = some (some (.string ⟨#[]⟩), 1, 16) := by kernel_rfl
theorem RdS.of_own {w : World} {base : Nat} {e : TypeId} {A : Option Addr} {n c : Nat} {ls : List Name} (h : w.ownsRow base e 1 (.slice A n c) n (ls.map encStr)) : RdS w w.heap.size A ls := by
  cases ls with
  | nil => exact .inl rfl
  | cons x l =>
    right
    have hl := h.1
    have hpos : 0 < n := by simp at hl; omega
    rcases h.2 with ⟨_, h0⟩ | ⟨g, cap, cur, hv, _, hb, hc, _, hs, ht⟩
    · omega
    · injection hv with e1 e2 e3
      subst e1
      refine ⟨g, 0, rfl, (Array.getElem?_eq_some_iff.1 hb).1, fun i hi => ?_⟩
      have h1 : (cur.toList.take (n * 1))[i]? = ((x :: l).map encStr)[i]? := by rw [ht]
      have hin : i < n * 1 := by rw [List.length_map] at hl; omega
      rw [List.getElem?_take_of_lt hin, List.getElem?_map, List.getElem?_eq_getElem hi] at h1
      have hb' : Blk w g cur e := hb
      rw [Nat.zero_add, hb'.cell, ← Array.getElem?_toList, h1]
      rfl
def NamesPost (w : World) (ls : List Name) (e : Ending) (w' : World) : Prop := ∃ A c, e = .returned (.slice A ls.length c) ∧ ls.length ≤ c ∧ RdS w' w'.heap.size A ls ∧ Below w.heap.size w w'
theorem names_dead {w : World} {q p g b c : Nat} {s : Dsk} {R n : Nat} {E : Nat → Ent} (h : SP w q p g b c s R n E true) :
    Calls Tryd.prog 16 #[.pointer (some ⟨q, 0, none⟩)] w (NamesPost w []) := by
  obtain ⟨c0, c1, c2, c3⟩ := h.cells
  have c2' : w.cell? ⟨q, 2, none⟩ = some (.slice none 0 0) := c2
  clear h c2
  go_enter Tryd.func16, Tryd.ntmps16
  go_wp2
  go_loopw [3, 11] (fun v i wr => i = .int .i64 0 ∧ v = .slice none 0 0 ∧ w = wr) (fun _ _ _ => 0)
  case atStart => exact ⟨rfl, rfl, rfl⟩
  case round =>
    obtain ⟨rfl, rfl, rfl⟩ := hrel
    go_wp2_with fail
    with_reducible refine (Tryd.slices_Sort_string_none none 0 w).mono ?_
    rintro e w' ⟨rfl, rfl⟩
    go_wp2_with fail
    go_ret
    exact ⟨none, 0, rfl, Nat.le_refl _, .inl rfl, Below.refl _ _⟩
set_option maxHeartbeats 2000000 in
theorem names_live {w : World} {q p g b c : Nat} {s : Dsk} {R n : Nat} {E : Nat → Ent} (h : SP w q p g b c s R n E false) (hN : ∀ i x, i < n → E i = some x → x.1.length ≤ 1000000) :
    Calls Tryd.prog 16 #[.pointer (some ⟨q, 0, none⟩)] w (NamesPost w ((namesE E n).mergeSort fun x y => decide (x ≤ y))) := by
  obtain ⟨i0, hi0, hz0, hz1, hz2⟩ : ∃ i, Tryd.prog.info? 9 = some i ∧ i.zero = some (.string ⟨#[]⟩) ∧ i.size = 1 ∧ i.bytes = 16 := by
    have h := infoStr
    cases hi : Tryd.prog.info? 9 with
    | none => rw [hi] at h; simp at h
    | some i => rw [hi] at h; simp only [Option.map_some, Option.some.injEq, Prod.mk.injEq] at h; exact ⟨i, rfl, h⟩
  have H := Lib.hid h
  have HN := Lib.hid hN
  have hsz := h.size
  obtain ⟨c0, c1, c2, c3⟩ := h.cells
  have c2' : w.cell? ⟨q, 2, none⟩ = some (.slice (some ⟨b, 0, none⟩) n n) := c2
  clear h c2 hN
  go_enter Tryd.func16, Tryd.ntmps16
  go_wp2
  go_loopw [3, 11] (fun v i wr => ∃ k z : Nat, k ≤ n ∧ z ≤ k ∧ i = .int .i64 k ∧ Hid ((namesE E k).length = z) ∧ Hid (wr.ownsRow w.heap.size 9 1 v z ((namesE E k).map encStr)) ∧ Below w.heap.size w wr) (fun _ i _ => n - (intOf i).toNat)
  case atStart => exact ⟨0, 0, Nat.zero_le _, Nat.le_refl _, rfl, Lib.hid rfl, Lib.hid (World.ownsRow_nil _ _ _ _), Below.refl _ _⟩
  case round =>
    obtain ⟨k, z, hk, hz, rfl, HZ, HO, hbel⟩ := hrel
    by_cases hlt : k < n
    · have hki : (k : Int) < (n : Int) := by omega
      have hS := H.out.below hbel
      have e0 := hS.cell0 hlt
      have e1 := hS.cellE hlt (j := 1) (by omega)
      have e2 := hS.cellE hlt (j := 2) (by omega)
      cases hv : E k with
      | none =>
        rw [hv] at e0 e1 e2
        have e0' : wr.cell? ⟨b, k * 3, none⟩ = some (.bool false) := e0
        have e1' : wr.cell? ⟨b, k * 3 + 1, none⟩ = some (.string ⟨#[]⟩) := e1
        have e2' : wr.cell? ⟨b, k * 3 + 2, none⟩ = some (.int .i64 0) := e2
        clear e0 e1 e2 hS
        have hne := namesE_none hv
        have hb2 : Below wr.heap.size wr (wr.alloc (.cells #[.bool false, .string ⟨#[]⟩, .int .i64 0] 80)) := (Below.refl _ _).alloc (Nat.le_refl _) _
        have HO2 := Lib.hid (own_keep HO.out hb2)
        rw [← hne] at HO2 HZ
        clear hne
        go_wp2_with fail
        go_roundw
        case rel => exact ⟨k + 1, z, by omega, by omega, by go_num, HZ, HO2, Below.then hbel hb2⟩
        case measure => simp [intOf]; omega
      | some x =>
        rw [hv] at e0 e1 e2
        have e0' : wr.cell? ⟨b, k * 3, none⟩ = some (.bool true) := e0
        have e1' : wr.cell? ⟨b, k * 3 + 1, none⟩ = some (.string ⟨x.1.toArray⟩) := e1
        have e2' : wr.cell? ⟨b, k * 3 + 2, none⟩ = some (.int .i64 (x.2 : Int)) := e2
        clear e0 e1 e2 hS
        have hxl := HN.out k x hlt hv
        have HNE := Lib.hid (namesE_some hv)
        have hb2 : Below wr.heap.size wr (wr.alloc (.cells #[.bool true, .string ⟨x.1.toArray⟩, .int .i64 (x.2 : Int)] 80)) := (Below.refl _ _).alloc (Nat.le_refl _) _
        have HO2 := Lib.hid (own_keep HO.out hb2)
        have hbel2 := Below.then hbel hb2
        have HCL := Lib.hid (fun (W : World) => strClone_any ⟨x.1.toArray⟩ W (by show x.1.toArray.size ≤ _; simp; omega))
        go_wp2_with fail
        with_reducible refine (HCL.out _).mono ?_
        rintro e w3 ⟨rfl, hb3⟩
        have HO3 := Lib.hid (own_keep HO2.out hb3)
        have hbel3 := Below.then hbel2 hb3
        have hb4 : Below w3.heap.size w3 (w3.alloc (.cells #[.string ⟨x.1.toArray⟩] 9)) := (Below.refl _ _).alloc (Nat.le_refl _) _
        have HO4 := Lib.hid (own_keep HO3.out hb4)
        have hbel4 := Below.then hbel3 hb4
        have hle4 := hbel4.size
        have hlim : (z + 1) * 16 ≤ 140737488355328 := by omega
        have hml : z + 1 ≤ maxLen := by unfold maxLen; omega
        clear hb2 hbel2 HO2 hb3 HO3 hbel3 hb4 HO hbel
        go_wp2_with (at_builtin; refine wpList_append_own (P := Tryd.prog) _ rfl (.tmp 17) (.tmp 21) 38 rfl w.heap.size 9 i0 (.string ⟨#[]⟩) 1 16 Tryd.underlying38 hi0 hz0 hz1 hz2 rfl (by omega) _ z _ rfl HO4.out ⟨w3.heap.size, 0, none⟩ 1 1 [.string ⟨x.1.toArray⟩] rfl rfl (cell_one_new _ _ _) (by simp [Value.oneCell']) hml hlim hle4 ?_)
        intro v5 w5 ho5 hg5 _
        have hbel5 : Below w.heap.size w w5 := hbel4.grown hg5 hbel4.size (fun k hk => (HO4.out.lt k hk).1)
        have HO5 := Lib.hid (show w5.ownsRow w.heap.size 9 1 v5 (z + 1) ((namesE E (k + 1)).map encStr) by rw [HNE.out, List.map_append]; exact ho5)
        have HZ5 := Lib.hid (show (namesE E (k + 1)).length = z + 1 by rw [HNE.out, List.length_append, HZ.out]; rfl)
        clear ho5 hg5 hbel4 HO4
        go_wp2_with fail
        go_roundw
        case rel => exact ⟨k + 1, z + 1, by omega, by omega, by go_num, HZ5, HO5, hbel5⟩
        case measure => simp [intOf]; omega
    · have hge : ¬ (k : Int) < (n : Int) := by omega
      obtain rfl : k = n := by omega
      have hml := List.length_mergeSort (le := fun x y : Name => decide (x ≤ y)) (namesE E k)
      rcases HO.out.2 with ⟨rfl, h0⟩ | ⟨g0, cap, cur, rfl, hg0, hb0, hc0, hm0, hs0, ht0⟩
      · subst h0
        have hnil : namesE E k = [] := List.length_eq_zero_iff.1 HZ.out
        have HNIL := Lib.hid hnil
        clear hml hnil
        go_wp2_with fail
        with_reducible refine (Tryd.slices_Sort_string_none none 0 wr).mono ?_
        rintro e w' ⟨rfl, rfl⟩
        go_wp2_with fail
        go_ret
        rw [HNIL.out, List.mergeSort_nil]
        exact ⟨none, 0, rfl, Nat.le_refl _, .inl rfl, hbel⟩
      · have ht1 : cur.toList.take (namesE E k).length = (namesE E k).map encStr := by rw [HZ.out]; rw [Nat.mul_one] at ht0; exact ht0
        have HC := Lib.hid (Tryd.slices_Sort_string g0 0 cap (namesE E k) wr (holds_of_block hb0 ht1) (Array.getElem?_eq_some_iff.1 hb0).1 (by rw [HZ.out]; omega))
        rw [HZ.out] at HC
        have HW := Lib.hid (fun (n' : Nat) (os : Array Obj) => ownsRow_sorted (w := wr) (base := w.heap.size) (g := g0) (cap := cap) (n := n') (e := 9) (os := os) (cur := cur) (ss := namesE E k) (ts := (namesE E k).mergeSort fun x y => decide (x ≤ y)) hml hg0 hb0 (by rw [HZ.out]; exact hc0) hm0 hs0)
        have HG := Lib.hid (fun (n' : Nat) (os : Array Obj) => grownBy_sorted (w := wr) (g := g0) (n := n') (os := os) ((namesE E k).mergeSort fun x y => decide (x ≤ y)).toArray)
        have HML := Lib.hid (show ((namesE E k).mergeSort fun x y => decide (x ≤ y)).length = z by rw [hml, HZ.out])
        obtain ⟨srt, hsrt⟩ : ∃ srt, ((namesE E k).mergeSort fun x y => decide (x ≤ y)) = srt := ⟨_, rfl⟩
        rw [hsrt] at HC HW HG HML
        have HSRT := Lib.hid hsrt
        clear hsrt hml ht0 ht1 hb0
        go_wp2_with fail
        with_reducible refine HC.out.mono ?_
        rintro e w' ⟨rfl, n', os, rfl⟩
        have ho := HW.out n' os
        rw [HZ.out] at ho
        have hb' := hbel.grown (HG.out n' os) hbel.size (fun k hk => by cases hk; exact hg0)
        have HO' := Lib.hid ho
        have HB' := Lib.hid hb'
        generalize grow (putRow encStr (Sort.ahead wr n') g0 0 srt.toArray) os = w6 at *
        clear ho hb' hbel HC HW HG
        go_wp2_with fail
        go_ret
        rw [HSRT.out]
        exact ⟨_, cap, by rw [HML.out]; rfl, by rw [HML.out]; exact hc0, RdS.of_own HO'.out, HB'.out⟩
theorem psnames_any {w : World} {q p g b c : Nat} {s : Dsk} {R n m : Nat} {t : Sto} (h : ST w q p g b c s R n m t) :
    Calls Tryd.prog 16 #[.pointer (some ⟨q, 0, none⟩)] w (NamesPost w t.names) := by
  unfold Sto.names
  have hs := h.sp
  cases hd : t.died with
  | true =>
    rw [if_pos rfl]
    rw [hd] at hs
    exact names_dead hs
  | false =>
    rw [if_neg (by simp), ← names_sorted h.good hd]
    rw [hd] at hs
    refine names_live hs fun i x hi hx => ?_
    have hg := hs.geo
    unfold viewE at hx
    cases hv : slotB s.B R i with
    | none => rw [hv] at hx; cases hx
    | some r =>
      rw [hv] at hx
      have e := Option.some.inj hx
      rw [← e]
      have := (slot_name hg hi hv).1
      have := hs.size
      show r.name.length ≤ _
      omega
end Go.Proofs.YtffllpjlghehiaaDoor
