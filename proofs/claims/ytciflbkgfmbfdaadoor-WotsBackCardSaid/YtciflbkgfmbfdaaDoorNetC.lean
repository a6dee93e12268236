/- Digits of the document are the number's decimal digits. append onto the bytes of a string: the row that a conversion lays bears a mark behind its last cell, which no append meets. Net of the document writes what the program's writes. Nets of the program writes all rows, one behind the other. -/
import Derived.Test.YtciflbkgfmbfdaaDoorAppend
import Derived.Test.YtciflbkgfmbfdaaDoorNet
import Derived.Deep.RegionWith
import Derived.Lib.ConvBytes
import Derived.Lib.FrozenHead2
import Derived.Test.YtciflbkgfmbfdaaDoorRowsMem
namespace Go.Proofs.YtciflbkgfmbfdaaDoor
open Go.RowKit

theorem dig_small {u : Nat} (h : u < 10) : Lib.decDigits u = [UInt8.ofNat (48 + u)] := by rw [Lib.decDigits, dif_pos h]
theorem dig_big {u : Nat} (h : ¬ u < 10) : Lib.decDigits u = Lib.decDigits (u / 10) ++ [UInt8.ofNat (48 + u % 10)] := by rw [Lib.decDigits, dif_neg h]
theorem dig_byte {d : Nat} (h : d < 10) : (48 + (d : Int)) = ((UInt8.ofNat (48 + d)).toNat : Int) := by
  rw [UInt8.toNat_ofNat', Nat.mod_eq_of_lt (by omega)]; omega

theorem bcell {W w1 : World} (hb : Below W.heap.size W w1) : ∀ b o, b < W.heap.size → w1.cell? ⟨b, o, none⟩ = W.cell? ⟨b, o, none⟩ :=
  fun b o h => hb.cell (p := ⟨b, o, none⟩) h

/-- One digit's byte as a string, wherever it lies. -/
theorem run_digit {d : Nat} (h : d < 10) (W : World) (g : Nat) (hc : W.cell? ⟨g, 0, none⟩ = some (.int .u8 (48 + (d : Int)))) :
    (convert 24 9 (.slice (some ⟨g, 0, none⟩) 1 1)).run Tryd.prog W = .ok (.string ⟨[UInt8.ofNat (48 + d)].toArray⟩) W := by
  refine run_string_rd (P := Tryd.prog) 24 9 5 Tryd.underlying24 Tryd.underlying5 Tryd.underlying9 (g + 1) _ 1 1 [UInt8.ofNat (48 + d)] rfl (.inr ⟨g, 0, rfl, by omega, fun i hi => ?_⟩)
  obtain rfl : i = 0 := by simpa using hi
  rw [hc, dig_byte h]
  rfl

set_option maxHeartbeats 200000 in
theorem digits_any (k : Nat) : ∀ (u : Nat) (w : World), u < k → u ≤ 1000000000 →
    Calls Tryd.prog 55 #[.int .i64 (u : Int)] w fun e w' => e = .returned (.string ⟨(Lib.decDigits u).toArray⟩) ∧ Below w.heap.size w w' := by
  induction k with
  | zero =>
    intro u w hk hu
    omega
  | succ k ih =>
    intro u w hk hu
    by_cases h10 : u < 10
    · have hcv := run_digit h10
      rw [dig_small h10]
      generalize UInt8.ofNat (48 + u) = y at hcv ⊢
      have HS : Below w.heap.size w (w.alloc (.cells #[.int .u8 (48 + (u : Int))] 5)) := (Below.refl _ _).alloc (Nat.le_refl _) _
      go_enter Tryd.func55, Tryd.ntmps55
      go_wp2_with fail
      go_ret
      exact ⟨rfl, HS⟩
    · have hd : u % 10 < 10 := Nat.mod_lt _ (by omega)
      have hcv := run_digit hd
      have ec : ((u % 10 : Nat) : Int) = (u : Int) % 10 := by omega
      rw [ec] at hcv
      have hlen : (Lib.decDigits (u / 10)).length ≤ 20 := decDigits_len _ (by simp; omega)
      have ih1 := fun W => ih (u / 10) W (by omega) (by omega)
      have eq : ((u / 10 : Nat) : Int) = (u : Int) / 10 := by omega
      rw [eq] at ih1
      rw [dig_big h10]
      generalize Lib.decDigits (u / 10) = D at *
      generalize UInt8.ofNat (48 + u % 10) = y at *
      have IH := Lib.hid ih1
      clear ih ih1 eq ec
      go_enter Tryd.func55, Tryd.ntmps55
      go_wp2_with fail
      have hw0 : (u : Int).tmod 10 = (u : Int) % 10 := Int.tmod_eq_emod_of_nonneg (by omega)
      have hw1 : IntKind.i64.wrap ((u : Int) / 10) = (u : Int) / 10 := by rw [IntKind.wrap_i64]; omega
      have hw2 : IntKind.i64.wrap (48 + (u : Int) % 10) = 48 + (u : Int) % 10 := by rw [IntKind.wrap_i64]; omega
      have hw3 : IntKind.u8.wrap (48 + (u : Int) % 10) = 48 + (u : Int) % 10 := by simp only [IntKind.wrap, IntKind.bits, IntKind.signed]; simp; omega
      clear h10 hk hd hu
      go_region_with (go_at_call 55; refine (IH.out _).mono ?_; rintro e w1 ⟨rfl, hb1⟩; have hc1 := bcell hb1)
      all_goals
        clear hcv hc1 hw0 hw1 hw2 hw3
        have hcat : (⟨D.toArray⟩ : ByteArray) ++ ⟨#[y]⟩ = ⟨(D ++ [y]).toArray⟩ := by rw [ByteArray.mk_append_mk]
        go_wp2
        go_ret
        refine ⟨?_, ?_⟩
        · rw [← hcat]; rfl
        · first
            | exact (((Below.refl _ _).drew).trans (hb1.mono (Nat.le_refl _))).alloc (((Below.refl w.heap.size w).drew.trans (hb1.mono (Nat.le_refl _))).size) _
            | exact (((Below.refl _ _).alloc (Nat.le_refl _) _).drew).trans (hb1.mono (by simp))
end Go.Proofs.YtciflbkgfmbfdaaDoor
namespace Go.Proofs.YtciflbkgfmbfdaaDoor
open Go.RowKit

/-- The slice value v owns the bytes l; what is frozen of its row stands behind its cells. -/
def OwnM (w : World) (base : Nat) (e : TypeId) (v : Value) (n : Nat) (l : List UInt8) : Prop :=
  l.length = n ∧ ∃ g cap cur fz, v = .slice (some ⟨g, 0, none⟩) n cap ∧ base ≤ g ∧ w.heap[g]? = some (.cells cur e fz) ∧ (fz.2 = 0 ∨ cap ≤ fz.1) ∧ n ≤ cap ∧ cap ≤ maxLen ∧ cur.size = cap ∧ cur.toList.take n = Lib.byteCells l

theorem run_storeCells_M (P : Program) (g o : Nat) (t : TypeId) (fz : Nat × Nat) : ∀ (vs : List Value) (i : Nat) (cur : Array Value) (w : World), w.heap[g]? = some (.cells cur t fz) → (fz.2 = 0 ∨ cur.size ≤ fz.1) → o + i + vs.length ≤ cur.size → (∀ v ∈ vs, v.oneCell' = true) →
    (storeCells ⟨g, o, none⟩ vs i).run P w = .ok () (w.setRow g (cur.toList.take (o + i) ++ vs ++ cur.toList.drop (o + i + vs.length)).toArray)
  | [], i, cur, w, hg, _, _, _ => by
    simp only [storeCells, List.append_nil, List.length_nil, Nat.add_zero, List.take_append_drop, Array.toArray_toList]
    rw [setRow_self w g cur t fz hg]
    rfl
  | v :: rest, i, cur, w, hg, hfz, hl, h1 => by
    have hi : o + i < cur.size := by simp at hl; omega
    have hadd : (⟨g, o, none⟩ : Addr).add i = ⟨g, o + i, none⟩ := by unfold Addr.add; split <;> simp_all
    have hcell : w.cell? ⟨g, o + i, none⟩ = some cur[o + i] := by simp [World.cell?, hg, hi]
    have hfro : w.frozen? ⟨g, o + i, none⟩ = false := by
      obtain ⟨lo, hi'⟩ := fz
      simp only [World.frozen?, hg, Bool.and_eq_false_iff, decide_eq_false_iff_not]
      simp only at hfz
      omega
    have hst : (store ((⟨g, o, none⟩ : Addr).add i) v).run P w = .ok () (w.setRow g (cur.setIfInBounds (o + i) v)) := by
      rw [hadd, run_store P w _ v _ (h1 v (by simp)), hcell]
      simp [hfro, setCell_eq_setRow w g (o + i) cur t fz v hg]
    have ih := run_storeCells_M P g o t fz rest (i + 1) (cur.setIfInBounds (o + i) v) (w.setRow g (cur.setIfInBounds (o + i) v)) (setRow_heap w g cur _ t _ hg) (by simpa using hfz) (by simp at hl ⊢; omega) (fun x hx => h1 x (by simp [hx]))
    simp only [storeCells, Sem.run_bind, hst, Result.andThen_ok, ih, setRow_setRow]
    congr 3
    have e := list_seg_step cur.toList (o + i) v rest (by simp at hl ⊢; omega)
    simpa [Array.toList_setIfInBounds, Nat.add_assoc] using e

section
variable {P : Program} {w : World}

theorem OwnM.rd {base : Nat} {e : TypeId} {A : Option Addr} {n c : Nat} {l : List UInt8} (h : OwnM w base e (.slice A n c) n l) : Rd w w.heap.size A l := by
  obtain ⟨hl, g, cap, cur, fz, hv, _, hg, _, hnc, _, hcs, htake⟩ := h
  have hA : A = some ⟨g, 0, none⟩ := by injection hv
  subst hA
  have hlt : g < w.heap.size := (Array.getElem?_eq_some_iff.1 hg).1
  refine .inr ⟨g, 0, rfl, hlt, fun i hi => ?_⟩
  rw [Nat.zero_add, cell_of_row w g i cur e fz hg]
  have h2 : (cur.toList.take n)[i]? = some (.int .u8 (l[i].toNat : Int)) := by
    rw [htake]; unfold Lib.byteCells; rw [List.getElem?_map, List.getElem?_eq_getElem hi]; rfl
  rw [List.getElem?_take, if_pos (by omega)] at h2
  simpa using h2

theorem OwnM.alloc {base : Nat} {e : TypeId} {v : Value} {n : Nat} {l : List UInt8} (h : OwnM w base e v n l) (o : Obj) : OwnM (w.alloc o) base e v n l := by
  obtain ⟨hl, g, cap, cur, fz, hv, hb, hg, rest⟩ := h
  exact ⟨hl, g, cap, cur, fz, hv, hb, (Below.heap_alloc w o g (Array.getElem?_eq_some_iff.1 hg).1).trans hg, rest⟩

theorem OwnM.lt {base : Nat} {e : TypeId} {v : Value} {n : Nat} {l : List UInt8} (h : OwnM w base e v n l) : ∀ k, v.ownBlock = some k → base ≤ k := by
  obtain ⟨_, g, cap, cur, fz, rfl, hb, _⟩ := h
  intro k hk
  simp [Value.ownBlock] at hk
  omega

/-- A string's bytes as a new row. -/
theorem run_bytes_M (src dst e : TypeId) (l : List UInt8) (hlen : l.length ≤ 1000000) {u : TypeDesc} (hs : P.underlying src = some u) (hd : P.underlying dst = some (.slice e)) (he : P.underlying e = some (.int .u8)) :
    ∃ v w', (convert src dst (.string ⟨l.toArray⟩)).run P w = .ok v w' ∧ OwnM w' w.heap.size e v l.length l ∧ Below w.heap.size w w' := by
  have hsz : (⟨l.toArray⟩ : ByteArray).size = l.length := rfl
  have hcap := grownCap_ge w l.length 0 e
  have hcm : grownCap w l.length 0 e ≤ maxLen := grownCap_le_maxLen w _ 0 e (by unfold maxLen; omega)
  have hrun := Lib.run_convert_string_bytes (P := P) w src dst e ⟨l.toArray⟩ hs hd he
  rw [hsz] at hrun
  have hcs : (Lib.bytesCells w e ⟨l.toArray⟩).size = grownCap w l.length 0 e := by unfold Lib.bytesCells; simp [hsz]; omega
  refine ⟨_, _, hrun, ⟨rfl, w.heap.size, _, _, _, rfl, Nat.le_refl _, Lib.bytesWorld_at_new w e _, .inr ?_, hcap, hcm, hcs, ?_⟩, ⟨rfl, rfl, rfl, by rw [Lib.bytesWorld_size]; omega, fun k hk => Lib.bytesWorld_at_old w e _ k hk⟩⟩
  · simp only [hcs]; exact Nat.le_refl _
  · unfold Lib.bytesCells Lib.byteCells
    simp

theorem run_append_M (base : Nat) (t ty e : TypeId) (i : TypeInfo) (ht : P.underlying t = some (.slice e)) (hi : P.info? e = some i) (hz : i.zero = some (.int .u8 0)) (hsize : i.size = 1) (hby : i.bytes = 1)
    (v : Value) (n : Nat) (xl : List UInt8) (hown : OwnM w base e v n xl) (C : Nat) (A : Option Addr) (m c : Nat) (l : List UInt8) (hl : l.length = m) (hr : Rd w C A l)
    (hlim : n + m ≤ 140737488355328) (hbase : base ≤ w.heap.size) :
    ∃ v' w', (Builtin.append_ #[t, t] ty #[v, .slice A m c]).run P w = .ok v' w' ∧ OwnM w' base e v' (n + m) (xl ++ l) ∧ w.grownBy w' v.ownBlock := by
  obtain ⟨hxl, g, cap, cur, fz, rfl, hb, hg, hfz, hnc, hcm, hcs, htake⟩ := hown
  rcases A with _ | ad
  · have h0 : l = [] := by
      rcases hr with rfl | ⟨b, off, e, _⟩
      · rfl
      · cases e
    subst h0
    obtain rfl : m = 0 := by simpa using hl.symm
    refine ⟨_, w, ?_, ⟨by simpa using hxl, g, cap, cur, fz, rfl, hb, hg, hfz, hnc, hcm, hcs, by simpa using htake⟩, World.grownBy.refl w _⟩
    simp [Builtin.append_, run_underlying ht, sizeOf, typeInfo, hi, Builtin.lenOf, Builtin.firstCells, hnc, storeCells]
  · have hnl : (Lib.byteCells l).length = m * i.size := by rw [Lib.byteCells_length, hl, hsize, Nat.mul_one]
    by_cases hroom : n + m ≤ cap
    · have hf := run_firstCells_some (P := P) w i.size m ad m c (Lib.byteCells l) hnl hr.cells
      have hst := run_storeCells_M P g n e fz (Lib.byteCells l) 0 cur w hg (by rw [hcs]; exact hfz) (by rw [Lib.byteCells_length, hl, hcs]; omega) (Lib.byteCells_one l)
      simp only [Nat.add_zero] at hst
      refine ⟨.slice (some ⟨g, 0, none⟩) (n + m) cap, w.setRow g (cur.toList.take n ++ Lib.byteCells l ++ cur.toList.drop (n + (Lib.byteCells l).length)).toArray, ?_, ⟨by simp [hxl, hl], g, cap, _, fz, rfl, hb, setRow_heap w g cur _ e _ hg, hfz, hroom, hcm, ?_, ?_⟩, ⟨rfl, rfl, rfl, by simp, fun k _ hk => setRow_other w g k _ (fun e => hk (by simp [Value.ownBlock, e]))⟩⟩
      · simp [Builtin.append_, run_underlying ht, sizeOf, typeInfo, hi, hsize, Builtin.lenOf, hroom, Addr.add_lit]
        rw [hsize] at hf
        simp [hf, hst]
      · simp only [List.size_toArray, List.length_append, List.length_take, List.length_drop, Array.length_toList, Lib.byteCells_length, hl, hcs]
        omega
      · rw [htake, ← Lib.byteCells_append]
        have : (Lib.byteCells (xl ++ l)).length = n + m := by rw [Lib.byteCells_length, List.length_append, hxl, hl]
        rw [← this]
        exact List.take_left
    · have holds : ∀ j u, (Lib.byteCells xl)[j]? = some u → w.cell? ((⟨g, 0, none⟩ : Addr).add j) = some u := by
        have hrd : OwnM w base e (.slice (some ⟨g, 0, none⟩) n cap) n xl := ⟨hxl, g, cap, cur, fz, rfl, hb, hg, hfz, hnc, hcm, hcs, htake⟩
        exact Rd.cells hrd.rd
      have hgr := run_append_grow (P := P) w t ty e i (.int .u8 0) ht hi hz ⟨g, 0, none⟩ n cap (Lib.byteCells xl) (by rw [Lib.byteCells_length, hxl, hsize, Nat.mul_one]) holds ad m c (Lib.byteCells l) hnl hr.cells (by omega) (by omega) (growslice_fits (by omega) (by rw [hby]; omega))
      have hge := grownCap_ge w (n + m) cap e
      have hcm2 : grownCap w (n + m) cap e ≤ maxLen := grownCap_le_maxLen w (n + m) cap e (by unfold maxLen; omega)
      refine ⟨_, _, hgr, ⟨by simp [hxl, hl], w.heap.size, _, _, (0, 0), rfl, hbase, heap_alloc_new w.drew _, .inl rfl, hge, hcm2, ?_, ?_⟩, ⟨rfl, rfl, rfl, by simp, fun k hk _ => Below.heap_alloc w.drew _ k hk⟩⟩
      · have hzc : (Value.int IntKind.u8 0).cells.size = 1 := rfl
        simp only [Array.size_append, List.size_toArray, size_zeroCells, hzc, Lib.byteCells_length, hxl, hl, Nat.mul_one]
        omega
      · simp only [Array.toList_append, List.append_assoc]
        rw [← List.append_assoc, ← Lib.byteCells_append]
        have : (Lib.byteCells (xl ++ l)).length = n + m := by rw [Lib.byteCells_length, List.length_append, hxl, hl]
        rw [← this]
        exact List.take_left

theorem wpList_append_M {ops : Array Oper} {rest : List Oper} {o : Oper} {a : Act} {Q : Exit → Act → World → Prop} (hgd : o.guard = none) (s x : Operand) (t : TypeId)
    (ho : o.op = .call { callee := .builtin .append, args := #[s, x], argTypes := #[t, t] })
    (base : Nat) (e : TypeId) (i : TypeInfo) (ht : P.underlying t = some (.slice e)) (hi : P.info? e = some i) (hz : i.zero = some (.int .u8 0)) (hsize : i.size = 1) (hby : i.bytes = 1)
    (v : Value) (n : Nat) (xl : List UInt8) (hs : a.eval s = v) (hown : OwnM w base e v n xl) (C : Nat) (A : Option Addr) (m c : Nat) (l : List UInt8) (hx : a.eval x = .slice A m c) (hl : l.length = m) (hr : Rd w C A l)
    (hlim : n + m ≤ 140737488355328) (hbase : base ≤ w.heap.size)
    (h : ∀ v' w', OwnM w' base e v' (n + m) (xl ++ l) → w.grownBy w' v.ownBlock → wpList P ops Q rest (a.put o.dst v') w') : wpList P ops Q (o :: rest) a w := by
  refine wpList_plain hgd fun K hK => ?_
  obtain ⟨v', w', hrun, h2, h3⟩ := run_append_M (P := P) base t o.type e i ht hi hz hsize hby v n xl hown C A m c l hl hr hlim hbase
  unfold Oper.wp execOp
  simp only [ho, resolve, invoke, builtin, Sem.run_bind, Sem.run_pure, Result.andThen_ok, List.map_toArray, List.map_cons, List.map_nil, hs, hx, hrun]
  exact hK _ _ (h v' w' h2 h3)
end
end Go.Proofs.YtciflbkgfmbfdaaDoor
namespace Go.Proofs.YtciflbkgfmbfdaaDoor
open Go.RowKit

set_option maxHeartbeats 1000000 in
theorem rnet_any (m c : Nat) (A : Option Addr) (l : List UInt8) (w : World) (hl : l.length = m) (h1 : m ≤ 1000000) (hb : Rd w w.heap.size A l) :
    Calls Tryd.prog 49 #[.slice A m c] w fun e w' => ∃ A' c', e = .returned (.slice A' (netL l).length c') ∧ (netL l).length ≤ c' ∧ Rd w' w'.heap.size A' (netL l) ∧ Below w.heap.size w w' := by
  obtain ⟨i0, hi, hz0, hz1, hz2⟩ := info_parts info5
  have HL := Lib.hid hl
  have hdl := decDigits_len m (by simp; omega)
  have hit : Lib.itoa (m : Int) = Lib.decDigits m := by unfold Lib.itoa; rw [if_neg (by omega)]; simp
  have hnet : netL l = Lib.decDigits m ++ [58] ++ l ++ [44] := by unfold netL; rw [hl, hit]
  obtain ⟨out, ho⟩ : ∃ x, netL l = x := ⟨_, rfl⟩
  rw [ho] at hnet ⊢
  obtain ⟨ds, hds⟩ : ∃ x, Lib.decDigits m = x := ⟨_, rfl⟩
  have HD := Lib.hid hds
  rw [hds] at hdl hnet
  have HNET := Lib.hid hnet
  clear hl hit hnet hds ho
  go_enter Tryd.func49, Tryd.ntmps49
  go_wp2_with fail
  refine (digits_any (m + 1) m _ (by omega) (by omega)).mono ?_
  rintro e w1 ⟨rfl, hb1⟩
  rw [HD.out]
  obtain ⟨v2, w2, hcv, hown2, hb2⟩ := run_bytes_M (P := Tryd.prog) (w := w1) 9 24 5 ds (by omega) Tryd.underlying9 Tryd.underlying24 Tryd.underlying5
  have hbel2 := Below.then hb1 hb2
  have hs1 := hb1.size
  have hs2 := hb2.size
  have HO2 := Lib.hid hown2
  clear hown2 hb2
  go_wp2_with (at_builtin; refine wpList_append_M rfl _ _ 24 rfl w1.heap.size 5 i0 Tryd.underlying24 hi hz0 hz1 hz2 _ _ ds rfl (HO2.out.alloc _) _ _ 1 1 [58] rfl rfl (Rd.one w2 5 58 58 rfl) (by omega) (by simp; omega) ?_)
  intro v3 w3 hown3 hg3
  have hbel3 : Below w.heap.size w w3 := (hbel2.alloc hbel2.size _).grown hg3 (by have := hbel2.size; simp; omega) (fun k hk => Nat.le_trans hs1 (HO2.out.lt k hk))
  have hs3 : w1.heap.size ≤ w3.heap.size := by have := hg3.size; simp at this; omega
  have HO3 := Lib.hid hown3
  clear hown3 hg3 hcv
  go_wp2_with (at_builtin; refine wpList_append_M rfl _ _ 24 rfl w1.heap.size 5 i0 Tryd.underlying24 hi hz0 hz1 hz2 _ _ _ rfl HO3.out _ A m c l rfl HL.out (hb.on hbel3) (by omega) hs3 ?_)
  intro v4 w4 hown4 hg4
  have hbel4 : Below w.heap.size w w4 := hbel3.grown hg4 hbel3.size (fun k hk => Nat.le_trans hs1 (HO3.out.lt k hk))
  have hs4 : w1.heap.size ≤ w4.heap.size := Nat.le_trans hs3 hg4.size
  have HO4 := Lib.hid hown4
  clear hown4 hg4
  go_wp2_with (at_builtin; refine wpList_append_M rfl _ _ 24 rfl w1.heap.size 5 i0 Tryd.underlying24 hi hz0 hz1 hz2 _ _ _ rfl (HO4.out.alloc _) _ _ 1 1 [44] rfl rfl (Rd.one w4 5 44 44 rfl) (by omega) (by simp; omega) ?_)
  intro v5 w5 hown5 hg5
  have hbel5 : Below w.heap.size w w5 := (hbel4.alloc hbel4.size _).grown hg5 (by have := hbel4.size; simp; omega) (fun k hk => Nat.le_trans hs1 (HO4.out.lt k hk))
  have key : ∀ (n' : Nat) (xl : List UInt8), OwnM w5 w1.heap.size 5 v5 n' xl → xl = out → ∃ A' c', v5 = .slice A' out.length c' ∧ out.length ≤ c' ∧ Rd w5 w5.heap.size A' out := by
    rintro n' xl h rfl
    have hl := h.1
    subst hl
    have h' := h
    obtain ⟨_, g, cap, cur, fz, rfl, _, _, _, hnc, _⟩ := h'
    exact ⟨_, cap, rfl, hnc, h.rd⟩
  obtain ⟨A', c', rfl, hc', hr'⟩ := key _ _ hown5 (by rw [HNET.out]; simp)
  have HR := Lib.hid hr'
  have HC := Lib.hid hc'
  clear hown5 hg5 key hr' hc'
  go_wp2_with fail
  go_ret
  exact ⟨A', c', rfl, HC.out, HR.out, hbel5⟩
end Go.Proofs.YtciflbkgfmbfdaaDoor
namespace Go.Proofs.YtciflbkgfmbfdaaDoor
open Go.RowKit

/-- All rows' bytes. -/
def netsL (ls : List (List UInt8)) : List UInt8 := (ls.map netL).flatten

theorem netsL_snoc (ls : List (List UInt8)) (l : List UInt8) : netsL (ls ++ [l]) = netsL ls ++ netL l := by simp [netsL]
theorem netsL_take (ls : List (List UInt8)) (k : Nat) (h : k < ls.length) : netsL (ls.take (k + 1)) = netsL (ls.take k) ++ netL ls[k] := by
  rw [List.take_succ_eq_append_getElem h, netsL_snoc]

theorem netsL_len (ls : List (List UInt8)) (h : ∀ r ∈ ls, r.length ≤ 1000) (k : Nat) (hk : k ≤ ls.length) : (netsL (ls.take k)).length ≤ 1022 * k := by
  induction k with
  | zero => simp [netsL]
  | succ k ih =>
    have hk' : k < ls.length := by omega
    have h1 := h ls[k] (List.getElem_mem hk')
    have h2 := netL_len ls[k] (by omega)
    have h3 := ih (by omega)
    rw [netsL_take ls k hk', List.length_append]
    omega

set_option maxHeartbeats 1000000 in
theorem nets_any (A : Option Addr) (n c : Nat) (ls : List (List UInt8)) (w : World) (hn : ls.length = n) (h1 : n ≤ 1000) (h2 : ∀ r ∈ ls, r.length ≤ 1000) (hr : RdR w w.heap.size A ls) (htab : Pow10 w.heap.size w) :
    Calls Tryd.prog 53 #[.slice A n c] w fun e w' => ∃ A' c', e = .returned (.slice A' (netsL ls).length c') ∧ (netsL ls).length ≤ c' ∧ Rd w' w'.heap.size A' (netsL ls) ∧ Below w.heap.size w w' := by
  have HN := Lib.hid hn
  have H2 := Lib.hid h2
  have HT := Lib.hid htab
  clear hn h2 htab
  go_enter Tryd.func53, Tryd.ntmps53
  go_wp2
  go_loopw [3, 8] (fun v i wr => ∃ k m : Nat, k ≤ n ∧ i = .int .i64 k ∧ m ≤ 1022 * k ∧ Hid ((netsL (ls.take k)).length = m) ∧ Hid (wr.ownsRow w.heap.size 5 1 v m (Lib.byteCells (netsL (ls.take k)))) ∧ Below w.heap.size w wr) (fun _ i _ => n - (intOf i).toNat)
  case atStart => exact ⟨0, 0, Nat.zero_le _, rfl, by omega, Lib.hid (by simp [netsL]), Lib.hid (World.ownsRow_nil _ _ _ _), Below.refl _ _⟩
  case round =>
    obtain ⟨k, m, hk, rfl, hm, HM, HO, hbel⟩ := hrel
    by_cases hlt : k < n
    · have hl1 : k < ls.length := by rw [HN.out]; exact hlt
      obtain ⟨b, off, A', c', rfl, _, hc, hlc, _, hrd⟩ := (hr.below hbel (Nat.le_refl _)).at_ k hl1
      have HK := Lib.hid (netsL_take ls k hl1)
      have hlen : ls[k].length ≤ 1000 := H2.out _ (List.getElem_mem hl1)
      generalize ls[k] = l at *
      obtain ⟨q, hq⟩ : ∃ q, l.length = q := ⟨_, rfl⟩
      have HQ := Lib.hid hq
      rw [hq] at hc hlen
      clear hlc hq
      have hle := hbel.size
      have htl := netL_len l (by rw [HQ.out]; omega)
      rw [HQ.out] at htl
      go_wp2_with fail
      refine (appendNet_any w.heap.size m q c' _ _ A' l _ HO.out hle HQ.out (by omega) (by omega) hrd (tab_on HT.out hbel (Nat.le_refl _))).mono ?_
      rintro e w1 ⟨v1, rfl, hown1, hbel1⟩
      have hbel2 := hbel.trans hbel1
      rw [← Lib.byteCells_append, ← HK.out] at hown1
      have HL := Lib.hid (show (netsL (ls.take (k + 1))).length = m + (netL l).length by rw [HK.out, List.length_append, HM.out])
      have HO1 := Lib.hid hown1
      generalize (netL l).length = z at *
      clear hown1 hbel1 hbel hle hrd hc
      go_wp2_with fail
      go_roundw
      case rel => exact ⟨k + 1, m + z, by omega, by go_num, by omega, HL, HO1, hbel2⟩
      case measure => simp [intOf]; omega
    · have hge : ¬ (k : Int) < (n : Int) := by omega
      have ht : ls.take k = ls := List.take_of_length_le (by rw [HN.out]; omega)
      have ho := HO.out
      have hm' := HM.out
      rw [ht] at ho hm'
      obtain ⟨A1, c1, hv, hc1⟩ := own_slice ho
      subst hv
      have hrd := Rd.of_own ho
      rw [← hm'] at hc1
      have HM2 := Lib.hid hm'
      have HR := Lib.hid hrd
      have HC := Lib.hid hc1
      clear ho hm' hrd hc1 ht
      go_wp2_with fail
      go_ret
      exact ⟨A1, c1, by rw [HM2.out]; rfl, HC.out, HR.out, hbel⟩
end Go.Proofs.YtciflbkgfmbfdaaDoor
