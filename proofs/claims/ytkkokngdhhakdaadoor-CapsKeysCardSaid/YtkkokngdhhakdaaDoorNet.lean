/- Net and Nets of the program write each row's length in decimal digits, a colon, its bytes, a comma. Digits of the document are the number's decimal digits. append onto the bytes of a string: the row that a conversion lays bears a mark behind its last cell, which no append meets. Net of the document writes what the program's writes. Nets of the program writes all rows, one behind the other. Rows of bytes that the call owns, of which the spare cells are known to be bytes too. The row at a list's beginning, as plain lists; a row that is written is taken again, with what is behind it. The program reads a row's length as the plain lists' law does. The program cuts the row at the beginning off, within the bytes' own memory. -/
import Derived.Test.YtkkokngdhhakdaaDoorMem
import Derived.Test.YtkkokngdhhakdaaDoorPut
import Derived.Test.YtkkokngdhhakdaaDoorShelf
import Derived.Deep.RegionWith
import Derived.Lib.ConvBytes
import Derived.Lib.FrozenHead2
import Derived.Deep.AppendSrc
import Derived.WalkLawsBesides
namespace Go.Proofs.YtkkokngdhhakdaaDoor
open Go.RowKit

/-- A row's bytes. -/
def netL (l : List UInt8) : List UInt8 := Lib.itoa (l.length : Int) ++ [58] ++ l ++ [44]

abbrev Pow10 (B : Nat) (w : World) : Prop := Lib.TabBelow Tryd.prog B w "internal/strconv.uint64pow10" .u64 Lib.pow10Tab

/-- The table of powers of ten stands in every world that only has new things. -/
theorem tab_on {B B' : Nat} {w w' : World} (h : Pow10 B w) (hb : Below B w w') (hB : B ≤ B' := by simp) : Pow10 B' w' :=
  fun _ h' => (h.on hb) _ (h'.mono hB)

theorem decDigits_len (u : Nat) (h : u < 10 ^ 20) : (Lib.decDigits u).length ≤ 20 := by
  rw [Lib.decDigits_eq]
  simp
  rcases Nat.lt_or_ge 20 (Lib.nDigits u) with h' | h'
  · exfalso
    have hge : 10 ^ 20 ≤ u := by
      have : ∀ u, 10 ^ (Lib.nDigits u - 1) ≤ u ∨ u = 0 := by
        intro u
        induction u using Nat.strongRecOn with
        | _ u ih =>
          by_cases hu : u < 10
          · rw [Lib.nDigits_small hu]; omega
          · rw [Lib.nDigits_big hu]
            rcases ih (u / 10) (by omega) with h1 | h1
            · left
              have hp := Lib.nDigits_pos (u / 10)
              rw [show Lib.nDigits (u / 10) + 1 - 1 = (Lib.nDigits (u / 10) - 1) + 1 from by omega, Nat.pow_succ]
              omega
            · omega
      rcases this u with h1 | h1
      · exact Nat.le_trans (Nat.pow_le_pow_right (by omega) (by omega)) h1
      · subst h1; rw [Lib.nDigits_small (by omega)] at h'; omega
    omega
  · exact h'

theorem itoa_len (n : Nat) (h : n ≤ 1000000000) : (Lib.itoa (n : Int)).length ≤ 20 := by
  unfold Lib.itoa
  rw [if_neg (by omega)]
  exact decDigits_len _ (by simp; omega)

theorem netL_len (l : List UInt8) (h : l.length ≤ 1000000000) : (netL l).length ≤ l.length + 22 := by
  have := itoa_len l.length h
  simp [netL]; omega

set_option maxHeartbeats 1000000 in
theorem appendNet_any (B n m c : Nat) (sv : Value) (xs : List Value) (A : Option Addr) (l : List UInt8) (w : World) (hown : w.ownsRow B 5 1 sv n xs) (hB : B ≤ w.heap.size) (hl : l.length = m)
    (h1 : m ≤ 1000000000) (h2 : n ≤ 1000000000000) (hb : Rd w B A l) (htab : Pow10 B w) :
    Calls Tryd.prog 92 #[sv, .slice A m c] w fun e w' => ∃ v', e = .returned v' ∧ w'.ownsRow B 5 1 v' (n + (netL l).length) (xs ++ Lib.byteCells (netL l)) ∧ Below B w w' := by
  obtain ⟨i0, hi, hz0, hz1, hz2⟩ := info_parts info5
  have HL := Lib.hid hl
  have HT := Lib.hid htab
  have hd := itoa_len m h1
  clear hl htab
  go_enter Tryd.func92, Tryd.ntmps92
  go_wp2_with fail
  refine (Tryd.strconv_AppendInt_10 B n m (by omega) (by omega) sv xs _ hown hB (by omega) HT.out).mono ?_
  rintro e w1 ⟨v1, rfl, hown1, hbel1, _⟩
  clear hown HT
  generalize hdd : Lib.itoa (m : Int) = ds at *
  have HDD := Lib.hid hdd
  clear hdd
  go_wp2_with (at_builtin; refine wpList_append_rd rfl _ _ 26 rfl B 5 i0 Tryd.underlying26 hi hz0 hz1 hz2 _ _ _ rfl (hown1.alloc _) _ _ 1 1 [58] rfl rfl (Rd.one w1 5 58 58 rfl) (by omega) (by have := hbel1.size; simp; omega) ?_)
  intro v2 w2 hown2 hg2
  have hbel2 : Below B w w2 := (hbel1.alloc (by have := hbel1.size; omega) _).grown hg2 (by have := hbel1.size; simp; omega) (fun k hk => (hown1.lt k hk).1)
  clear hown1 hg2
  have hb2 := hb.below hbel2 (Nat.le_refl _)
  go_wp2_with (at_builtin; refine wpList_append_rd rfl _ _ 26 rfl B 5 i0 Tryd.underlying26 hi hz0 hz1 hz2 _ _ _ rfl hown2 B A m c l rfl HL.out hb2 (by omega) (by have := hbel2.size; omega) ?_)
  intro v3 w3 hown3 hg3
  have hbel3 : Below B w w3 := hbel2.grown hg3 (by have := hbel2.size; omega) (fun k hk => (hown2.lt k hk).1)
  clear hown2 hg3 hb2
  go_wp2_with (at_builtin; refine wpList_append_rd rfl _ _ 26 rfl B 5 i0 Tryd.underlying26 hi hz0 hz1 hz2 _ _ _ rfl (hown3.alloc _) _ _ 1 1 [44] rfl rfl (Rd.one w3 5 44 44 rfl) (by omega) (by have := hbel3.size; simp; omega) ?_)
  intro v4 w4 hown4 hg4
  have hbel4 : Below B w w4 := (hbel3.alloc (by have := hbel3.size; omega) _).grown hg4 (by have := hbel3.size; simp; omega) (fun k hk => (hown3.lt k hk).1)
  clear hown3 hg4
  have hlen : (netL l).length = ds.length + 1 + m + 1 := by unfold netL; rw [HL.out, HDD.out]; simp [HL.out]; omega
  have hcs : Lib.byteCells (netL l) = Lib.byteCells ds ++ Lib.byteCells [58] ++ Lib.byteCells l ++ Lib.byteCells [44] := by unfold netL; rw [HL.out, HDD.out]; simp only [Lib.byteCells_append]
  have HF := Lib.hid (show w4.ownsRow B 5 1 v4 (n + (netL l).length) (xs ++ Lib.byteCells (netL l)) by
    rw [hlen, hcs]
    simpa [Nat.add_assoc] using hown4)
  clear hown4 hlen hcs
  go_wp2
  go_ret
  exact ⟨_, rfl, HF.out, hbel4⟩

end Go.Proofs.YtkkokngdhhakdaaDoor
namespace Go.Proofs.YtkkokngdhhakdaaDoor
open Go.RowKit

theorem dig_small {u : Nat} (h : u < 10) : Lib.decDigits u = [UInt8.ofNat (48 + u)] := by rw [Lib.decDigits, dif_pos h]
theorem dig_big {u : Nat} (h : ¬ u < 10) : Lib.decDigits u = Lib.decDigits (u / 10) ++ [UInt8.ofNat (48 + u % 10)] := by rw [Lib.decDigits, dif_neg h]
theorem dig_byte {d : Nat} (h : d < 10) : (48 + (d : Int)) = ((UInt8.ofNat (48 + d)).toNat : Int) := by
  rw [UInt8.toNat_ofNat', Nat.mod_eq_of_lt (by omega)]; omega

theorem bcell {W w1 : World} (hb : Below W.heap.size W w1) : ∀ b o, b < W.heap.size → w1.cell? ⟨b, o, none⟩ = W.cell? ⟨b, o, none⟩ :=
  fun b o h => hb.cell (p := ⟨b, o, none⟩) h

/-- One digit's byte as a string, wherever it lies. -/
theorem run_digit {d : Nat} (h : d < 10) (W : World) (g : Nat) (hc : W.cell? ⟨g, 0, none⟩ = some (.int .u8 (48 + (d : Int)))) :
    (convert 26 9 (.slice (some ⟨g, 0, none⟩) 1 1)).run Tryd.prog W = .ok (.string ⟨[UInt8.ofNat (48 + d)].toArray⟩) W := by
  refine run_string_rd (P := Tryd.prog) 26 9 5 Tryd.underlying26 Tryd.underlying5 Tryd.underlying9 (g + 1) _ 1 1 [UInt8.ofNat (48 + d)] rfl (.inr ⟨g, 0, rfl, by omega, fun i hi => ?_⟩)
  obtain rfl : i = 0 := by simpa using hi
  rw [hc, dig_byte h]
  rfl

set_option maxHeartbeats 200000 in
theorem digits_any (k : Nat) : ∀ (u : Nat) (w : World), u < k → u ≤ 1000000000 →
    Calls Tryd.prog 72 #[.int .i64 (u : Int)] w fun e w' => e = .returned (.string ⟨(Lib.decDigits u).toArray⟩) ∧ Below w.heap.size w w' := by
  induction k with
  | zero =>
    intro u w hk hu
    omega
  | succ k ih =>
    intro u w hk hu
    by_cases h10 : u < 10
    · have hcv := run_digit h10
      rw [dig_small h10]
      generalize UInt8.ofNat (48 + u) = y at hcv ⊢
      have HS : Below w.heap.size w (w.alloc (.cells #[.int .u8 (48 + (u : Int))] 5)) := (Below.refl _ _).alloc (Nat.le_refl _) _
      go_enter Tryd.func72, Tryd.ntmps72
      go_wp2_with fail
      go_ret
      exact ⟨rfl, HS⟩
    · have hd : u % 10 < 10 := Nat.mod_lt _ (by omega)
      have hcv := run_digit hd
      have ec : ((u % 10 : Nat) : Int) = (u : Int) % 10 := by omega
      rw [ec] at hcv
      have hlen : (Lib.decDigits (u / 10)).length ≤ 20 := decDigits_len _ (by simp; omega)
      have ih1 := fun W => ih (u / 10) W (by omega) (by omega)
      have eq : ((u / 10 : Nat) : Int) = (u : Int) / 10 := by omega
      rw [eq] at ih1
      rw [dig_big h10]
      generalize Lib.decDigits (u / 10) = D at *
      generalize UInt8.ofNat (48 + u % 10) = y at *
      have IH := Lib.hid ih1
      clear ih ih1 eq ec
      go_enter Tryd.func72, Tryd.ntmps72
      go_wp2_with fail
      have hw0 : (u : Int).tmod 10 = (u : Int) % 10 := Int.tmod_eq_emod_of_nonneg (by omega)
      have hw1 : IntKind.i64.wrap ((u : Int) / 10) = (u : Int) / 10 := by rw [IntKind.wrap_i64]; omega
      have hw2 : IntKind.i64.wrap (48 + (u : Int) % 10) = 48 + (u : Int) % 10 := by rw [IntKind.wrap_i64]; omega
      have hw3 : IntKind.u8.wrap (48 + (u : Int) % 10) = 48 + (u : Int) % 10 := by simp only [IntKind.wrap, IntKind.bits, IntKind.signed]; simp; omega
      clear h10 hk hd hu
      go_region_with (go_at_call 72; refine (IH.out _).mono ?_; rintro e w1 ⟨rfl, hb1⟩; have hc1 := bcell hb1)
      all_goals
        clear hcv hc1 hw0 hw1 hw2 hw3
        have hcat : (⟨D.toArray⟩ : ByteArray) ++ ⟨#[y]⟩ = ⟨(D ++ [y]).toArray⟩ := by rw [ByteArray.mk_append_mk]
        go_wp2
        go_ret
        refine ⟨?_, ?_⟩
        · rw [← hcat]; rfl
        · first
            | exact (((Below.refl _ _).drew).trans (hb1.mono (Nat.le_refl _))).alloc (((Below.refl w.heap.size w).drew.trans (hb1.mono (Nat.le_refl _))).size) _
            | exact (((Below.refl _ _).alloc (Nat.le_refl _) _).drew).trans (hb1.mono (by simp))
end Go.Proofs.YtkkokngdhhakdaaDoor
namespace Go.Proofs.YtkkokngdhhakdaaDoor
open Go.RowKit

/-- The slice value v owns the bytes l; what is frozen of its row stands behind its cells. -/
def OwnM (w : World) (base : Nat) (e : TypeId) (v : Value) (n : Nat) (l : List UInt8) : Prop :=
  l.length = n ∧ ∃ g cap cur fz, v = .slice (some ⟨g, 0, none⟩) n cap ∧ base ≤ g ∧ w.heap[g]? = some (.cells cur e fz) ∧ (fz.2 = 0 ∨ cap ≤ fz.1) ∧ n ≤ cap ∧ cap ≤ maxLen ∧ cur.size = cap ∧ cur.toList.take n = Lib.byteCells l

theorem run_storeCells_M (P : Program) (g o : Nat) (t : TypeId) (fz : Nat × Nat) : ∀ (vs : List Value) (i : Nat) (cur : Array Value) (w : World), w.heap[g]? = some (.cells cur t fz) → (fz.2 = 0 ∨ cur.size ≤ fz.1) → o + i + vs.length ≤ cur.size → (∀ v ∈ vs, v.oneCell' = true) →
    (storeCells ⟨g, o, none⟩ vs i).run P w = .ok () (w.setRow g (cur.toList.take (o + i) ++ vs ++ cur.toList.drop (o + i + vs.length)).toArray)
  | [], i, cur, w, hg, _, _, _ => by
    simp only [storeCells, List.append_nil, List.length_nil, Nat.add_zero, List.take_append_drop, Array.toArray_toList]
    rw [setRow_self w g cur t fz hg]
    rfl
  | v :: rest, i, cur, w, hg, hfz, hl, h1 => by
    have hi : o + i < cur.size := by simp at hl; omega
    have hadd : (⟨g, o, none⟩ : Addr).add i = ⟨g, o + i, none⟩ := by unfold Addr.add; split <;> simp_all
    have hcell : w.cell? ⟨g, o + i, none⟩ = some cur[o + i] := by simp [World.cell?, hg, hi]
    have hfro : w.frozen? ⟨g, o + i, none⟩ = false := by
      obtain ⟨lo, hi'⟩ := fz
      simp only [World.frozen?, hg, Bool.and_eq_false_iff, decide_eq_false_iff_not]
      simp only at hfz
      omega
    have hst : (store ((⟨g, o, none⟩ : Addr).add i) v).run P w = .ok () (w.setRow g (cur.setIfInBounds (o + i) v)) := by
      rw [hadd, run_store P w _ v _ (h1 v (by simp)), hcell]
      simp [hfro, setCell_eq_setRow w g (o + i) cur t fz v hg]
    have ih := run_storeCells_M P g o t fz rest (i + 1) (cur.setIfInBounds (o + i) v) (w.setRow g (cur.setIfInBounds (o + i) v)) (setRow_heap w g cur _ t _ hg) (by simpa using hfz) (by simp at hl ⊢; omega) (fun x hx => h1 x (by simp [hx]))
    simp only [storeCells, Sem.run_bind, hst, Result.andThen_ok, ih, setRow_setRow]
    congr 3
    have e := list_seg_step cur.toList (o + i) v rest (by simp at hl ⊢; omega)
    simpa [Array.toList_setIfInBounds, Nat.add_assoc] using e

section
variable {P : Program} {w : World}

theorem OwnM.rd {base : Nat} {e : TypeId} {A : Option Addr} {n c : Nat} {l : List UInt8} (h : OwnM w base e (.slice A n c) n l) : Rd w w.heap.size A l := by
  obtain ⟨hl, g, cap, cur, fz, hv, _, hg, _, hnc, _, hcs, htake⟩ := h
  have hA : A = some ⟨g, 0, none⟩ := by injection hv
  subst hA
  have hlt : g < w.heap.size := (Array.getElem?_eq_some_iff.1 hg).1
  refine .inr ⟨g, 0, rfl, hlt, fun i hi => ?_⟩
  rw [Nat.zero_add, cell_of_row w g i cur e fz hg]
  have h2 : (cur.toList.take n)[i]? = some (.int .u8 (l[i].toNat : Int)) := by
    rw [htake]; unfold Lib.byteCells; rw [List.getElem?_map, List.getElem?_eq_getElem hi]; rfl
  rw [List.getElem?_take, if_pos (by omega)] at h2
  simpa using h2

theorem OwnM.alloc {base : Nat} {e : TypeId} {v : Value} {n : Nat} {l : List UInt8} (h : OwnM w base e v n l) (o : Obj) : OwnM (w.alloc o) base e v n l := by
  obtain ⟨hl, g, cap, cur, fz, hv, hb, hg, rest⟩ := h
  exact ⟨hl, g, cap, cur, fz, hv, hb, (Below.heap_alloc w o g (Array.getElem?_eq_some_iff.1 hg).1).trans hg, rest⟩

theorem OwnM.lt {base : Nat} {e : TypeId} {v : Value} {n : Nat} {l : List UInt8} (h : OwnM w base e v n l) : ∀ k, v.ownBlock = some k → base ≤ k := by
  obtain ⟨_, g, cap, cur, fz, rfl, hb, _⟩ := h
  intro k hk
  simp [Value.ownBlock] at hk
  omega

/-- A string's bytes as a new row. -/
theorem run_bytes_M (src dst e : TypeId) (l : List UInt8) (hlen : l.length ≤ 1000000) {u : TypeDesc} (hs : P.underlying src = some u) (hd : P.underlying dst = some (.slice e)) (he : P.underlying e = some (.int .u8)) :
    ∃ v w', (convert src dst (.string ⟨l.toArray⟩)).run P w = .ok v w' ∧ OwnM w' w.heap.size e v l.length l ∧ Below w.heap.size w w' := by
  have hsz : (⟨l.toArray⟩ : ByteArray).size = l.length := rfl
  have hcap := grownCap_ge w l.length 0 e
  have hcm : grownCap w l.length 0 e ≤ maxLen := grownCap_le_maxLen w _ 0 e (by unfold maxLen; omega)
  have hrun := Lib.run_convert_string_bytes (P := P) w src dst e ⟨l.toArray⟩ hs hd he
  rw [hsz] at hrun
  have hcs : (Lib.bytesCells w e ⟨l.toArray⟩).size = grownCap w l.length 0 e := by unfold Lib.bytesCells; simp [hsz]; omega
  refine ⟨_, _, hrun, ⟨rfl, w.heap.size, _, _, _, rfl, Nat.le_refl _, Lib.bytesWorld_at_new w e _, .inr ?_, hcap, hcm, hcs, ?_⟩, ⟨rfl, rfl, rfl, by rw [Lib.bytesWorld_size]; omega, fun k hk => Lib.bytesWorld_at_old w e _ k hk⟩⟩
  · simp only [hcs]; exact Nat.le_refl _
  · unfold Lib.bytesCells Lib.byteCells
    simp

theorem run_append_M (base : Nat) (t ty e : TypeId) (i : TypeInfo) (ht : P.underlying t = some (.slice e)) (hi : P.info? e = some i) (hz : i.zero = some (.int .u8 0)) (hsize : i.size = 1) (hby : i.bytes = 1)
    (v : Value) (n : Nat) (xl : List UInt8) (hown : OwnM w base e v n xl) (C : Nat) (A : Option Addr) (m c : Nat) (l : List UInt8) (hl : l.length = m) (hr : Rd w C A l)
    (hlim : n + m ≤ 140737488355328) (hbase : base ≤ w.heap.size) :
    ∃ v' w', (Builtin.append_ #[t, t] ty #[v, .slice A m c]).run P w = .ok v' w' ∧ OwnM w' base e v' (n + m) (xl ++ l) ∧ w.grownBy w' v.ownBlock := by
  obtain ⟨hxl, g, cap, cur, fz, rfl, hb, hg, hfz, hnc, hcm, hcs, htake⟩ := hown
  rcases A with _ | ad
  · have h0 : l = [] := by
      rcases hr with rfl | ⟨b, off, e, _⟩
      · rfl
      · cases e
    subst h0
    obtain rfl : m = 0 := by simpa using hl.symm
    refine ⟨_, w, ?_, ⟨by simpa using hxl, g, cap, cur, fz, rfl, hb, hg, hfz, hnc, hcm, hcs, by simpa using htake⟩, World.grownBy.refl w _⟩
    simp [Builtin.append_, run_underlying ht, sizeOf, typeInfo, hi, Builtin.lenOf, Builtin.firstCells, hnc, storeCells]
  · have hnl : (Lib.byteCells l).length = m * i.size := by rw [Lib.byteCells_length, hl, hsize, Nat.mul_one]
    by_cases hroom : n + m ≤ cap
    · have hf := run_firstCells_some (P := P) w i.size m ad m c (Lib.byteCells l) hnl hr.cells
      have hst := run_storeCells_M P g n e fz (Lib.byteCells l) 0 cur w hg (by rw [hcs]; exact hfz) (by rw [Lib.byteCells_length, hl, hcs]; omega) (Lib.byteCells_one l)
      simp only [Nat.add_zero] at hst
      refine ⟨.slice (some ⟨g, 0, none⟩) (n + m) cap, w.setRow g (cur.toList.take n ++ Lib.byteCells l ++ cur.toList.drop (n + (Lib.byteCells l).length)).toArray, ?_, ⟨by simp [hxl, hl], g, cap, _, fz, rfl, hb, setRow_heap w g cur _ e _ hg, hfz, hroom, hcm, ?_, ?_⟩, ⟨rfl, rfl, rfl, by simp, fun k _ hk => setRow_other w g k _ (fun e => hk (by simp [Value.ownBlock, e]))⟩⟩
      · simp [Builtin.append_, run_underlying ht, sizeOf, typeInfo, hi, hsize, Builtin.lenOf, hroom, Addr.add_lit]
        rw [hsize] at hf
        simp [hf, hst]
      · simp only [List.size_toArray, List.length_append, List.length_take, List.length_drop, Array.length_toList, Lib.byteCells_length, hl, hcs]
        omega
      · rw [htake, ← Lib.byteCells_append]
        have : (Lib.byteCells (xl ++ l)).length = n + m := by rw [Lib.byteCells_length, List.length_append, hxl, hl]
        rw [← this]
        exact List.take_left
    · have holds : ∀ j u, (Lib.byteCells xl)[j]? = some u → w.cell? ((⟨g, 0, none⟩ : Addr).add j) = some u := by
        have hrd : OwnM w base e (.slice (some ⟨g, 0, none⟩) n cap) n xl := ⟨hxl, g, cap, cur, fz, rfl, hb, hg, hfz, hnc, hcm, hcs, htake⟩
        exact Rd.cells hrd.rd
      have hgr := run_append_grow (P := P) w t ty e i (.int .u8 0) ht hi hz ⟨g, 0, none⟩ n cap (Lib.byteCells xl) (by rw [Lib.byteCells_length, hxl, hsize, Nat.mul_one]) holds ad m c (Lib.byteCells l) hnl hr.cells (by omega) (by omega) (growslice_fits (by omega) (by rw [hby]; omega))
      have hge := grownCap_ge w (n + m) cap e
      have hcm2 : grownCap w (n + m) cap e ≤ maxLen := grownCap_le_maxLen w (n + m) cap e (by unfold maxLen; omega)
      refine ⟨_, _, hgr, ⟨by simp [hxl, hl], w.heap.size, _, _, (0, 0), rfl, hbase, heap_alloc_new w.drew _, .inl rfl, hge, hcm2, ?_, ?_⟩, ⟨rfl, rfl, rfl, by simp, fun k hk _ => Below.heap_alloc w.drew _ k hk⟩⟩
      · have hzc : (Value.int IntKind.u8 0).cells.size = 1 := rfl
        simp only [Array.size_append, List.size_toArray, size_zeroCells, hzc, Lib.byteCells_length, hxl, hl, Nat.mul_one]
        omega
      · simp only [Array.toList_append, List.append_assoc]
        rw [← List.append_assoc, ← Lib.byteCells_append]
        have : (Lib.byteCells (xl ++ l)).length = n + m := by rw [Lib.byteCells_length, List.length_append, hxl, hl]
        rw [← this]
        exact List.take_left

theorem wpList_append_M {ops : Array Oper} {rest : List Oper} {o : Oper} {a : Act} {Q : Exit → Act → World → Prop} (hgd : o.guard = none) (s x : Operand) (t : TypeId)
    (ho : o.op = .call { callee := .builtin .append, args := #[s, x], argTypes := #[t, t] })
    (base : Nat) (e : TypeId) (i : TypeInfo) (ht : P.underlying t = some (.slice e)) (hi : P.info? e = some i) (hz : i.zero = some (.int .u8 0)) (hsize : i.size = 1) (hby : i.bytes = 1)
    (v : Value) (n : Nat) (xl : List UInt8) (hs : a.eval s = v) (hown : OwnM w base e v n xl) (C : Nat) (A : Option Addr) (m c : Nat) (l : List UInt8) (hx : a.eval x = .slice A m c) (hl : l.length = m) (hr : Rd w C A l)
    (hlim : n + m ≤ 140737488355328) (hbase : base ≤ w.heap.size)
    (h : ∀ v' w', OwnM w' base e v' (n + m) (xl ++ l) → w.grownBy w' v.ownBlock → wpList P ops Q rest (a.put o.dst v') w') : wpList P ops Q (o :: rest) a w := by
  refine wpList_plain hgd fun K hK => ?_
  obtain ⟨v', w', hrun, h2, h3⟩ := run_append_M (P := P) base t o.type e i ht hi hz hsize hby v n xl hown C A m c l hl hr hlim hbase
  unfold Oper.wp execOp
  simp only [ho, resolve, invoke, builtin, Sem.run_bind, Sem.run_pure, Result.andThen_ok, List.map_toArray, List.map_cons, List.map_nil, hs, hx, hrun]
  exact hK _ _ (h v' w' h2 h3)
end
end Go.Proofs.YtkkokngdhhakdaaDoor
namespace Go.Proofs.YtkkokngdhhakdaaDoor
open Go.RowKit

set_option maxHeartbeats 1000000 in
theorem rnet_any (m c : Nat) (A : Option Addr) (l : List UInt8) (w : World) (hl : l.length = m) (h1 : m ≤ 1000000) (hb : Rd w w.heap.size A l) :
    Calls Tryd.prog 95 #[.slice A m c] w fun e w' => ∃ A' c', e = .returned (.slice A' (netL l).length c') ∧ (netL l).length ≤ c' ∧ Rd w' w'.heap.size A' (netL l) ∧ Below w.heap.size w w' := by
  obtain ⟨i0, hi, hz0, hz1, hz2⟩ := info_parts info5
  have HL := Lib.hid hl
  have hdl := decDigits_len m (by simp; omega)
  have hit : Lib.itoa (m : Int) = Lib.decDigits m := by unfold Lib.itoa; rw [if_neg (by omega)]; simp
  have hnet : netL l = Lib.decDigits m ++ [58] ++ l ++ [44] := by unfold netL; rw [hl, hit]
  obtain ⟨out, ho⟩ : ∃ x, netL l = x := ⟨_, rfl⟩
  rw [ho] at hnet ⊢
  obtain ⟨ds, hds⟩ : ∃ x, Lib.decDigits m = x := ⟨_, rfl⟩
  have HD := Lib.hid hds
  rw [hds] at hdl hnet
  have HNET := Lib.hid hnet
  clear hl hit hnet hds ho
  go_enter Tryd.func95, Tryd.ntmps95
  go_wp2_with fail
  refine (digits_any (m + 1) m _ (by omega) (by omega)).mono ?_
  rintro e w1 ⟨rfl, hb1⟩
  rw [HD.out]
  obtain ⟨v2, w2, hcv, hown2, hb2⟩ := run_bytes_M (P := Tryd.prog) (w := w1) 9 26 5 ds (by omega) Tryd.underlying9 Tryd.underlying26 Tryd.underlying5
  have hbel2 := Below.then hb1 hb2
  have hs1 := hb1.size
  have hs2 := hb2.size
  have HO2 := Lib.hid hown2
  clear hown2 hb2
  go_wp2_with (at_builtin; refine wpList_append_M rfl _ _ 26 rfl w1.heap.size 5 i0 Tryd.underlying26 hi hz0 hz1 hz2 _ _ ds rfl (HO2.out.alloc _) _ _ 1 1 [58] rfl rfl (Rd.one w2 5 58 58 rfl) (by omega) (by simp; omega) ?_)
  intro v3 w3 hown3 hg3
  have hbel3 : Below w.heap.size w w3 := (hbel2.alloc hbel2.size _).grown hg3 (by have := hbel2.size; simp; omega) (fun k hk => Nat.le_trans hs1 (HO2.out.lt k hk))
  have hs3 : w1.heap.size ≤ w3.heap.size := by have := hg3.size; simp at this; omega
  have HO3 := Lib.hid hown3
  clear hown3 hg3 hcv
  go_wp2_with (at_builtin; refine wpList_append_M rfl _ _ 26 rfl w1.heap.size 5 i0 Tryd.underlying26 hi hz0 hz1 hz2 _ _ _ rfl HO3.out _ A m c l rfl HL.out (hb.on hbel3) (by omega) hs3 ?_)
  intro v4 w4 hown4 hg4
  have hbel4 : Below w.heap.size w w4 := hbel3.grown hg4 hbel3.size (fun k hk => Nat.le_trans hs1 (HO3.out.lt k hk))
  have hs4 : w1.heap.size ≤ w4.heap.size := Nat.le_trans hs3 hg4.size
  have HO4 := Lib.hid hown4
  clear hown4 hg4
  go_wp2_with (at_builtin; refine wpList_append_M rfl _ _ 26 rfl w1.heap.size 5 i0 Tryd.underlying26 hi hz0 hz1 hz2 _ _ _ rfl (HO4.out.alloc _) _ _ 1 1 [44] rfl rfl (Rd.one w4 5 44 44 rfl) (by omega) (by simp; omega) ?_)
  intro v5 w5 hown5 hg5
  have hbel5 : Below w.heap.size w w5 := (hbel4.alloc hbel4.size _).grown hg5 (by have := hbel4.size; simp; omega) (fun k hk => Nat.le_trans hs1 (HO4.out.lt k hk))
  have key : ∀ (n' : Nat) (xl : List UInt8), OwnM w5 w1.heap.size 5 v5 n' xl → xl = out → ∃ A' c', v5 = .slice A' out.length c' ∧ out.length ≤ c' ∧ Rd w5 w5.heap.size A' out := by
    rintro n' xl h rfl
    have hl := h.1
    subst hl
    have h' := h
    obtain ⟨_, g, cap, cur, fz, rfl, _, _, _, hnc, _⟩ := h'
    exact ⟨_, cap, rfl, hnc, h.rd⟩
  obtain ⟨A', c', rfl, hc', hr'⟩ := key _ _ hown5 (by rw [HNET.out]; simp)
  have HR := Lib.hid hr'
  have HC := Lib.hid hc'
  clear hown5 hg5 key hr' hc'
  go_wp2_with fail
  go_ret
  exact ⟨A', c', rfl, HC.out, HR.out, hbel5⟩
end Go.Proofs.YtkkokngdhhakdaaDoor
namespace Go.Proofs.YtkkokngdhhakdaaDoor
open Go.RowKit

/-- All rows' bytes. -/
def netsL (ls : List (List UInt8)) : List UInt8 := (ls.map netL).flatten

theorem netsL_snoc (ls : List (List UInt8)) (l : List UInt8) : netsL (ls ++ [l]) = netsL ls ++ netL l := by simp [netsL]
theorem netsL_take (ls : List (List UInt8)) (k : Nat) (h : k < ls.length) : netsL (ls.take (k + 1)) = netsL (ls.take k) ++ netL ls[k] := by
  rw [List.take_succ_eq_append_getElem h, netsL_snoc]

theorem netsL_len (ls : List (List UInt8)) (h : ∀ r ∈ ls, r.length ≤ 1000) (k : Nat) (hk : k ≤ ls.length) : (netsL (ls.take k)).length ≤ 1022 * k := by
  induction k with
  | zero => simp [netsL]
  | succ k ih =>
    have hk' : k < ls.length := by omega
    have h1 := h ls[k] (List.getElem_mem hk')
    have h2 := netL_len ls[k] (by omega)
    have h3 := ih (by omega)
    rw [netsL_take ls k hk', List.length_append]
    omega

set_option maxHeartbeats 1000000 in
theorem nets_any (A : Option Addr) (n c : Nat) (ls : List (List UInt8)) (w : World) (hn : ls.length = n) (h1 : n ≤ 1000) (h2 : ∀ r ∈ ls, r.length ≤ 1000) (hr : RdR w w.heap.size A ls) (htab : Pow10 w.heap.size w) :
    Calls Tryd.prog 79 #[.slice A n c] w fun e w' => ∃ A' c', e = .returned (.slice A' (netsL ls).length c') ∧ (netsL ls).length ≤ c' ∧ Rd w' w'.heap.size A' (netsL ls) ∧ Below w.heap.size w w' := by
  have HN := Lib.hid hn
  have H2 := Lib.hid h2
  have HT := Lib.hid htab
  clear hn h2 htab
  go_enter Tryd.func79, Tryd.ntmps79
  go_wp2
  go_loopw [3, 8] (fun v i wr => ∃ k m : Nat, k ≤ n ∧ i = .int .i64 k ∧ m ≤ 1022 * k ∧ Hid ((netsL (ls.take k)).length = m) ∧ Hid (wr.ownsRow w.heap.size 5 1 v m (Lib.byteCells (netsL (ls.take k)))) ∧ Below w.heap.size w wr) (fun _ i _ => n - (intOf i).toNat)
  case atStart => exact ⟨0, 0, Nat.zero_le _, rfl, by omega, Lib.hid (by simp [netsL]), Lib.hid (World.ownsRow_nil _ _ _ _), Below.refl _ _⟩
  case round =>
    obtain ⟨k, m, hk, rfl, hm, HM, HO, hbel⟩ := hrel
    by_cases hlt : k < n
    · have hl1 : k < ls.length := by rw [HN.out]; exact hlt
      obtain ⟨b, off, A', c', rfl, _, hc, hlc, _, hrd⟩ := (hr.below hbel (Nat.le_refl _)).at_ k hl1
      have HK := Lib.hid (netsL_take ls k hl1)
      have hlen : ls[k].length ≤ 1000 := H2.out _ (List.getElem_mem hl1)
      generalize ls[k] = l at *
      obtain ⟨q, hq⟩ : ∃ q, l.length = q := ⟨_, rfl⟩
      have HQ := Lib.hid hq
      rw [hq] at hc hlen
      clear hlc hq
      have hle := hbel.size
      have htl := netL_len l (by rw [HQ.out]; omega)
      rw [HQ.out] at htl
      go_wp2_with fail
      refine (appendNet_any w.heap.size m q c' _ _ A' l _ HO.out hle HQ.out (by omega) (by omega) hrd (tab_on HT.out hbel (Nat.le_refl _))).mono ?_
      rintro e w1 ⟨v1, rfl, hown1, hbel1⟩
      have hbel2 := hbel.trans hbel1
      rw [← Lib.byteCells_append, ← HK.out] at hown1
      have HL := Lib.hid (show (netsL (ls.take (k + 1))).length = m + (netL l).length by rw [HK.out, List.length_append, HM.out])
      have HO1 := Lib.hid hown1
      generalize (netL l).length = z at *
      clear hown1 hbel1 hbel hle hrd hc
      go_wp2_with fail
      go_roundw
      case rel => exact ⟨k + 1, m + z, by omega, by go_num, by omega, HL, HO1, hbel2⟩
      case measure => simp [intOf]; omega
    · have hge : ¬ (k : Int) < (n : Int) := by omega
      have ht : ls.take k = ls := List.take_of_length_le (by rw [HN.out]; omega)
      have ho := HO.out
      have hm' := HM.out
      rw [ht] at ho hm'
      obtain ⟨A1, c1, hv, hc1⟩ := own_slice ho
      subst hv
      have hrd := Rd.of_own ho
      rw [← hm'] at hc1
      have HM2 := Lib.hid hm'
      have HR := Lib.hid hrd
      have HC := Lib.hid hc1
      clear ho hm' hrd hc1 ht
      go_wp2_with fail
      go_ret
      exact ⟨A1, c1, by rw [HM2.out]; rfl, HC.out, HR.out, hbel⟩
end Go.Proofs.YtkkokngdhhakdaaDoor
namespace Go.Proofs.YtkkokngdhhakdaaDoor
open Go.RowKit

/-- The slice value v owns the bytes l; the cells behind them are bytes as well. -/
def OwnB (w : World) (base : Nat) (e : TypeId) (v : Value) (n : Nat) (l : List UInt8) : Prop :=
  l.length = n ∧ ((v = .slice none 0 0 ∧ n = 0) ∨ ∃ g cap full, v = .slice (some ⟨g, 0, none⟩) n cap ∧ base ≤ g ∧ w.heap[g]? = some (.cells (Lib.byteCells full).toArray e (0, 0)) ∧ n ≤ cap ∧ cap ≤ maxLen ∧ full.length = cap ∧ full.take n = l)

section
variable {P : Program} {w : World}

theorem OwnB.nil (w : World) (base : Nat) (e : TypeId) : OwnB w base e (.slice none 0 0) 0 [] := ⟨rfl, .inl ⟨rfl, rfl⟩⟩

theorem OwnB.own {base : Nat} {e : TypeId} {v : Value} {n : Nat} {l : List UInt8} (h : OwnB w base e v n l) : w.ownsRow base e 1 v n (Lib.byteCells l) := by
  obtain ⟨hl, h⟩ := h
  refine ⟨by rw [Lib.byteCells_length, hl, Nat.mul_one], ?_⟩
  rcases h with ⟨rfl, rfl⟩ | ⟨g, cap, full, rfl, hb, hg, hnc, hcm, hf, ht⟩
  · exact .inl ⟨rfl, rfl⟩
  · refine .inr ⟨g, cap, _, rfl, hb, hg, hnc, hcm, by rw [List.size_toArray, Lib.byteCells_length, hf, Nat.mul_one], ?_⟩
    rw [Nat.mul_one, ← ht]
    unfold Lib.byteCells
    simp [List.map_take]

theorem OwnB.lt {base : Nat} {e : TypeId} {v : Value} {n : Nat} {l : List UInt8} (h : OwnB w base e v n l) : ∀ k, v.ownBlock = some k → base ≤ k := by
  rcases h.2 with ⟨rfl, _⟩ | ⟨g, cap, full, rfl, hb, _⟩
  · intro k hk; simp [Value.ownBlock] at hk
  · intro k hk; simp [Value.ownBlock] at hk; omega

theorem OwnB.on {base : Nat} {e : TypeId} {v : Value} {n : Nat} {l : List UInt8} (h : OwnB w base e v n l) {w' : World} (hb' : Below w.heap.size w w') : OwnB w' base e v n l := by
  refine ⟨h.1, ?_⟩
  rcases h.2 with h | ⟨g, cap, full, rfl, hb, hg, rest⟩
  · exact .inl h
  · exact .inr ⟨g, cap, full, rfl, hb, (hb'.block g (Array.getElem?_eq_some_iff.1 hg).1).trans hg, rest⟩

theorem OwnB.alloc {base : Nat} {e : TypeId} {v : Value} {n : Nat} {l : List UInt8} (h : OwnB w base e v n l) (o : Obj) : OwnB (w.alloc o) base e v n l :=
  h.on ((Below.refl _ _).alloc (Nat.le_refl _) _)

theorem OwnB.rd {base : Nat} {e : TypeId} {A : Option Addr} {n c : Nat} {l : List UInt8} (h : OwnB w base e (.slice A n c) n l) : Rd w w.heap.size A l := Rd.of_own h.own

/-- What is appended may be a slice that reads as bytes .. -/
theorem Src.ofRd {tx e' : TypeId} (hk : P.underlying tx = some (.slice e')) (C : Nat) (A : Option Addr) (m c : Nat) (l : List UInt8) (hl : l.length = m) (hr : Rd w C A l) : Src P 1 tx (.slice A m c) m (Lib.byteCells l) w := by
  cases A with
  | none =>
    have h0 : l = [] := by
      rcases hr with rfl | ⟨b, off, e, _⟩
      · rfl
      · cases e
    subst h0
    obtain rfl : m = 0 := by simpa using hl.symm
    exact Src.ofNil w hk c
  | some ad => exact Src.ofSlice w hk ad m c _ (by rw [Lib.byteCells_length, hl, Nat.mul_one]) hr.cells (Lib.byteCells_one l)
/-- .. or a string. -/
theorem Src.ofStr {tx : TypeId} (hk : P.underlying tx = some .string) (l : List UInt8) : Src P 1 tx (.string ⟨l.toArray⟩) l.length (Lib.byteCells l) w :=
  Src.ofString w hk ⟨l.toArray⟩

theorem run_append_B (base : Nat) (t tx ty e : TypeId) (i : TypeInfo) (ht : P.underlying t = some (.slice e)) (hi : P.info? e = some i) (hz : i.zero = some (.int .u8 0)) (hsize : i.size = 1) (hby : i.bytes = 1)
    (v : Value) (n : Nat) (xl : List UInt8) (hown : OwnB w base e v n xl) (x : Value) (m : Nat) (l : List UInt8) (hl : l.length = m) (hs : Src P 1 tx x m (Lib.byteCells l) w)
    (hlim : n + m ≤ 140737488355328) (hbase : base ≤ w.heap.size) :
    ∃ v' w', (Builtin.append_ #[t, tx] ty #[v, x]).run P w = .ok v' w' ∧ OwnB w' base e v' (n + m) (xl ++ l) ∧ w.grownBy w' v.ownBlock := by
  obtain ⟨hxl, hform⟩ := hown
  have grow : ∀ (b : Option Addr) (cap : Nat) (hv : v = .slice b n cap), cap < n + m → (Builtin.firstCells i.size n (.slice b n cap)).run P w.drew = .ok (Lib.byteCells xl).toArray w.drew →
      ∃ v' w', (Builtin.append_ #[t, tx] ty #[v, x]).run P w = .ok v' w' ∧ OwnB w' base e v' (n + m) (xl ++ l) ∧ w.grownBy w' v.ownBlock := by
    rintro b cap rfl hlt hold
    have hgr := run_append_grow_src (P := P) w t tx ty e i (.int .u8 0) ht hi hz b n cap (Lib.byteCells xl) hold x m (Lib.byteCells l) (by rw [hsize]; exact hs) hlt (by omega) (growslice_fits (by omega) (by rw [hby]; omega))
    have hge := grownCap_ge w (n + m) cap e
    have hcm2 : grownCap w (n + m) cap e ≤ maxLen := grownCap_le_maxLen w (n + m) cap e (by unfold maxLen; omega)
    have hzc : ∀ k, (Builtin.zeroCells (Value.int .u8 0).cells k) = (Lib.byteCells (List.replicate k 0)).toArray := by
      intro k
      apply Array.ext'
      have : (Builtin.zeroCells (Value.int .u8 0).cells k).toList = List.replicate k (Value.int .u8 0) := by
        have h := toList_madeCells_one (Value.int .u8 0) k
        rw [← h]
        have hc : (Value.int .u8 0).cells = #[Value.int .u8 0] := rfl
        unfold Builtin.zeroCells madeCells
        simp [hc]
      rw [this]
      unfold Lib.byteCells
      rw [List.map_replicate]; rfl
    rw [hzc] at hgr
    have hrow : ((Lib.byteCells xl ++ Lib.byteCells l).toArray ++ (Lib.byteCells (List.replicate (grownCap w (n + m) cap e - (n + m)) 0)).toArray) = (Lib.byteCells (xl ++ l ++ List.replicate (grownCap w (n + m) cap e - (n + m)) 0)).toArray := by
      apply Array.ext'
      simp [Lib.byteCells_append]
    rw [hrow] at hgr
    refine ⟨_, _, hgr, ⟨by simp [hxl, hl], .inr ⟨w.heap.size, _, _, rfl, hbase, heap_alloc_new w.drew _, hge, hcm2, ?_, ?_⟩⟩, ⟨rfl, rfl, rfl, by simp, fun k hk _ => Below.heap_alloc w.drew _ k hk⟩⟩
    · simp only [List.length_append, List.length_replicate, hxl, hl]; omega
    · rw [← show (xl ++ l).length = n + m by rw [List.length_append, hxl, hl]]
      exact List.take_left
  rcases hform with ⟨rfl, rfl⟩ | ⟨g, cap, full, rfl, hb, hg, hnc, hcm, hf, htake⟩
  · have hx0 : xl = [] := List.eq_nil_of_length_eq_zero hxl
    subst hx0
    by_cases hm : m = 0
    · subst hm
      have hl0 : l = [] := List.eq_nil_of_length_eq_zero hl
      subst hl0
      refine ⟨.slice none 0 0, w, ?_, ⟨rfl, .inl ⟨rfl, rfl⟩⟩, World.grownBy.refl w _⟩
      have hlen := hs.len
      have hcell := hs.cells
      rw [show Lib.byteCells [] = [] from rfl] at hcell
      rcases hs.kind with ⟨e', hk⟩ | hk <;> simp [Builtin.append_, run_underlying ht, run_underlying hk, sizeOf, typeInfo, hi, hsize, hlen, hcell]
    · exact grow none 0 rfl (by omega) (by rw [hsize]; exact run_firstCells_none w.drew 1 0 0 0)
  · by_cases hroom : n + m ≤ cap
    · have hst := run_storeCells_M P g n e (0, 0) (Lib.byteCells l) 0 (Lib.byteCells full).toArray w hg (.inl rfl) (by rw [Lib.byteCells_length, hl, List.size_toArray, Lib.byteCells_length, hf]; omega) (Lib.byteCells_one l)
      simp only [Nat.add_zero, Lib.byteCells_length, hl] at hst
      have hrow : ((Lib.byteCells full).take n ++ Lib.byteCells l ++ (Lib.byteCells full).drop (n + m)).toArray = (Lib.byteCells (xl ++ l ++ full.drop (n + m))).toArray := by
        rw [Lib.byteCells_append, Lib.byteCells_append, ← htake]
        unfold Lib.byteCells
        rw [List.map_take, List.map_drop]
      rw [hrow] at hst
      refine ⟨.slice (some ⟨g, 0, none⟩) (n + m) cap, w.setRow g (Lib.byteCells (xl ++ l ++ full.drop (n + m))).toArray, ?_, ⟨by simp [hxl, hl], .inr ⟨g, cap, _, rfl, hb, setRow_heap w g _ _ e _ hg, hroom, hcm, ?_, ?_⟩⟩, ⟨rfl, rfl, rfl, by simp, fun k _ hk => setRow_other w g k _ (fun e => hk (by simp [Value.ownBlock, e]))⟩⟩
      · have hlen := hs.len
        have hcell := hs.cells
        rcases hs.kind with ⟨e', hk⟩ | hk <;> simp [Builtin.append_, run_underlying ht, run_underlying hk, sizeOf, typeInfo, hi, hsize, hlen, hcell, hroom, Addr.add_lit, hst]
      · simp only [List.length_append, List.length_drop, hxl, hl, hf]; omega
      · rw [← show (xl ++ l).length = n + m by rw [List.length_append, hxl, hl]]
        exact List.take_left
    · have hrd : Rd w w.heap.size (some ⟨g, 0, none⟩) xl := OwnB.rd (base := base) (e := e) (c := cap) (n := n) ⟨hxl, .inr ⟨g, cap, full, rfl, hb, hg, hnc, hcm, hf, htake⟩⟩
      exact grow (some ⟨g, 0, none⟩) cap rfl (by omega) (run_firstCells_some (P := P) w.drew i.size n ⟨g, 0, none⟩ n cap (Lib.byteCells xl) (by rw [Lib.byteCells_length, hxl, hsize, Nat.mul_one]) (by simpa using hrd.cells))

theorem wpList_append_B {ops : Array Oper} {rest : List Oper} {o : Oper} {a : Act} {Q : Exit → Act → World → Prop} (hgd : o.guard = none) (s x : Operand) (t tx : TypeId)
    (ho : o.op = .call { callee := .builtin .append, args := #[s, x], argTypes := #[t, tx] })
    (base : Nat) (e : TypeId) (i : TypeInfo) (ht : P.underlying t = some (.slice e)) (hi : P.info? e = some i) (hz : i.zero = some (.int .u8 0)) (hsize : i.size = 1) (hby : i.bytes = 1)
    (v : Value) (n : Nat) (xl : List UInt8) (hs : a.eval s = v) (hown : OwnB w base e v n xl) (y : Value) (hx : a.eval x = y) (m : Nat) (l : List UInt8) (hl : l.length = m) (hsrc : Src P 1 tx y m (Lib.byteCells l) w)
    (hlim : n + m ≤ 140737488355328) (hbase : base ≤ w.heap.size)
    (h : ∀ v' w', OwnB w' base e v' (n + m) (xl ++ l) → w.grownBy w' v.ownBlock → wpList P ops Q rest (a.put o.dst v') w') : wpList P ops Q (o :: rest) a w := by
  refine wpList_plain hgd fun K hK => ?_
  obtain ⟨v', w', hrun, h2, h3⟩ := run_append_B (P := P) base t tx o.type e i ht hi hz hsize hby v n xl hown y m l hl hsrc hlim hbase
  unfold Oper.wp execOp
  simp only [ho, resolve, invoke, builtin, Sem.run_bind, Sem.run_pure, Result.andThen_ok, List.map_toArray, List.map_cons, List.map_nil, hs, hx, hrun]
  exact hK _ _ (h v' w' h2 h3)
end
end Go.Proofs.YtkkokngdhhakdaaDoor
namespace Go.Proofs.YtkkokngdhhakdaaDoor
open Go.RowKit

def isDig (x : UInt8) : Bool := decide (48 ≤ x.toNat ∧ x.toNat ≤ 57)

/-- The length that stands at the beginning, and how many digits it has; z: the first of them is a nought. -/
def lenFrom (z : Bool) (v d : Nat) : List UInt8 → Option (Nat × Nat)
  | [] => none
  | x :: r =>
    if isDig x = true then
      if 0 < d ∧ z = true then none
      else if 16384 < v * 10 + (x.toNat - 48) then none
      else lenFrom z (v * 10 + (x.toNat - 48)) (d + 1) r
    else if d = 0 ∨ x.toNat ≠ 58 then none
    else some (v, d)

def headNought (l : List UInt8) : Bool := decide (l.head? = some 48)
def rowLen (l : List UInt8) : Option (Nat × Nat) := lenFrom (headNought l) 0 0 l

/-- The row at the beginning, and what is behind it. -/
def takeL (l : List UInt8) : Option (List UInt8 × List UInt8) :=
  match rowLen l with
  | none => none
  | some (v, d) => if (l.drop (d + 1 + v)).head? = some 44 then some ((l.drop (d + 1)).take v, l.drop (d + 1 + v + 1)) else none

/-- What stands behind digits. -/
theorem lenFrom_digits (z : Bool) : ∀ (ds : List UInt8) (v d : Nat) (r : List UInt8), (∀ x ∈ ds, isDig x = true) → (z = false ∨ (d = 0 ∧ ds.length ≤ 1) ∨ ds = []) →
    (∀ k, k ≤ ds.length → (ds.take k).foldl (fun a x => a * 10 + (x.toNat - 48)) v ≤ 16384) → lenFrom z v d (ds ++ r) = lenFrom z (ds.foldl (fun a x => a * 10 + (x.toNat - 48)) v) (d + ds.length) r
  | [], v, d, r, _, _, _ => by simp
  | x :: ds, v, d, r, hd, hz, hb => by
    have h1 := hb 1 (by simp)
    simp at h1
    rw [List.cons_append, lenFrom, if_pos (hd x (List.mem_cons_self ..)), if_neg (by rintro ⟨h0, rfl⟩; rcases hz with h | ⟨h, _⟩ | h; cases h; omega; cases h), if_neg (by omega),
      lenFrom_digits z ds _ (d + 1) r (fun y hy => hd y (List.mem_cons_of_mem _ hy))
        (by
          rcases hz with h | ⟨_, h⟩ | h
          · exact .inl h
          · right; right; simp at h; exact h
          · cases h)
        (fun k hk => by have := hb (k + 1) (by simp; omega); simpa using this)]
    simp [Nat.add_assoc, Nat.add_comm 1]

theorem dec_all_digits (u : Nat) : ∀ x ∈ Lib.decDigits u, isDig x = true := by
  induction u using Nat.strongRecOn with
  | _ u ih =>
    intro x hx
    by_cases h : u < 10
    · rw [Lib.decDigits, dif_pos h] at hx
      rw [List.mem_singleton.1 hx]
      simp [isDig, UInt8.toNat_ofNat']; omega
    · rw [Lib.decDigits, dif_neg h] at hx
      rcases List.mem_append.1 hx with hx | hx
      · exact ih _ (by omega) x hx
      · rw [List.mem_singleton.1 hx]
        simp [isDig, UInt8.toNat_ofNat']; omega

theorem dec_fold (u : Nat) : (Lib.decDigits u).foldl (fun a x => a * 10 + (x.toNat - 48)) 0 = u := by
  induction u using Nat.strongRecOn with
  | _ u ih =>
    by_cases h : u < 10
    · rw [Lib.decDigits, dif_pos h]
      simp [UInt8.toNat_ofNat']; omega
    · rw [Lib.decDigits, dif_neg h, List.foldl_append, ih _ (by omega)]
      simp [UInt8.toNat_ofNat']; omega

theorem fold_mono (ds : List UInt8) : ∀ (v k : Nat), (ds.take k).foldl (fun a x => a * 10 + (x.toNat - 48)) v ≤ ds.foldl (fun a x => a * 10 + (x.toNat - 48)) v := by
  induction ds with
  | nil => intro v k; simp
  | cons x ds ih =>
    intro v k
    cases k with
    | zero =>
      simp only [List.take_zero, List.foldl_nil, List.foldl_cons]
      have h0 := ih (v * 10 + (x.toNat - 48)) 0
      simp only [List.take_zero, List.foldl_nil] at h0
      omega
    | succ k => simpa using ih _ k

theorem dec_head (u : Nat) (h : 10 ≤ u) : headNought (Lib.decDigits u) = false ∧ Lib.decDigits u ≠ [] := by
  induction u using Nat.strongRecOn with
  | _ u ih =>
    rw [Lib.decDigits, dif_neg (by omega)]
    by_cases h2 : u / 10 < 10
    · rw [Lib.decDigits, dif_pos h2]
      refine ⟨?_, by simp⟩
      simp only [headNought, List.cons_append, List.head?_cons, Option.some.injEq, decide_eq_false_iff_not]
      intro e
      have := congrArg UInt8.toNat e
      rw [UInt8.toNat_ofNat'] at this
      simp at this
      omega
    · obtain ⟨h3, h4⟩ := ih (u / 10) (by omega) (by omega)
      refine ⟨?_, by simp⟩
      cases hd : Lib.decDigits (u / 10) with
      | nil => exact absurd hd h4
      | cons a t => rw [hd] at h3; simpa [headNought] using h3

theorem dec_ne (u : Nat) : Lib.decDigits u ≠ [] := by
  by_cases h : u < 10
  · rw [Lib.decDigits, dif_pos h]; simp
  · exact (dec_head u (by omega)).2

theorem netL_eq (l : List UInt8) : netL l = Lib.decDigits l.length ++ 58 :: (l ++ [44]) := by
  unfold netL Lib.itoa
  rw [if_neg (by omega)]
  simp

theorem rowLen_net (l r : List UInt8) (h : l.length ≤ 16384) : rowLen (netL l ++ r) = some (l.length, (Lib.decDigits l.length).length) := by
  have hfold := dec_fold l.length
  have hdig := dec_all_digits l.length
  have hne := dec_ne l.length
  have hz : headNought (Lib.decDigits l.length ++ 58 :: (l ++ [44]) ++ r) = false ∨ ((0 : Nat) = 0 ∧ (Lib.decDigits l.length).length ≤ 1) ∨ Lib.decDigits l.length = [] := by
    by_cases h10 : l.length < 10
    · right; left
      rw [Lib.decDigits, dif_pos h10]
      exact ⟨rfl, by simp⟩
    · left
      obtain ⟨h1, h2⟩ := dec_head l.length (by omega)
      cases hd : Lib.decDigits l.length with
      | nil => exact absurd hd h2
      | cons a t => rw [hd] at h1; simpa [headNought] using h1
  unfold rowLen
  rw [netL_eq]
  rw [show Lib.decDigits l.length ++ 58 :: (l ++ [44]) ++ r = Lib.decDigits l.length ++ (58 :: (l ++ [44] ++ r)) from by simp] at hz ⊢
  rw [lenFrom_digits _ _ 0 0 _ hdig hz (fun k _ => Nat.le_trans (fold_mono _ 0 k) (by rw [hfold]; exact h)), hfold, lenFrom, if_neg (by decide), if_neg, Nat.zero_add]
  rintro (h0 | h0)
  · rw [Nat.zero_add] at h0
    exact hne (List.eq_nil_of_length_eq_zero h0)
  · exact h0 rfl

theorem takeL_net (l r : List UInt8) (h : l.length ≤ 16384) : takeL (netL l ++ r) = some (l, r) := by
  unfold takeL
  rw [rowLen_net l r h, netL_eq]
  simp only
  have e1 : (Lib.decDigits l.length ++ 58 :: (l ++ [44]) ++ r) = (Lib.decDigits l.length ++ [58]) ++ (l ++ (44 :: r)) := by simp
  have l1 : (Lib.decDigits l.length ++ [58]).length = (Lib.decDigits l.length).length + 1 := by simp
  have d1 : ((Lib.decDigits l.length ++ [58]) ++ (l ++ (44 :: r))).drop ((Lib.decDigits l.length).length + 1) = l ++ (44 :: r) := by
    rw [← l1]; exact List.drop_left
  have d2 : ((Lib.decDigits l.length ++ [58]) ++ (l ++ (44 :: r))).drop ((Lib.decDigits l.length).length + 1 + l.length) = 44 :: r := by
    rw [← List.drop_drop, d1]; exact List.drop_left
  have d3 : ((Lib.decDigits l.length ++ [58]) ++ (l ++ (44 :: r))).drop ((Lib.decDigits l.length).length + 1 + l.length + 1) = r := by
    rw [← List.drop_drop, d2]; rfl
  rw [e1, d2, d3, d1, List.take_left]
  simp

theorem netsL_cons (l : List UInt8) (ls : List (List UInt8)) : netsL (l :: ls) = netL l ++ netsL ls := by simp [netsL]

theorem netL_ne (l : List UInt8) : netL l ≠ [] := by rw [netL_eq]; simp

theorem netsL_inj : ∀ {a b : List (List UInt8)}, (∀ r ∈ a, r.length ≤ 1000) → (∀ r ∈ b, r.length ≤ 1000) → netsL a = netsL b → a = b
  | [], [], _, _, _ => rfl
  | [], y :: b, _, _, e => by
    rw [netsL_cons] at e
    have : netL y = [] := (List.append_eq_nil_iff.1 (show netL y ++ netsL b = [] from e.symm)).1
    exact absurd this (netL_ne y)
  | x :: a, [], _, _, e => by
    rw [netsL_cons] at e
    have : netL x = [] := (List.append_eq_nil_iff.1 (show netL x ++ netsL a = [] from e)).1
    exact absurd this (netL_ne x)
  | x :: a, y :: b, ha, hb, e => by
    rw [netsL_cons, netsL_cons] at e
    have h1 := takeL_net x (netsL a) (by have := ha x (List.mem_cons_self ..); omega)
    rw [e, takeL_net y (netsL b) (by have := hb y (List.mem_cons_self ..); omega)] at h1
    simp only [Option.some.injEq, Prod.mk.injEq] at h1
    rw [h1.1, netsL_inj (fun r hr => ha r (List.mem_cons_of_mem _ hr)) (fun r hr => hb r (List.mem_cons_of_mem _ hr)) h1.2.symm]
end Go.Proofs.YtkkokngdhhakdaaDoor
namespace Go.Proofs.YtkkokngdhhakdaaDoor
open Go.RowKit

def lenV : Option (Nat × Nat) → Nat
  | none => 0
  | some x => x.1
def lenS : Option (Nat × Nat) → Nat
  | none => 0
  | some x => x.2 + 1

theorem lenFrom_first {z : Bool} {v d : Nat} {x : UInt8} {r : List UInt8} (h : isDig x = true) (h0 : 0 < d) (hz : z = true) : lenFrom z v d (x :: r) = none := by
  rw [lenFrom, if_pos h, if_pos ⟨h0, hz⟩]
theorem lenFrom_great {z : Bool} {v d : Nat} {x : UInt8} {r : List UInt8} (h : isDig x = true) (h0 : ¬ (0 < d ∧ z = true)) (hv : 16384 < v * 10 + (x.toNat - 48)) : lenFrom z v d (x :: r) = none := by
  rw [lenFrom, if_pos h, if_neg h0, if_pos hv]
theorem lenFrom_on {z : Bool} {v d : Nat} {x : UInt8} {r : List UInt8} (h : isDig x = true) (h0 : ¬ (0 < d ∧ z = true)) (hv : ¬ 16384 < v * 10 + (x.toNat - 48)) : lenFrom z v d (x :: r) = lenFrom z (v * 10 + (x.toNat - 48)) (d + 1) r := by
  rw [lenFrom, if_pos h, if_neg h0, if_neg hv]
theorem lenFrom_no {z : Bool} {v d : Nat} {x : UInt8} {r : List UInt8} (h : ¬ isDig x = true) (h0 : d = 0 ∨ x.toNat ≠ 58) : lenFrom z v d (x :: r) = none := by
  rw [lenFrom, if_neg h, if_pos h0]
theorem lenFrom_yes {z : Bool} {v d : Nat} {x : UInt8} {r : List UInt8} (h : ¬ isDig x = true) (h0 : ¬ (d = 0 ∨ x.toNat ≠ 58)) : lenFrom z v d (x :: r) = some (v, d) := by
  rw [lenFrom, if_neg h, if_neg h0]

end Go.Proofs.YtkkokngdhhakdaaDoor
namespace Go.Proofs.YtkkokngdhhakdaaDoor
open Go.RowKit

def tItem : Option (List UInt8 × List UInt8) → List UInt8
  | none => []
  | some x => x.1
def tRest : Option (List UInt8 × List UInt8) → List UInt8
  | none => []
  | some x => x.2

theorem lenFrom_range (z : Bool) : ∀ (r : List UInt8) (v0 d0 v d : Nat), v0 ≤ 16384 → lenFrom z v0 d0 r = some (v, d) → d < d0 + r.length ∧ v ≤ 16384
  | [], _, _, _, _, _, e => by cases e
  | x :: r, v0, d0, v, d, h0, e => by
    rw [lenFrom] at e
    by_cases h1 : isDig x = true
    · rw [if_pos h1] at e
      by_cases h2 : 0 < d0 ∧ z = true
      · rw [if_pos h2] at e; cases e
      · rw [if_neg h2] at e
        by_cases h3 : 16384 < v0 * 10 + (x.toNat - 48)
        · rw [if_pos h3] at e; cases e
        · rw [if_neg h3] at e
          have := lenFrom_range z r _ _ _ _ (by omega) e
          simp only [List.length_cons]
          omega
    · rw [if_neg h1] at e
      by_cases h2 : d0 = 0 ∨ x.toNat ≠ 58
      · rw [if_pos h2] at e; cases e
      · rw [if_neg h2] at e
        simp only [Option.some.injEq, Prod.mk.injEq] at e
        simp only [List.length_cons]
        omega
theorem rowLen_range {l : List UInt8} {v d : Nat} (e : rowLen l = some (v, d)) : d < l.length ∧ v ≤ 16384 := by
  have := lenFrom_range _ _ _ _ _ _ (by omega) e
  omega

theorem takeL_none {l : List UInt8} (e : rowLen l = none) : takeL l = none := by unfold takeL; rw [e]
theorem takeL_short {l : List UInt8} {v d : Nat} (e : rowLen l = some (v, d)) (h : l.length ≤ d + 1 + v) : takeL l = none := by
  unfold takeL; rw [e]; simp only
  rw [List.drop_of_length_le h]; rfl
theorem takeL_other {l : List UInt8} {v d : Nat} (e : rowLen l = some (v, d)) (h : d + 1 + v < l.length) (hx : l[d + 1 + v].toNat ≠ 44) : takeL l = none := by
  unfold takeL; rw [e]; simp only
  rw [List.drop_eq_getElem_cons h, List.head?_cons, if_neg]
  intro he
  injection he with he
  exact hx (by rw [he]; rfl)
theorem takeL_some {l : List UInt8} {v d : Nat} (e : rowLen l = some (v, d)) (h : d + 1 + v < l.length) (hx : l[d + 1 + v].toNat = 44) : takeL l = some ((l.drop (d + 1)).take v, l.drop (d + 1 + v + 1)) := by
  unfold takeL; rw [e]; simp only
  rw [List.drop_eq_getElem_cons h, List.head?_cons, if_pos]
  congr 1
  exact UInt8.toNat_inj.1 hx

theorem ret_cut {A1 A2 : Option Addr} {c1 c2 n1 n2 m1 m2 : Nat} (h1 : n1 = m1) (h2 : n2 = m2) :
    Ending.returned (.tuple #[.slice A1 n1 c1, .slice A2 n2 c2, .bool true]) = Ending.returned (.tuple #[.slice A1 m1 c1, .slice A2 m2 c2, .bool true]) := by rw [h1, h2]

end Go.Proofs.YtkkokngdhhakdaaDoor
