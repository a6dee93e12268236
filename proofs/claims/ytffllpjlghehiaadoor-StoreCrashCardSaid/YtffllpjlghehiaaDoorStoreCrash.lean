/- StoreCrash: wherever the disk stops in a put, that name has the elder data or the new ones behind it; all other names are as they were. For all texts, at every stop. -/
import Derived.Test.YtffllpjlghehiaaDoorLaw
import Derived.Test.YtffllpjlghehiaaDoorLaw11B
import Derived.Test.YtffllpjlghehiaaDoorSix
import Derived.Deep.CutRange
import Derived.Maps.StringElems
import Derived.ChangeMaps5
namespace Go.Proofs.YtffllpjlghehiaaDoor
open Go.ChangeShapes Go.WideShapes Go.ChangeAt Go.RowKit Go.Deep Go.Maps

theorem cellsTxt : Tryd.prog.cellsOf 9 = 1 := by kernel_rfl
set_option maxRecDepth 100000 in
theorem open_names {H : Type} {enc : TypeId × Value → H} {W : World} {r : Reach} {base : Nat} {v : Value} {d : DataW H} {p : List MemPlace} (hval : Value.okWide Tryd.prog W r base 38 v) (h : DataW.Trod enc Tryd.prog W 0 (fun _ => true) true 38 v d p) :
    ∃ A n c ls, v = .slice A n c ∧ ls.length = n ∧ n ≤ c ∧ c ≤ maxLen ∧ RdS W W.heap.size A ls := by
  obtain ⟨a0, len, cap, rfl⟩ := okWide_slice Tryd.underlying38 hval
  obtain ⟨fuel, hf⟩ := h
  rcases open_slice Tryd.underlying38 hf with ⟨hcs, _⟩ | ⟨a, len', cap', m, n, D, Pl, hcs, _, hl, hm, hmm, _, hx⟩
  · simp [Value.cells] at hcs
    obtain ⟨rfl, rfl, rfl⟩ := hcs
    exact ⟨none, 0, 0, [], rfl, rfl, Nat.le_refl _, Nat.zero_le _, .inl rfl⟩
  · simp [Value.cells] at hcs hmm
    obtain ⟨rfl, rfl, rfl⟩ := hcs
    subst hmm
    have each : ∀ i, ∃ x : Name, i < m → W.cell? (a.add (i * 1)) = some (.string ⟨x.toArray⟩) := by
      intro i
      by_cases hi : i < m
      · obtain ⟨cs, h1, h2⟩ := hx i hi
        rw [cellsTxt] at h1
        obtain ⟨_, hlen, hcell⟩ := World.cells?_some h1
        obtain ⟨s, rfl, _, _⟩ := DataW.trod_string Tryd.underlying9 h2
        refine ⟨s.data.toList, fun _ => ?_⟩
        have := hcell 0 (by omega)
        rw [show (a.add (i * 1)).add 0 = a.add (i * 1) from rfl] at this
        rw [this]
        rfl
      · exact ⟨[], fun h => absurd h hi⟩
    obtain ⟨f, hf'⟩ := Classical.axiomOfChoice each
    refine ⟨some a, len, m, (List.range len).map f, rfl, by simp, hl, hm, ?_⟩
    rcases Nat.eq_zero_or_pos len with h0 | hp
    · subst h0; exact .inl rfl
    · obtain ⟨b, off, spot⟩ := a
      have hc1 := hf' 0 (by omega)
      have hspot : spot = none := by simpa [Addr.add] using World.cell?_spot hc1
      subst hspot
      refine .inr ⟨b, off, rfl, World.block_lt_of_cell? W _ hc1, fun i hi => ?_⟩
      have hi' : i < len := by simpa using hi
      have h1 := hf' i (by omega)
      rw [List.getElem_map, List.getElem_range, ← h1, Go.WideShapes.add_plain, Nat.mul_one]

/-- The map says what the store holds. -/
structure MapIs (D : DataW Unit) (L : List (Rec11 × Nat)) : Prop where
  tidy : Go.Maps.Tidy D
  size : Maps.size D = L.length
  has_ : ∀ nm, has D (.string nm) = (oldE L nm).isSome
  at_ : ∀ nm x, oldE L nm = some x → ∀ z, D.atKey (.string nm) z = .lit (.string x.1.data)
theorem MapIs.zero : MapIs (.map []) [] := ⟨tidy_empty, rfl, fun _ => rfl, fun _ _ h => by cases h⟩
theorem MapIs.put {D : DataW Unit} {L : List (Rec11 × Nat)} (h : MapIs D L) (hr : Rising L) (name data : List UInt8) (j : Nat) : MapIs (D.put (.string name) (.lit (.string data))) (putE L (Sto.newR ⟨L, false⟩ name data, j)) := by
  have hk : WideAt.IsKeyLit (.string name) := by trivial
  have hr' : Rising (Sto.l ⟨L, false⟩) := hr
  refine ⟨h.tidy.put hk _, ?_, fun m => ?_, fun m x hx z => ?_⟩
  · rw [size_put h.tidy, h.has_ name, h.size]
    cases ho : oldE L name with
    | none =>
      rw [if_neg (by simp)]
      exact (told_len (t := ⟨L, false⟩) name data j ho).symm
    | some x =>
      rw [if_pos (show (some x).isSome = true from rfl)]
      obtain ⟨h1, h2⟩ := oldE_some ho
      have := congrArg List.length (putE_names_old (l := L) (Sto.newR ⟨L, false⟩ name data, j) hr ⟨x, h1, h2⟩)
      rw [List.length_map, List.length_map] at this
      exact this.symm
  · by_cases e : m = name
    · subst e
      rw [has_put_same h.tidy.isMap hk]
      exact ((told_isSome (t := ⟨L, false⟩) hr' m data j m).2 (.inl rfl)).symm
    · rw [has_put_other (by simpa using e), get_put_other (t := ⟨L, false⟩) hr' name data j e]
      exact h.has_ m
  · by_cases e : m = name
    · subst e
      have := told_same (t := ⟨L, false⟩) hr' m data j
      rw [show oldE (putE (Sto.l ⟨L, false⟩) (Sto.newR ⟨L, false⟩ m data, j)) m = some x from hx] at this
      have e2 : x.1.data = data := Option.some.inj this
      rw [atKey_put_same h.tidy.isMap hk, e2]
    · rw [atKey_put_other (by simpa using e)]
      rw [get_put_other (t := ⟨L, false⟩) hr' name data j e] at hx
      exact h.at_ m x hx z
theorem zeroT (w : World) : (zeroValue 9).run Tryd.prog w = .ok (.string ⟨#[]⟩) w := by kernel_rfl
theorem key_str {nm : List UInt8} (h : nm.length ≤ maxLen) : keyOf Tryd.prog 9 (.string ⟨nm.toArray⟩) = some (.string nm) := by
  have := Go.WideMaps.keyOf_string_mk Tryd.underlying9 (s := ⟨nm.toArray⟩) (by show nm.toArray.size ≤ maxLen; simpa using h)
  simpa using this
/-- What the map tells of a name. -/
theorem look_str {w : World} {b n : Nat} {D : DataW Unit} {L : List (Rec11 × Nat)} (h : w.ownsMap Tryd.prog 9 (plainElem Tryd.prog 9) b n D) (hm : MapIs D L) {nm : List UInt8} (hn : nm.length ≤ maxLen) :
    (Instr.lookup 61 (.map (some b)) (.string ⟨nm.toArray⟩) true).run Tryd.prog w = .ok (.tuple #[.string ⟨(((oldE L nm).map (·.1.data)).getD []).toArray⟩, .bool (oldE L nm).isSome]) w := by
  obtain ⟨v, ps, hrun, hv⟩ := h.look_ok (t := 61) keyS Tryd.underlying61 (zeroT w) (zd := .lit (.string [])) (zp := []) (plainElem_string Tryd.underlying9 (s := ⟨#[]⟩) (by unfold maxLen; simp [ByteArray.size])) (key_str hn)
  obtain ⟨s, rfl, hs, _⟩ := plainElem_string_inv Tryd.underlying9 hv
  rw [hrun, hm.has_ nm]
  have hs' := congrArg Prod.fst hs
  dsimp only at hs'
  cases ho : oldE L nm with
  | none =>
    rw [atKey_of_not_has (by rw [hm.has_ nm, ho]; rfl)] at hs'
    have hs' : [] = s.data.toList := Lit.string.inj (DataW.lit.inj hs')
    have e : s = ⟨#[]⟩ := by
      apply ByteArray.ext
      apply Array.toList_inj.1
      exact hs'.symm
    rw [e, Option.map_none, Option.getD_none]
  | some x =>
    rw [hm.at_ nm x ho] at hs'
    have hs' : x.1.data = s.data.toList := Lit.string.inj (DataW.lit.inj hs')
    have e : s = ⟨x.1.data.toArray⟩ := by
      apply ByteArray.ext
      apply Array.toList_inj.1
      rw [← hs']
    rw [e, Option.map_some, Option.getD_some]
theorem wpList_lookup_eq {P : Program} (w : World) {ops : Array Oper} {rest : List Oper} {o : Oper} {a : Act} {Q : Exit → Act → World → Prop} (hg : o.guard = none) (m x : Operand) (t : TypeId) (hop : o.op = Op.lookup t m x true) {v : Value}
    (hrun : (Instr.lookup t (a.eval m) (a.eval x) true).run P w = .ok v w) (hK : wpList P ops Q rest (a.put o.dst v) w) : wpList P ops Q (o :: rest) a w := by
  refine wpList_plain hg fun K' hK' => ?_
  unfold Oper.wp
  simp [execOp, hop, hrun, Result.andThen]
  exact hK' _ _ hK
theorem ST.chg {S : Nat → Prop} {w w' : World} {q p g b c : Nat} {s : Dsk} {R n m : Nat} {t : Sto} (h : ST w q p g b c s R n m t) (hc : Chg S w w') (hS : ∀ k, fourS q p g b k → ¬ S k) : ST w' q p g b c s R n m t :=
  ⟨h.sp.chg hc (hS _ (.inl rfl)) (hS _ (.inr (.inl rfl))) (hS _ (.inr (.inr (.inl rfl)))) (hS _ (.inr (.inr (.inr rfl)))), Nat.lt_of_lt_of_le h.bl hc.size, h.good, h.live⟩
theorem putE_le (L : List (Rec11 × Nat)) (hr : Rising L) (name data : List UInt8) (j : Nat) : (putE L (Sto.newR ⟨L, false⟩ name data, j)).length ≤ L.length + 1 := by
  cases ho : oldE L name with
  | none => exact Nat.le_of_eq (told_len (t := ⟨L, false⟩) name data j ho)
  | some x =>
    obtain ⟨h1, h2⟩ := oldE_some ho
    have := congrArg List.length (putE_names_old (l := L) (Sto.newR ⟨L, false⟩ name data, j) hr ⟨x, h1, h2⟩)
    rw [List.length_map, List.length_map] at this
    omega
theorem extract_take (name : List UInt8) (k : Nat) : (⟨name.toArray⟩ : ByteArray).extract 0 k = ⟨(name.take k).toArray⟩ := by
  apply ByteArray.ext
  rw [ByteArray.data_extract]
  simp
set_option maxHeartbeats 400000 in
/-- A text cut. -/
theorem cutText_any (name : List UInt8) (k : Nat) (w : World) (hk : k ≤ 1000) :
    Calls Tryd.prog 11 #[.string ⟨name.toArray⟩, .int .i64 (k : Int)] w fun e w' => e = .returned (.string ⟨(name.take k).toArray⟩) ∧ w = w' := by
  have hs : (⟨name.toArray⟩ : ByteArray).size = name.length := by simp [ByteArray.size]
  have HX := Lib.hid (extract_take name)
  by_cases hle : name.length ≤ k
  · have HE := Lib.hid (show name.take k = name.take name.length by rw [List.take_of_length_le hle, List.take_of_length_le (Nat.le_refl _)])
    go_enter Tryd.func11, Tryd.ntmps11
    go_wp2_with fail
    go_ret
    refine ⟨?_, rfl⟩
    have hm : (min (name.length : Int) (k : Int)).toNat = name.length := by omega
    show Ending.returned (Value.string ((⟨name.toArray⟩ : ByteArray).extract 0 (min (name.length : Int) (k : Int)).toNat)) = _
    rw [hm, HX.out, HE.out]
  · go_enter Tryd.func11, Tryd.ntmps11
    go_wp2_with fail
    go_ret
    refine ⟨?_, rfl⟩
    have hm : (min (name.length : Int) (k : Int)).toNat = k := by omega
    show Ending.returned (Value.string ((⟨name.toArray⟩ : ByteArray).extract 0 (min (name.length : Int) (k : Int)).toNat)) = _
    rw [hm, HX.out]
end Go.Proofs.YtffllpjlghehiaaDoor
namespace Go.Proofs.YtffllpjlghehiaaDoor.storeCrash
open Go.ChangeShapes Go.WideShapes Go.ChangeAt Go.RowKit Go.Maps

/-- What is told of the name itself. -/
theorem crash_new {t : Sto} {L : List (Rec11 × Nat)} {K : Int} {nm da : List UInt8} (hT : Told t L nm (some da) K) {ok : Bool} {d0 : List UInt8} {od : Option (List UInt8)} (hg : Sto.get ⟨L, false⟩ nm = if ok = true then some d0 else none) (ho : (oldE t.l nm).map (·.1.data) = od) :
    (ok && (d0 == da)) = true ∨ (K = 8 ∧ ok = od.isSome ∧ (ok = true → d0 = od.getD [])) := by
  unfold Sto.get at hg
  rw [if_neg (by simp)] at hg
  have hg' : (oldE L nm).map (·.1.data) = if ok = true then some d0 else none := hg
  rcases hT.this with h | ⟨h1, h⟩
  · left
    rw [hg'] at h
    cases ok with
    | false => simp at h
    | true => simp at h; simp [h]
  · right
    rw [h, ho] at hg'
    refine ⟨h1, ?_, ?_⟩
    · rw [hg']; cases ok <;> rfl
    · intro hok
      rw [hg', if_pos hok]
      rfl
/-- What a name of a store's has. -/
theorem get_name {s : Dsk} {R n m : Nat} {L : List (Rec11 × Nat)} (h : Live ⟨L, false⟩ s R n m) (hR : R ≤ 1024) (k : Nat) (hk : k < (Sto.names ⟨L, false⟩).length) : ∃ x, oldE L (Sto.names ⟨L, false⟩)[k] = some x ∧ x.1.data.length ≤ maxLen ∧ (Sto.names ⟨L, false⟩)[k].length ≤ maxLen := by
  have hm := List.getElem_mem hk
  generalize (Sto.names ⟨L, false⟩)[k] = nm at *
  have hm' : nm ∈ L.map (·.1.name) := hm
  obtain ⟨x, hx, rfl⟩ := List.mem_map.1 hm'
  have hb := (h.clean.1.1.2 x).1 hx
  have h2 := slot_name h.good.geo hb.1 hb.2.1
  refine ⟨x, oldE_of h.rising hx, ?_, ?_⟩
  · unfold maxLen
    omega
  · unfold maxLen
    omega
theorem get_of {L : List (Rec11 × Nat)} {nm : List UInt8} {x : Rec11 × Nat} (h : oldE L nm = some x) : Sto.get ⟨L, false⟩ nm = some x.1.data := by
  unfold Sto.get
  rw [if_neg (by simp)]
  show (oldE L nm).map _ = _
  rw [h]
  rfl
/-- How many of the first k names are other names. -/
def cntN (ls : List Name) (nm : Name) (k : Nat) : Nat := ((ls.take k).filter fun x => decide (x ≠ nm)).length
theorem cntN_same {ls : List Name} {nm : Name} {k : Nat} (hk : k < ls.length) (h : ls[k] = nm) : cntN ls nm (k + 1) = cntN ls nm k := by
  unfold cntN
  rw [List.take_succ_eq_append_getElem hk, List.filter_append, List.filter_cons_of_neg (by simp [h]), List.filter_nil, List.append_nil]
theorem cntN_other {ls : List Name} {nm : Name} {k : Nat} (hk : k < ls.length) (h : ls[k] ≠ nm) : cntN ls nm (k + 1) = cntN ls nm k + 1 := by
  unfold cntN
  rw [List.take_succ_eq_append_getElem hk, List.filter_append, List.filter_cons_of_pos (by simp [h]), List.filter_nil, List.length_append]
  rfl
theorem cntN_le (ls : List Name) (nm : Name) (k : Nat) : cntN ls nm k ≤ k := by
  unfold cntN
  have h1 := List.length_filter_le (fun x => decide (x ≠ nm)) (ls.take k)
  have h2 := List.length_take_le k ls
  omega
theorem cntN_all (L : List (Rec11 × Nat)) (nm : Name) : cntN (L.map (·.1.name)) nm (L.map (·.1.name)).length = (others L nm).length := by
  unfold cntN others
  rw [List.take_length, List.filter_map, List.length_map]
  rfl
theorem row_at {w : World} {A : Option Addr} {ls : List (List UInt8)} (h : RdR w w.heap.size A ls) {j : Nat} (hj : j < ls.length) :
    ∃ (b o : Nat) (A' : Option Addr) (c M : Nat) (bs : List UInt8), A = some ⟨b, o, none⟩ ∧ b < w.heap.size ∧ w.cell? ⟨b, o + j, none⟩ = some (.slice A' M c) ∧ bs.length = M ∧ M ≤ c ∧ c ≤ maxLen ∧ Rd w w.heap.size A' bs := by
  rcases h with rfl | ⟨b, o, e, hb, hc⟩
  · simp at hj
  · obtain ⟨A', c, h1, h2, h3, h4⟩ := hc j hj
    exact ⟨b, o, A', c, _, _, e, hb, h1, rfl, h2, h3, h4⟩

set_option maxRecDepth 100000 in
set_option maxHeartbeats 16000000 in
theorem walk (A : Option Addr) (na ca : Nat) (la : List Name) (B : Option Addr) (nb cb : Nat) (lb : List (List UInt8)) (S : ByteArray) (C : Option Addr) (nc cc : Nat) (lc : List UInt8) (at_ keep : Int) (w : World) (hna : la.length = na) (hra : RdS w w.heap.size A la) (hnb : lb.length = nb) (hrb : RdR w w.heap.size B lb) (hnc : lc.length = nc) (hcc : nc ≤ cc) (hmc : cc ≤ maxLen) (hrc : Rd w w.heap.size C lc) (a0 : -9223372036854775808 ≤ at_) (a1 : at_ ≤ 9223372036854775807) (htab : Pow10 w.heap.size w) :
    Calls Tryd.prog 7 #[.slice A na ca, .slice B nb cb, .string S, .slice C nc cc, .int .i64 at_, .int .i64 keep] w fun e w' => e = .returned (.bool true) ∧ Below w.heap.size w w' := by
  obtain ⟨name, rfl⟩ : ∃ l : List UInt8, S = ⟨l.toArray⟩ := ⟨S.data.toList, by rfl⟩
  have hmm := @run_makeMap Tryd.prog
  have HT := Lib.hid htab
  have HNA := Lib.hid hna
  have HRA := Lib.hid hra
  have HNB := Lib.hid hnb
  have HRB := Lib.hid hrb
  have hr9 := withinI_range at_ 9 (by omega)
  obtain ⟨v9, hv9⟩ : ∃ v, withinI at_ 9 = v := ⟨_, rfl⟩
  rw [hv9] at hr9
  have HW9 := Lib.hid (fun W => (show Calls Tryd.prog 13 #[.int .i64 at_, .int .i64 9] W fun e w' => e = .returned (.int .i64 v9) ∧ W = w' from by rw [← hv9]; exact within_any at_ 9 W (by omega) (by omega) (by omega)))
  have HCN := Lib.hid (fun W => (show Calls Tryd.prog 11 #[.string ⟨name.toArray⟩, .int .i64 20] W fun e w' => e = .returned (.string ⟨(name.take 20).toArray⟩) ∧ W = w' from cutText_any name 20 W (by omega)))
  obtain ⟨kc, hkc⟩ : ∃ k, min nc 120 = k := ⟨_, rfl⟩
  have HCD := Lib.hid (fun W => (show Calls Tryd.prog 12 #[.slice C nc cc, .int .i64 120] W fun e w' => e = .returned (.slice C kc cc) ∧ W = w' from by rw [← hkc]; exact cut_any C nc cc 120 W hcc))
  obtain ⟨nm, hnm⟩ : ∃ nm : List UInt8, name.take 20 = nm := ⟨_, rfl⟩
  rw [hnm] at HCN
  have hnm20 : nm.length ≤ 20 := by rw [← hnm, List.length_take]; omega
  obtain ⟨da, hda⟩ : ∃ da : List UInt8, lc.take kc = da := ⟨_, rfl⟩
  have HDL := Lib.hid (show da.length = kc by rw [← hda, List.length_take]; omega)
  have HRD := Lib.hid (show Rd w w.heap.size C da by rw [← hda]; exact hrc.take kc)
  have hkc1 : kc ≤ cc := by omega
  have hkc2 : kc ≤ 120 := by omega
  clear htab hna hra hnb hrb hv9 a0 a1 hnm hda hkc hrc hnc hcc
  go_enter Tryd.func7, Tryd.ntmps7
  go_wp2_with fail
  with_reducible refine (pnew_at 42 42 rfl w (by omega) (by omega)).mono ?_
  rintro e w1 ⟨p, rfl, hp, g, hg, D1, hb1⟩
  have HD1 := Lib.hid (show DP w1 p g (6 * (6 + 1)) 42 (newD (6 * (6 + 1))) from D1)
  clear D1
  go_wp2_with fail
  with_reducible refine (open_re HD1.out (by omega) (by omega) (new_re 6 6) rfl (i := 6) (j := 6) rfl rfl).mono ?_
  rintro e w2 ⟨q, b, rfl, hq, hb, S2, L2, C2⟩
  rw [new_same] at S2 L2
  have hbl2 := hb1.trans (C2.below hb1.size (two_ge hp hg))
  have HS2 := Lib.hid S2
  have HL2 := Lib.hid L2
  have hq' : w.heap.size ≤ q := Nat.le_trans hb1.size hq
  have hb' : w.heap.size ≤ b := Nat.le_trans hb1.size hb
  have HB2 := Lib.hid hbl2
  have HFS := Lib.hid (fourS_ge hq' hp hg hb')
  have HTW := Lib.hid (two_ge hp hg)
  clear S2 L2 C2 HD1 hb1 hq hb hbl2 hq' hb' hp hg
  go_wp2_with fail
  have hmb : Below w2.heap.size w2 (w2.alloc (.map #[] 0)) := (Below.refl _ _).alloc (Nat.le_refl _) _
  have HS3 := Lib.hid (HS2.out.below hmb)
  have HB3 := Lib.hid (HB2.out.trans (hmb.mono HB2.out.size))
  have HM3 := Lib.hid (show (w2.alloc (.map #[] 0)).ownsMap Tryd.prog 9 (plainElem Tryd.prog 9) w2.heap.size 0 (.map [] : DataW Unit) from World.ownsMap_made _ _ _ _)
  have HFM := Lib.hid (show ∀ k, fourS q p g b k → ¬ (k = w2.heap.size) from fun k h e => by
    have h2 := HS2.out.sp.disk.head.lt
    have h3 := HS2.out.sp.disk.body.lt
    have h4 := HS2.out.bl
    have h5 := World.block_lt_of_cell? _ _ HS2.out.sp.cells.1
    dsimp only at h5
    rcases h with rfl | rfl | rfl | rfl <;> omega)
  have HGM := Lib.hid (HB2.out.size)
  clear hmb HS2 HB2
  obtain ⟨bm, hbm⟩ : ∃ bm, w2.heap.size = bm := ⟨_, rfl⟩
  rw [hbm] at HM3 HFM HGM ⊢
  generalize w2.alloc (.map #[] 0) = w3 at *
  clear hbm
  go_wp2_with fail
  go_loopw [18] (fun t wr => ∃ (j : Nat) (s : Dsk) (L : List (Rec11 × Nat)) (D : DataW Unit), j ≤ 4 ∧ t = .int .i64 j ∧ Hid (ST wr q p g b 42 s 6 6 j ⟨L, false⟩) ∧ Hid (Live ⟨L, false⟩ s 6 6 j) ∧ Hid (L.length ≤ j) ∧ Hid (wr.ownsMap Tryd.prog 9 (plainElem Tryd.prog 9) bm j D) ∧ Hid (MapIs D L) ∧ Hid (Below w.heap.size w wr)) (fun t _ => 4 - (intOf t).toNat)
  case atStart => exact ⟨0, _, [], _, by omega, rfl, HS3, HL2, Lib.hid (Nat.le_refl _), HM3, Lib.hid MapIs.zero, HB3⟩
  case round =>
    obtain ⟨j, s, L, D, hj4, rfl, HS, HL, HLL, HM, HI, HB⟩ := hrel
    clear HS3 HL2 HM3 HB3
    go_upto_region 9 with fail
    go_cut [66] from 53 to 66 (fun c wx => c = .bool (decide (j < na ∧ j < nb ∧ j < 4)) ∧ wr = wx)
    case first =>
      by_cases hlt1 : j < na
      · by_cases hlt2 : j < nb
        · by_cases hlt3 : j < 4
          · have hlt4 : (j : Int) < 4 := by omega
            go_wp2_with fail
            go_meet
            case rel => exact ⟨by rw [decide_eq_true (show j < na ∧ j < nb ∧ j < 4 from ⟨hlt1, hlt2, hlt3⟩)], rfl⟩
          · have hlt4 : ¬ (j : Int) < 4 := by omega
            go_wp2_with fail
            go_meet
            case rel => exact ⟨by rw [decide_eq_false (show ¬ (j < na ∧ j < nb ∧ j < 4) from fun h => hlt3 h.2.2)], rfl⟩
        · have hlt4 : ¬ (j : Int) < (nb : Int) := by omega
          go_wp2_with fail
          go_meet
          case rel => exact ⟨by rw [decide_eq_false (show ¬ (j < na ∧ j < nb ∧ j < 4) from fun h => hlt2 h.2.1)], rfl⟩
      · have hlt4 : ¬ (j : Int) < (na : Int) := by omega
        go_wp2_with fail
        go_meet
        case rel => exact ⟨by rw [decide_eq_false (show ¬ (j < na ∧ j < nb ∧ j < 4) from fun h => hlt1 h.1)], rfl⟩
    case rest =>
      obtain ⟨rfl, rfl⟩ := hcut
      by_cases hlt : j < na ∧ j < nb ∧ j < 4
      · rw [decide_eq_true hlt]
        obtain ⟨hlt1, hlt2, hlt3⟩ := hlt
        obtain ⟨b1, o1, hA, hbb1, hc1⟩ := HRA.out.at_ (k := j) (by rw [HNA.out]; exact hlt1)
        obtain ⟨b2, o2, A', cB, M, bs, hB, hbb2, hc2, hM, hcB, hmB, hRd⟩ := row_at HRB.out (j := j) (by rw [HNB.out]; exact hlt2)
        subst hA hB
        obtain ⟨n1, hn1⟩ : ∃ n1 : Name, la[j]'(by rw [HNA.out]; exact hlt1) = n1 := ⟨_, rfl⟩
        rw [hn1] at hc1
        have hcell : ∀ {W : World}, Below wr.heap.size wr W → ∀ x k v, x < w.heap.size → w.cell? ⟨x, k, none⟩ = some v → W.cell? ⟨x, k, none⟩ = some v := fun {W} hB x k v hx hc => by
          exact ((HB.out.trans (hB.mono HB.out.size)).cell (p := ⟨x, k, none⟩) hx).trans hc
        have HKEEP := Lib.hid (fun (W : World) (h : Below wr.heap.size wr W) => (show W.cell? ⟨b1, o1 + j, none⟩ = some (.string ⟨n1.toArray⟩) ∧ W.cell? ⟨b2, o2 + j, none⟩ = some (.slice A' M cB) ∧ Below wr.heap.size wr W from ⟨hcell h _ _ _ hbb1 hc1, hcell h _ _ _ hbb2 hc2, h⟩))
        have HCT := Lib.hid (fun W => (show Calls Tryd.prog 11 #[.string ⟨n1.toArray⟩, .int .i64 20] W fun e w' => e = .returned (.string ⟨(n1.take 20).toArray⟩) ∧ W = w' from cutText_any n1 20 W (by omega)))
        obtain ⟨k, hk⟩ : ∃ k, min M 120 = k := ⟨_, rfl⟩
        have HCB := Lib.hid (fun W => (show Calls Tryd.prog 12 #[.slice A' M cB, .int .i64 120] W fun e w' => e = .returned (.slice A' k cB) ∧ W = w' from by rw [← hk]; exact cut_any A' M cB 120 W hcB))
        obtain ⟨n2, hn2⟩ : ∃ n2 : List UInt8, n1.take 20 = n2 := ⟨_, rfl⟩
        have hn20 : n2.length ≤ 20 := by rw [← hn2, List.length_take]; omega
        obtain ⟨d2, hd2⟩ : ∃ d2 : List UInt8, bs.take k = d2 := ⟨_, rfl⟩
        have HBL := Lib.hid (show d2.length = k by rw [← hd2, List.length_take]; omega)
        have HRX := Lib.hid (show Rd w w.heap.size A' d2 by rw [← hd2]; exact hRd.take k)
        have hk1 : k ≤ cB := by omega
        have hk2 : k ≤ 120 := by omega
        have hcd : Below wr.heap.size wr wr.drew := (Below.refl _ _).drew
        rw [hn2] at HCT
        clear hcell hc1 hc2 hRd hM hk hn1 hn2 hd2 hcB
        go_wp2_with fail
        go_region_held3 (fun W => W.cell? ⟨b1, o1 + j, none⟩ = some (.string ⟨n1.toArray⟩) ∧ W.cell? ⟨b2, o2 + j, none⟩ = some (.slice A' M cB) ∧ Below wr.heap.size wr W)
          ((first | exact HKEEP.out _ ‹_› | exact HKEEP.out _ (Below.drew ‹_›) | exact HKEEP.out _ (below_drewN ‹_› _)))
          ((first
            | (go_at_call 11; refine (HCT.out _).mono ?_; rintro e w4 ⟨rfl, rfl⟩)
            | (go_at_call 12; refine (HCB.out _).mono ?_; rintro e w5 ⟨rfl, rfl⟩)))
        rename_i hHeld
        have HS4 := Lib.hid (HS.out.below hcd)
        have HB4 := Lib.hid (HB.out.trans (hcd.mono HB.out.size))
        have HM4 := Lib.hid (ownsMap_chg HM.out (.of_below hcd : Chg (fun _ => False) _ _) id)
        clear hHeld HKEEP HCT HCB hcd HS HB HM
        generalize wr.drew = w4 at *
        go_wp2_with fail
        with_reducible refine (lput HS4.out HL.out (by omega) n2 d2 rfl A' k cB HBL.out hk1 hmB ((HRX.out.below HB4.out (Nat.le_refl _)).more HB4.out.size) (tab_on HT.out HB4.out HB4.out.size) (by omega) (by omega) (by omega) (by have := HLL.out; show L.length < 6; omega)).mono ?_
        rintro e w5 ⟨s5, j5, _, rfl, S5, L5', C5⟩
        have HS5 := Lib.hid S5
        have HL5 := Lib.hid L5'
        have HB5 := Lib.hid (HB4.out.trans (C5.below HB4.out.size HFS.out))
        have HM5 := Lib.hid (ownsMap_chg HM4.out C5 fun h => HFM.out _ h rfl)
        have HI5 := Lib.hid (HI.out.put HL.out.rising n2 d2 j5)
        have HLL5 := Lib.hid (show (putE L (Sto.newR ⟨L, false⟩ n2 d2, j5)).length ≤ j + 1 from Nat.le_trans (putE_le L HL.out.rising n2 d2 j5) (by have := HLL.out; omega))
        have KS := str_rd A' k cB d2 w5 HBL.out ((HRX.out.below HB5.out (Nat.le_refl _)).more HB5.out.size)
        clear S5 L5' C5 HS4 HL HB4 HM4 HI HLL
        go_wp2_with (at_mapUpdate; refine wpList_mapUpdate_own _ rfl _ _ _ 61 rfl 9 9 keyS Tryd.underlying61 _ bm j D rfl HM5.out (by unfold maxLen; omega) _ _ _ rfl rfl (key_str (by unfold maxLen; omega)) _ [] (plainElem_string Tryd.underlying9 (by show d2.toArray.size ≤ maxLen; rw [List.size_toArray, HBL.out]; unfold maxLen; omega)) ?_)
        intro w6 hM6 hg6
        have hcm : Chg (fun k => k = bm) w5 w6 := (Chg.refl _ _).grown hg6 fun k e _ => by cases e; rfl
        have HS6 := Lib.hid (HS5.out.chg hcm HFM.out)
        have HB6 := Lib.hid (HB5.out.trans (hcm.below HB5.out.size fun k e => by rw [e]; exact HGM.out))
        have HM6 := Lib.hid hM6
        clear hM6 hg6 hcm HS5 HB5 HM5 KS
        go_wp2_with fail
        go_roundw
        case rel => exact ⟨j + 1, _, _, _, by omega, by go_num, HS6, HL5, HLL5, HM6, HI5, HB6⟩
        case measure => simp [intOf]; omega
      · rw [decide_eq_false hlt]
        clear hlt HNA HRA HNB HRB
        have hLL : L.length < 6 := by have := HLL.out; omega
        go_wp2_with fail
        with_reducible refine (HCN.out _).mono ?_
        rintro e w' ⟨rfl, rfl⟩
        go_wp2_with fail
        with_reducible refine (HCD.out _).mono ?_
        rintro e w' ⟨rfl, rfl⟩
        clear HCN HCD HLL
        have KL := look_str HM.out HI.out (nm := nm) (by unfold maxLen; omega)
        obtain ⟨od, hod⟩ : ∃ od, (oldE L nm).map (·.1.data) = od := ⟨_, rfl⟩
        have hoi : (oldE L nm).isSome = od.isSome := by rw [← hod]; cases oldE L nm <;> rfl
        rw [hod, hoi] at KL
        have HOD := Lib.hid hod
        have HOI := Lib.hid hoi
        clear hod hoi
        obtain ⟨OLD, hOLD⟩ : ∃ OLD : List UInt8, od.getD [] = OLD := ⟨_, rfl⟩
        obtain ⟨HAD, hHAD⟩ : ∃ HAD : Bool, od.isSome = HAD := ⟨_, rfl⟩
        rw [hOLD, hHAD] at KL
        have HOLD := Lib.hid hOLD
        have HHAD := Lib.hid hHAD
        clear hOLD hHAD
        go_wp2_with (at_lookup; refine wpList_lookup_eq _ rfl _ _ 61 rfl KL ?_)
        clear KL
        go_wp2_with fail
        with_reducible refine (HW9.out _).mono ?_
        rintro e w' ⟨rfl, rfl⟩
        clear HW9
        go_wp2_with fail
        with_reducible refine (pstop_any HS.out.sp.disk v9 keep (by omega)).mono ?_
        rintro e w4 ⟨rfl, D4, C4⟩
        have HS4 := Lib.hid (HS.out.disk_chg D4 C4 rfl (show (s.stop v9 keep).keep ≤ 32 from keepOf_le keep) (fun _ => HL.out.lives))
        have HB4 := Lib.hid (HB.out.trans (C4.below HB.out.size HTW.out))
        have HM4 := Lib.hid (ownsMap_chg HM.out C4 fun h => HFM.out _ (two_fourS _ h) rfl)
        clear D4 C4 HS HB HM
        go_wp2_with fail
        have hfit := fits_small (R := 6) (name := nm) (data := da) (by omega) (by rw [HDL.out]; omega) (by rw [HDL.out]; omega)
        obtain ⟨p1, p2, ⟨L5, hRe, hTo⟩, _⟩ := put_told HS4.out.good HL.out.up (by omega) hfit hLL
        with_reducible refine (lputany HS4.out (by omega) nm da rfl C kc cc HDL.out hkc1 hmc ((HRD.out.below HB4.out (Nat.le_refl _)).more HB4.out.size) (tab_on HT.out HB4.out HB4.out.size) (by omega) (by omega)).mono ?_
        rintro e w5 ⟨rfl, S5, C5⟩
        generalize Sto.put ⟨L, false⟩ (s.stop v9 keep) 6 6 nm da = X at *
        obtain ⟨X1, X2, K⟩ := X
        dsimp only at p1 p2 hRe hTo S5 ⊢
        have HD5 := Lib.hid S5.sp.disk
        have HB5 := Lib.hid (HB4.out.trans (C5.below HB4.out.size HFS.out))
        have HM5 := Lib.hid (ownsMap_chg HM4.out C5 fun h => HFM.out _ h rfl)
        have HRE := Lib.hid hRe
        have HTO := Lib.hid hTo
        have HK := Lib.hid p1
        have HKD := Lib.hid p2
        clear S5 C5 HS4 HB4 HM4 hfit p1 p2 hRe hTo
        go_upto_region 19 with fail
        go_cut [112] from 107 to 112 (fun c wx => c = .bool false ∧ w5 = wx)
        case first =>
          rcases HK.out with rfl | rfl
          · go_wp2_with fail
            go_meet
            case rel => exact ⟨rfl, rfl⟩
          · go_wp2_with fail
            go_meet
            case rel => exact ⟨rfl, rfl⟩
        case rest =>
          obtain ⟨rfl, rfl⟩ := hcut
          go_wp2_with fail
          with_reducible refine (pdead_any HD5.out).mono ?_
          rintro e w' ⟨rfl, rfl⟩
          obtain ⟨DD, hDD⟩ : ∃ DD, X1.dead = DD := ⟨_, rfl⟩
          have HDD := Lib.hid (show DD = true ↔ K = 8 by rw [← hDD]; exact HKD.out)
          rw [hDD]
          clear hDD HKD
          go_wp2_with fail
          with_reducible refine (pstart_any HD5.out).mono ?_
          rintro e w6 ⟨rfl, D6, C6⟩
          have HD6 := Lib.hid D6
          have HB6 := Lib.hid (HB5.out.trans (C6.below HB5.out.size HTW.out))
          have HM6 := Lib.hid (ownsMap_chg HM5.out C6 fun h => HFM.out _ (two_fourS _ h) rfl)
          clear D6 C6 HD5 HB5 HM5
          go_wp2_with fail
          with_reducible refine (open_re HD6.out (by omega) (by omega) HRE.out rfl (i := 6) (j := 6) rfl rfl).mono ?_
          rintro e w7 ⟨q7, b7, rfl, _, _, S7, L7, C7⟩
          have HS7 := Lib.hid S7
          have HL7 := Lib.hid L7
          have HB7 := Lib.hid (HB6.out.trans (C7.below HB6.out.size HTW.out))
          have HM7 := Lib.hid (ownsMap_chg HM6.out C7 fun h => HFM.out _ (two_fourS _ h) rfl)
          clear S7 L7 C7 HD6 HB6 HM6 HRE
          generalize openD (Dsk.start X1) 6 6 = s7 at *
          go_upto_region 24 with fail
          go_cut [133] from 122 to 133 (fun c wx => c = .bool false ∧ w7 = wx)
          case first =>
            rcases HK.out with rfl | rfl
            · have hdd : DD = false := by
                cases DD with
                | false => rfl
                | true => have := HDD.out.1 rfl; omega
              subst hdd
              go_wp2_with fail
              go_meet
              case rel => exact ⟨rfl, rfl⟩
            · have hdd : DD = true := HDD.out.2 rfl
              subst hdd
              go_wp2_with fail
              go_meet
              case rel => exact ⟨rfl, rfl⟩
          case rest =>
            obtain ⟨rfl, rfl⟩ := hcut
            clear HDD
            go_upto_region 26 with fail
            go_cut [25, 26] from 134 to 139 (fun b0 b1 wx => ∃ (A0 : Option Addr) (n0 c0 : Nat) (d0 : List UInt8) (ok : Bool), b0 = .slice A0 n0 c0 ∧ b1 = .bool ok ∧ d0.length = n0 ∧ Hid (Rd wx wx.heap.size A0 d0) ∧ Hid (Sto.get ⟨L5, false⟩ nm = if ok = true then some d0 else none) ∧ Hid (ST wx q7 p g b7 42 s7 6 6 (j + 1) ⟨L5, false⟩) ∧ Hid (Below w.heap.size w wx) ∧ Hid (wx.ownsMap Tryd.prog 9 (plainElem Tryd.prog 9) bm j D))
            case first =>
              go_wp2_with fail
              with_reducible refine (lget HS7.out nm rfl).mono ?_
              cases hgt : Sto.get ⟨L5, false⟩ nm with
              | none =>
                rintro e w8 ⟨hb8, rfl⟩
                have HS8 := Lib.hid (HS7.out.below hb8)
                have HB8 := Lib.hid (HB7.out.trans (hb8.mono HB7.out.size))
                have HM8 := Lib.hid (ownsMap_chg HM7.out (.of_below hb8 : Chg (fun _ => False) _ _) id)
                have HGT := Lib.hid hgt
                clear hgt hb8
                go_wp2_with fail
                go_meet
                case rel => exact ⟨none, 0, 0, [], false, rfl, rfl, rfl, Lib.hid (Rd.nil _ _ _), Lib.hid (by rw [HGT.out]; rfl), HS8, HB8, HM8⟩
              | some d0 =>
                rintro e w8 ⟨hb8, A0, c0, rfl, _, hr8⟩
                have HS8 := Lib.hid (HS7.out.below hb8)
                have HB8 := Lib.hid (HB7.out.trans (hb8.mono HB7.out.size))
                have HM8 := Lib.hid (ownsMap_chg HM7.out (.of_below hb8 : Chg (fun _ => False) _ _) id)
                have HR8 := Lib.hid hr8
                have HGT := Lib.hid hgt
                clear hgt hb8 hr8
                go_wp2_with fail
                go_meet
                case rel => exact ⟨A0, _, c0, d0, true, rfl, rfl, rfl, HR8, Lib.hid (by rw [HGT.out]; rfl), HS8, HB8, HM8⟩
            case rest =>
              clear HS7 HB7 HM7
              obtain ⟨A0, n0, c0, d0, ok, rfl, rfl, hn0, HR0, HGT, HS7, HB7, HM7⟩ := hcut
              have KA := str_rd A0 n0 c0 d0 wc hn0 HR0.out
              have KD := str_rd C kc cc da wc HDL.out ((HRD.out.below HB7.out (Nat.le_refl _)).more HB7.out.size)
              obtain ⟨NEW, hNEW⟩ : ∃ NEW : Bool, (ok && (d0 == da)) = NEW := ⟨_, rfl⟩
              have hC := crash_new HTO.out HGT.out HOD.out
              rw [hNEW, HHAD.out, HOLD.out] at hC
              have HNEW := Lib.hid hNEW
              have HC := Lib.hid hC
              clear hNEW hC
              go_upto_region 27 with fail
              go_cut [27] from 140 to 147 (fun b0 wx => b0 = .bool NEW ∧ wc = wx)
              case first =>
                cases ok with
                | false =>
                  go_wp2_with fail
                  go_meet
                  case rel => exact ⟨by rw [← HNEW.out]; rfl, rfl⟩
                | true =>
                  go_wp2_with fail
                  go_meet
                  case rel => exact ⟨by rw [← HNEW.out, Bool.true_and], rfl⟩
              case rest =>
                obtain ⟨rfl, rfl⟩ := hcut
                clear KD HNEW HGT
                go_upto_region 28 with fail
                go_cut [167] from 148 to 167 (fun b0 wx => b0 = .bool false ∧ wc = wx)
                case first =>
                  cases NEW with
                  | true =>
                    clear HC
                    go_wp2_with fail
                    go_meet
                    case rel => exact ⟨rfl, rfl⟩
                  | false =>
                    obtain ⟨rfl, rfl, ho⟩ := HC.out.resolve_left (by simp)
                    cases ok with
                    | false =>
                      clear ho HC
                      go_wp2_with fail
                      go_meet
                      case rel => exact ⟨rfl, rfl⟩
                    | true =>
                      obtain rfl := ho rfl
                      clear HC ho
                      go_wp2_with fail
                      go_meet
                      case rel => exact ⟨rfl, rfl⟩
                case rest =>
                  obtain ⟨rfl, rfl⟩ := hcut
                  clear KA HC
                  go_wp2_with fail
                  with_reducible refine (psnames_any HS7.out).mono ?_
                  rintro e w8 ⟨A8, c8, rfl, _, hr8, hb8⟩
                  have HS8 := Lib.hid (HS7.out.below hb8)
                  have HB8 := Lib.hid (HB7.out.trans (hb8.mono HB7.out.size))
                  have HM8 := Lib.hid (ownsMap_chg HM7.out (.of_below hb8 : Chg (fun _ => False) _ _) id)
                  have HR8 := Lib.hid hr8
                  have HNL := Lib.hid (show (Sto.names ⟨L5, false⟩).length = L5.length by show (L5.map _).length = _; rw [List.length_map])
                  have HG := Lib.hid (get_name HL7.out (by omega))
                  have hN6 : L5.length ≤ 6 := HL7.out.le
                  obtain ⟨N, hN⟩ : ∃ N, (Sto.names ⟨L5, false⟩).length = N := ⟨_, rfl⟩
                  rw [hN] at HNL ⊢
                  have HN := Lib.hid hN
                  have hN7 : N ≤ 6 := by have := HNL.out; omega
                  clear hb8 hr8 HS7 HB7 HM7 hN hN6
                  go_wp2_with fail
                  go_loopw [28, 171] (fun c t wr => ∃ k : Nat, k ≤ N ∧ t = .int .i64 k ∧ c = .int .i64 (cntN (Sto.names ⟨L5, false⟩) nm k : Int) ∧ Hid (ST wr q7 p g b7 42 s7 6 6 (j + 1) ⟨L5, false⟩) ∧ Hid (RdS wr wr.heap.size A8 (Sto.names ⟨L5, false⟩)) ∧ Hid (wr.ownsMap Tryd.prog 9 (plainElem Tryd.prog 9) bm j D) ∧ Hid (Below w.heap.size w wr)) (fun _ t _ => N - (intOf t).toNat)
                  case atStart => exact ⟨0, by omega, rfl, rfl, HS8, HR8, HM8, HB8⟩
                  case round =>
                    obtain ⟨k, hk, rfl, rfl, HS, HR, HM, HB⟩ := hrel
                    clear HS8 HR8 HM8 HB8
                    by_cases hkN : k < N
                    · have hkN1 : (k : Int) < (N : Int) := by omega
                      have hkL : k < (Sto.names ⟨L5, false⟩).length := by rw [HN.out]; exact hkN
                      obtain ⟨bn, on, hA, _, hc⟩ := HR.out.at_ hkL
                      obtain ⟨x, hx, hxl, hnl⟩ := HG.out k hkL
                      subst hA
                      have HCS := Lib.hid (cntN_same (ls := Sto.names ⟨L5, false⟩) (nm := nm) hkL)
                      have HCO := Lib.hid (cntN_other (ls := Sto.names ⟨L5, false⟩) (nm := nm) hkL)
                      have hcl := cntN_le (Sto.names ⟨L5, false⟩) nm k
                      generalize hn1 : (Sto.names ⟨L5, false⟩)[k] = n1 at *
                      have HX := Lib.hid (get_of hx)
                      have hx1 : IntKind.i64.wrap ((k : Int) + 1) = ((k + 1 : Nat) : Int) := by rw [IntWalk.i64_in _ (by omega)]; omega
                      obtain ⟨cn, hcn⟩ : ∃ cn, cntN (Sto.names ⟨L5, false⟩) nm k = cn := ⟨_, rfl⟩
                      rw [hcn] at hcl HCS HCO ⊢
                      have HOX := Lib.hid hx
                      obtain ⟨d, hd⟩ : ∃ d, x.1.data = d := ⟨_, rfl⟩
                      rw [hd] at HX hxl
                      have HD := Lib.hid hd
                      clear hx hkL hn1 hcn hd
                      go_wp2_with fail
                      with_reducible refine (lget HS.out n1 rfl).mono ?_
                      rw [HX.out]
                      rintro e w9 ⟨hb9, A9, c9, rfl, hc9, hr9⟩
                      have HS9 := Lib.hid (HS.out.below hb9)
                      have HR9 := Lib.hid (HR.out.on hb9)
                      have HB9 := Lib.hid (HB.out.trans (hb9.mono HB.out.size))
                      have HM9 := Lib.hid (ownsMap_chg HM.out (.of_below hb9 : Chg (fun _ => False) _ _) id)
                      have KY := str_rd A9 d.length c9 d w9 rfl hr9
                      clear hb9 hr9 HS HR HB HM hc HX
                      by_cases he : n1 = nm
                      · have heb : (n1 == nm) = true := by rw [he]; exact beq_self_eq_true nm
                        have HC1 := Lib.hid (HCS.out he)
                        clear he HCS HCO
                        go_wp2_with fail
                        go_roundw
                        case rel => exact ⟨k + 1, by omega, by go_num, by rw [HC1.out], HS9, HR9, HM9, HB9⟩
                        case measure => simp [intOf]; omega
                      · have heb : (n1 == nm) = false := beq_eq_false_iff_ne.2 he
                        have HC1 := Lib.hid (HCO.out he)
                        have hox : oldE L n1 = some x := by rw [← HOX.out]; exact (HTO.out.other n1 he).symm
                        have KL := look_str HM9.out HI.out (nm := n1) hnl
                        rw [hox, Option.map_some, Option.getD_some, HD.out, show (some x).isSome = true from rfl] at KL
                        clear he HCS HCO hox
                        go_wp2_with (at_lookup; refine wpList_lookup_eq _ rfl _ _ 61 rfl KL ?_)
                        go_roundw
                        case rel => exact ⟨k + 1, by omega, by go_num, by rw [HC1.out]; go_num, HS9, HR9, HM9, HB9⟩
                        case measure => simp [intOf]; omega
                    · have hkN1 : ¬ (k : Int) < (N : Int) := by omega
                      obtain rfl : k = N := by omega
                      have hcnt : cntN (Sto.names ⟨L5, false⟩) nm k = (others L nm).length := by
                        have h1 := cntN_all L5 nm
                        have h2 : (L5.map (·.1.name)).length = k := by rw [List.length_map]; exact HNL.out.symm
                        rw [h2] at h1
                        have h3 : cntN (Sto.names ⟨L5, false⟩) nm k = cntN (L5.map (·.1.name)) nm k := rfl
                        rw [h3, h1]
                        exact congrArg List.length HTO.out.rest
                      have hsz : Maps.size D = L.length := HI.out.size
                      have hol : (others L nm).length + (if (oldE L nm).isSome = true then 1 else 0) = L.length := others_len HL.out.rising nm
                      have hhd : (oldE L nm).isSome = HAD := HOI.out.trans HHAD.out
                      rw [hhd] at hol
                      rw [hcnt]
                      obtain ⟨O, hO⟩ : ∃ O, (others L nm).length = O := ⟨_, rfl⟩
                      rw [hO] at hol ⊢
                      have hO6 : O ≤ 6 := by omega
                      cases HAD with
                      | true =>
                        rw [if_pos rfl] at hol
                        have HZ := Lib.hid (show Maps.size D = O + 1 by omega)
                        clear hcnt hsz hol hhd hO hkN hkN1
                        go_wp2_with (at_len; refine wpList_len_own _ rfl _ 61 rfl 9 9 Tryd.underlying61 _ bm j D rfl HM.out ?_; rw [HZ.out])
                        with_reducible refine (wakes11_any _ (tab_on HT.out HB.out HB.out.size)).mono ?_
                        rintro e w9 ⟨rfl, hb9⟩
                        have hbel9 := HB.out.trans (hb9.mono HB.out.size)
                        go_wp2_with fail
                        go_ret
                        exact ⟨rfl, hbel9⟩
                      | false =>
                        rw [if_neg (by simp)] at hol
                        have HZ := Lib.hid (show Maps.size D = O by omega)
                        clear hcnt hsz hol hhd hO hkN hkN1
                        go_wp2_with (at_len; refine wpList_len_own _ rfl _ 61 rfl 9 9 Tryd.underlying61 _ bm j D rfl HM.out ?_; rw [HZ.out])
                        with_reducible refine (wakes11_any _ (tab_on HT.out HB.out HB.out.size)).mono ?_
                        rintro e w9 ⟨rfl, hb9⟩
                        have hbel9 := HB.out.trans (hb9.mono HB.out.size)
                        go_wp2_with fail
                        go_ret
                        exact ⟨rfl, hbel9⟩
open Go.ChangeMaps

set_option maxRecDepth 100000 in
theorem contract (H : Type) (enc : TypeId × Value → H) (W : World) (base : Nat) (args : Array Value) (ds gs : List (DataW H)) (before : List MemPlace)
    (hval : ∀ (j : Nat) t v, Tryd.f7.params[j]? = some t → args[j]? = some v → Value.okWide Tryd.prog W .any base t v)
    (hW : DataW.Whole enc Tryd.prog Tryd.f7.params.toList Rows.storeCrashSpec.vars false W args.toList ds gs before) (hL : laidMetH Tryd.prog Rows.storeCrashRow.laid W) :
    Calls Tryd.prog 7 args W fun e W' => ∃ v, e = .returned v ∧ Rows.storeCrashSpec.post enc Tryd.prog Tryd.f7 false true false false W args v W' := by
  have hW' := hW
  obtain ⟨p, q, hA0, hV, rfl, hfz, hnd⟩ := hW
  have hA : DataW.TrodAll enc Tryd.prog W 0 (fun _ => true) true Tryd.f7.params.toList args.toList ds p := hA0
  rw [Tryd.params7] at hA hval
  obtain ⟨v0, v1, v2, v3, v4, v5, d0, d1, d2, d3, d4, d5, p0, p1, p2, p3, p4, p5, rfl, rfl, rfl, h0, h1, h2, h3, h4, h5⟩ := trodAll_six hA
  obtain ⟨rfl, rfl⟩ := trodVars_none hV
  obtain ⟨A0, m0, c0, l0, rfl, hl0, hc0, hm0, hr0⟩ := open_names (hval 0 38 v0 rfl rfl) h0
  obtain ⟨A1, m1, c1, l1, rfl, hl1, hc1, hm1, hr1⟩ := open_rows (hval 1 51 v1 rfl rfl) h1
  obtain ⟨s2, rfl, rfl, rfl, hs2⟩ := open_string Tryd.underlying9 (hval 2 9 v2 rfl rfl) h2
  obtain ⟨A3, m3, c3, l3, rfl, hl3, hc3, hm3, hr3⟩ := open_bytes (hval 3 31 v3 rfl rfl) h3
  obtain ⟨n4, rfl, rfl, rfl, wf4⟩ := open_int Tryd.underlying3 (hval 4 3 v4 rfl rfl) h4
  have b4 := bounds_i64 wf4
  obtain ⟨n5, rfl, rfl, rfl, wf5⟩ := open_int Tryd.underlying3 (hval 5 3 v5 rfl rfl) h5
  have b5 := bounds_i64 wf5
  clear hA0
  refine (walk A0 m0 c0 l0 A1 m1 c1 l1 s2 A3 m3 c3 l3 n4 n5 W hl0 hr0 hl1 hr1 hl3 hc3 hm3 hr3 b4.1 b4.2 (pow10 hL)).mono fun e W' ⟨he, hb⟩ => ?_
  exact ⟨_, he, law_post hW' rfl (by kernel_rfl) rfl (by kernel_rfl) hb⟩

theorem laid_met (os : Os) : laidMet Tryd.prog Rows.storeCrashRow.laid ((laidWorld os).forCall (fun _ _ => 0) ⟨#[], #[.slice none 0 0, .slice none 0 0, .string ⟨#[]⟩, .slice none 0 0, .int .i64 0, .int .i64 0], []⟩).memory :=
  laidMet_of_run' 8 (by kernel_rfl) (by kernel_rfl)
theorem reads (os : Os) {H : Type} (enc : TypeId × Value → H) : ∃ places, DataW.whole enc Tryd.prog ((laidWorld os).forCall (fun _ _ => 0) ⟨#[], #[.slice none 0 0, .slice none 0 0, .string ⟨#[]⟩, .slice none 0 0, .int .i64 0, .int .i64 0], []⟩).memory Tryd.f7.params.toList Rows.storeCrashSpec.vars false #[Value.slice none 0 0, Value.slice none 0 0, Value.string ⟨#[]⟩, Value.slice none 0 0, Value.int .i64 0, Value.int .i64 0].toList 8 = some ([.nil, .nil, .lit (.string []), .nil, .lit (.int .i64 0), .lit (.int .i64 0)], [], places) :=
  ⟨[], by kernel_rfl⟩

set_option maxRecDepth 100000 in
theorem lifted (os : Os) (started : os.Started) (H : Type) (enc : TypeId × Value → H) (F : Stop.Interp) :
    ReturnsInHanded {} Tryd.checked os 7 .any ((OpenSpec.ofChange Rows.storeCrashSpec).preRow enc Tryd.prog Tryd.f7 Rows.storeCrashRow.domain false Rows.storeCrashRow.laid) (((OpenSpec.ofChange Rows.storeCrashSpec).at F).post enc Tryd.prog Tryd.f7 false true false false) := by
  obtain ⟨places, hx⟩ := reads os enc
  refine returnsInHanded_of_row (C := Tryd.checked) (s := OpenSpec.ofChange Rows.storeCrashSpec) own started (by kernel_rfl) Tryd.func7
    (witness_row_at (enc := enc) (C := Tryd.checked) false (laidWorld os) #[.slice none 0 0, .slice none 0 0, .string ⟨#[]⟩, .slice none 0 0, .int .i64 0, .int .i64 0] rfl (by kernel_rfl) (by kernel_rfl) (by kernel_rfl)
      (OpenSpec.preRow_of_cond 8 hx (by kernel_rfl) (fun k hk => by cases hk) (by kernel_rfl) (laid_met os))) ?_
  intro W base args ds gs before hval hW _ _ _ hL _ _
  exact contract H enc W base args ds gs before hval hW hL

theorem said : Rows.StoreCrashSaid :=
  OpenClaim.holds_of_cond 7 Tryd.f7 rfl rfl rfl rfl rfl rfl rfl ⟨rfl, rfl, rfl, rfl, rfl⟩ rfl rfl rfl rfl rfl (by kernel_rfl) Tryd.func7 (by kernel_rfl)
    (of_decide_eq_true (by kernel_rfl)) (by unfold Func.isWrapper; first | (rw [if_pos (by decide +kernel)]; kernel_rfl) | (rw [if_neg (by decide +kernel)]; exact ⟨rfl, rfl⟩))
    (fun os started H enc _ F => by rw [OpenClaim.pre_eq_preRow]; exact lifted os started H enc F)

theorem plain (f : FuncId) (fn : Func) (hf : Tryd.pinned.checked.prog.funcNamed "aumbry/aumbrylaw11.StoreCrash" = some f) (hfn : Tryd.pinned.checked.prog.funcs[f]? = some fn) :
    false = Tryd.pinned.checked.prog.looks [] ∧ ∀ (j : Nat) t, fn.params[j]? = some t → Tryd.pinned.checked.prog.wantsStandIn t = false := by
  obtain rfl : f = 7 := Option.some.inj ((show Tryd.prog.funcNamed "aumbry/aumbrylaw11.StoreCrash" = some 7 by kernel_rfl).symm.trans hf) |>.symm
  obtain rfl : fn = Tryd.f7 := (Option.some.inj (Tryd.func7.symm.trans hfn)).symm
  refine ⟨by kernel_rfl, fun j t ht => ?_⟩
  exact wants_none (by kernel_rfl) (Array.mem_of_getElem? ht)

/-- The card: the statement holds, its listed tables tied to the program's text. -/
theorem card : Rows.StoreCrashCardSaid :=
  Claim7.holds_tied_plain_at .later [] _ _ _ _ said (fun _ h => by cases h) (by kernel_rfl) (fun _ h => by cases h) storeCrash_row_tie rfl ⟨rfl, rfl⟩ (by kernel_rfl) rfl plain (by kernel_rfl)
end Go.Proofs.YtffllpjlghehiaaDoor.storeCrash
