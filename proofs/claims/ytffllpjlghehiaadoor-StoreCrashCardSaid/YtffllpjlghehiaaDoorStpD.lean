/- The program's store: a record's bytes. -/
import Derived.Test.YtffllpjlghehiaaDoorStpC
import Derived.Test.YtffllpjlghehiaaDoorNetB
namespace Go.Proofs.YtffllpjlghehiaaDoor
open Go.RowKit
set_option maxRecDepth 100000

set_option maxHeartbeats 1000000 in
theorem nets_own (A : Option Addr) (n c : Nat) (ls : List (List UInt8)) (w : World) (hn : ls.length = n) (h1 : n ≤ 1000) (h2 : ∀ r ∈ ls, r.length ≤ 1000) (hr : RdR w w.heap.size A ls) (htab : Pow10 w.heap.size w) :
    Calls Tryd.prog 59 #[.slice A n c] w fun e w' => ∃ A' c', e = .returned (.slice A' (netsL ls).length c') ∧ w'.ownsRow w.heap.size 5 1 (.slice A' (netsL ls).length c') (netsL ls).length (Lib.byteCells (netsL ls)) ∧ Below w.heap.size w w' := by
  have HN := Lib.hid hn
  have H2 := Lib.hid h2
  have HT := Lib.hid htab
  clear hn h2 htab
  go_enter Tryd.func59, Tryd.ntmps59
  go_wp2
  go_loopw [3, 8] (fun v i wr => ∃ k m : Nat, k ≤ n ∧ i = .int .i64 k ∧ m ≤ 1022 * k ∧ Hid ((netsL (ls.take k)).length = m) ∧ Hid (wr.ownsRow w.heap.size 5 1 v m (Lib.byteCells (netsL (ls.take k)))) ∧ Below w.heap.size w wr) (fun _ i _ => n - (intOf i).toNat)
  case atStart => exact ⟨0, 0, Nat.zero_le _, rfl, by omega, Lib.hid (by simp [netsL]), Lib.hid (World.ownsRow_nil _ _ _ _), Below.refl _ _⟩
  case round =>
    obtain ⟨k, m, hk, rfl, hm, HM, HO, hbel⟩ := hrel
    by_cases hlt : k < n
    · have hl1 : k < ls.length := by rw [HN.out]; exact hlt
      obtain ⟨b, off, A', c', rfl, _, hc, hlc, _, hrd⟩ := (hr.below hbel (Nat.le_refl _)).at_ k hl1
      have HK := Lib.hid (netsL_take ls k hl1)
      have hlen : ls[k].length ≤ 1000 := H2.out _ (List.getElem_mem hl1)
      generalize ls[k] = l at *
      obtain ⟨q, hq⟩ : ∃ q, l.length = q := ⟨_, rfl⟩
      have HQ := Lib.hid hq
      rw [hq] at hc hlen
      clear hlc hq
      have hle := hbel.size
      have htl := netL_len l (by rw [HQ.out]; omega)
      rw [HQ.out] at htl
      go_wp2_with fail
      refine (appendNet_any w.heap.size m q c' _ _ A' l _ HO.out hle HQ.out (by omega) (by omega) hrd (tab_on HT.out hbel (Nat.le_refl _))).mono ?_
      rintro e w1 ⟨v1, rfl, hown1, hbel1⟩
      have hbel2 := hbel.trans hbel1
      rw [← Lib.byteCells_append, ← HK.out] at hown1
      have HL := Lib.hid (show (netsL (ls.take (k + 1))).length = m + (netL l).length by rw [HK.out, List.length_append, HM.out])
      have HO1 := Lib.hid hown1
      generalize (netL l).length = z at *
      clear hown1 hbel1 hbel hle hrd hc
      go_wp2_with fail
      go_roundw
      case rel => exact ⟨k + 1, m + z, by omega, by go_num, by omega, HL, HO1, hbel2⟩
      case measure => simp [intOf]; omega
    · have hge : ¬ (k : Int) < (n : Int) := by omega
      have ht : ls.take k = ls := List.take_of_length_le (by rw [HN.out]; omega)
      have ho := HO.out
      have hm' := HM.out
      rw [ht] at ho hm'
      obtain ⟨A1, c1, hv, hc1⟩ := own_slice ho
      subst hv
      rw [← hm'] at ho
      have HM2 := Lib.hid hm'
      have HO2 := Lib.hid ho
      clear ho hm' hc1 ht HO
      go_wp2_with fail
      go_ret
      exact ⟨A1, c1, by rw [HM2.out]; rfl, HO2.out, hbel⟩

set_option maxHeartbeats 1000000 in
theorem pspack_any (name data : List UInt8) (num : Nat) (A : Option Addr) (m d : Nat) (w : World) (hl : data.length = m) (hmd : m ≤ d) (hdm : d ≤ maxLen) (hr : Rd w w.heap.size A data) (htab : Pow10 w.heap.size w) (h1 : name.length ≤ 1000) (h2 : m ≤ 1000) (h3 : num ≤ 9223372036854775807) :
    Calls Tryd.prog 41 #[.string ⟨name.toArray⟩, .int .i64 (num : Int), .slice A m d] w fun e w' => ∃ g' c', e = .returned (.slice (some ⟨g', 0, none⟩) (recL ⟨name, num, data⟩).length c') ∧ w.heap.size ≤ g' ∧ (recL ⟨name, num, data⟩).length ≤ c' ∧ c' ≤ maxLen ∧ Rd w' w'.heap.size (some ⟨g', 0, none⟩) (recL ⟨name, num, data⟩) ∧ Below w.heap.size w w' := by
  obtain ⟨i0, hi, hz0, hz1, hz2⟩ := info_parts info5
  obtain ⟨v1, w1, hcv, hown1, hb1⟩ := run_bytes_M (P := Tryd.prog) (w := w) 9 31 5 name (by omega) Tryd.underlying9 Tryd.underlying31 Tryd.underlying5
  obtain ⟨A1, c1, rfl, hc1, hm1⟩ : ∃ A1 c1, v1 = .slice A1 name.length c1 ∧ name.length ≤ c1 ∧ c1 ≤ maxLen := by
    obtain ⟨_, g, cap, _, _, e, _, _, _, h1, h2, _⟩ := hown1
    exact ⟨_, _, e, h1, h2⟩
  have hr1 : Rd w1 w1.heap.size A1 name := hown1.rd
  have HP := Lib.hid (put_any (num : Int) 4 w1 (by omega))
  have hp4 : putW 4 = 4 := rfl
  have hpn : putN (num : Int) = num := by unfold putN; split <;> omega
  rw [hp4, hpn] at HP
  have HT := Lib.hid htab
  have HR := Lib.hid hr
  have HR1 := Lib.hid hr1
  have HB1 := Lib.hid hb1
  have hq : num = num := rfl
  obtain ⟨nl, hnl⟩ : ∃ nl, name.length = nl := ⟨_, rfl⟩
  rw [hnl] at hcv hc1 h1
  have HNL := Lib.hid hnl
  have HML := Lib.hid hl
  clear hown1 hr hr1 hb1 htab hnl hl
  go_enter Tryd.func41, Tryd.ntmps41
  go_wp2_with fail
  clear hcv
  with_reducible refine HP.out.mono ?_
  rintro e w2 ⟨A2, c2, rfl, hown2, hb2⟩
  obtain ⟨X, Y, eXY, hc2, hm2⟩ := own_caps hown2
  obtain ⟨rfl, rfl⟩ : A2 = X ∧ c2 = Y := by injection eXY with e1 e2 e3; exact ⟨e1, e3⟩
  have hb2' := Below.then HB1.out hb2
  have HR2 := Lib.hid (Rd.of_own hown2)
  have HB2 := Lib.hid hb2
  have HBA := Lib.hid hb2'
  clear hown2 hb2 hb2' HP eXY
  go_wp2_with fail
  have hb3 : Below w2.heap.size w2 (w2.alloc (.cells #[.slice A1 nl c1, .slice A2 4 c2, .slice A m d] 31)) := (Below.refl _ _).alloc (Nat.le_refl _) _
  have hk := Blk.new w2 #[.slice A1 nl c1, .slice A2 4 c2, .slice A m d] 31
  have k1 := ((HR1.out.on HB2.out).on hb3)
  have k2 := HR2.out.on hb3
  have k3 := ((HR.out.on HBA.out).on hb3)
  have HB3 := Lib.hid (Below.then HBA.out hb3)
  have ht := tab_on HT.out HB3.out HB3.out.size
  generalize w2.alloc (.cells #[.slice A1 nl c1, .slice A2 4 c2, .slice A m d] 31) = w3 at *
  have hlt := hk.lt
  have hrr : RdR w3 w3.heap.size (some ⟨w2.heap.size, 0, none⟩) [name, putL num 4, data] := by
    unfold RdR
    refine .inr ⟨w2.heap.size, 0, rfl, hlt, fun i hi => ?_⟩
    match i, hi with
    | 0, _ => exact ⟨A1, c1, by rw [hk.cell]; show _ = some (Value.slice A1 name.length c1); rw [HNL.out]; rfl, by show name.length ≤ c1; rw [HNL.out]; exact hc1, hm1, k1⟩
    | 1, _ => exact ⟨A2, c2, by rw [hk.cell]; show _ = some (Value.slice A2 (putL num 4).length c2); rw [putL_length]; rfl, by show (putL num 4).length ≤ c2; rw [putL_length]; exact hc2, hm2, k2⟩
    | 2, _ => exact ⟨A, d, by rw [hk.cell]; show _ = some (Value.slice A data.length d); rw [HML.out]; rfl, by show data.length ≤ d; rw [HML.out]; exact hmd, hdm, k3⟩
    | i + 3, h => simp at h; omega
  with_reducible refine (nets_own (some ⟨w2.heap.size, 0, none⟩) 3 3 [name, putL num 4, data] w3 rfl (by omega) (fun r hr => by
      have e4 := putL_length num 4
      have e1 := HNL.out
      have e2 := HML.out
      rcases List.mem_cons.1 hr with rfl | hr
      · omega
      · rcases List.mem_cons.1 hr with rfl | hr
        · omega
        · rw [List.mem_singleton.1 hr]; omega) hrr ht).mono ?_
  rintro e w4 ⟨A', c', rfl, ho', hb'⟩
  have hpos : 0 < (netsL [name, putL num 4, data]).length := netsL_ne _ (by simp)
  obtain ⟨g', cap, hv', hg', _⟩ := ho'.form hpos
  injection hv' with e1 _ e2
  subst e1 e2
  obtain ⟨hc', hm'⟩ : (netsL [name, putL num 4, data]).length ≤ c' ∧ c' ≤ maxLen := by
    obtain ⟨X, Y, eXY, h1, h2⟩ := own_caps ho'
    injection eXY with e1 e2 e3
    subst e3
    exact ⟨h1, h2⟩
  have HR' := Lib.hid (Rd.of_own ho')
  have hle3 := HB3.out.size
  have HB' := Lib.hid (Below.then HB3.out hb')
  clear hrr ho' hb' hk k1 k2 k3 ht hlt hb3
  go_wp2_with fail
  go_ret
  exact ⟨g', c', rfl, by omega, hc', hm', HR'.out, HB'.out⟩

theorem takeNet_yes (A : Option Addr) (n c : Nat) (l : List UInt8) (w : World) (hl : l.length = n) (hnc : n ≤ c) (h1 : n ≤ 1000000) (ha : Rd w w.heap.size A l) {x r : List UInt8} (ht : takeL l = some (x, r)) :
    Calls Tryd.prog 64 #[.slice A n c] w fun e w' => ∃ A1 c1 A2 c2, e = .returned (.tuple #[.slice A1 x.length c1, .slice A2 r.length c2, .bool true]) ∧ x.length ≤ c1 ∧ r.length ≤ c2 ∧ Rd w' w'.heap.size A1 x ∧ Rd w' w'.heap.size A2 r ∧ Below w.heap.size w w' := by
  have h := takeNet_any A n c l w hl hnc h1 ha
  rw [ht] at h
  exact h
theorem takeNet_no (A : Option Addr) (n c : Nat) (l : List UInt8) (w : World) (hl : l.length = n) (hnc : n ≤ c) (h1 : n ≤ 1000000) (ha : Rd w w.heap.size A l) (ht : takeL l = none) :
    Calls Tryd.prog 64 #[.slice A n c] w fun e w' => ∃ A1 c1 A2 c2, e = .returned (.tuple #[.slice A1 0 c1, .slice A2 0 c2, .bool false]) ∧ Below w.heap.size w w' := by
  have h := takeNet_any A n c l w hl hnc h1 ha
  rw [ht] at h
  refine h.mono ?_
  rintro e w' ⟨A1, c1, A2, c2, rfl, _, _, _, _, hb⟩
  exact ⟨A1, c1, A2, c2, rfl, hb⟩
theorem str_rd (A : Option Addr) (n c : Nat) (l : List UInt8) (w : World) (hn : l.length = n) (ha : Rd w w.heap.size A l) :
    (convert 31 9 (.slice A n c)).run Tryd.prog w = .ok (.string ⟨l.toArray⟩) w :=
  run_string_rd (P := Tryd.prog) 31 9 5 Tryd.underlying31 Tryd.underlying5 Tryd.underlying9 _ _ n c l hn ha

theorem results_cell_tmp2 {P : Program} {fn : Func} {p q r : Tmp} {ty : TypeId} (h : fn.results = #[.cell p ty, .tmp q, .tmp r]) (tmps : Array Value) (w : World) (g : Nat) (t : TypeId) (cs : Array Value) (fr : Nat × Nat) (d : TypeDesc) (v u : Value)
    (hp : tmps.getD p undef = .pointer (some ⟨g, 0, none⟩)) (hv : tmps.getD q undef = v) (hz : tmps.getD r undef = u) (hg : w.heap[g]? = some (.cells cs t fr))
    (hu : P.underlying ty = some d) (hd : (match d with | .struct _ | .array _ _ => true | _ => false) = true) (hi : (P.info? ty).map (·.size) = some cs.size) :
    (results fn tmps).run P w = .ok (.tuple #[.agg cs, v, u]) w := by
  have hp' : tmps[p]?.getD undef = .pointer (some ⟨g, 0, none⟩) := by simpa using hp
  have hv' : tmps[q]?.getD undef = v := by simpa using hv
  have hz' : tmps[r]?.getD undef = u := by simpa using hz
  simp [results, h, hp', hv', hz', asAddr, run_loadVar_row w g t ty cs fr d hg hu hd hi]

/-- Bytes lie elsewhere than an entry, which is written. -/
theorem Rd.past {w : World} {g : Nat} {A : Option Addr} {l : List UInt8} {x : Bool} {y : ByteArray} {z : Int} {T : TypeId} (h : Rd w w.heap.size A l) (hk : Blk w g #[.bool x, .string y, .int .i64 z] T) (v0 v1 v2 : Value) :
    Rd (((w.setCell ⟨g, 0, none⟩ v0).setCell ⟨g, 1, none⟩ v1).setCell ⟨g, 2, none⟩ v2) (((w.setCell ⟨g, 0, none⟩ v0).setCell ⟨g, 1, none⟩ v1).setCell ⟨g, 2, none⟩ v2).heap.size A l := by
  rcases h with rfl | ⟨b, off, rfl, hb, hc⟩
  · exact .inl rfl
  · by_cases he : l.length = 0
    · exact .inl (List.length_eq_zero_iff.1 he)
    · refine .inr ⟨b, off, rfl, by simpa using hb, fun i hi => ?_⟩
      have hne : b ≠ g := by
        intro e
        subst e
        have h1 := hc 0 (by omega)
        rw [hk.cell] at h1
        match off + 0, h1 with
        | 0, h1 => cases h1
        | 1, h1 => cases h1
        | 2, h1 => cases h1
        | k + 3, h1 => simp at h1
      rw [World.cell?_setCell_other _ _ _ _ (fun e => hne (congrArg Addr.block e).symm), World.cell?_setCell_other _ _ _ _ (fun e => hne (congrArg Addr.block e).symm), World.cell?_setCell_other _ _ _ _ (fun e => hne (congrArg Addr.block e).symm)]
      exact hc i hi

/-- What is told of a record that has no form. -/
def unkV : Value := .tuple #[.agg #[.bool false, .string ⟨#[]⟩, .int .i64 0], .slice none 0 0, .bool false]
set_option maxHeartbeats 1000000 in
theorem psunpack_1 (A : Option Addr) (n c : Nat) (l : List UInt8) (w : World) (hl : l.length = n) (hnc : n ≤ c) (h1 : n ≤ 1000000) (ha : Rd w w.heap.size A l) (t1 : takeL l = none) :
    Calls Tryd.prog 45 #[.slice A n c] w fun e w' => Below w.heap.size w w' ∧ e = .returned unkV := by
  have HL := Lib.hid hl
  have HA := Lib.hid ha
  have HT1 := Lib.hid t1
  clear ha hl t1
  go_enter Tryd.func45, Tryd.ntmps45
  go_wp2_with fail
  with_reducible refine (takeNet_no A n c l _ HL.out hnc h1 (HA.out.on ((Below.refl _ _).alloc (Nat.le_refl _) _)) HT1.out).mono ?_
  rintro e w1 ⟨A1, c1, B1, d1, rfl, hb1⟩
  have hb0 : Below w.heap.size w w1 := ((Below.refl _ w).alloc (Nat.le_refl _) _).trans (hb1.mono (by simp))
  have hk := (Blk.new w #[.bool false, .string ⟨#[]⟩, .int .i64 0] 80).below hb1 (by simp)
  clear hb1
  have x0 : w1.cell? ⟨w.heap.size, 0, none⟩ = some (.bool false) := hk.cell 0
  have x1 : w1.cell? ⟨w.heap.size, 1, none⟩ = some (.string ⟨#[]⟩) := hk.cell 1
  have x2 : w1.cell? ⟨w.heap.size, 2, none⟩ = some (.int .i64 0) := hk.cell 2
  have f0 := hk.frozen 0
  have f1 := hk.frozen 1
  have f2 := hk.frozen 2
  have HK := Lib.hid hk
  have HB := Lib.hid hb0
  clear hk hb0
  go_wp2_with fail
  refine bodyPost_ret (v := unkV) (results_cell_tmp2 (p := 2) (q := 3) (r := 4) (ty := 80) (by kernel_rfl) _ _ w.heap.size 80 #[.bool false, .string ⟨#[]⟩, .int .i64 0] (0, 0) _ (.slice none 0 0) (.bool false) rfl rfl rfl (((HK.out.set 0 _).set 1 _).set 2 _) Tryd.underlying80 rfl (by kernel_rfl)) rfl ?_
  exact ⟨((HB.out.setCell (Nat.le_refl _) _).setCell (Nat.le_refl _) _).setCell (Nat.le_refl _) _, rfl⟩
set_option maxHeartbeats 1000000 in
theorem psunpack_2 (A : Option Addr) (n c : Nat) (l : List UInt8) (w : World) (hl : l.length = n) (hnc : n ≤ c) (h1 : n ≤ 1000000) (ha : Rd w w.heap.size A l) {nm b1 : List UInt8} (t1 : takeL l = some (nm, b1)) (t2 : takeL b1 = none) :
    Calls Tryd.prog 45 #[.slice A n c] w fun e w' => Below w.heap.size w w' ∧ e = .returned unkV := by
  have HL := Lib.hid hl
  have HA := Lib.hid ha
  have HT1 := Lib.hid t1
  have HT2 := Lib.hid t2
  have hlb := (takeL_less t1).2
  have hb1l : b1.length ≤ 1000000 := by omega
  clear ha hl t1 t2 hlb
  go_enter Tryd.func45, Tryd.ntmps45
  go_wp2_with fail
  with_reducible refine (takeNet_yes A n c l _ HL.out hnc h1 (HA.out.on ((Below.refl _ _).alloc (Nat.le_refl _) _)) HT1.out).mono ?_
  rintro e w1 ⟨A1, c1, B1, d1, rfl, hc1, hd1, hr1, hs1, hb1⟩
  have HR1 := Lib.hid hr1
  have HS1 := Lib.hid hs1
  clear hr1 hs1
  have hb0 : Below w.heap.size w w1 := ((Below.refl _ w).alloc (Nat.le_refl _) _).trans (hb1.mono (by simp))
  have hk := (Blk.new w #[.bool false, .string ⟨#[]⟩, .int .i64 0] 80).below hb1 (by simp)
  clear hb1
  have HK := Lib.hid hk
  have HB := Lib.hid hb0
  clear hk hb0
  go_wp2_with fail
  with_reducible refine (takeNet_no B1 _ d1 b1 _ rfl hd1 hb1l HS1.out HT2.out).mono ?_
  rintro e w2 ⟨A2, c2, B2, d2, rfl, hb2⟩
  have HB := Lib.hid (Below.then HB.out hb2)
  have hk := HK.out.below hb2 HK.out.lt
  have HR1 := Lib.hid (HR1.out.on hb2)
  clear HK hb2 
  have x0 : w2.cell? ⟨w.heap.size, 0, none⟩ = some (.bool false) := hk.cell 0
  have x1 : w2.cell? ⟨w.heap.size, 1, none⟩ = some (.string ⟨#[]⟩) := hk.cell 1
  have x2 : w2.cell? ⟨w.heap.size, 2, none⟩ = some (.int .i64 0) := hk.cell 2
  have f0 := hk.frozen 0
  have f1 := hk.frozen 1
  have f2 := hk.frozen 2
  have HK := Lib.hid hk
  clear hk
  go_wp2_with fail
  refine bodyPost_ret (v := unkV) (results_cell_tmp2 (p := 2) (q := 3) (r := 4) (ty := 80) (by kernel_rfl) _ _ w.heap.size 80 #[.bool false, .string ⟨#[]⟩, .int .i64 0] (0, 0) _ (.slice none 0 0) (.bool false) rfl rfl rfl (((HK.out.set 0 _).set 1 _).set 2 _) Tryd.underlying80 rfl (by kernel_rfl)) rfl ?_
  exact ⟨((HB.out.setCell (Nat.le_refl _) _).setCell (Nat.le_refl _) _).setCell (Nat.le_refl _) _, rfl⟩
set_option maxHeartbeats 1000000 in
theorem psunpack_3 (A : Option Addr) (n c : Nat) (l : List UInt8) (w : World) (hl : l.length = n) (hnc : n ≤ c) (h1 : n ≤ 1000000) (ha : Rd w w.heap.size A l) {nm b1 nu b2 : List UInt8} (t1 : takeL l = some (nm, b1)) (t2 : takeL b1 = some (nu, b2)) (h4 : nu.length ≠ 4) :
    Calls Tryd.prog 45 #[.slice A n c] w fun e w' => Below w.heap.size w w' ∧ e = .returned unkV := by
  have HL := Lib.hid hl
  have HA := Lib.hid ha
  have HT1 := Lib.hid t1
  have HT2 := Lib.hid t2
  have hlb := (takeL_less t1).2
  have hb1l : b1.length ≤ 1000000 := by omega
  have hlb2 := (takeL_less t2).2
  have hb2l : b2.length ≤ 1000000 := by omega
  have h4i : ¬ (nu.length : Int) = 4 := by omega
  clear ha hl t1 t2 hlb hlb2
  go_enter Tryd.func45, Tryd.ntmps45
  go_wp2_with fail
  with_reducible refine (takeNet_yes A n c l _ HL.out hnc h1 (HA.out.on ((Below.refl _ _).alloc (Nat.le_refl _) _)) HT1.out).mono ?_
  rintro e w1 ⟨A1, c1, B1, d1, rfl, hc1, hd1, hr1, hs1, hb1⟩
  have HR1 := Lib.hid hr1
  have HS1 := Lib.hid hs1
  clear hr1 hs1
  have hb0 : Below w.heap.size w w1 := ((Below.refl _ w).alloc (Nat.le_refl _) _).trans (hb1.mono (by simp))
  have hk := (Blk.new w #[.bool false, .string ⟨#[]⟩, .int .i64 0] 80).below hb1 (by simp)
  clear hb1
  have HK := Lib.hid hk
  have HB := Lib.hid hb0
  clear hk hb0
  go_wp2_with fail
  with_reducible refine (takeNet_yes B1 _ d1 b1 _ rfl hd1 hb1l HS1.out HT2.out).mono ?_
  rintro e w2 ⟨A2, c2, B2, d2, rfl, hc2, hd2, hr2, hs2, hb2⟩
  have HR2 := Lib.hid hr2
  have HS2 := Lib.hid hs2
  have HB := Lib.hid (Below.then HB.out hb2)
  have hk := HK.out.below hb2 HK.out.lt
  have HR1 := Lib.hid (HR1.out.on hb2)
  clear HK hb2 hr2 hs2
  have x0 : w2.cell? ⟨w.heap.size, 0, none⟩ = some (.bool false) := hk.cell 0
  have x1 : w2.cell? ⟨w.heap.size, 1, none⟩ = some (.string ⟨#[]⟩) := hk.cell 1
  have x2 : w2.cell? ⟨w.heap.size, 2, none⟩ = some (.int .i64 0) := hk.cell 2
  have f0 := hk.frozen 0
  have f1 := hk.frozen 1
  have f2 := hk.frozen 2
  have HK := Lib.hid hk
  clear hk
  go_wp2_with fail
  refine bodyPost_ret (v := unkV) (results_cell_tmp2 (p := 2) (q := 3) (r := 4) (ty := 80) (by kernel_rfl) _ _ w.heap.size 80 #[.bool false, .string ⟨#[]⟩, .int .i64 0] (0, 0) _ (.slice none 0 0) (.bool false) rfl rfl rfl (((HK.out.set 0 _).set 1 _).set 2 _) Tryd.underlying80 rfl (by kernel_rfl)) rfl ?_
  exact ⟨((HB.out.setCell (Nat.le_refl _) _).setCell (Nat.le_refl _) _).setCell (Nat.le_refl _) _, rfl⟩
set_option maxHeartbeats 1000000 in
theorem psunpack_4 (A : Option Addr) (n c : Nat) (l : List UInt8) (w : World) (hl : l.length = n) (hnc : n ≤ c) (h1 : n ≤ 1000000) (ha : Rd w w.heap.size A l) {nm b1 nu b2 : List UInt8} (t1 : takeL l = some (nm, b1)) (t2 : takeL b1 = some (nu, b2)) (h4 : nu.length = 4) (t3 : takeL b2 = none) :
    Calls Tryd.prog 45 #[.slice A n c] w fun e w' => Below w.heap.size w w' ∧ e = .returned unkV := by
  have HL := Lib.hid hl
  have HA := Lib.hid ha
  have HT1 := Lib.hid t1
  have HT2 := Lib.hid t2
  have HT3 := Lib.hid t3
  have hlb := (takeL_less t1).2
  have hb1l : b1.length ≤ 1000000 := by omega
  have hlb2 := (takeL_less t2).2
  have hb2l : b2.length ≤ 1000000 := by omega
  clear ha hl t1 t2 hlb hlb2 t3
  go_enter Tryd.func45, Tryd.ntmps45
  go_wp2_with fail
  with_reducible refine (takeNet_yes A n c l _ HL.out hnc h1 (HA.out.on ((Below.refl _ _).alloc (Nat.le_refl _) _)) HT1.out).mono ?_
  rintro e w1 ⟨A1, c1, B1, d1, rfl, hc1, hd1, hr1, hs1, hb1⟩
  have HR1 := Lib.hid hr1
  have HS1 := Lib.hid hs1
  clear hr1 hs1
  have hb0 : Below w.heap.size w w1 := ((Below.refl _ w).alloc (Nat.le_refl _) _).trans (hb1.mono (by simp))
  have hk := (Blk.new w #[.bool false, .string ⟨#[]⟩, .int .i64 0] 80).below hb1 (by simp)
  clear hb1
  have HK := Lib.hid hk
  have HB := Lib.hid hb0
  clear hk hb0
  go_wp2_with fail
  with_reducible refine (takeNet_yes B1 _ d1 b1 _ rfl hd1 hb1l HS1.out HT2.out).mono ?_
  rintro e w2 ⟨A2, c2, B2, d2, rfl, hc2, hd2, hr2, hs2, hb2⟩
  have HR2 := Lib.hid hr2
  have HS2 := Lib.hid hs2
  have HB := Lib.hid (Below.then HB.out hb2)
  have hk := HK.out.below hb2 HK.out.lt
  have HR1 := Lib.hid (HR1.out.on hb2)
  clear HK hb2 hr2 hs2
  have HK := Lib.hid hk
  clear hk
  rw [h4]
  go_wp2_with fail
  with_reducible refine (takeNet_no B2 _ d2 b2 _ rfl hd2 hb2l HS2.out HT3.out).mono ?_
  rintro e w3 ⟨A3, c3, B3, d3, rfl, hb3⟩
  have HB := Lib.hid (Below.then HB.out hb3)
  have hk := HK.out.below hb3 HK.out.lt
  have HR1 := Lib.hid (HR1.out.on hb3)
  have HR2 := Lib.hid (HR2.out.on hb3)
  clear HK hb3 
  have x0 : w3.cell? ⟨w.heap.size, 0, none⟩ = some (.bool false) := hk.cell 0
  have x1 : w3.cell? ⟨w.heap.size, 1, none⟩ = some (.string ⟨#[]⟩) := hk.cell 1
  have x2 : w3.cell? ⟨w.heap.size, 2, none⟩ = some (.int .i64 0) := hk.cell 2
  have f0 := hk.frozen 0
  have f1 := hk.frozen 1
  have f2 := hk.frozen 2
  have HK := Lib.hid hk
  clear hk
  go_wp2_with fail
  refine bodyPost_ret (v := unkV) (results_cell_tmp2 (p := 2) (q := 3) (r := 4) (ty := 80) (by kernel_rfl) _ _ w.heap.size 80 #[.bool false, .string ⟨#[]⟩, .int .i64 0] (0, 0) _ (.slice none 0 0) (.bool false) rfl rfl rfl (((HK.out.set 0 _).set 1 _).set 2 _) Tryd.underlying80 rfl (by kernel_rfl)) rfl ?_
  exact ⟨((HB.out.setCell (Nat.le_refl _) _).setCell (Nat.le_refl _) _).setCell (Nat.le_refl _) _, rfl⟩
set_option maxHeartbeats 1000000 in
theorem psunpack_5 (A : Option Addr) (n c : Nat) (l : List UInt8) (w : World) (hl : l.length = n) (hnc : n ≤ c) (h1 : n ≤ 1000000) (ha : Rd w w.heap.size A l) {nm b1 nu b2 da b3 : List UInt8} (t1 : takeL l = some (nm, b1)) (t2 : takeL b1 = some (nu, b2)) (h4 : nu.length = 4) (t3 : takeL b2 = some (da, b3)) :
    Calls Tryd.prog 45 #[.slice A n c] w fun e w' => Below w.heap.size w w' ∧ ∃ A' c', e = .returned (.tuple #[.agg #[.bool true, .string ⟨nm.toArray⟩, .int .i64 (getL nu : Int)], .slice A' da.length c', .bool true]) ∧ da.length ≤ c' ∧ Rd w' w'.heap.size A' da := by
  have HL := Lib.hid hl
  have HA := Lib.hid ha
  have HT1 := Lib.hid t1
  have HT2 := Lib.hid t2
  have HT3 := Lib.hid t3
  have hlb := (takeL_less t1).2
  have hb1l : b1.length ≤ 1000000 := by omega
  have hlb2 := (takeL_less t2).2
  have hb2l : b2.length ≤ 1000000 := by omega
  clear ha hl t1 t2 hlb hlb2 t3
  go_enter Tryd.func45, Tryd.ntmps45
  go_wp2_with fail
  with_reducible refine (takeNet_yes A n c l _ HL.out hnc h1 (HA.out.on ((Below.refl _ _).alloc (Nat.le_refl _) _)) HT1.out).mono ?_
  rintro e w1 ⟨A1, c1, B1, d1, rfl, hc1, hd1, hr1, hs1, hb1⟩
  have HR1 := Lib.hid hr1
  have HS1 := Lib.hid hs1
  clear hr1 hs1
  have hb0 : Below w.heap.size w w1 := ((Below.refl _ w).alloc (Nat.le_refl _) _).trans (hb1.mono (by simp))
  have hk := (Blk.new w #[.bool false, .string ⟨#[]⟩, .int .i64 0] 80).below hb1 (by simp)
  clear hb1
  have HK := Lib.hid hk
  have HB := Lib.hid hb0
  clear hk hb0
  go_wp2_with fail
  with_reducible refine (takeNet_yes B1 _ d1 b1 _ rfl hd1 hb1l HS1.out HT2.out).mono ?_
  rintro e w2 ⟨A2, c2, B2, d2, rfl, hc2, hd2, hr2, hs2, hb2⟩
  have HR2 := Lib.hid hr2
  have HS2 := Lib.hid hs2
  have HB := Lib.hid (Below.then HB.out hb2)
  have hk := HK.out.below hb2 HK.out.lt
  have HR1 := Lib.hid (HR1.out.on hb2)
  clear HK hb2 hr2 hs2
  have HK := Lib.hid hk
  clear hk
  rw [h4]
  go_wp2_with fail
  with_reducible refine (takeNet_yes B2 _ d2 b2 _ rfl hd2 hb2l HS2.out HT3.out).mono ?_
  rintro e w3 ⟨A3, c3, B3, d3, rfl, hc3, hd3, hr3, hs3, hb3⟩
  have HR3 := Lib.hid hr3
  have HS3 := Lib.hid hs3
  have HB := Lib.hid (Below.then HB.out hb3)
  have hk := HK.out.below hb3 HK.out.lt
  have HR1 := Lib.hid (HR1.out.on hb3)
  have HR2 := Lib.hid (HR2.out.on hb3)
  clear HK hb3 hr3 hs3
  have HK := Lib.hid hk
  have HG := Lib.hid (get_any A2 4 c2 w3.heap.size nu w3 h4 (by unfold maxLen; omega) HR2.out)
  have hcv := str_rd A1 nm.length c1 nm w3 rfl HR1.out
  have x0 : w3.cell? ⟨w.heap.size, 0, none⟩ = some (.bool false) := hk.cell 0
  have x1 : w3.cell? ⟨w.heap.size, 1, none⟩ = some (.string ⟨#[]⟩) := hk.cell 1
  have x2 : w3.cell? ⟨w.heap.size, 2, none⟩ = some (.int .i64 0) := hk.cell 2
  have f0 := hk.frozen 0
  have f1 := hk.frozen 1
  have f2 := hk.frozen 2
  clear hk
  go_wp2_with fail
  with_reducible refine HG.out.mono ?_
  rintro e w' ⟨rfl, rfl⟩
  rw [if_pos (show 4 ≤ 7 by omega), show decide (4 ≤ 7) = true from rfl]
  go_wp2_with fail
  refine bodyPost_ret (v := .tuple #[.agg #[.bool true, .string ⟨nm.toArray⟩, .int .i64 (getL nu : Int)], .slice A3 da.length c3, .bool true]) (results_cell_tmp2 (p := 2) (q := 3) (r := 4) (ty := 80) (by kernel_rfl) _ _ w.heap.size 80 #[.bool true, .string ⟨nm.toArray⟩, .int .i64 (getL nu : Int)] (0, 0) _ (.slice A3 da.length c3) (.bool true) rfl rfl rfl (((HK.out.set 0 _).set 1 _).set 2 _) Tryd.underlying80 rfl (by kernel_rfl)) rfl ?_
  refine ⟨((HB.out.setCell (Nat.le_refl _) _).setCell (Nat.le_refl _) _).setCell (Nat.le_refl _) _, A3, c3, rfl, hc3, ?_⟩
  exact HR3.out.past HK.out _ _ _
/-- What unpack tells: the record at the beginning of bytes, or that it has no form. -/
def UnPost (w : World) (o : Option Rec11) (e : Ending) (w' : World) : Prop := Below w.heap.size w w' ∧ match o with
  | none => e = .returned unkV
  | some r => ∃ A' c', e = .returned (.tuple #[.agg #[.bool true, .string ⟨r.name.toArray⟩, .int .i64 (r.num : Int)], .slice A' r.data.length c', .bool true]) ∧ r.data.length ≤ c' ∧ Rd w' w'.heap.size A' r.data
theorem psunpack_any (A : Option Addr) (n c : Nat) (l : List UInt8) (w : World) (hl : l.length = n) (hnc : n ≤ c) (h1 : n ≤ 1000000) (ha : Rd w w.heap.size A l) :
    Calls Tryd.prog 45 #[.slice A n c] w (UnPost w (readR l)) := by
  unfold UnPost readR
  cases t1 : takeL l with
  | none => exact psunpack_1 A n c l w hl hnc h1 ha t1
  | some x1 =>
    obtain ⟨nm, b1⟩ := x1
    dsimp only
    cases t2 : takeL b1 with
    | none => exact psunpack_2 A n c l w hl hnc h1 ha t1 t2
    | some x2 =>
      obtain ⟨nu, b2⟩ := x2
      dsimp only
      by_cases h4 : nu.length = 4
      · rw [if_neg (fun k => k h4)]
        cases t3 : takeL b2 with
        | none => exact psunpack_4 A n c l w hl hnc h1 ha t1 t2 h4 t3
        | some x3 => exact psunpack_5 A n c l w hl hnc h1 ha t1 t2 h4 t3
      · rw [if_pos h4]
        exact psunpack_3 A n c l w hl hnc h1 ha t1 t2 h4
end Go.Proofs.YtffllpjlghehiaaDoor
