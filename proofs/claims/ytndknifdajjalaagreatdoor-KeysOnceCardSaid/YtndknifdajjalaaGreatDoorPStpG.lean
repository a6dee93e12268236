/- The program's store: of each name the record of the greatest number stays. -/
import Derived.Maps.OwnSet
import Derived.Maps.Views
import Derived.Deep.QuietTactic
import Derived.Test.YtndknifdajjalaaGreatDoorPStpF
namespace Go.Proofs.YtndknifdajjalaaGreatDoor
open Go.RowKit Go.Maps
set_option maxRecDepth 100000

theorem keyS : Keyed Tryz.prog 9 := string_keyed Tryz.underlying9
theorem zeroI (w : World) : (zeroValue 3).run Tryz.prog w = .ok (.int .i64 0) w := by kernel_rfl
theorem wf64 {k : Int} (h : -9223372036854775808 ≤ k ∧ k ≤ 9223372036854775807) : (Lit.int .i64 k).wf = true := by
  unfold Lit.wf
  simp only [Bool.and_eq_true, decide_eq_true_eq]
  rw [show IntKind.i64.min = -9223372036854775808 from rfl, show IntKind.i64.max = 9223372036854775807 from rfl]
  exact h
/-- The map says what stays of the slots below k. -/
structure MapStay (D : DataW Unit) (V : Nat → Option Rec11) (k : Nat) : Prop where
  map : IsMap D
  has_ : ∀ nm, has D (.string nm) = (stay V k nm).isSome
  at_ : ∀ nm i, stay V k nm = some i → ∀ z, D.atKey (.string nm) z = .lit (.int .i64 (i : Int))
theorem MapStay.zero (V : Nat → Option Rec11) : MapStay (.map []) V 0 := ⟨⟨[], rfl⟩, fun _ => rfl, fun _ _ h => by cases h⟩
theorem MapStay.keep {D : DataW Unit} {V : Nat → Option Rec11} {k : Nat} (h : MapStay D V k) (he : ∀ nm, stay V (k + 1) nm = stay V k nm) : MapStay D V (k + 1) :=
  ⟨h.map, fun nm => by rw [he]; exact h.has_ nm, fun nm i hi => by rw [he] at hi; exact h.at_ nm i hi⟩
theorem MapStay.put {D : DataW Unit} {V : Nat → Option Rec11} {k : Nat} (h : MapStay D V k) {nm : List UInt8} (h1 : stay V (k + 1) nm = some k) (h2 : ∀ m, m ≠ nm → stay V (k + 1) m = stay V k m) : MapStay (D.put (.string nm) (.lit (.int .i64 (k : Int)))) V (k + 1) := by
  have hk : WideAt.IsKeyLit (.string nm) := by trivial
  refine ⟨?_, fun m => ?_, fun m i hi z => ?_⟩
  · obtain ⟨es, rfl⟩ := h.map
    exact ⟨_, rfl⟩
  · by_cases e : m = nm
    · subst e
      rw [has_put_same h.map hk, h1]; rfl
    · rw [has_put_other (by simpa using e), h2 m e]
      exact h.has_ m
  · by_cases e : m = nm
    · subst e
      rw [h1] at hi
      injection hi with hi
      subst hi
      exact atKey_put_same h.map hk _ _
    · rw [atKey_put_other (by simpa using e)]
      exact h.at_ m i (by rw [← h2 m e]; exact hi) z
theorem stay_none {V : Nat → Option Rec11} {k : Nat} (h : V k = none) (nm : List UInt8) : stay V (k + 1) nm = stay V k nm := by
  show (match V k with | none => _ | some r => _) = _
  rw [h]
theorem stay_other {V : Nat → Option Rec11} {k : Nat} {r : Rec11} (h : V k = some r) {nm : List UInt8} (hn : nm ≠ r.name) : stay V (k + 1) nm = stay V k nm := by
  show (match V k with | none => stay V k nm | some r => if r.name = nm then _ else stay V k nm) = _
  rw [h]
  exact if_neg fun e => hn e.symm
theorem stay_new {V : Nat → Option Rec11} {k : Nat} {r : Rec11} (h : V k = some r) (h0 : stay V k r.name = none) : stay V (k + 1) r.name = some k := by
  show (match V k with | none => stay V k r.name | some q => if q.name = r.name then (match stay V k r.name with | none => some k | some b => if ((V b).map (fun x : Rec11 => x.num)).getD 0 < q.num then some k else some b) else stay V k r.name) = _
  rw [h, h0]
  exact if_pos rfl
theorem stay_old {V : Nat → Option Rec11} {k i : Nat} {r q : Rec11} (h : V k = some r) (h0 : stay V k r.name = some i) (hi : V i = some q) : stay V (k + 1) r.name = if q.num < r.num then some k else some i := by
  show (match V k with | none => stay V k r.name | some q => if q.name = r.name then (match stay V k r.name with | none => some k | some b => if ((V b).map (fun x : Rec11 => x.num)).getD 0 < q.num then some k else some b) else stay V k r.name) = _
  rw [h, h0]
  dsimp only
  rw [if_pos rfl, hi]
  rfl

theorem ownsMap_chg {S : Nat → Prop} {w w' : World} {k : TypeId} {Rd : Value → Option (DataW Unit × List MemPlace)} {b n : Nat} {D : DataW Unit} (h : w.ownsMap Tryz.prog k Rd b n D) (hc : Chg S w w') (hb : ¬ S b) : w'.ownsMap Tryz.prog k Rd b n D := by
  have hlt := h.lt
  obtain ⟨es, clock, h1, h2⟩ := h
  exact ⟨es, clock, (hc.block b hlt hb).trans h1, h2⟩
theorem code_fit {s : Dsk} {N i : Nat} (hi : i < N) {m : Nat} (hm : m ≤ 32) : s.code N (i : Int) m = 0 ∨ s.code N (i : Int) m = 8 := by
  unfold Dsk.code
  rw [if_neg (by unfold badW; omega)]
  split
  · exact .inr rfl
  · split
    · exact .inr rfl
    · exact .inl rfl
theorem elder_stop {s : Dsk} {V : Nat → Option Rec11} {R n k : Nat} (hK : elderK s V R n k = false) : ∀ m, elderD s V R n (k + m) = elderD s V R n k ∧ elderK s V R n (k + m) = false
  | 0 => ⟨rfl, hK⟩
  | m + 1 => by
    obtain ⟨h1, h2⟩ := elder_stop hK m
    rw [← h1, ← Nat.add_assoc]
    unfold elderD elderK at *
    rw [elderS_succ]
    split
    · rw [freeW_append, Dsk.all_append, if_neg (by rw [h2]; simp)]
      exact ⟨rfl, h2⟩
    · exact ⟨rfl, h2⟩
theorem load_stop {s : Dsk} {R n k : Nat} (hK : loadK s R n k = false) : ∀ m, loadD s R n (k + m) = loadD s R n k ∧ loadK s R n (k + m) = false
  | 0 => ⟨rfl, hK⟩
  | m + 1 => by
    obtain ⟨h1, h2⟩ := load_stop hK m
    rw [← h1, ← Nat.add_assoc]
    unfold loadD loadK at *
    rw [junkS_succ]
    split
    · rw [freeW_append, Dsk.all_append, if_neg (by rw [h2]; simp)]
      exact ⟨rfl, h2⟩
    · exact ⟨rfl, h2⟩

set_option maxHeartbeats 4000000 in
theorem pselder_any {w : World} {q p g b c : Nat} {s : Dsk} {R n : Nat} {E : Nat → Ent} {V : Nat → Option Rec11} (h : SP w q p g b c s R n E false) (hE : ∀ i, i < n → E i = (V i).map fun r => (r.name, r.num)) (hN : ∀ i r, i < n → V i = some r → r.name.length ≤ 1000000) :
    Calls Tryz.prog 29 #[.pointer (some ⟨q, 0, none⟩)] w fun e w' => e = .returned (.int .i64 (if elderK s V R n n = true then 0 else 8)) ∧ SP w' q p g b c (elderD s V R n n) R n (elderE E V n n) (!elderK s V R n n) ∧ Chg (fourS q p g b) w w' := by
  have hmm := @run_makeMap Tryz.prog
  obtain ⟨KK, hKK⟩ : ∃ KK : Int, (if elderK s V R n n = true then 0 else 8) = KK := ⟨_, rfl⟩
  rw [hKK]
  have HKK := Lib.hid hKK
  clear hKK
  obtain ⟨KB, hKB⟩ : ∃ KB : Bool, (!elderK s V R n n) = KB := ⟨_, rfl⟩
  rw [hKB]
  have HKB := Lib.hid hKB
  clear hKB
  have H := Lib.hid h
  have hsz := h.size
  obtain ⟨c0, c1, c2, c3⟩ := h.cells
  have hmb : Below w.heap.size w (w.alloc (.map #[] 0)) := (Below.refl _ _).alloc (Nat.le_refl _) _
  have c2' : (w.alloc (.map #[] 0)).cell? ⟨q, 2, none⟩ = some (.slice (some ⟨b, 0, none⟩) n n) := (h.below hmb).cells.2.2.1
  have HE := Lib.hid hE
  clear h c2 hE
  go_enter Tryz.func29, Tryz.ntmps29
  go_wp2
  go_loopw [17] (fun i wr => ∃ k : Nat, k ≤ n ∧ i = .int .i64 k ∧ Hid (∃ D, MapStay D V k ∧ wr.ownsMap Tryz.prog 9 (plainElem Tryz.prog 3) w.heap.size k D) ∧ Below w.heap.size w wr) (fun i _ => n - (intOf i).toNat)
  case atStart => exact ⟨0, Nat.zero_le _, rfl, Lib.hid ⟨_, MapStay.zero V, World.ownsMap_made _ _ _ _⟩, (Below.refl _ _).alloc (Nat.le_refl _) _⟩
  case round =>
    obtain ⟨k, hk, rfl, HD, hbel⟩ := hrel
    by_cases hlt : k < n
    · have hki : (k : Int) < (n : Int) := by omega
      have hS := H.out.below hbel
      obtain ⟨D, hD, hM⟩ := HD.out
      have e0 := hS.cell0 hlt
      have e1 := hS.cellE hlt (j := 1) (by omega)
      have e2 := hS.cellE hlt (j := 2) (by omega)
      rw [HE.out k hlt] at e0 e1 e2
      cases hv : V k with
      | none =>
        rw [hv] at e0 e1 e2
        have e0' : wr.cell? ⟨b, k * 3, none⟩ = some (.bool false) := e0
        have e1' : wr.cell? ⟨b, k * 3 + 1, none⟩ = some (.string ⟨#[]⟩) := e1
        have e2' : wr.cell? ⟨b, k * 3 + 2, none⟩ = some (.int .i64 0) := e2
        clear e0 e1 e2 hS hmm
        go_wp2_with fail
        exact ⟨⟨k + 1, by omega, by go_num, Lib.hid ⟨D, hD.keep (stay_none hv), (hM.alloc _).mono (by omega)⟩, hbel.alloc hbel.size _⟩, by simp [intOf]; omega⟩
      | some r =>
        rw [hv] at e0 e1 e2
        have e0' : wr.cell? ⟨b, k * 3, none⟩ = some (.bool true) := e0
        have e1' : wr.cell? ⟨b, k * 3 + 1, none⟩ = some (.string ⟨r.name.toArray⟩) := e1
        have e2' : wr.cell? ⟨b, k * 3 + 2, none⟩ = some (.int .i64 (r.num : Int)) := e2
        have hb2 : Below wr.heap.size wr (wr.alloc (.cells #[.bool true, .string ⟨r.name.toArray⟩, .int .i64 (r.num : Int)] 114)) := (Below.refl _ _).alloc (Nat.le_refl _) _
        have hM2 := hM.alloc (.cells #[.bool true, .string ⟨r.name.toArray⟩, .int .i64 (r.num : Int)] 114)
        have hkey : keyOf Tryz.prog 9 (.string ⟨r.name.toArray⟩) = some (.string r.name) := by
          have := Go.WideMaps.keyOf_string_mk Tryz.underlying9 (s := ⟨r.name.toArray⟩) (by show r.name.toArray.size ≤ maxLen; have := hN k r hlt hv; unfold maxLen; simp; omega)
          simpa using this
        have hwf : (Lit.int .i64 (k : Int)).wf = true := wf64 (by omega)
        have S2 := hS.below hb2
        have hbel2 := Below.then hbel hb2
        have HBL := Lib.hid hbel2
        have hhas := hD.has_ r.name
        have hsp := stay_spec V r.name k
        rcases hsp with ⟨hst, _⟩ | ⟨i, q', hst, hbest, hnm⟩
        · rw [hst] at hhas
          have hh : has D (.string r.name) = false := hhas
          have HD2 := Lib.hid (hD.put (stay_new hv hst) (fun m hm => stay_other hv hm))
          clear e0 e1 e2 hS hmm hb2 hhas S2
          go_wp2_with (at_lookup; refine wpList_lookup_own_ok_int _ rfl _ _ 117 rfl 9 3 .i64 keyS Tryz.underlying117 Tryz.underlying3 (zeroI _) w.heap.size k D rfl hM2 _ _ rfl hkey ?_; intro c hat hwc; rw [hh])
          clear hat hwc hM
          go_quiet (fail)
          all_goals
            rename_i nq
            have hk3 := (Blk.new wr #[.bool true, .string ⟨r.name.toArray⟩, .int .i64 (r.num : Int)] 114).drewN nq
            have hM3 := Lib.hid (show ((wr.alloc (.cells #[.bool true, .string ⟨r.name.toArray⟩, .int .i64 (r.num : Int)] 114)).drewN nq).ownsMap Tryz.prog 9 (plainElem Tryz.prog 3) w.heap.size k D from hM2)
            have hbel3 := Lib.hid (below_drewN hbel2 nq)
            clear hM2 hbel2 e0' e1' e2' HBL
            obtain ⟨g, hg⟩ : ∃ g, wr.heap.size = g := ⟨_, rfl⟩
            rw [hg] at hk3 ⊢
            clear hg
            generalize (wr.alloc (.cells #[.bool true, .string ⟨r.name.toArray⟩, .int .i64 (r.num : Int)] 114)).drewN nq = w3 at *
            have k0 : w3.cell? ⟨g, 0, none⟩ = some (.bool true) := hk3.cell 0
            have k1 : w3.cell? ⟨g, 1, none⟩ = some (.string ⟨r.name.toArray⟩) := hk3.cell 1
            have k2 : w3.cell? ⟨g, 2, none⟩ = some (.int .i64 (r.num : Int)) := hk3.cell 2
            clear hk3
            go_wp2_with (at_mapUpdate; refine wpList_mapUpdate_own _ rfl _ _ _ 117 rfl 9 3 keyS Tryz.underlying117 _ w.heap.size k D rfl hM3.out (by unfold maxLen; omega) _ _ _ rfl rfl hkey _ [] (plainElem_int Tryz.underlying3 hwf) ?_)
            intro w4 hM4 hg4
            have hbel4 := hbel3.out.grown hg4 hbel3.out.size (fun j hj => by cases hj; exact Nat.le_refl _)
            have HM4 := Lib.hid hM4
            clear hM4 hg4 hM3 hbel3 k0 k1 k2
            go_wp2_with fail
            go_roundw
            case rel => exact ⟨k + 1, by omega, by go_num, Lib.hid ⟨_, HD2.out, HM4.out⟩, hbel4⟩
            case measure => simp [intOf]; omega
        · rw [hst] at hhas
          have hh : has D (.string r.name) = true := hhas
          have hat1 := hD.at_ _ _ hst (.lit (.int .i64 0))
          have hik : i < k := stay_lt hst
          have hin : i < n := by omega
          have hini : (i : Int) < (n : Int) := by omega
          have d2 := S2.cellE hin (j := 2) (by omega)
          rw [HE.out i hin, hbest.2.1] at d2
          have d2' : (wr.alloc (.cells #[.bool true, .string ⟨r.name.toArray⟩, .int .i64 (r.num : Int)] 114)).cell? ⟨b, i * 3 + 2, none⟩ = some (.int .i64 (q'.num : Int)) := d2
          have q2' : (wr.alloc (.cells #[.bool true, .string ⟨r.name.toArray⟩, .int .i64 (r.num : Int)] 114)).cell? ⟨q, 2, none⟩ = some (.slice (some ⟨b, 0, none⟩) n n) := S2.cells.2.2.1
          have hold := stay_old hv hst hbest.2.1
          clear e0 e1 e2 hS hmm hb2 hhas S2 d2
          by_cases hgt : q'.num < r.num
          · rw [if_pos hgt] at hold
            have hgi : (q'.num : Int) < (r.num : Int) := by omega
            have HD2 := Lib.hid (hD.put hold (fun m hm => stay_other hv hm))
            clear hD hold
            go_wp2_with (at_lookup; refine wpList_lookup_own_ok_int _ rfl _ _ 117 rfl 9 3 .i64 keyS Tryz.underlying117 Tryz.underlying3 (zeroI _) w.heap.size k D rfl hM2 _ _ rfl hkey ?_; intro c hat hwc; rw [hh]; obtain rfl : c = (i : Int) := by rw [hat1] at hat; injection hat with hat; injection hat with _ hat; exact hat.symm)
            clear hat hwc hM hat1
            go_quiet (fail)
            all_goals
              rename_i nq
              have hk3 := (Blk.new wr #[.bool true, .string ⟨r.name.toArray⟩, .int .i64 (r.num : Int)] 114).drewN nq
              have hM3 := Lib.hid (show ((wr.alloc (.cells #[.bool true, .string ⟨r.name.toArray⟩, .int .i64 (r.num : Int)] 114)).drewN nq).ownsMap Tryz.prog 9 (plainElem Tryz.prog 3) w.heap.size k D from hM2)
              have hbel3 := Lib.hid (below_drewN hbel2 nq)
              clear d2' q2' hM2 hbel2 e0' e1' e2' HBL
              obtain ⟨g, hg⟩ : ∃ g, wr.heap.size = g := ⟨_, rfl⟩
              rw [hg] at hk3 ⊢
              clear hg
              generalize (wr.alloc (.cells #[.bool true, .string ⟨r.name.toArray⟩, .int .i64 (r.num : Int)] 114)).drewN nq = w3 at *
              have k0 : w3.cell? ⟨g, 0, none⟩ = some (.bool true) := hk3.cell 0
              have k1 : w3.cell? ⟨g, 1, none⟩ = some (.string ⟨r.name.toArray⟩) := hk3.cell 1
              have k2 : w3.cell? ⟨g, 2, none⟩ = some (.int .i64 (r.num : Int)) := hk3.cell 2
              clear hk3
              go_wp2_with (at_mapUpdate; refine wpList_mapUpdate_own _ rfl _ _ _ 117 rfl 9 3 keyS Tryz.underlying117 _ w.heap.size k D rfl hM3.out (by unfold maxLen; omega) _ _ _ rfl rfl hkey _ [] (plainElem_int Tryz.underlying3 hwf) ?_)
              intro w4 hM4 hg4
              have hbel4 := hbel3.out.grown hg4 hbel3.out.size (fun j hj => by cases hj; exact Nat.le_refl _)
              have HM4 := Lib.hid hM4
              clear hM4 hg4 hM3 hbel3 k0 k1 k2
              go_wp2_with fail
              go_roundw
              case rel => exact ⟨k + 1, by omega, by go_num, Lib.hid ⟨_, HD2.out, HM4.out⟩, hbel4⟩
              case measure => simp [intOf]; omega
          · rw [if_neg hgt] at hold
            have hgi : ¬ (q'.num : Int) < (r.num : Int) := by omega
            have HD2 := Lib.hid (hD.keep (fun m => by
              by_cases e : m = r.name
              · subst e; rw [hold, hst]
              · exact stay_other hv e))
            clear hD hold
            go_wp2_with (at_lookup; refine wpList_lookup_own_ok_int _ rfl _ _ 117 rfl 9 3 .i64 keyS Tryz.underlying117 Tryz.underlying3 (zeroI _) w.heap.size k D rfl hM2 _ _ rfl hkey ?_; intro c hat hwc; rw [hh]; obtain rfl : c = (i : Int) := by rw [hat1] at hat; injection hat with hat; injection hat with _ hat; exact hat.symm)
            clear hat hwc hM hat1
            go_quiet (fail)
            all_goals
              rename_i nq
              have hM3 := Lib.hid (show ((wr.alloc (.cells #[.bool true, .string ⟨r.name.toArray⟩, .int .i64 (r.num : Int)] 114)).drewN nq).ownsMap Tryz.prog 9 (plainElem Tryz.prog 3) w.heap.size k D from hM2)
              have hbel3 := Lib.hid (below_drewN hbel2 nq)
              clear d2' q2' hM2 hbel2 e0' e1' e2' HBL
              generalize (wr.alloc (.cells #[.bool true, .string ⟨r.name.toArray⟩, .int .i64 (r.num : Int)] 114)).drewN nq = w3 at *
              go_wp2_with fail
              go_roundw
              case rel => exact ⟨k + 1, by omega, by go_num, Lib.hid ⟨_, HD2.out, hM3.out.mono (by omega)⟩, hbel3.out⟩
              case measure => simp [intOf]; omega
    · have hge : ¬ (k : Int) < (n : Int) := by omega
      obtain rfl : k = n := by omega
      obtain ⟨D, hD, hM⟩ := HD.out
      have HDS := Lib.hid hD
      have HM := Lib.hid hM
      have HS := Lib.hid (H.out.below hbel)
      have q2 : wr.cell? ⟨q, 2, none⟩ = some (.slice (some ⟨b, 0, none⟩) k k) := HS.out.cells.2.2.1
      have HNB := Lib.hid (show ¬ fourS q p g b w.heap.size from fun e => by
        have h1 := H.out.head.lt
        have h2 := H.out.disk.head.lt
        have h3 := H.out.disk.body.lt
        have h4 := (H.out.ents rfl).lt
        rcases e with e | e | e | e <;> omega)
      have HC := Lib.hid (show Chg (fourS q p g b) w wr from .of_below hbel)
      clear hD hM hmm HD c0 c1 c2' c3 hmb hbel H
      go_wp2_with fail
      clear q2
      go_loopw [57] (fun i w2 => ∃ j : Nat, j ≤ k ∧ i = .int .i64 j ∧ Hid (SP w2 q p g b c (elderD s V R k j) R k (elderE E V k j) false) ∧ Hid (elderK s V R k j = true) ∧ Hid (w2.ownsMap Tryz.prog 9 (plainElem Tryz.prog 3) w.heap.size k D) ∧ Hid (Chg (fourS q p g b) w w2)) (fun i _ => k - (intOf i).toNat)
      case atStart => exact ⟨0, Nat.zero_le _, rfl, Lib.hid (HS.out.congr fun _ i _ => rfl), Lib.hid rfl, HM, HC⟩
      case round =>
        clear HS HM HC
        obtain ⟨j, hj, rfl, HS, HK, HM, HC⟩ := hrel
        by_cases hjt : j < k
        · have hji : (j : Int) < (k : Int) := by omega
          have e0 := HS.out.cell0 hjt
          have e1 := HS.out.cellE hjt (j := 1) (by omega)
          have e2 := HS.out.cellE hjt (j := 2) (by omega)
          rw [elderE_at, HE.out j hjt] at e0 e1 e2
          cases hv : V j with
          | none =>
            rw [hv] at e0 e1 e2
            have e0' : wr.cell? ⟨b, j * 3, none⟩ = some (.bool false) := e0
            have e1' : wr.cell? ⟨b, j * 3 + 1, none⟩ = some (.string ⟨#[]⟩) := e1
            have e2' : wr.cell? ⟨b, j * 3 + 2, none⟩ = some (.int .i64 0) := e2
            clear e0 e1 e2
            obtain ⟨k1, k2, k3⟩ := elder_keep (s := s) (R := R) (n := k) (k := j) (V := V) (fun x => x.1 hv)
            have hb2 : Below wr.heap.size wr (wr.alloc (.cells #[.bool false, .string ⟨#[]⟩, .int .i64 0] 114)) := (Below.refl _ _).alloc (Nat.le_refl _) _
            go_wp2_with fail
            exact ⟨⟨j + 1, by omega, by go_num, Lib.hid (by rw [k1, k3]; exact HS.out.below hb2), Lib.hid (by rw [k2]; exact HK.out), Lib.hid (HM.out.alloc _), Lib.hid (HC.out.trans (.of_below hb2))⟩, by simp [intOf]; omega⟩
          | some r =>
            rw [hv] at e0 e1 e2
            have e0' : wr.cell? ⟨b, j * 3, none⟩ = some (.bool true) := e0
            have e1' : wr.cell? ⟨b, j * 3 + 1, none⟩ = some (.string ⟨r.name.toArray⟩) := e1
            have e2' : wr.cell? ⟨b, j * 3 + 2, none⟩ = some (.int .i64 (r.num : Int)) := e2
            clear e0 e1 e2
            have hb2 : Below wr.heap.size wr (wr.alloc (.cells #[.bool true, .string ⟨r.name.toArray⟩, .int .i64 (r.num : Int)] 114)) := (Below.refl _ _).alloc (Nat.le_refl _) _
            have hM2 := HM.out.alloc (.cells #[.bool true, .string ⟨r.name.toArray⟩, .int .i64 (r.num : Int)] 114)
            have hkey : keyOf Tryz.prog 9 (.string ⟨r.name.toArray⟩) = some (.string r.name) := by
              have := Go.WideMaps.keyOf_string_mk Tryz.underlying9 (s := ⟨r.name.toArray⟩) (by show r.name.toArray.size ≤ maxLen; have := hN j r hjt hv; unfold maxLen; simp; omega)
              simpa using this
            obtain ⟨bs, hbs, hbe⟩ := stay_ent hjt hv
            have hat1 := HDS.out.at_ _ _ hbs (.lit (.int .i64 0))
            obtain ⟨cc, hrun, hat, hwc⟩ := hM2.lookup_int keyS Tryz.underlying117 Tryz.underlying3 (zeroI _) hkey
            obtain rfl : cc = (bs : Int) := by rw [hat1] at hat; injection hat with hat; injection hat with _ hat; exact hat.symm
            have HS2 := Lib.hid (HS.out.below hb2)
            have HC2 := Lib.hid (HC.out.trans (.of_below hb2))
            have HM2 := Lib.hid hM2
            clear hat hwc hat1 hkey hM2
            by_cases hbj : bs = j
            · have hne := hbe.1 hbj
              subst hbj
              obtain ⟨k1, k2, k3⟩ := elder_keep (s := s) (R := R) (n := k) (k := bs) (V := V) (fun x => hne x.2)
              go_wp2_with fail
              exact ⟨⟨bs + 1, by omega, by go_num, Lib.hid (by rw [k1, k3]; exact HS2.out), Lib.hid (by rw [k2]; exact HK.out), Lib.hid HM2.out, Lib.hid HC2.out⟩, by simp [intOf]; omega⟩
            · have hne : (decide ((bs : Int) = (j : Int))) = false := decide_eq_false (by omega)
              have hnn : ¬ (bs : Int) = (j : Int) := by omega
              have hel : V j ≠ none ∧ entB V k j = none := ⟨by rw [hv]; simp, by
                cases he : entB V k j with
                | none => rfl
                | some x => exact absurd (hbe.2 (by rw [he]; simp)) hbj⟩
              have hpl := (HS2.out.place hjt (Nat.zero_le R)).1
              have HF := Lib.hid (psfree_any HS2.out hjt)
              obtain ⟨l1, l2⟩ := elder_free (s := s) (R := R) (n := k) hel HK.out
              rw [← l1, ← elderE_free _ hel] at HF
              have hcode := code_fit (s := elderD s V R k j) (N := k * (R + 1)) (i := j * (R + 1)) (by omega) (m := 0) (by omega)
              generalize Dsk.code (elderD s V R k j) (k * (R + 1)) ((j * (R + 1) : Nat) : Int) 0 = CC at HF l2 hcode
              rcases hcode with rfl | rfl
              · have HK1 := Lib.hid (show elderK s V R k (j + 1) = true from l2)
                clear l1 l2
                go_wp2_with fail
                with_reducible refine HF.out.mono ?_
                rintro e w4 ⟨rfl, S4, C4⟩
                have HS4 := Lib.hid (show SP w4 q p g b c (elderD s V R k (j + 1)) R k (elderE E V k (j + 1)) false from S4)
                have HC4 := Lib.hid (HC2.out.trans C4)
                have HM4 := Lib.hid (ownsMap_chg HM2.out C4 HNB.out)
                clear S4 C4 HF HS2 HC2 HM2
                go_wp2_with fail
                go_roundw
                case rel => exact ⟨j + 1, by omega, by go_num, HS4, HK1, HM4, HC4⟩
                case measure => simp [intOf]; omega
              · have HK1 := Lib.hid (show elderK s V R k (j + 1) = false from l2)
                clear l1 l2
                go_wp2_with fail
                with_reducible refine HF.out.mono ?_
                rintro e w4 ⟨rfl, S4, C4⟩
                have HS4 := Lib.hid (show SP w4 q p g b c (elderD s V R k (j + 1)) R k (elderE E V k (j + 1)) true from S4)
                have HC4 := Lib.hid (HC2.out.trans C4)
                clear S4 C4 HF HS2 HC2 HM2
                go_wp2_with fail
                go_ret
                obtain ⟨m1, m2⟩ := elder_stop HK1.out (k - (j + 1))
                rw [show j + 1 + (k - (j + 1)) = k by omega] at m1 m2
                have hk1 := HKK.out
                have hk2 := HKB.out
                rw [m2] at hk1 hk2
                subst hk1 hk2
                refine ⟨rfl, ?_, HC4.out⟩
                rw [m1]
                exact HS4.out.congr (fun e => by cases e)
        · have hge : ¬ (j : Int) < (k : Int) := by omega
          obtain rfl : j = k := by omega
          go_wp2_with fail
          go_ret
          have hk1 := HKK.out
          have hk2 := HKB.out
          rw [HK.out] at hk1 hk2
          subst hk1 hk2
          exact ⟨rfl, HS.out, HC.out⟩
end Go.Proofs.YtndknifdajjalaaGreatDoor
