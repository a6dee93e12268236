/- The program's store: Fits, Get, Drop, Free. -/
import Derived.Test.YtffllpjlghehiaaDoorStpJ
namespace Go.Proofs.YtffllpjlghehiaaDoor
open Go.RowKit
set_option maxRecDepth 100000

/-- The program's store, in good order. -/
structure ST (w : World) (q p g b c : Nat) (s : Dsk) (R n m : Nat) (t : Sto) : Prop where
  sp : SP w q p g b c s R n (viewE s.B R) t.died
  bl : b < w.heap.size
  good : Good t s R n m
  live : t.died = false → s.dead = false
theorem ST.below {w w' : World} {q p g b c : Nat} {s : Dsk} {R n m : Nat} {t : Sto} (h : ST w q p g b c s R n m t) (hb : Below w.heap.size w w') : ST w' q p g b c s R n m t :=
  ⟨h.sp.below hb, Nat.lt_of_lt_of_le h.bl hb.size, h.good, h.live⟩

set_option maxHeartbeats 1000000 in
theorem psfits_any {w : World} {q p g b c : Nat} {s : Dsk} {R n : Nat} {E : Nat → Ent} {died : Bool} (h : SP w q p g b c s R n E died) (name data : List UInt8) (A : Option Addr) (m d : Nat) (hl : data.length = m) (hmd : m ≤ d) (hdm : d ≤ maxLen) (hr : Rd w w.heap.size A data) (htab : Pow10 w.heap.size w) (h1 : name.length ≤ 1000) (h2 : m ≤ 1000) :
    Calls Tryd.prog 37 #[.pointer (some ⟨q, 0, none⟩), .string ⟨name.toArray⟩, .slice A m d] w fun e w' => e = .returned (.bool (fitsR R name data)) ∧ Below w.heap.size w w' := by
  have H := Lib.hid h
  have hsz := h.size
  obtain ⟨c0, c1, c2, c3⟩ := h.cells
  obtain ⟨z, hz⟩ : ∃ z, (recL ⟨name, 1, data⟩).length = z := ⟨_, rfl⟩
  have HF := Lib.hid (show fitsR R name data = decide (z ≤ R * 32) by
    unfold fitsR
    rw [hz]
    have : (name.length ≤ 16384 ∧ data.length ≤ 16384 ∧ z ≤ R * 32) ↔ z ≤ R * 32 := ⟨fun h => h.2.2, fun h => ⟨by omega, by omega, h⟩⟩
    exact decide_eq_decide.2 this)
  have HKEEP := Lib.hid (fun (W : World) (h' : Below w.heap.size w W) => (show W.cell? ⟨q, 1, none⟩ = some (.int .i64 (R : Int)) ∧ Below w.heap.size w W from ⟨(H.out.below h').cells.2.1, h'⟩))
  have hcd : Below w.heap.size w w.drew := (Below.refl _ _).drew
  have HP := Lib.hid (show Calls Tryd.prog 41 #[.string ⟨name.toArray⟩, .int .i64 1, .slice A m d] w.drew fun e w' => ∃ g' c', e = .returned (.slice (some ⟨g', 0, none⟩) z c') ∧ Below w.drew.heap.size w.drew w' from
    (pspack_any name data 1 A m d w.drew hl hmd hdm (hr.on hcd) (tab_on htab hcd) h1 h2 (by omega)).mono fun e w' ⟨g', c', he, _, _, _, _, hb⟩ => ⟨g', c', by rw [← hz]; exact he, hb⟩)
  obtain ⟨nl, hnl⟩ : ∃ nl, name.toArray.size = nl := ⟨_, rfl⟩
  have hnl1 : nl ≤ 1000 := by rw [← hnl]; simpa using h1
  have hd1 : decide (16384 < (nl : Int)) = false := decide_eq_false (by omega)
  have hd2 : decide (16384 < (m : Int)) = false := decide_eq_false (by omega)
  have hw : IntKind.i64.wrap ((R : Int) * 32) = ((R * 32 : Nat) : Int) := by rw [IntWalk.i64_in _ (by omega)]; omega
  have hbs : (⟨name.toArray⟩ : ByteArray).size = nl := hnl
  clear h hr htab hz
  rw [HF.out]
  go_enter Tryd.func37, Tryd.ntmps37
  go_wp2_with fail
  go_region_held3 (fun W => W.cell? ⟨q, 1, none⟩ = some (.int .i64 (R : Int)) ∧ Below w.heap.size w W)
    ((first | exact HKEEP.out _ ‹_› | exact HKEEP.out _ (Below.drew ‹_›) | exact HKEEP.out _ (below_drewN ‹_› _)))
    ((go_at_call 41; refine HP.out.mono ?_; rintro e w5 ⟨g', c', rfl, hb5⟩; have hbel5 := hcd.trans (hb5.mono hcd.size)))
  all_goals
    go_wp2_with fail
    go_ret
    exact ⟨congrArg (fun x => Ending.returned (.bool x)) (decide_eq_decide.2 (by omega)), hbel5⟩

/-! ### Get -/
def GetPost (w : World) (o : Option (List UInt8)) (e : Ending) (w' : World) : Prop := Below w.heap.size w w' ∧ match o with
  | none => e = .returned (.tuple #[.slice none 0 0, .bool false])
  | some d => ∃ A' c', e = .returned (.tuple #[.slice A' d.length c', .bool true]) ∧ d.length ≤ c' ∧ Rd w' w'.heap.size A' d
theorem get_none {w : World} {q : Nat} (name : List UInt8)
    (hf : Calls Tryd.prog 35 #[.pointer (some ⟨q, 0, none⟩), .string ⟨name.toArray⟩] w fun e w' => e = .returned (.int .i64 (-1)) ∧ Below w.heap.size w w') :
    Calls Tryd.prog 19 #[.pointer (some ⟨q, 0, none⟩), .string ⟨name.toArray⟩] w (GetPost w none) := by
  have HF := Lib.hid hf
  clear hf
  go_enter Tryd.func19, Tryd.ntmps19
  go_wp2_with fail
  with_reducible refine HF.out.mono ?_
  rintro e w1 ⟨rfl, hb1⟩
  go_wp2_with fail
  go_ret2
  exact ⟨hb1, rfl⟩
theorem slot_read {s : Dsk} {R i : Nat} {r : Rec11} (hv : slotB s.B R i = some r) : readR (roomB s.B R i) = some r := by
  unfold slotB at hv
  split at hv
  · exact hv
  · cases hv
set_option maxHeartbeats 1000000 in
theorem get_some {w : World} {q p g b c : Nat} {s : Dsk} {R n : Nat} {E : Nat → Ent} (h : SP w q p g b c s R n E false) (hd : s.dead = false) (name : List UInt8) {i : Nat} (hi : i < n) {r : Rec11} (hv : slotB s.B R i = some r)
    (hf : Calls Tryd.prog 35 #[.pointer (some ⟨q, 0, none⟩), .string ⟨name.toArray⟩] w fun e w' => e = .returned (.int .i64 (i : Int)) ∧ Below w.heap.size w w') :
    Calls Tryd.prog 19 #[.pointer (some ⟨q, 0, none⟩), .string ⟨name.toArray⟩] w (GetPost w (some r.data)) := by
  have HF := Lib.hid hf
  have H := Lib.hid h
  have hsz := h.size
  have HL := Lib.hid (room_len h.geo hi)
  have HV := Lib.hid (slot_read hv)
  have hRb : R * 32 ≤ 1000000 := by omega
  clear hf h hv
  go_enter Tryd.func19, Tryd.ntmps19
  go_wp2_with fail
  with_reducible refine HF.out.mono ?_
  rintro e w1 ⟨rfl, hb1⟩
  have hni : ¬ (i : Int) < 0 := by omega
  go_wp2_with fail
  with_reducible refine (psread_any (H.out.below hb1) hi hd).mono ?_
  rintro e w2 ⟨A2, k2, rfl, hc2, hr2, hb2⟩
  have HR2 := Lib.hid hr2
  have hbb2 := Below.then hb1 hb2
  clear hr2 hb2 hb1
  go_wp2_with fail
  with_reducible refine (psunpack_any A2 (R * 32) k2 (roomB s.B R i) w2 HL.out hc2 hRb HR2.out).mono ?_
  rw [HV.out]
  rintro e w3 ⟨hb3, A3, k3, rfl, hc3, hr3⟩
  have hbb3 := Below.then hbb2 hb3
  have HR3 := Lib.hid hr3
  clear hr3 hb3 hbb2
  go_wp2_with fail
  go_ret2
  exact ⟨hbb3.alloc hbb3.size _, A3, k3, rfl, hc3, HR3.out.on ((Below.refl _ _).alloc (Nat.le_refl _) _)⟩
theorem psget_any {w : World} {q p g b c : Nat} {s : Dsk} {R n m : Nat} {t : Sto} (h : ST w q p g b c s R n m t) (name : List UInt8) :
    Calls Tryd.prog 19 #[.pointer (some ⟨q, 0, none⟩), .string ⟨name.toArray⟩] w (GetPost w (t.get name)) := by
  unfold Sto.get
  cases hd : t.died with
  | true =>
    rw [if_pos rfl]
    have hs := h.sp
    rw [hd] at hs
    exact get_none name (psfind_dead hs name)
  | false =>
    rw [if_neg (by simp)]
    have hs := h.sp
    rw [hd] at hs
    have hf := psfind_live hs name
    rw [find_first h.good hd name] at hf
    cases ho : oldE t.l name with
    | none =>
      rw [ho] at hf
      exact get_none name hf
    | some x =>
      rw [ho] at hf
      have hb := ((h.good.clean hd).1.1.2 x).1 (oldE_some ho).1
      exact get_some hs (h.live hd) name hb.1 hb.2.1 hf

/-! ### Free -/
def cntF (E : Nat → Ent) : Nat → Nat
  | 0 => 0
  | k + 1 => cntF E k + if (E k).isNone then 1 else 0
theorem cntF_le (E : Nat → Ent) : ∀ k, cntF E k ≤ k
  | 0 => Nat.le_refl _
  | k + 1 => by
    have := cntF_le E k
    unfold cntF
    split <;> omega
theorem cntF_filter (E : Nat → Ent) : ∀ k, cntF E k = ((List.range k).filter fun i => (E i).isNone).length
  | 0 => rfl
  | k + 1 => by
    unfold cntF
    rw [cntF_filter E k, List.range_succ, List.filter_append, List.length_append]
    cases h : (E k).isNone <;> simp [h]
theorem cnt_free {t : Sto} {s : Dsk} {R n m : Nat} (h : Good t s R n m) (hd : t.died = false) : cntF (viewE s.B R) n = n - t.l.length := by
  have hc := (h.clean hd).1
  have hl := freeB_len hc.slots
  have e : (List.range n).filter (fun i => (viewE s.B R i).isNone) = freeB t.l n := by
    unfold freeB
    refine List.filter_congr fun i hi => ?_
    have hi' := List.mem_range.1 hi
    unfold viewE
    cases hs : slotB s.B R i with
    | none =>
      refine Eq.symm ?_
      show (t.l.all fun x => decide (x.2 ≠ i)) = true
      rw [List.all_eq_true]
      intro x hx
      refine decide_eq_true fun e => ?_
      have := ((hc.1.2 x).1 hx).2.1
      rw [e, hs] at this
      cases this
    | some r =>
      refine Eq.symm ?_
      show (t.l.all fun x => decide (x.2 ≠ i)) = false
      rw [List.all_eq_false]
      exact ⟨_, hc.2 i r hi' hs, by simp⟩
  rw [cntF_filter, e]
  omega
set_option maxHeartbeats 1000000 in
theorem psfree_live {w : World} {q p g b c : Nat} {s : Dsk} {R n : Nat} {E : Nat → Ent} (h : SP w q p g b c s R n E false) :
    Calls Tryd.prog 17 #[.pointer (some ⟨q, 0, none⟩)] w fun e w' => e = .returned (.int .i64 (cntF E n : Int)) ∧ Below w.heap.size w w' := by
  have H := Lib.hid h
  have hsz := h.size
  obtain ⟨c0, c1, c2, c3⟩ := h.cells
  have c2' : w.cell? ⟨q, 2, none⟩ = some (.slice (some ⟨b, 0, none⟩) n n) := c2
  clear h c2
  go_enter Tryd.func17, Tryd.ntmps17
  go_wp2
  go_loopw [3, 11] (fun v i wr => ∃ k z : Nat, k ≤ n ∧ z ≤ k ∧ i = .int .i64 k ∧ v = .int .i64 (z : Int) ∧ Hid (cntF E k = z) ∧ Below w.heap.size w wr) (fun _ i _ => n - (intOf i).toNat)
  case atStart => exact ⟨0, 0, Nat.zero_le _, Nat.le_refl _, rfl, rfl, Lib.hid rfl, Below.refl _ _⟩
  case round =>
    obtain ⟨k, z, hk, hz, rfl, rfl, HZ, hbel⟩ := hrel
    by_cases hlt : k < n
    · have hki : (k : Int) < (n : Int) := by omega
      have hS := H.out.below hbel
      have e0 := hS.cell0 hlt
      have e1 := hS.cellE hlt (j := 1) (by omega)
      have e2 := hS.cellE hlt (j := 2) (by omega)
      have HN := Lib.hid (show cntF E (k + 1) = cntF E k + if (E k).isNone then 1 else 0 from rfl)
      rw [HZ.out] at HN
      cases hv : E k with
      | none =>
        rw [hv] at e0 e1 e2 HN
        have e0' : wr.cell? ⟨b, k * 3, none⟩ = some (.bool false) := e0
        have e1' : wr.cell? ⟨b, k * 3 + 1, none⟩ = some (.string ⟨#[]⟩) := e1
        have e2' : wr.cell? ⟨b, k * 3 + 2, none⟩ = some (.int .i64 0) := e2
        clear e0 e1 e2 hS
        go_wp2_with fail
        go_roundw
        case rel => exact ⟨k + 1, z + 1, by omega, by omega, by go_num, by go_num, HN, hbel.alloc hbel.size _⟩
        case measure => simp [intOf]; omega
      | some x =>
        rw [hv] at e0 e1 e2 HN
        have e0' : wr.cell? ⟨b, k * 3, none⟩ = some (.bool true) := e0
        have e1' : wr.cell? ⟨b, k * 3 + 1, none⟩ = some (.string ⟨x.1.toArray⟩) := e1
        have e2' : wr.cell? ⟨b, k * 3 + 2, none⟩ = some (.int .i64 (x.2 : Int)) := e2
        clear e0 e1 e2 hS
        go_wp2_with fail
        go_roundw
        case rel => exact ⟨k + 1, z, by omega, by omega, by go_num, rfl, HN, hbel.alloc hbel.size _⟩
        case measure => simp [intOf]; omega
    · have hge : ¬ (k : Int) < (n : Int) := by omega
      obtain rfl : k = n := by omega
      go_wp2_with fail
      go_ret
      exact ⟨by rw [HZ.out]; rfl, hbel⟩
theorem psfree_dead {w : World} {q p g b c : Nat} {s : Dsk} {R n : Nat} {E : Nat → Ent} (h : SP w q p g b c s R n E true) :
    Calls Tryd.prog 17 #[.pointer (some ⟨q, 0, none⟩)] w fun e w' => e = .returned (.int .i64 0) ∧ Below w.heap.size w w' := by
  obtain ⟨c0, c1, c2, c3⟩ := h.cells
  have c2' : w.cell? ⟨q, 2, none⟩ = some (.slice none 0 0) := c2
  clear h c2
  go_enter Tryd.func17, Tryd.ntmps17
  go_wp2
  go_loopw [3, 11] (fun v i wr => i = .int .i64 0 ∧ v = .int .i64 0 ∧ w = wr) (fun _ _ _ => 0)
  case atStart => exact ⟨rfl, rfl, rfl⟩
  case round =>
    obtain ⟨rfl, rfl, rfl⟩ := hrel
    go_wp2
    go_ret
    exact ⟨rfl, Below.refl _ _⟩
theorem psfreeN_any {w : World} {q p g b c : Nat} {s : Dsk} {R n m : Nat} {t : Sto} (h : ST w q p g b c s R n m t) :
    Calls Tryd.prog 17 #[.pointer (some ⟨q, 0, none⟩)] w fun e w' => e = .returned (.int .i64 (t.free n : Int)) ∧ Below w.heap.size w w' := by
  unfold Sto.free
  have hs := h.sp
  cases hd : t.died with
  | true =>
    rw [if_pos rfl]
    rw [hd] at hs
    exact psfree_dead hs
  | false =>
    rw [if_neg (by simp), ← cnt_free h.good hd]
    rw [hd] at hs
    exact psfree_live hs

/-! ### Drop -/
theorem drop_dead {w : World} {q p g b c : Nat} {s : Dsk} {R n : Nat} {E : Nat → Ent} (h : SP w q p g b c s R n E true) (name : ByteArray) :
    Calls Tryd.prog 14 #[.pointer (some ⟨q, 0, none⟩), .string name] w fun e w' => e = .returned (.int .i64 8) ∧ w = w' := by
  obtain ⟨c0, c1, c2, c3⟩ := h.cells
  clear h
  go_enter Tryd.func14, Tryd.ntmps14
  go_wp2
  go_ret
  exact ⟨rfl, rfl⟩
theorem drop_none {w : World} {q p g b c : Nat} {s : Dsk} {R n : Nat} {E : Nat → Ent} (h : SP w q p g b c s R n E false) (name : List UInt8)
    (hf : Calls Tryd.prog 35 #[.pointer (some ⟨q, 0, none⟩), .string ⟨name.toArray⟩] w fun e w' => e = .returned (.int .i64 (-1)) ∧ Below w.heap.size w w') :
    Calls Tryd.prog 14 #[.pointer (some ⟨q, 0, none⟩), .string ⟨name.toArray⟩] w fun e w' => e = .returned (.int .i64 4) ∧ Below w.heap.size w w' := by
  obtain ⟨c0, c1, c2, c3⟩ := h.cells
  have HF := Lib.hid hf
  clear h hf
  go_enter Tryd.func14, Tryd.ntmps14
  go_wp2_with fail
  with_reducible refine HF.out.mono ?_
  rintro e w1 ⟨rfl, hb1⟩
  go_wp2_with fail
  go_ret
  exact ⟨rfl, hb1⟩
theorem drop_some {w : World} {q p g b c : Nat} {s : Dsk} {R n : Nat} {E : Nat → Ent} (h : SP w q p g b c s R n E false) (name : List UInt8) {i : Nat} (hi : i < n)
    (hf : Calls Tryd.prog 35 #[.pointer (some ⟨q, 0, none⟩), .string ⟨name.toArray⟩] w fun e w' => e = .returned (.int .i64 (i : Int)) ∧ Below w.heap.size w w') :
    Calls Tryd.prog 14 #[.pointer (some ⟨q, 0, none⟩), .string ⟨name.toArray⟩] w fun e w' => e = .returned (.int .i64 (s.code (n * (R + 1)) ((i * (R + 1) : Nat) : Int) 0)) ∧
      SP w' q p g b c (s.next (n * (R + 1)) ((i * (R + 1) : Nat) : Int) []) R n (updE E i none) (decide (s.code (n * (R + 1)) ((i * (R + 1) : Nat) : Int) 0 ≠ 0)) ∧ Chg (fourS q p g b) w w' := by
  obtain ⟨c0, c1, c2, c3⟩ := h.cells
  have HF := Lib.hid hf
  have HX := Lib.hid (fun (W : World) (hb : Below w.heap.size w W) => psfree_any (h.below hb) hi)
  generalize s.code (n * (R + 1)) ((i * (R + 1) : Nat) : Int) 0 = K at HX ⊢
  generalize s.next (n * (R + 1)) ((i * (R + 1) : Nat) : Int) [] = s2 at HX ⊢
  have hni : ¬ (i : Int) < 0 := by omega
  clear h hf
  go_enter Tryd.func14, Tryd.ntmps14
  go_wp2_with fail
  with_reducible refine HF.out.mono ?_
  rintro e w1 ⟨rfl, hb1⟩
  go_wp2_with fail
  with_reducible refine (HX.out _ hb1).mono ?_
  rintro e w2 ⟨rfl, S2, C2⟩
  have HS2 := Lib.hid S2
  have HC2 := Lib.hid ((Chg.of_below hb1).trans C2)
  clear S2 C2 HX
  go_wp2_with fail
  go_ret
  exact ⟨rfl, HS2.out, HC2.out⟩
end Go.Proofs.YtffllpjlghehiaaDoor
