/- The program's store: Drop and Put, whole. -/
import Derived.Test.YtndknifdajjalaaGreatDoorPStpJ
namespace Go.Proofs.YtndknifdajjalaaGreatDoor
open Go.RowKit
set_option maxRecDepth 100000

/-- The program's store, in good order. -/
structure ST (w : World) (q p g b c : Nat) (s : Dsk) (R n m : Nat) (t : Sto) : Prop where
  sp : SP w q p g b c s R n (viewE s.B R) t.died
  bl : b < w.heap.size
  good : Good t s R n m
  live : t.died = false → s.dead = false
theorem ST.below {w w' : World} {q p g b c : Nat} {s : Dsk} {R n m : Nat} {t : Sto} (h : ST w q p g b c s R n m t) (hb : Below w.heap.size w w') : ST w' q p g b c s R n m t :=
  ⟨h.sp.below hb, Nat.lt_of_lt_of_le h.bl hb.size, h.good, h.live⟩

set_option maxHeartbeats 1000000 in
theorem psfits_any {w : World} {q p g b c : Nat} {s : Dsk} {R n : Nat} {E : Nat → Ent} {died : Bool} (h : SP w q p g b c s R n E died) (name data : List UInt8) (A : Option Addr) (m d : Nat) (hl : data.length = m) (hmd : m ≤ d) (hdm : d ≤ maxLen) (hr : Rd w w.heap.size A data) (htab : Pow10 w.heap.size w) (h1 : name.length ≤ 1000) (h2 : m ≤ 1000) :
    Calls Tryz.prog 60 #[.pointer (some ⟨q, 0, none⟩), .string ⟨name.toArray⟩, .slice A m d] w fun e w' => e = .returned (.bool (fitsR R name data)) ∧ Below w.heap.size w w' := by
  have H := Lib.hid h
  have hsz := h.size
  obtain ⟨c0, c1, c2, c3⟩ := h.cells
  obtain ⟨z, hz⟩ : ∃ z, (recL ⟨name, 1, data⟩).length = z := ⟨_, rfl⟩
  have HF := Lib.hid (show fitsR R name data = decide (z ≤ R * 32) by
    unfold fitsR
    rw [hz]
    have : (name.length ≤ 16384 ∧ data.length ≤ 16384 ∧ z ≤ R * 32) ↔ z ≤ R * 32 := ⟨fun h => h.2.2, fun h => ⟨by omega, by omega, h⟩⟩
    exact decide_eq_decide.2 this)
  have HKEEP := Lib.hid (fun (W : World) (h' : Below w.heap.size w W) => (show W.cell? ⟨q, 1, none⟩ = some (.int .i64 (R : Int)) ∧ Below w.heap.size w W from ⟨(H.out.below h').cells.2.1, h'⟩))
  have hcd : Below w.heap.size w w.drew := (Below.refl _ _).drew
  have HP := Lib.hid (show Calls Tryz.prog 65 #[.string ⟨name.toArray⟩, .int .i64 1, .slice A m d] w.drew fun e w' => ∃ g' c', e = .returned (.slice (some ⟨g', 0, none⟩) z c') ∧ Below w.drew.heap.size w.drew w' from
    (pspack_any name data 1 A m d w.drew hl hmd hdm (hr.on hcd) (tab_on htab hcd) h1 h2 (by omega)).mono fun e w' ⟨g', c', he, _, _, _, _, hb⟩ => ⟨g', c', by rw [← hz]; exact he, hb⟩)
  obtain ⟨nl, hnl⟩ : ∃ nl, name.toArray.size = nl := ⟨_, rfl⟩
  have hnl1 : nl ≤ 1000 := by rw [← hnl]; simpa using h1
  have hd1 : decide (16384 < (nl : Int)) = false := decide_eq_false (by omega)
  have hd2 : decide (16384 < (m : Int)) = false := decide_eq_false (by omega)
  have hw : IntKind.i64.wrap ((R : Int) * 32) = ((R * 32 : Nat) : Int) := by rw [IntWalk.i64_in _ (by omega)]; omega
  have hbs : (⟨name.toArray⟩ : ByteArray).size = nl := hnl
  clear h hr htab hz
  rw [HF.out]
  go_enter Tryz.func60, Tryz.ntmps60
  go_wp2_with fail
  go_region_held3 (fun W => W.cell? ⟨q, 1, none⟩ = some (.int .i64 (R : Int)) ∧ Below w.heap.size w W)
    ((first | exact HKEEP.out _ ‹_› | exact HKEEP.out _ (Below.drew ‹_›) | exact HKEEP.out _ (below_drewN ‹_› _)))
    ((go_at_call 65; refine HP.out.mono ?_; rintro e w5 ⟨g', c', rfl, hb5⟩; have hbel5 := hcd.trans (hb5.mono hcd.size)))
  all_goals
    go_wp2_with fail
    go_ret
    exact ⟨congrArg (fun x => Ending.returned (.bool x)) (decide_eq_decide.2 (by omega)), hbel5⟩

/-! ### Get -/
def GetPost (w : World) (o : Option (List UInt8)) (e : Ending) (w' : World) : Prop := Below w.heap.size w w' ∧ match o with
  | none => e = .returned (.tuple #[.slice none 0 0, .bool false])
  | some d => ∃ A' c', e = .returned (.tuple #[.slice A' d.length c', .bool true]) ∧ d.length ≤ c' ∧ Rd w' w'.heap.size A' d
theorem get_none {w : World} {q : Nat} (name : List UInt8)
    (hf : Calls Tryz.prog 63 #[.pointer (some ⟨q, 0, none⟩), .string ⟨name.toArray⟩] w fun e w' => e = .returned (.int .i64 (-1)) ∧ Below w.heap.size w w') :
    Calls Tryz.prog 58 #[.pointer (some ⟨q, 0, none⟩), .string ⟨name.toArray⟩] w (GetPost w none) := by
  have HF := Lib.hid hf
  clear hf
  go_enter Tryz.func58, Tryz.ntmps58
  go_wp2_with fail
  with_reducible refine HF.out.mono ?_
  rintro e w1 ⟨rfl, hb1⟩
  go_wp2_with fail
  go_ret2
  exact ⟨hb1, rfl⟩
theorem slot_read {s : Dsk} {R i : Nat} {r : Rec11} (hv : slotB s.B R i = some r) : readR (roomB s.B R i) = some r := by
  unfold slotB at hv
  split at hv
  · exact hv
  · cases hv
set_option maxHeartbeats 1000000 in
theorem get_some {w : World} {q p g b c : Nat} {s : Dsk} {R n : Nat} {E : Nat → Ent} (h : SP w q p g b c s R n E false) (hd : s.dead = false) (name : List UInt8) {i : Nat} (hi : i < n) {r : Rec11} (hv : slotB s.B R i = some r)
    (hf : Calls Tryz.prog 63 #[.pointer (some ⟨q, 0, none⟩), .string ⟨name.toArray⟩] w fun e w' => e = .returned (.int .i64 (i : Int)) ∧ Below w.heap.size w w') :
    Calls Tryz.prog 58 #[.pointer (some ⟨q, 0, none⟩), .string ⟨name.toArray⟩] w (GetPost w (some r.data)) := by
  have HF := Lib.hid hf
  have H := Lib.hid h
  have hsz := h.size
  have HL := Lib.hid (room_len h.geo hi)
  have HV := Lib.hid (slot_read hv)
  have hRb : R * 32 ≤ 1000000 := by omega
  clear hf h hv
  go_enter Tryz.func58, Tryz.ntmps58
  go_wp2_with fail
  with_reducible refine HF.out.mono ?_
  rintro e w1 ⟨rfl, hb1⟩
  have hni : ¬ (i : Int) < 0 := by omega
  go_wp2_with fail
  with_reducible refine (psread_any (H.out.below hb1) hi hd).mono ?_
  rintro e w2 ⟨A2, k2, rfl, hc2, hr2, hb2⟩
  have HR2 := Lib.hid hr2
  have hbb2 := Below.then hb1 hb2
  clear hr2 hb2 hb1
  go_wp2_with fail
  with_reducible refine (psunpack_any A2 (R * 32) k2 (roomB s.B R i) w2 HL.out hc2 hRb HR2.out).mono ?_
  rw [HV.out]
  rintro e w3 ⟨hb3, A3, k3, rfl, hc3, hr3⟩
  have hbb3 := Below.then hbb2 hb3
  have HR3 := Lib.hid hr3
  clear hr3 hb3 hbb2
  go_wp2_with fail
  go_ret2
  exact ⟨hbb3.alloc hbb3.size _, A3, k3, rfl, hc3, HR3.out.on ((Below.refl _ _).alloc (Nat.le_refl _) _)⟩
theorem psget_any {w : World} {q p g b c : Nat} {s : Dsk} {R n m : Nat} {t : Sto} (h : ST w q p g b c s R n m t) (name : List UInt8) :
    Calls Tryz.prog 58 #[.pointer (some ⟨q, 0, none⟩), .string ⟨name.toArray⟩] w (GetPost w (t.get name)) := by
  unfold Sto.get
  cases hd : t.died with
  | true =>
    rw [if_pos rfl]
    have hs := h.sp
    rw [hd] at hs
    exact get_none name (psfind_dead hs name)
  | false =>
    rw [if_neg (by simp)]
    have hs := h.sp
    rw [hd] at hs
    have hf := psfind_live hs name
    rw [find_first h.good hd name] at hf
    cases ho : oldE t.l name with
    | none =>
      rw [ho] at hf
      exact get_none name hf
    | some x =>
      rw [ho] at hf
      have hb := ((h.good.clean hd).1.1.2 x).1 (oldE_some ho).1
      exact get_some hs (h.live hd) name hb.1 hb.2.1 hf

/-! ### Free -/
set_option maxRecDepth 100000

theorem clean_view {B : List UInt8} {R n : Nat} {l : List (Rec11 × Nat)} (hc : CleanB (slotB B R) n l) {i : Nat} (hi : i < n) : (∃ r, (r, i) ∈ l ∧ viewE B R i = some (r.name, r.num)) ∨ ((∀ r, (r, i) ∉ l) ∧ viewE B R i = none) := by
  cases hs : slotB B R i with
  | none =>
    right
    refine ⟨fun r hr => ?_, by unfold viewE; rw [hs]; rfl⟩
    have := ((hc.1.2 _).1 hr).2.1
    rw [hs] at this
    cases this
  | some r => exact .inl ⟨r, hc.2 i r hi hs, by unfold viewE; rw [hs]; rfl⟩
theorem clean_one {B : List UInt8} {R n : Nat} {l : List (Rec11 × Nat)} (hc : CleanB (slotB B R) n l) {x y : Rec11 × Nat} (hx : x ∈ l) (hy : y ∈ l) (e : x.2 = y.2) : x = y := by
  have h1 := ((hc.1.2 x).1 hx).2.1
  have h2 := ((hc.1.2 y).1 hy).2.1
  rw [e, h2] at h1
  exact Prod.ext (Option.some.inj h1).symm e
theorem view_in {B : List UInt8} {R n : Nat} {l : List (Rec11 × Nat)} (hc : CleanB (slotB B R) n l) {r : Rec11} {i : Nat} (h : (r, i) ∈ l) : viewE B R i = some (r.name, r.num) := by
  have := ((hc.1.2 _).1 h).2.1
  unfold viewE
  rw [this]; rfl
theorem put_view {B B' : List UInt8} {R n j : Nat} {l : List (Rec11 × Nat)} {r : Rec11} (hc : CleanB (slotB B R) n l) (hc' : CleanB (slotB B' R) n (putE l (r, j))) (hj : freeSlot n l = some j) :
    ∀ i, i < n → (match oldE l r.name with | none => updE (viewE B R) j (some (r.name, r.num)) | some x => updE (updE (viewE B R) j (some (r.name, r.num))) x.2 none) i = viewE B' R i := by
  intro i hi
  obtain ⟨hjn, hjf⟩ := freeSlot_some hj
  have hr := hc.1.1
  have hmem := mem_putE (l := l) (r, j)
  have main : updE (viewE B R) j (some (r.name, r.num)) i = viewE B' R i ∨ (∃ q, (q, i) ∈ l ∧ q.name = r.name ∧ viewE B' R i = none ∧ i ≠ j) := by
    by_cases e : i = j
    · subst e
      rw [updE_at, view_in hc' ((hmem _ hr).2 (.inl rfl))]
      exact .inl rfl
    · rw [updE_other _ e]
      rcases clean_view hc hi with ⟨q, hq, hv⟩ | ⟨hq, hv⟩
      · by_cases en : q.name = r.name
        · right
          refine ⟨q, hq, en, ?_, e⟩
          rcases clean_view hc' hi with ⟨q', hq', _⟩ | ⟨_, hv'⟩
          · rcases (hmem _ hr).1 hq' with h | ⟨h, hn⟩
            · exact absurd (congrArg Prod.snd h) e
            · have := clean_one hc hq h rfl
              have e2 : q = q' := congrArg Prod.fst this
              exact absurd (e2 ▸ en) hn
          · exact hv'
        · left
          rw [hv, view_in hc' ((hmem _ hr).2 (.inr ⟨hq, en⟩))]
      · left
        rw [hv]
        rcases clean_view hc' hi with ⟨q', hq', _⟩ | ⟨_, hv'⟩
        · rcases (hmem _ hr).1 hq' with h | ⟨h, hn⟩
          · exact absurd (congrArg Prod.snd h) e
          · exact absurd h (hq q')
        · exact hv'.symm
  cases ho : oldE l r.name with
  | none =>
    dsimp only
    rcases main with h | ⟨q, hq, hn, _⟩
    · exact h
    · exact absurd hn (oldE_none ho _ hq)
  | some x =>
    dsimp only
    obtain ⟨h1, h2⟩ := oldE_some ho
    by_cases e : i = x.2
    · subst e
      rw [updE_at]
      have hxj : x.2 ≠ j := hjf x h1
      rcases clean_view hc' hi with ⟨q', hq', _⟩ | ⟨_, hv'⟩
      · rcases (hmem _ hr).1 hq' with h | ⟨h, hn⟩
        · exact absurd (congrArg Prod.snd h) hxj
        · have := clean_one hc h1 h rfl
          exact absurd (this ▸ h2) hn
      · exact hv'.symm
    · rw [updE_other _ e]
      rcases main with h | ⟨q, hq, hn, _, _⟩
      · exact h
      · have h3 := oldE_of hr hq
        have h4 : oldE l q.name = some x := by rw [hn]; exact ho
        have h3' : oldE l q.name = some (q, i) := h3
        rw [h4] at h3'
        exact absurd (congrArg Prod.snd (Option.some.inj h3')).symm e
/-- What a call leaves. -/
def CallPost (w : World) (q p g b c : Nat) (R n m : Nat) (X : Dsk × Sto × Int) (e : Ending) (w' : World) : Prop := e = .returned (.int .i64 X.2.2) ∧ ST w' q p g b c X.1 R n m X.2.1 ∧ Chg (fourS q p g b) w w'
end Go.Proofs.YtndknifdajjalaaGreatDoor
