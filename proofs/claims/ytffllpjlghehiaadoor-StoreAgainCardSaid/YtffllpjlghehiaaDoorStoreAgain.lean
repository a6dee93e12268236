/- StoreAgain: opened again, however often, a store has the same records; a store that has died has none, till it is opened. For all calls. -/
import Derived.Test.YtffllpjlghehiaaDoorLaw
import Derived.Test.YtffllpjlghehiaaDoorOpenA1
import Derived.Test.YtffllpjlghehiaaDoorSameS
import Derived.Test.YtffllpjlghehiaaDoorStpS
import Derived.Deep.CutRange
namespace Go.Proofs.YtffllpjlghehiaaDoor.storeAgain
open Go.ChangeShapes Go.WideShapes Go.ChangeAt Go.RowKit

/-- A put in good order: done, or there is no room. -/
theorem lputor {w : World} {q p g b c : Nat} {s : Dsk} {R n m : Nat} {L : List (Rec11 × Nat)} (h : ST w q p g b c s R n m ⟨L, false⟩) (hL : Live ⟨L, false⟩ s R n m) (hm : m + 1 < 4294967296) (name data : List UInt8) (A : Option Addr) (k d : Nat) (hl : data.length = k) (hkd : k ≤ d) (hdm : d ≤ maxLen) (hr : Rd w w.heap.size A data) (htab : Pow10 w.heap.size w) (h1 : name.length ≤ 900) (h2 : k ≤ 900) (hf : name.length + k + 19 ≤ R * 32) :
    Calls Tryd.prog 15 #[.pointer (some ⟨q, 0, none⟩), .string ⟨name.toArray⟩, .slice A k d] w fun e w' => ∃ s' L' z, (z = 0 ∨ z = 3) ∧ e = .returned (.int .i64 z) ∧ ST w' q p g b c s' R n (m + 1) ⟨L', false⟩ ∧ Live ⟨L', false⟩ s' R n (m + 1) ∧ Chg (fourS q p g b) w w' := by
  have hfit := fits_small (R := R) (name := name) (data := data) (by omega) (by omega) (by omega)
  refine (psput_any h hm name data A k d hl hkd hdm hr htab (by omega) (by omega)).mono ?_
  rintro e w' ⟨rfl, S, C⟩
  rcases put_live hL hm hfit with ⟨_, hp⟩ | ⟨_, s', j, hj, hp, hL'⟩
  · rw [hp] at S ⊢
    exact ⟨s, L, 3, .inr rfl, rfl, S, hL.more (Nat.le_succ _), C⟩
  · rw [hp] at S ⊢
    exact ⟨s', _, 0, .inl rfl, rfl, S, hL', C⟩
theorem ldropor {w : World} {q p g b c : Nat} {s : Dsk} {R n m : Nat} {L : List (Rec11 × Nat)} (h : ST w q p g b c s R n m ⟨L, false⟩) (hL : Live ⟨L, false⟩ s R n m) (name : List UInt8) :
    Calls Tryd.prog 14 #[.pointer (some ⟨q, 0, none⟩), .string ⟨name.toArray⟩] w fun e w' => ∃ s' L' z, e = .returned (.int .i64 z) ∧ ST w' q p g b c s' R n m ⟨L', false⟩ ∧ Live ⟨L', false⟩ s' R n m ∧ Chg (fourS q p g b) w w' := by
  refine (psdrop_any h name).mono ?_
  rintro e w' ⟨rfl, S, C⟩
  rcases drop_live hL name with ⟨_, hp⟩ | ⟨x, s', _, hp, hL'⟩
  · rw [hp] at S ⊢
    exact ⟨s, L, 4, rfl, S, hL, C⟩
  · rw [hp] at S ⊢
    exact ⟨s', _, 0, rfl, S, hL', C⟩
/-- A full store, whatever the disk does. -/
theorem lputfull' {w : World} {q p g b c : Nat} {s s' : Dsk} {R n m : Nat} {L : List (Rec11 × Nat)} (h : ST w q p g b c s' R n m ⟨L, false⟩) (hL : Live ⟨L, false⟩ s R n m) (hm : m + 1 < 4294967296) {nb : ByteArray} (name : List UInt8) (hnb : nb = ⟨name.toArray⟩) (htab : Pow10 w.heap.size w) (h1 : name.length ≤ 900) (hf : name.length + 19 ≤ R * 32) (hroom : L.length = n) :
    Calls Tryd.prog 15 #[.pointer (some ⟨q, 0, none⟩), .string nb, .slice none 0 0] w fun e w' => e = .returned (.int .i64 3) ∧ ST w' q p g b c s' R n (m + 1) ⟨L, false⟩ ∧ Chg (fourS q p g b) w w' := by
  subst hnb
  have hfit := fits_small (R := R) (name := name) (data := []) (by omega) (by simp) (by simpa using hf)
  refine (psput_any h hm name [] none 0 0 rfl (by omega) (by unfold maxLen; omega) (Rd.nil _ _ _) htab (by omega) (by omega)).mono ?_
  rintro e w' ⟨rfl, S, C⟩
  have hp : Sto.put ⟨L, false⟩ s' R n name [] = (s', ⟨L, false⟩, 3) := by
    unfold Sto.put
    rw [if_neg (by simp), if_neg (by simp [hfit]), (freeSlot_none hL.slots).2 hroom]
  rw [hp] at S ⊢
  exact ⟨rfl, S, C⟩
/-- A store that has died. -/
theorem lputdead {w : World} {q p g b c : Nat} {s : Dsk} {R n m : Nat} {L : List (Rec11 × Nat)} (h : ST w q p g b c s R n m ⟨L, true⟩) (hm : m + 1 < 4294967296) {nb : ByteArray} (name : List UInt8) (hnb : nb = ⟨name.toArray⟩) (htab : Pow10 w.heap.size w) (h1 : name.length ≤ 900) :
    Calls Tryd.prog 15 #[.pointer (some ⟨q, 0, none⟩), .string nb, .slice none 0 0] w fun e w' => e = .returned (.int .i64 8) ∧ ST w' q p g b c s R n (m + 1) ⟨L, true⟩ ∧ Chg (fourS q p g b) w w' := by
  subst hnb
  exact psput_any h hm name [] none 0 0 rfl (by omega) (by unfold maxLen; omega) (Rd.nil _ _ _) htab (by omega) (by omega)
theorem ldropdead {w : World} {q p g b c : Nat} {s : Dsk} {R n m : Nat} {L : List (Rec11 × Nat)} (h : ST w q p g b c s R n m ⟨L, true⟩) {nb : ByteArray} (name : List UInt8) (hnb : nb = ⟨name.toArray⟩) :
    Calls Tryd.prog 14 #[.pointer (some ⟨q, 0, none⟩), .string nb] w fun e w' => e = .returned (.int .i64 8) ∧ ST w' q p g b c s R n m ⟨L, true⟩ ∧ Chg (fourS q p g b) w w' := by
  subst hnb
  exact psdrop_any h name
/-- Opened again while nothing has been written: the same records on the same disk. -/
theorem open_same {w : World} {p g c : Nat} {s : Dsk} {n R m : Nat} {t : Sto} (h : DP w p g (n * (R + 1)) c s) (hn : 1 ≤ n ∧ n ≤ 1024) (hR : 1 ≤ R ∧ R ≤ 1024) (hL : Live t s R n m) {i j : Int} (hi : i = (n : Int)) (hj : j = (R : Int)) :
    Calls Tryd.prog 10 #[.pointer (some ⟨p, 0, none⟩), .int .i64 i, .int .i64 j] w fun e w' => ∃ q b, e = .returned (.tuple #[.pointer (some ⟨q, 0, none⟩), .int .i64 0]) ∧ w.heap.size ≤ q ∧ w.heap.size ≤ b ∧ ST w' q p g b c s R n m ⟨t.l, false⟩ ∧ Chg (two p g) w w' := by
  refine (open_re h hn hR hL.re hL.lives hi hj).mono ?_
  rintro e w' ⟨q, b, rfl, hq, hb, S, L, C⟩
  rw [hL.again.2.2] at S
  exact ⟨q, b, rfl, hq, hb, S, C⟩
theorem live_started {t : Sto} {s : Dsk} {R n m : Nat} (h : Live t s R n m) : Live t (s.stop 0 0).start R n m :=
  ⟨h.good.disk rfl (Nat.zero_le _), h.up, rfl, rfl⟩

theorem _root_.Go.Proofs.YtffllpjlghehiaaDoor.RdS.chg {w w' : World} {A : Option Addr} {ls : List Name} {S : Nat → Prop} (h : RdS w w.heap.size A ls) (hn : ∀ b off, A = some ⟨b, off, none⟩ → ¬ S b) (hc : Chg S w w') : RdS w' w'.heap.size A ls := by
  rcases h with rfl | ⟨b, off, e, hlt, hcell⟩
  · exact .inl rfl
  · refine .inr ⟨b, off, e, Nat.lt_of_lt_of_le hlt hc.size, fun i hi => ?_⟩
    have hb := hc.block b hlt (hn b off e)
    rw [← hcell i hi]
    exact World.cell?_of_block (a := ⟨b, off + i, none⟩) hb
/-- What a name of a store's has. -/
theorem get_name {s : Dsk} {R n m : Nat} {L : List (Rec11 × Nat)} (h : Live ⟨L, false⟩ s R n m) (hR : R ≤ 1024) (k : Nat) (hk : k < (Sto.names ⟨L, false⟩).length) : ∃ d, Sto.get ⟨L, false⟩ (Sto.names ⟨L, false⟩)[k] = some d ∧ d.length ≤ maxLen := by
  have hm := List.getElem_mem hk
  generalize (Sto.names ⟨L, false⟩)[k] = nm at *
  have hm' : nm ∈ L.map (·.1.name) := hm
  obtain ⟨x, hx, rfl⟩ := List.mem_map.1 hm'
  refine ⟨x.1.data, ?_, ?_⟩
  · unfold Sto.get
    rw [if_neg (by simp)]
    show (oldE L x.1.name).map _ = _
    rw [oldE_of h.rising hx]
    rfl
  · have hb := (h.clean.1.1.2 x).1 hx
    have := (slot_name h.good.geo hb.1 hb.2.1).2
    unfold maxLen
    omega
/-- One call of the list. -/
theorem call_at {w : World} {A : Option Addr} {la : List Act11} (h : RdAs w w.heap.size A la) (hk : ∀ a ∈ la, a.ok) {j : Nat} (hj : j < la.length) :
    ∃ (bb oo : Nat) (A' : Option Addr) (cB M : Nat) (nm bs : List UInt8) (V : Int), A = some ⟨bb, oo, none⟩ ∧ bb < w.heap.size ∧ w.cell? ⟨bb, oo + j * 5, none⟩ = some (.int .i64 V) ∧ w.cell? ⟨bb, oo + j * 5 + 3, none⟩ = some (.string ⟨nm.toArray⟩) ∧ w.cell? ⟨bb, oo + j * 5 + 4, none⟩ = some (.slice A' M cB) ∧ nm.length ≤ maxLen ∧ bs.length = M ∧ M ≤ cB ∧ cB ≤ maxLen ∧ Rd w w.heap.size A' bs ∧ -9223372036854775808 ≤ V ∧ V ≤ 9223372036854775807 := by
  rcases h with hnil | ⟨bb, oo, hA, hbb, hcs⟩
  · rw [hnil] at hj; simp at hj
  obtain ⟨hk1, _, hk3⟩ := hk la[j] (List.getElem_mem hj)
  obtain ⟨d0, _, _, d3, A', cB, d4, hcB, hmB, hRd⟩ := hcs j hj
  exact ⟨bb, oo, A', cB, _, _, _, _, hA, hbb, d0, d3, d4, hk3, rfl, hcB, hmB, hRd, hk1.1, hk1.2⟩

set_option maxRecDepth 100000 in
set_option maxHeartbeats 16000000 in
theorem walk (A : Option Addr) (na ca : Nat) (la : List Act11) (times : Int) (w : World) (hna : la.length = na) (hka : ∀ a ∈ la, a.ok) (hra : RdAs w w.heap.size A la) (t0 : -9223372036854775808 ≤ times) (t1 : times ≤ 9223372036854775807) (htab : Pow10 w.heap.size w) :
    Calls Tryd.prog 3 #[.slice A na ca, .int .i64 times] w fun e w' => e = .returned (.bool true) ∧ Below w.heap.size w w' := by
  have HT := Lib.hid htab
  have HNA := Lib.hid hna
  have HKA := Lib.hid hka
  have HRA := Lib.hid hra
  have hr3 := withinI_range times 3 (by omega)
  obtain ⟨v, hv⟩ : ∃ v : Nat, withinI times 3 = (v : Int) := ⟨(withinI times 3).toNat, by omega⟩
  rw [hv] at hr3
  have HWT := Lib.hid (fun W => (show Calls Tryd.prog 13 #[.int .i64 times, .int .i64 3] W fun e w' => e = .returned (.int .i64 (v : Int)) ∧ W = w' from by rw [← hv]; exact within_any times 3 W (by omega) (by omega) (by omega)))
  have hv3 : v < 3 := by omega
  clear htab hv hr3 hna hka hra t0 t1
  go_enter Tryd.func3, Tryd.ntmps3
  go_wp2_with fail
  with_reducible refine (pnew_at 35 35 rfl w (by omega) (by omega)).mono ?_
  rintro e w1 ⟨p, rfl, hp, g, hg, D1, hb1⟩
  have HD1 := Lib.hid (show DP w1 p g (5 * (6 + 1)) 35 (newD (5 * (6 + 1))) from D1)
  clear D1
  go_wp2_with fail
  with_reducible refine (open_re HD1.out (by omega) (by omega) (new_re 6 5) rfl (i := 5) (j := 6) rfl rfl).mono ?_
  rintro e w2 ⟨q, b, rfl, hq, hb, S2, L2, C2⟩
  rw [new_same] at S2 L2
  have hbl2 := hb1.trans (C2.below hb1.size (two_ge hp hg))
  have HS2 := Lib.hid S2
  have HL2 := Lib.hid L2
  have hq' : w.heap.size ≤ q := Nat.le_trans hb1.size hq
  have hb' : w.heap.size ≤ b := Nat.le_trans hb1.size hb
  have HB2 := Lib.hid hbl2
  have HFS := Lib.hid (fourS_ge hq' hp hg hb')
  have HTW := Lib.hid (two_ge hp hg)
  clear S2 L2 C2 HD1 hb1 hq hb hbl2 hq' hb' hp hg
  go_wp2_with fail
  go_loopw [9] (fun t wr => ∃ (j : Nat) (s : Dsk) (L : List (Rec11 × Nat)), j ≤ na ∧ j ≤ 12 ∧ t = .int .i64 j ∧ Hid (ST wr q p g b 35 s 6 5 j ⟨L, false⟩) ∧ Hid (Live ⟨L, false⟩ s 6 5 j) ∧ Hid (Below w.heap.size w wr)) (fun t _ => na - (intOf t).toNat)
  case atStart => exact ⟨0, _, [], by omega, by omega, rfl, HS2, HL2, HB2⟩
  case round =>
    obtain ⟨j, s, L, hj, hj12, rfl, HS, HL, HB⟩ := hrel
    clear HS2 HL2 HB2
    go_upto_region 8 with fail
    go_cut [49] from 42 to 49 (fun c wx => c = .bool (decide (j < na ∧ j < 12)) ∧ wr = wx)
    case first =>
      by_cases hlt1 : j < na
      · by_cases hlt2 : j < 12
        · have hlt3 : (j : Int) < 12 := by omega
          go_wp2_with fail
          go_meet
          case rel => exact ⟨by rw [decide_eq_true (show j < na ∧ j < 12 from ⟨hlt1, hlt2⟩)], rfl⟩
        · have hlt3 : ¬ (j : Int) < 12 := by omega
          go_wp2_with fail
          go_meet
          case rel => exact ⟨by rw [decide_eq_false (show ¬ (j < na ∧ j < 12) from fun h => hlt2 h.2)], rfl⟩
      · have hlt3 : ¬ (j : Int) < (na : Int) := by omega
        go_wp2_with fail
        go_meet
        case rel => exact ⟨by rw [decide_eq_false (show ¬ (j < na ∧ j < 12) from fun h => hlt1 h.1)], rfl⟩
    case rest =>
      obtain ⟨rfl, rfl⟩ := hcut
      by_cases hlt : j < na ∧ j < 12
      · rw [decide_eq_true hlt]
        obtain ⟨hlt1, hlt2⟩ := hlt
        have hla : j < la.length := by rw [HNA.out]; exact hlt1
        obtain ⟨bb, oo, A', cB, M, nm, bs, V, rfl, hbb, d0, d3, d4, hk3, hM, hcB, hmB, hRd, hk1⟩ := call_at HRA.out HKA.out hla
        have hcell : ∀ {W : World}, Below wr.heap.size wr W → ∀ k v, w.cell? ⟨bb, k, none⟩ = some v → W.cell? ⟨bb, k, none⟩ = some v := fun {W} hB k v hc => by
          exact ((HB.out.trans (hB.mono HB.out.size)).cell (p := ⟨bb, k, none⟩) hbb).trans hc
        have HKEEP := Lib.hid (fun (W : World) (h : Below wr.heap.size wr W) => (show W.cell? ⟨bb, oo + j * 5 + 3, none⟩ = some (.string ⟨nm.toArray⟩) ∧ W.cell? ⟨bb, oo + j * 5 + 4, none⟩ = some (.slice A' M cB) ∧ Below wr.heap.size wr W from ⟨hcell h _ _ d3, hcell h _ _ d4, h⟩))
        have HCT := Lib.hid (fun W => (show Calls Tryd.prog 11 #[.string ⟨nm.toArray⟩, .int .i64 20] W fun e w' => e = .returned (.string ⟨(nm.take 20).toArray⟩) ∧ W = w' from cutText_any nm 20 W (by omega)))
        obtain ⟨k, hk⟩ : ∃ k, min M 100 = k := ⟨_, rfl⟩
        have HCB := Lib.hid (fun W => (show Calls Tryd.prog 12 #[.slice A' M cB, .int .i64 100] W fun e w' => e = .returned (.slice A' k cB) ∧ W = w' from by rw [← hk]; exact cut_any A' M cB 100 W hcB))
        obtain ⟨nb, hnb⟩ : ∃ nb : List UInt8, nm.take 20 = nb := ⟨_, rfl⟩
        have hnb20 : nb.length ≤ 20 := by rw [← hnb, List.length_take]; omega
        have HBL := Lib.hid (show (bs.take k).length = k by rw [List.length_take]; omega)
        have HRB := Lib.hid (show Rd w w.heap.size A' (bs.take k) from hRd.take k)
        have hkc : k ≤ cB := by omega
        have hk100 : k ≤ 100 := by omega
        have HWD := Lib.hid (fun W => (show Calls Tryd.prog 13 #[.int .i64 V, .int .i64 4] W fun e w' => e = .returned (.int .i64 (withinI V 4)) ∧ W = w' from within_any V 4 W hk1.1 hk1.2 (by omega)))
        have HC0 := Lib.hid (fun (W : World) (h : Below wr.heap.size wr W) => hcell h _ _ d0)
        have hcd : Below wr.heap.size wr wr.drew := (Below.refl _ _).drew
        generalize withinI V 4 = V4 at *
        rw [hnb] at HCT
        clear hcell d0 d3 d4 hRd hM hk hk1 hk3 hla hnb hcB
        go_wp2_with fail
        go_region_held3 (fun W => W.cell? ⟨bb, oo + j * 5 + 3, none⟩ = some (.string ⟨nm.toArray⟩) ∧ W.cell? ⟨bb, oo + j * 5 + 4, none⟩ = some (.slice A' M cB) ∧ Below wr.heap.size wr W)
          ((first | exact HKEEP.out _ ‹_› | exact HKEEP.out _ (Below.drew ‹_›) | exact HKEEP.out _ (below_drewN ‹_› _)))
          ((first
            | (go_at_call 11; refine (HCT.out _).mono ?_; rintro e w4 ⟨rfl, rfl⟩)
            | (go_at_call 12; refine (HCB.out _).mono ?_; rintro e w5 ⟨rfl, rfl⟩)))
        rename_i hHeld
        have d0 := HC0.out _ hcd
        have HS4 := Lib.hid (HS.out.below hcd)
        have HB4 := Lib.hid (HB.out.trans (hcd.mono HB.out.size))
        clear hHeld HKEEP HC0 HCT HCB hcd HS HB
        generalize wr.drew = w4 at *
        go_wp2_with fail
        with_reducible refine (HWD.out _).mono ?_
        rintro e w' ⟨rfl, rfl⟩
        clear HWD d0
        by_cases h3 : V4 = 3
        · subst h3
          go_wp2_with fail
          with_reducible refine (ldropor HS4.out HL.out nb).mono ?_
          rintro e w5 ⟨s5, L5, z, rfl, S5, L5', C5⟩
          have HS5 := Lib.hid (S5.more (Nat.le_succ j))
          have HL5 := Lib.hid (L5'.more (Nat.le_succ j))
          have HB5 := Lib.hid (HB4.out.trans (C5.below HB4.out.size HFS.out))
          clear S5 L5' C5 HS4 HL HB4
          go_wp2_with fail
          go_roundw
          case rel => exact ⟨j + 1, _, _, by omega, by omega, by go_num, HS5, HL5, HB5⟩
          case measure => simp [intOf]; omega
        · have hb3 : (V4 == 3) = false := by simp; omega
          go_wp2_with fail
          with_reducible refine (lputor HS4.out HL.out (by omega) nb (bs.take k) A' k cB HBL.out hkc hmB ((HRB.out.below HB4.out (Nat.le_refl _)).more HB4.out.size) (tab_on HT.out HB4.out HB4.out.size) (by omega) (by omega) (by omega)).mono ?_
          rintro e w5 ⟨s5, L5, z, hz, rfl, S5, L5', C5⟩
          have HS5 := Lib.hid S5
          have HL5 := Lib.hid L5'
          have HB5 := Lib.hid (HB4.out.trans (C5.below HB4.out.size HFS.out))
          clear S5 L5' C5 HS4 HL HB4 h3 hb3
          rcases hz with rfl | rfl
          all_goals
            go_wp2_with fail
            go_roundw
            case rel => exact ⟨j + 1, _, _, by omega, by omega, by go_num, HS5, HL5, HB5⟩
            case measure => simp [intOf]; omega
      · rw [decide_eq_false hlt]
        clear hj hlt HNA HKA HRA
        go_wp2_with fail
        with_reducible refine (psnames_new HS.out).mono ?_
        rintro e w3 ⟨A3, c3, rfl, _, hr3, hb3, hn3⟩
        have HAN := Lib.hid (show ∀ b' off, A3 = some ⟨b', off, none⟩ → ¬ fourS q p g b b' from fun b' off e h => by
          have h1 := hn3 b' off e
          have h2 := HS.out.sp.disk.head.lt
          have h3 := HS.out.sp.disk.body.lt
          have h4 := HS.out.bl
          have h5 := World.block_lt_of_cell? _ _ HS.out.sp.cells.1
          rcases h with rfl | rfl | rfl | rfl
          · dsimp only at h5; omega
          · omega
          · omega
          · omega)
        have HAT := Lib.hid (show ∀ b' off, A3 = some ⟨b', off, none⟩ → ¬ two p g b' from fun b' off e h => HAN.out b' off e (by
          rcases h with rfl | rfl
          · exact .inr (.inl rfl)
          · exact .inr (.inr (.inl rfl))))
        clear hn3
        have hnl : (Sto.names ⟨L, false⟩).length = L.length := by
          show (L.map _).length = _
          rw [List.length_map]
        have hL5 : L.length ≤ 5 := HL.out.le
        rw [hnl]
        have HS3 := Lib.hid (HS.out.below hb3)
        have HB3 := Lib.hid (HB.out.trans (hb3.mono HB.out.size))
        have HR3 := Lib.hid hr3
        clear hb3 hr3 HS HB
        go_wp2_with fail
        with_reducible refine (psfreeN_any HS3.out).mono ?_
        rintro e w4 ⟨rfl, hb4⟩
        have hfr : Sto.free ⟨L, false⟩ 5 = 5 - L.length := by
          unfold Sto.free
          rw [if_neg (by simp)]
        rw [hfr]
        have HS4 := Lib.hid (HS3.out.below hb4)
        have HB4 := Lib.hid (HB3.out.trans (hb4.mono HB3.out.size))
        have HR4 := Lib.hid (HR3.out.on hb4)
        clear hb4 HS3 HB3 HR3
        obtain ⟨N, hN⟩ : ∃ N, L.length = N := ⟨_, rfl⟩
        obtain ⟨F, hF⟩ : ∃ F, 5 - N = F := ⟨_, rfl⟩
        rw [hN] at hnl hfr hL5 ⊢
        rw [hF] at hfr ⊢
        have HN := Lib.hid hN
        have HNL := Lib.hid hnl
        have HFR := Lib.hid hfr
        have HF := Lib.hid hF
        clear hN hnl hfr hF
        go_wp2_with fail
        with_reducible refine (HWT.out _).mono ?_
        rintro e w' ⟨rfl, rfl⟩
        clear HWT
        go_wp2_with fail
        have HG := Lib.hid (get_name HL.out (by omega))
        go_loopw [15] (fun t wr => ∃ u : Int, -1 ≤ u ∧ u ≤ 2 ∧ t = .int .i64 u ∧ Hid (ST wr q p g b 35 s 6 5 j ⟨L, false⟩) ∧ Hid (RdS wr wr.heap.size A3 (Sto.names ⟨L, false⟩)) ∧ Hid (Below w.heap.size w wr)) (fun t _ => (intOf t + 1).toNat)
        case atStart => exact ⟨_, by omega, by omega, rfl, HS4, HR4, HB4⟩
        case round =>
          obtain ⟨u, hu1, hu2, rfl, HS, HR, HB⟩ := hrel
          clear HS4 HR4 HB4
          by_cases hu0 : u < 0
          · have hu3 : ¬ 0 ≤ u := by omega
            go_wp2_with fail
            with_reducible refine (pstop_any HS.out.sp.disk 0 0 (by omega)).mono ?_
            rintro e w5 ⟨rfl, D5, C5⟩
            have HS5 := Lib.hid (HS.out.disk_chg D5 C5 rfl (show (s.stop 0 0).keep ≤ 32 from keepOf_le 0) (fun _ => HL.out.lives))
            have HB5 := Lib.hid (HB.out.trans (C5.below HB.out.size HTW.out))
            have HR5 := Lib.hid (HR.out.chg HAT.out C5)
            clear D5 C5 HS HB HR HG
            by_cases h5 : N = 5
            · have hF0 : ¬ (0 : Int) < (F : Int) := by have := HF.out; omega
              have hroom : L.length = 5 := by rw [HN.out]; exact h5
              clear h5
              go_wp2_with fail
              with_reducible refine (lputfull' HS5.out HL.out (by omega) [120] rfl (tab_on HT.out HB5.out HB5.out.size) (by simp) (by simp) hroom).mono ?_
              rintro e w6 ⟨rfl, S6, C6⟩
              have HD6 := Lib.hid S6.sp.disk
              have HB6 := Lib.hid (HB5.out.trans (C6.below HB5.out.size HFS.out))
              have HR6 := Lib.hid (HR5.out.chg HAN.out C6)
              clear S6 C6 HS5 HB5 HR5
              go_wp2_with fail
              with_reducible refine (pstart_any HD6.out).mono ?_
              rintro e w7 ⟨rfl, D7, C7⟩
              have HD7 := Lib.hid D7
              have HB7 := Lib.hid (HB6.out.trans (C7.below HB6.out.size HTW.out))
              have HR7 := Lib.hid (HR6.out.chg HAT.out C7)
              clear D7 C7 HD6 HB6 HR6
              go_wp2_with fail
              with_reducible refine (open_same HD7.out (by omega) (by omega) (live_started HL.out) (i := 5) (j := 6) rfl rfl).mono ?_
              rintro e w20 ⟨q20, b20, rfl, _, _, S20, C20⟩
              have HQ20 := Lib.hid S20
              have HB20 := Lib.hid (HB7.out.trans (C20.below HB7.out.size HTW.out))
              have HR20 := Lib.hid (HR7.out.chg HAT.out C20)
              clear S20 C20
              go_wp2_with fail
              with_reducible refine (psnames_any HQ20.out).mono ?_
              rintro e w21 ⟨A21, c21, rfl, _, hr21, hb21⟩
              rw [HNL.out]
              have HB21 := Lib.hid (HB20.out.trans (hb21.mono HB20.out.size))
              have HR21 := Lib.hid (HR20.out.on hb21)
              have HM21 := Lib.hid hr21
              clear hr21 hb21 HQ20 HB20 HR20
              go_wp2_with fail
              with_reducible refine (samestr_any A21 A3 N N c21 c3 _ _ _ _ _ HNL.out HNL.out (by omega) HM21.out HR21.out).mono ?_
              rintro e w22 ⟨rfl, m22, rfl⟩
              rw [show decide (Sto.names ⟨L, false⟩ = Sto.names ⟨L, false⟩) = true from decide_eq_true rfl]
              have hbel22 := below_drewN HB21.out m22
              clear HB21 HR21 HM21
              go_wp2_with fail
              with_reducible refine (wakes11_any _ (tab_on HT.out hbel22 hbel22.size)).mono ?_
              rintro e w23 ⟨rfl, hb23⟩
              have hbel23 := hbel22.trans (hb23.mono hbel22.size)
              go_wp2_with fail
              go_ret
              exact ⟨rfl, hbel23⟩
            · have hF0 : (0 : Int) < (F : Int) := by have := HF.out; omega
              have hroom : L.length < 5 := by rw [HN.out]; omega
              clear h5
              go_wp2_with fail
              with_reducible refine (lputstop HS5.out HL.out (by omega) [120] [] rfl none 0 0 rfl (by omega) (by unfold maxLen; omega) (Rd.nil _ _ _) (tab_on HT.out HB5.out HB5.out.size) (by simp) (by omega) (by simp) hroom).mono ?_
              rintro e w6 ⟨s6, rfl, S6, L6, C6⟩
              have HS6 := Lib.hid S6
              have HL6 := Lib.hid L6
              have HB6 := Lib.hid (HB5.out.trans (C6.below HB5.out.size HFS.out))
              have HR6 := Lib.hid (HR5.out.chg HAN.out C6)
              clear S6 L6 C6 HS5 HB5 HR5
              go_wp2_with fail
              with_reducible refine (pstart_any HS6.out.sp.disk).mono ?_
              rintro e w7 ⟨rfl, D7, C7⟩
              have HS7 := Lib.hid (HS6.out.disk_chg D7 C7 rfl (Nat.zero_le _) (fun e => by cases e))
              have HB7 := Lib.hid (HB6.out.trans (C7.below HB6.out.size HTW.out))
              have HR7 := Lib.hid (HR6.out.chg HAT.out C7)
              clear D7 C7 HS6 HB6 HR6
              go_wp2_with fail
              with_reducible refine (psfreeN_any HS7.out).mono ?_
              rw [show Sto.free ⟨L, true⟩ 5 = 0 from rfl]
              rintro e w8 ⟨rfl, hb8⟩
              have HS8 := Lib.hid (HS7.out.below hb8)
              have HB8 := Lib.hid (HB7.out.trans (hb8.mono HB7.out.size))
              have HR8 := Lib.hid (HR7.out.on hb8)
              clear hb8 HS7 HB7 HR7
              go_wp2_with fail
              with_reducible refine (psnames_any HS8.out).mono ?_
              rintro e w9 ⟨A9, c9, rfl, _, _, hb9⟩
              rw [show (Sto.names ⟨L, true⟩).length = 0 from rfl]
              have HS9 := Lib.hid (HS8.out.below hb9)
              have HB9 := Lib.hid (HB8.out.trans (hb9.mono HB8.out.size))
              have HR9 := Lib.hid (HR8.out.on hb9)
              clear hb9 HS8 HB8 HR8
              go_wp2_with fail
              with_reducible refine (lputdead HS9.out (by omega) [120] rfl (tab_on HT.out HB9.out HB9.out.size) (by simp)).mono ?_
              rintro e w10 ⟨rfl, S10, C10⟩
              have HS10 := Lib.hid S10
              have HB10 := Lib.hid (HB9.out.trans (C10.below HB9.out.size HFS.out))
              have HR10 := Lib.hid (HR9.out.chg HAN.out C10)
              clear S10 C10 HS9 HB9 HR9
              go_wp2_with fail
              with_reducible refine (ldropdead HS10.out [120] rfl).mono ?_
              rintro e w11 ⟨rfl, S11, C11⟩
              have HD11 := Lib.hid S11.sp.disk
              have HB11 := Lib.hid (HB10.out.trans (C11.below HB10.out.size HFS.out))
              have HR11 := Lib.hid (HR10.out.chg HAN.out C11)
              clear S11 C11 HS10 HB10 HR10
              go_wp2_with fail
              with_reducible refine (open_same HD11.out (by omega) (by omega) HL6.out (i := 5) (j := 6) rfl rfl).mono ?_
              rintro e w20 ⟨q20, b20, rfl, _, _, S20, C20⟩
              have HQ20 := Lib.hid S20
              have HB20 := Lib.hid (HB11.out.trans (C20.below HB11.out.size HTW.out))
              have HR20 := Lib.hid (HR11.out.chg HAT.out C20)
              clear S20 C20
              go_wp2_with fail
              with_reducible refine (psnames_any HQ20.out).mono ?_
              rintro e w21 ⟨A21, c21, rfl, _, hr21, hb21⟩
              rw [HNL.out]
              have HB21 := Lib.hid (HB20.out.trans (hb21.mono HB20.out.size))
              have HR21 := Lib.hid (HR20.out.on hb21)
              have HM21 := Lib.hid hr21
              clear hr21 hb21 HQ20 HB20 HR20
              go_wp2_with fail
              with_reducible refine (samestr_any A21 A3 N N c21 c3 _ _ _ _ _ HNL.out HNL.out (by omega) HM21.out HR21.out).mono ?_
              rintro e w22 ⟨rfl, m22, rfl⟩
              rw [show decide (Sto.names ⟨L, false⟩ = Sto.names ⟨L, false⟩) = true from decide_eq_true rfl]
              have hbel22 := below_drewN HB21.out m22
              clear HB21 HR21 HM21
              go_wp2_with fail
              with_reducible refine (wakes11_any _ (tab_on HT.out hbel22 hbel22.size)).mono ?_
              rintro e w23 ⟨rfl, hb23⟩
              have hbel23 := hbel22.trans (hb23.mono hbel22.size)
              go_wp2_with fail
              go_ret
              exact ⟨rfl, hbel23⟩
          · have hu3 : 0 ≤ u := by omega
            go_wp2_with fail
            with_reducible refine (open_same HS.out.sp.disk (by omega) (by omega) HL.out (i := 5) (j := 6) rfl rfl).mono ?_
            rintro e w5 ⟨q5, b5, rfl, hq5, hb5, S5, C5⟩
            have HS5 := Lib.hid (HS.out.other S5.sp.disk C5)
            have HQ5 := Lib.hid S5
            have HB5 := Lib.hid (HB.out.trans (C5.below HB.out.size HTW.out))
            have HR5 := Lib.hid (HR.out.chg HAT.out C5)
            clear S5 C5 hq5 hb5 HS HB HR
            go_wp2_with fail
            with_reducible refine (psnames_any HQ5.out).mono ?_
            rintro e w6 ⟨A6, c6, rfl, _, hr6, hb6⟩
            rw [HNL.out]
            have HS6 := Lib.hid (HS5.out.below hb6)
            have HQ6 := Lib.hid (HQ5.out.below hb6)
            have HB6 := Lib.hid (HB5.out.trans (hb6.mono HB5.out.size))
            have HR6 := Lib.hid (HR5.out.on hb6)
            have HM6 := Lib.hid hr6
            clear hr6 hb6 HS5 HQ5 HB5 HR5
            go_wp2_with fail
            with_reducible refine (samestr_any A6 A3 N N c6 c3 _ _ _ _ _ HNL.out HNL.out (by omega) HM6.out HR6.out).mono ?_
            rintro e w7 ⟨rfl, m7, rfl⟩
            rw [show decide (Sto.names ⟨L, false⟩ = Sto.names ⟨L, false⟩) = true from decide_eq_true rfl]
            have hbx := below_drewN (Below.refl w6.heap.size w6) m7
            have HS7 := Lib.hid (HS6.out.below hbx)
            have HQ7 := Lib.hid (HQ6.out.below hbx)
            have HB7 := Lib.hid (HB6.out.trans (hbx.mono HB6.out.size))
            have HR7 := Lib.hid (HR6.out.on hbx)
            clear hbx HS6 HQ6 HB6 HR6 HM6
            generalize w6.drewN m7 = w7 at *
            go_wp2_with fail
            with_reducible refine (psfreeN_any HQ7.out).mono ?_
            rw [HFR.out]
            rintro e w8 ⟨rfl, hb8⟩
            have HS8 := Lib.hid (HS7.out.below hb8)
            have HQ8 := Lib.hid (HQ7.out.below hb8)
            have HB8 := Lib.hid (HB7.out.trans (hb8.mono HB7.out.size))
            have HR8 := Lib.hid (HR7.out.on hb8)
            clear hb8 HS7 HQ7 HB7 HR7
            go_wp2_with fail
            go_loopw [120] (fun t wr => ∃ k : Nat, k ≤ N ∧ t = .int .i64 k ∧ Hid (ST wr q p g b 35 s 6 5 j ⟨L, false⟩) ∧ Hid (ST wr q5 p g b5 35 s 6 5 j ⟨L, false⟩) ∧ Hid (RdS wr wr.heap.size A3 (Sto.names ⟨L, false⟩)) ∧ Hid (Below w.heap.size w wr)) (fun t _ => N - (intOf t).toNat)
            case atStart => exact ⟨0, by omega, rfl, HS8, HQ8, HR8, HB8⟩
            case round =>
              obtain ⟨k, hk, rfl, HS, HQ, HR, HB⟩ := hrel
              clear HS8 HQ8 HR8 HB8
              by_cases hkN : k < N
              · have hkN1 : (k : Int) < (N : Int) := by omega
                have hkL : k < (Sto.names ⟨L, false⟩).length := by rw [HNL.out]; exact hkN
                obtain ⟨bn, on, hA, _, hc⟩ := HR.out.at_ hkL
                obtain ⟨d, hd, hdl⟩ := HG.out k hkL
                subst hA
                generalize (Sto.names ⟨L, false⟩)[k] = nm at *
                have HD := Lib.hid hd
                clear hd hkL
                have hx1 : IntKind.i64.wrap ((k : Int) + 1) = ((k + 1 : Nat) : Int) := by rw [IntWalk.i64_in _ (by omega)]; omega
                go_wp2_with fail
                with_reducible refine (lget HS.out nm rfl).mono ?_
                rw [HD.out]
                rintro e w9 ⟨hb9, A9, c9, rfl, hc9, hr9⟩
                have HS9 := Lib.hid (HS.out.below hb9)
                have HQ9 := Lib.hid (HQ.out.below hb9)
                have HR9 := Lib.hid (HR.out.on hb9)
                have HB9 := Lib.hid (HB.out.trans (hb9.mono HB.out.size))
                have HX9 := Lib.hid hr9
                clear hb9 hr9 HS HQ HR HB hc
                go_wp2_with fail
                with_reducible refine (lget HQ9.out nm rfl).mono ?_
                rw [HD.out]
                rintro e w10 ⟨hb10, A10, c10, rfl, hc10, hr10⟩
                have HS10 := Lib.hid (HS9.out.below hb10)
                have HQ10 := Lib.hid (HQ9.out.below hb10)
                have HR10 := Lib.hid (HR9.out.on hb10)
                have HB10 := Lib.hid (HB9.out.trans (hb10.mono HB9.out.size))
                have HX10 := Lib.hid (HX9.out.on hb10)
                have HY10 := Lib.hid hr10
                clear hb10 hr10 HS9 HQ9 HR9 HB9 HX9
                go_wp2_with fail
                with_reducible refine (same_any A9 A10 d.length d.length c9 c10 _ _ d d _ rfl rfl hdl HX10.out HY10.out).mono ?_
                rintro e w11 ⟨rfl, m11, rfl⟩
                rw [show decide (d = d) = true from decide_eq_true rfl]
                have hbx := below_drewN (Below.refl w10.heap.size w10) m11
                have HS11 := Lib.hid (HS10.out.below hbx)
                have HQ11 := Lib.hid (HQ10.out.below hbx)
                have HB11 := Lib.hid (HB10.out.trans (hbx.mono HB10.out.size))
                have HR11 := Lib.hid (HR10.out.on hbx)
                clear hbx HS10 HQ10 HB10 HR10 HX10 HY10
                generalize w10.drewN m11 = w11 at *
                go_wp2_with fail
                go_roundw
                case rel => exact ⟨k + 1, by omega, by go_num, HS11, HQ11, HR11, HB11⟩
                case measure => simp [intOf]; omega
              · have hkN1 : ¬ (k : Int) < (N : Int) := by omega
                go_wp2_with fail
                go_roundw
                case rel => exact ⟨u - 1, by omega, by omega, by go_num, HS, HR, HB⟩
                case measure => simp [intOf]; omega

set_option maxRecDepth 100000 in
theorem contract (H : Type) (enc : TypeId × Value → H) (W : World) (base : Nat) (args : Array Value) (ds gs : List (DataW H)) (before : List MemPlace)
    (hval : ∀ (j : Nat) t v, Tryd.f3.params[j]? = some t → args[j]? = some v → Value.okWide Tryd.prog W .any base t v)
    (hW : DataW.Whole enc Tryd.prog Tryd.f3.params.toList Rows.storeAgainSpec.vars false W args.toList ds gs before) (hL : laidMetH Tryd.prog Rows.storeAgainRow.laid W) :
    Calls Tryd.prog 3 args W fun e W' => ∃ v, e = .returned v ∧ Rows.storeAgainSpec.post enc Tryd.prog Tryd.f3 false true false false W args v W' := by
  have hW' := hW
  obtain ⟨p, q, hA0, hV, rfl, hfz, hnd⟩ := hW
  have hA : DataW.TrodAll enc Tryd.prog W 0 (fun _ => true) true Tryd.f3.params.toList args.toList ds p := hA0
  rw [Tryd.params3] at hA hval
  obtain ⟨v0, v1, d0, d1, p0, p1, rfl, rfl, rfl, h0, h1⟩ := trodAll_two hA
  obtain ⟨rfl, rfl⟩ := trodVars_none hV
  obtain ⟨A0, m0, c0, l0, rfl, hl0, hc0, hm0, hk0, hr0⟩ := open_calls (hval 0 22 v0 rfl rfl) h0
  obtain ⟨n1, rfl, rfl, rfl, wf1⟩ := open_int Tryd.underlying3 (hval 1 3 v1 rfl rfl) h1
  have b1 := bounds_i64 wf1
  clear hA0
  refine (walk A0 m0 c0 l0 n1 W hl0 hk0 hr0 b1.1 b1.2 (pow10 hL)).mono fun e W' ⟨he, hb⟩ => ?_
  exact ⟨_, he, law_post hW' rfl (by kernel_rfl) rfl (by kernel_rfl) hb⟩

theorem laid_met (os : Os) : laidMet Tryd.prog Rows.storeAgainRow.laid ((laidWorld os).forCall (fun _ _ => 0) ⟨#[], #[.slice none 0 0, .int .i64 0], []⟩).memory :=
  laidMet_of_run' 8 (by kernel_rfl) (by kernel_rfl)
theorem reads (os : Os) {H : Type} (enc : TypeId × Value → H) : ∃ places, DataW.whole enc Tryd.prog ((laidWorld os).forCall (fun _ _ => 0) ⟨#[], #[.slice none 0 0, .int .i64 0], []⟩).memory Tryd.f3.params.toList Rows.storeAgainSpec.vars false #[Value.slice none 0 0, Value.int .i64 0].toList 8 = some ([.nil, .lit (.int .i64 0)], [], places) :=
  ⟨[], by kernel_rfl⟩

set_option maxRecDepth 100000 in
theorem lifted (os : Os) (started : os.Started) (H : Type) (enc : TypeId × Value → H) (F : Stop.Interp) :
    ReturnsInHanded {} Tryd.checked os 3 .any ((OpenSpec.ofChange Rows.storeAgainSpec).preRow enc Tryd.prog Tryd.f3 Rows.storeAgainRow.domain false Rows.storeAgainRow.laid) (((OpenSpec.ofChange Rows.storeAgainSpec).at F).post enc Tryd.prog Tryd.f3 false true false false) := by
  obtain ⟨places, hx⟩ := reads os enc
  refine returnsInHanded_of_row (C := Tryd.checked) (s := OpenSpec.ofChange Rows.storeAgainSpec) own started (by kernel_rfl) Tryd.func3
    (witness_row_at (enc := enc) (C := Tryd.checked) false (laidWorld os) #[.slice none 0 0, .int .i64 0] rfl (by kernel_rfl) (by kernel_rfl) (by kernel_rfl)
      (OpenSpec.preRow_of_cond 8 hx (by kernel_rfl) (fun k hk => by cases hk) (by kernel_rfl) (laid_met os))) ?_
  intro W base args ds gs before hval hW _ _ _ hL _ _
  exact contract H enc W base args ds gs before hval hW hL

theorem said : Rows.StoreAgainSaid :=
  OpenClaim.holds_of_cond 3 Tryd.f3 rfl rfl rfl rfl rfl rfl rfl ⟨rfl, rfl, rfl, rfl, rfl⟩ rfl rfl rfl rfl rfl (by kernel_rfl) Tryd.func3 (by kernel_rfl)
    (of_decide_eq_true (by kernel_rfl)) (by unfold Func.isWrapper; first | (rw [if_pos (by decide +kernel)]; kernel_rfl) | (rw [if_neg (by decide +kernel)]; exact ⟨rfl, rfl⟩))
    (fun os started H enc _ F => by rw [OpenClaim.pre_eq_preRow]; exact lifted os started H enc F)

theorem plain (f : FuncId) (fn : Func) (hf : Tryd.pinned.checked.prog.funcNamed "aumbry/aumbrylaw11.StoreAgain" = some f) (hfn : Tryd.pinned.checked.prog.funcs[f]? = some fn) :
    false = Tryd.pinned.checked.prog.looks [] ∧ ∀ (j : Nat) t, fn.params[j]? = some t → Tryd.pinned.checked.prog.wantsStandIn t = false := by
  obtain rfl : f = 3 := Option.some.inj ((show Tryd.prog.funcNamed "aumbry/aumbrylaw11.StoreAgain" = some 3 by kernel_rfl).symm.trans hf) |>.symm
  obtain rfl : fn = Tryd.f3 := (Option.some.inj (Tryd.func3.symm.trans hfn)).symm
  refine ⟨by kernel_rfl, fun j t ht => ?_⟩
  exact wants_none (by kernel_rfl) (Array.mem_of_getElem? ht)

/-- The card: the statement holds, its listed tables tied to the program's text. -/
theorem card : Rows.StoreAgainCardSaid :=
  Claim7.holds_tied_plain_at .later [] _ _ _ _ said (fun _ h => by cases h) (by kernel_rfl) (fun _ h => by cases h) storeAgain_row_tie rfl ⟨rfl, rfl⟩ (by kernel_rfl) rfl plain (by kernel_rfl)
end Go.Proofs.YtffllpjlghehiaaDoor.storeAgain
