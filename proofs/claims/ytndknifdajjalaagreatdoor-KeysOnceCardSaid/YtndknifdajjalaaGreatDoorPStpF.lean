/- The program's store: a slot is taken in. -/
import Derived.Deep.RegionHeld3
import Derived.Test.YtndknifdajjalaaGreatDoorPStpD
namespace Go.Proofs.YtndknifdajjalaaGreatDoor
open Go.RowKit
set_option maxRecDepth 100000

/-- The sectors of slot i's room, as far as k. -/
theorem room_take {s : Dsk} {R n i k : Nat} (h : Geo s R n) (hi : i < n) (hk : k < R) : (roomB s.B R i).take (k * 32) ++ s.sec (i * (R + 1) + 1 + k) = (roomB s.B R i).take ((k + 1) * 32) := by
  have hlt := geo_lt hi (show k + 1 ≤ R by omega)
  have hlen := h.len
  apply List.ext_getElem?
  intro t
  have e1 : ((roomB s.B R i).take (k * 32)).length = k * 32 := by
    unfold roomB
    rw [List.length_take, List.length_take, List.length_drop, hlen]
    have h3 : (i * (R + 1) + 1) * 32 + R * 32 ≤ n * (R + 1) * 32 := by
      have := geo_lt hi (Nat.le_refl R)
      omega
    omega
  by_cases ht : t < k * 32
  · rw [List.getElem?_append_left (by omega), List.getElem?_take, if_pos ht, List.getElem?_take, if_pos (by omega)]
  · rw [List.getElem?_append_right (by omega), e1, List.getElem?_take]
    unfold Dsk.sec
    rw [List.getElem?_take, List.getElem?_drop, roomB_get]
    by_cases h2 : t < (k + 1) * 32
    · rw [if_pos h2, if_pos (by omega), if_pos (by omega)]
      congr 1
      have : (i * (R + 1) + 1 + k) * 32 = (i * (R + 1) + 1) * 32 + k * 32 := by rw [Nat.add_mul (i * (R + 1) + 1) k 32]
      omega
    · rw [if_neg h2, if_neg (by omega)]
theorem room_len {s : Dsk} {R n i : Nat} (h : Geo s R n) (hi : i < n) : (roomB s.B R i).length = R * 32 := by
  have := geo_lt hi (Nat.le_refl R)
  have := h.len
  unfold roomB
  rw [List.length_take, List.length_drop]
  omega

set_option maxHeartbeats 1000000 in
theorem psread_any {w : World} {q p g b c : Nat} {s : Dsk} {R n : Nat} {E : Nat → Ent} {died : Bool} (h : SP w q p g b c s R n E died) {i : Nat} (hi : i < n) (hd : s.dead = false) :
    Calls Tryz.prog 54 #[.pointer (some ⟨q, 0, none⟩), .int .i64 (i : Int)] w fun e w' => ∃ A' c', e = .returned (.tuple #[.slice A' (R * 32) c', .int .i64 0]) ∧ R * 32 ≤ c' ∧ Rd w' w'.heap.size A' (roomB s.B R i) ∧ Below w.heap.size w w' := by
  obtain ⟨i0, hi0, hz0, hz1, hz2⟩ := info_parts info5
  have H := Lib.hid h
  have hsz := h.size
  have hg := h.geo
  obtain ⟨c0, c1, c2, c3⟩ := h.cells
  have h1 : ∀ {k : Nat}, k < R → i * (R + 1) + 1 + k < n * (R + 1) := fun {k} hk => by have := (h.place hi (show k + 1 ≤ R by omega)).1; omega
  clear h
  go_enter Tryz.func54, Tryz.ntmps54
  go_wp2
  go_loopw [6, 14] (fun v i' wr => ∃ k : Nat, k ≤ R ∧ i' = .int .i64 k ∧ Hid (OwnB wr w.heap.size 5 v (k * 32) ((roomB s.B R i).take (k * 32))) ∧ Below w.heap.size w wr) (fun _ i' _ => R - (intOf i').toNat)
  case atStart => exact ⟨0, Nat.zero_le _, rfl, Lib.hid (by rw [Nat.zero_mul, List.take_zero]; exact OwnB.nil _ _ _), Below.refl _ _⟩
  case round =>
    obtain ⟨k, hk, rfl, HO, hbel⟩ := hrel
    by_cases hlt : k < R
    · have hki : (k : Int) < (R : Int) := by omega
      have HR := Lib.hid (H.out.below hbel)
      obtain ⟨d0, d1, d2, d3⟩ := HR.out.cells
      have hpl := h1 hlt
      obtain ⟨pl, hpe⟩ : ∃ pl, i * (R + 1) + 1 + k = pl := ⟨_, rfl⟩
      obtain ⟨V, hV⟩ : ∃ V : Int, ((i * (R + 1) : Nat) : Int) = V := ⟨_, rfl⟩
      rw [hpe] at hpl
      have hV0 : 0 ≤ V := by omega
      have hV1 : V ≤ 4096 := by omega
      have hVk : IntKind.i64.wrap (IntKind.i64.wrap (V + 1) + (k : Int)) = (pl : Int) := by rw [IntWalk.i64_in (V + 1) (by omega), IntWalk.i64_in _ (by omega)]; omega
      have HKEEP := Lib.hid (fun (W : World) (h : Below wr.heap.size wr W) => (show W.cell? ⟨q, 0, none⟩ = some (.pointer (some ⟨p, 0, none⟩)) ∧ W.cell? ⟨q, 1, none⟩ = some (.int .i64 (R : Int)) ∧ Below wr.heap.size wr W from ⟨(HR.out.below h).cells.1, (HR.out.below h).cells.2.1, h⟩))
      have HS := Lib.hid (fun (W : World) (h : Below wr.heap.size wr W) => (show Calls Tryz.prog 53 #[.pointer (some ⟨q, 0, none⟩), .int .i64 (i : Int)] W fun e w' => e = .returned (.int .i64 V) ∧ W = w' from by rw [← hV]; exact psstate_any (HR.out.below h) hi))
      have HP := Lib.hid (fun (W : World) (h : Below wr.heap.size wr W) => (show Calls Tryz.prog 52 #[.pointer (some ⟨p, 0, none⟩), .int .i64 (IntKind.i64.wrap (IntKind.i64.wrap (V + 1) + (k : Int)))] W fun e w' => ∃ A' c', e = .returned (.tuple #[.slice A' 32 c', .int .i64 0]) ∧ 32 ≤ c' ∧ c' ≤ maxLen ∧ OwnB w' W.heap.size 5 (.slice A' 32 c') 32 (s.sec pl) ∧ Below W.heap.size W w' from by rw [hVk]; exact pread_any (HR.out.below h).disk pl hpl hd))
      have HK := Lib.hid (show (roomB s.B R i).take (k * 32) ++ s.sec pl = (roomB s.B R i).take ((k + 1) * 32) by rw [← hpe]; exact room_take hg hi hlt)
      have hcd : Below wr.heap.size wr wr.drew := (Below.refl _ _).drew
      have hlim : k * 32 + 32 ≤ 140737488355328 := by omega
      clear hV hVk hpe hpl
      go_wp2_with fail
      go_region_held3 (fun W => W.cell? ⟨q, 0, none⟩ = some (.pointer (some ⟨p, 0, none⟩)) ∧ W.cell? ⟨q, 1, none⟩ = some (.int .i64 (R : Int)) ∧ Below wr.heap.size wr W)
        ((first | exact HKEEP.out _ ‹_› | exact HKEEP.out _ (Below.drew ‹_›) | exact HKEEP.out _ (below_drewN ‹_› _)))
        ((first
          | (go_at_call 53; refine (HS.out _ hcd).mono ?_; rintro e w4 ⟨rfl, rfl⟩)
          | (go_at_call 52; refine (HP.out _ hcd).mono ?_; rintro e w5 ⟨A', c', rfl, hc1, hc2, ho5, hb5⟩; have hbel5 := hcd.trans (hb5.mono hcd.size); have HS5 := Lib.hid ho5; clear ho5)))
      have HO5 := Lib.hid (HO.out.on hbel5)
      have hbel6 := Below.then hbel hbel5
      have hle5 := hbel6.size
      clear HO HR HS HP HKEEP hcd hb5 hbel5 d0 d1 d2 d3 hbel
      rename_i hHeld
      clear hHeld
      generalize IntKind.i64.wrap (IntKind.i64.wrap (V + 1) + (k : Int)) = P1
      generalize IntKind.i64.wrap (V + 1) = P2
      go_wp2_with (at_builtin; refine wpList_append_B rfl (.tmp 34) (.tmp 35) 35 35 rfl w.heap.size 5 i0 Tryz.underlying35 hi0 hz0 hz1 hz2 _ (k * 32) _ rfl HO5.out _ rfl 32 (s.sec pl) HS5.out.1 (Src.ofRd Tryz.underlying35 _ _ 32 c' _ HS5.out.1 HS5.out.rd) hlim hle5 ?_)
      intro v6 w6 ho6 hg6
      have hbel7 : Below w.heap.size w w6 := hbel6.grown hg6 hbel6.size (fun k hk => (HO5.out.lt k hk))
      rw [HK.out] at ho6
      have HO6 := Lib.hid ho6
      clear ho6 hg6 hbel6 HO5 HS5
      go_wp2_with fail
      go_roundw
      case rel => exact ⟨k + 1, by omega, by go_num, Lib.hid (by rw [show (k + 1) * 32 = k * 32 + 32 by omega]; rw [show (k + 1) * 32 = k * 32 + 32 by omega] at HO6; exact HO6.out), hbel7⟩
      case measure => simp [intOf]; omega
    · have hge : ¬ (k : Int) < (R : Int) := by omega
      obtain rfl : k = R := by omega
      have ho := HO.out
      rw [List.take_of_length_le (by rw [room_len hg hi]; exact Nat.le_refl _)] at ho
      obtain ⟨A1, c1', hv, hc1, _⟩ := own_caps ho.own
      subst hv
      have HRD := Lib.hid ho.rd
      clear ho
      go_wp2_with fail
      go_ret2
      exact ⟨A1, c1', rfl, hc1, HRD.out, hbel⟩
set_option maxRecDepth 100000

theorem sec_head {s : Dsk} {R n i : Nat} (h : Geo s R n) (hi : i < n) : ∃ x r, s.sec (i * (R + 1)) = x :: r ∧ (x = 1 ↔ usedB s.B R i = true) := by
  have h1 := geo_lt hi (Nat.zero_le R)
  have hl := h.len
  have hlt : i * (R + 1) * 32 < s.B.length := by omega
  refine ⟨s.B[i * (R + 1) * 32], (s.B.drop (i * (R + 1) * 32 + 1)).take 31, ?_, ?_⟩
  · unfold Dsk.sec
    rw [List.drop_eq_getElem_cons hlt]
    rfl
  · unfold usedB
    rw [List.getElem?_eq_getElem hlt, decide_eq_true_eq, Option.some_inj]

/-- The sector of a slot's state is read. -/
def HeadPost (w : World) (x : UInt8) (e : Ending) (w' : World) : Prop := ∃ b o c, e = .returned (.tuple #[.slice (some ⟨b, o, none⟩) 32 c, .int .i64 0]) ∧ w'.cell? ⟨b, o, none⟩ = some (.int .u8 (x.toNat : Int)) ∧ Below w.heap.size w w'
theorem head_any {w : World} {p g N c : Nat} {s : Dsk} (h : DP w p g N c s) {k : Nat} (hk : k < N) (hd : s.dead = false) {x : UInt8} {r : List UInt8} (hx : s.sec k = x :: r) :
    Calls Tryz.prog 52 #[.pointer (some ⟨p, 0, none⟩), .int .i64 (k : Int)] w (HeadPost w x) := by
  refine (pread_any h k hk hd).mono ?_
  rintro e w' ⟨A, c', rfl, _, _, ho, hb⟩
  have hr := ho.rd
  rw [hx] at hr
  rcases hr with h0 | ⟨b, o, rfl, _, hc⟩
  · cases h0
  · exact ⟨b, o, c', rfl, hc 0 (by simp), hb⟩

set_option maxHeartbeats 1000000 in
theorem psload_dead {w : World} {q p g b c : Nat} {s : Dsk} {R n : Nat} {E : Nat → Ent} (h : SP w q p g b c s R n E false) {i : Nat} (hi : i < n) (hd : s.dead = true) :
    Calls Tryz.prog 28 #[.pointer (some ⟨q, 0, none⟩), .int .i64 (i : Int)] w fun e w' => e = .returned (.int .i64 8) ∧ Below w.heap.size w w' := by
  have H := Lib.hid h
  have hsz := h.size
  have hpl := (h.place hi (Nat.zero_le R)).1
  obtain ⟨c0, c1, c2, c3⟩ := h.cells
  obtain ⟨V, hV⟩ : ∃ V : Int, ((i * (R + 1) : Nat) : Int) = V := ⟨_, rfl⟩
  have HKEEP := Lib.hid (fun (W : World) (h' : Below w.heap.size w W) => (show W.cell? ⟨q, 0, none⟩ = some (.pointer (some ⟨p, 0, none⟩)) ∧ Below w.heap.size w W from ⟨(H.out.below h').cells.1, h'⟩))
  have HS := Lib.hid (show Calls Tryz.prog 53 #[.pointer (some ⟨q, 0, none⟩), .int .i64 (i : Int)] w.drew fun e w' => e = .returned (.int .i64 V) ∧ w.drew = w' from by rw [← hV]; exact psstate_any (h.below (Below.refl _ _).drew) hi)
  have HP := Lib.hid (show Calls Tryz.prog 52 #[.pointer (some ⟨p, 0, none⟩), .int .i64 V] w.drew fun e w' => e = .returned (.tuple #[.slice none 0 0, .int .i64 8]) ∧ w.drew = w' from by rw [← hV]; exact pread_dead (h.disk.below (Below.refl _ _).drew) _ (by omega) hd)
  have hcd : Below w.heap.size w w.drew := (Below.refl _ _).drew
  clear h hV
  go_enter Tryz.func28, Tryz.ntmps28
  go_wp2_with fail
  go_region_held3 (fun W => W.cell? ⟨q, 0, none⟩ = some (.pointer (some ⟨p, 0, none⟩)) ∧ Below w.heap.size w W)
    ((first | exact HKEEP.out _ ‹_› | exact HKEEP.out _ (Below.drew ‹_›) | exact HKEEP.out _ (below_drewN ‹_› _)))
    ((first
      | (go_at_call 53; refine HS.out.mono ?_; rintro e w4 ⟨rfl, rfl⟩)
      | (go_at_call 52; refine HP.out.mono ?_; rintro e w5 ⟨rfl, rfl⟩)))
  clear HKEEP HS HP H
  go_wp2_with fail
  go_ret
  exact ⟨rfl, hcd⟩

set_option maxHeartbeats 1000000 in
theorem psload_free {w : World} {q p g b c : Nat} {s : Dsk} {R n : Nat} {E : Nat → Ent} (h : SP w q p g b c s R n E false) {i : Nat} (hi : i < n) (hd : s.dead = false) (hu : usedB s.B R i = false) :
    Calls Tryz.prog 28 #[.pointer (some ⟨q, 0, none⟩), .int .i64 (i : Int)] w fun e w' => e = .returned (.int .i64 0) ∧ Below w.heap.size w w' := by
  have H := Lib.hid h
  have hsz := h.size
  have hpl := (h.place hi (Nat.zero_le R)).1
  obtain ⟨c0, c1, c2, c3⟩ := h.cells
  obtain ⟨x, r, hx, hx1⟩ := sec_head h.geo hi
  obtain ⟨V, hV⟩ : ∃ V : Int, ((i * (R + 1) : Nat) : Int) = V := ⟨_, rfl⟩
  have HKEEP := Lib.hid (fun (W : World) (h' : Below w.heap.size w W) => (show W.cell? ⟨q, 0, none⟩ = some (.pointer (some ⟨p, 0, none⟩)) ∧ Below w.heap.size w W from ⟨(H.out.below h').cells.1, h'⟩))
  have HS := Lib.hid (show Calls Tryz.prog 53 #[.pointer (some ⟨q, 0, none⟩), .int .i64 (i : Int)] w.drew fun e w' => e = .returned (.int .i64 V) ∧ w.drew = w' from by rw [← hV]; exact psstate_any (h.below (Below.refl _ _).drew) hi)
  have HP := Lib.hid (show Calls Tryz.prog 52 #[.pointer (some ⟨p, 0, none⟩), .int .i64 V] w.drew (HeadPost w.drew x) from by rw [← hV]; exact head_any (h.disk.below (Below.refl _ _).drew) (by omega) hd hx)
  have hcd : Below w.heap.size w w.drew := (Below.refl _ _).drew
  have hne : (x.toNat : Int) ≠ 1 := fun e => by
    have : x = 1 := UInt8.toNat_inj.1 (by have := Int.ofNat.inj e; exact this)
    rw [hx1.1 this] at hu
    cases hu
  clear h hV hx hx1 hu
  go_enter Tryz.func28, Tryz.ntmps28
  go_wp2_with fail
  go_region_held3 (fun W => W.cell? ⟨q, 0, none⟩ = some (.pointer (some ⟨p, 0, none⟩)) ∧ Below w.heap.size w W)
    ((first | exact HKEEP.out _ ‹_› | exact HKEEP.out _ (Below.drew ‹_›) | exact HKEEP.out _ (below_drewN ‹_› _)))
    ((first
      | (go_at_call 53; refine HS.out.mono ?_; rintro e w4 ⟨rfl, rfl⟩)
      | (go_at_call 52; refine HP.out.mono ?_; rintro e w5 ⟨b5, o5, k5, rfl, hc5, hb5⟩; have hbel5 := hcd.trans (hb5.mono hcd.size))))
  clear HKEEP HS HP H
  go_wp2_with fail
  go_ret
  exact ⟨rfl, hbel5⟩

set_option maxHeartbeats 2000000 in
theorem psload_some {w : World} {q p g b c : Nat} {s : Dsk} {R n : Nat} {E : Nat → Ent} (h : SP w q p g b c s R n E false) {i : Nat} (hi : i < n) (hd : s.dead = false) {r : Rec11} (hv : slotB s.B R i = some r) :
    Calls Tryz.prog 28 #[.pointer (some ⟨q, 0, none⟩), .int .i64 (i : Int)] w fun e w' => e = .returned (.int .i64 0) ∧ SP w' q p g b c s R n (updE E i (some (r.name, r.num))) false ∧ Chg (fourS q p g b) w w' := by
  have H := Lib.hid h
  have hsz := h.size
  have hpl := (h.place hi (Nat.zero_le R)).1
  obtain ⟨c0, c1, c2, c3⟩ := h.cells
  obtain ⟨hu, hro⟩ : usedB s.B R i = true ∧ readR (roomB s.B R i) = some r := by
    unfold slotB at hv
    split at hv
    · exact ⟨‹_›, hv⟩
    · cases hv
  have HRO := Lib.hid hro
  have hrl := room_len h.geo hi
  have HRL := Lib.hid hrl
  obtain ⟨x, r0, hx, hx1⟩ := sec_head h.geo hi
  obtain ⟨V, hV⟩ : ∃ V : Int, ((i * (R + 1) : Nat) : Int) = V := ⟨_, rfl⟩
  have HKEEP := Lib.hid (fun (W : World) (h' : Below w.heap.size w W) => (show W.cell? ⟨q, 0, none⟩ = some (.pointer (some ⟨p, 0, none⟩)) ∧ Below w.heap.size w W from ⟨(H.out.below h').cells.1, h'⟩))
  have HS := Lib.hid (show Calls Tryz.prog 53 #[.pointer (some ⟨q, 0, none⟩), .int .i64 (i : Int)] w.drew fun e w' => e = .returned (.int .i64 V) ∧ w.drew = w' from by rw [← hV]; exact psstate_any (h.below (Below.refl _ _).drew) hi)
  have HP := Lib.hid (show Calls Tryz.prog 52 #[.pointer (some ⟨p, 0, none⟩), .int .i64 V] w.drew (HeadPost w.drew x) from by rw [← hV]; exact head_any (h.disk.below (Below.refl _ _).drew) (by omega) hd hx)
  have hcd : Below w.heap.size w w.drew := (Below.refl _ _).drew
  have hxe : (x.toNat : Int) = 1 := by rw [hx1.2 hu]; rfl
  have HRD := Lib.hid (fun (W : World) (h' : Below w.heap.size w W) => psread_any (H.out.below h') hi hd)
  clear h hV hx hx1 hu hrl hro hd
  go_enter Tryz.func28, Tryz.ntmps28
  go_wp2_with fail
  go_region_held3 (fun W => W.cell? ⟨q, 0, none⟩ = some (.pointer (some ⟨p, 0, none⟩)) ∧ Below w.heap.size w W)
    ((first | exact HKEEP.out _ ‹_› | exact HKEEP.out _ (Below.drew ‹_›) | exact HKEEP.out _ (below_drewN ‹_› _)))
    ((first
      | (go_at_call 53; refine HS.out.mono ?_; rintro e w4 ⟨rfl, rfl⟩)
      | (go_at_call 52; refine HP.out.mono ?_; rintro e w5 ⟨b5, o5, k5, rfl, hc5, hb5⟩; have hbel5 := hcd.trans (hb5.mono hcd.size))))
  rw [hxe] at hc5
  rename_i hHeld
  clear HKEEP HS HP hHeld hb5 hcd
  go_wp2_with fail
  with_reducible refine (HRD.out _ hbel5).mono ?_
  rintro e w6 ⟨A6, k6, rfl, hc6, hr6, hb6⟩
  have hbel6 := Below.then hbel5 hb6
  have HR6 := Lib.hid hr6
  clear hb6 hr6 hbel5 HRD hc5 c0 c1 c2 c3
  go_wp2_with fail
  with_reducible refine (psunpack_any A6 (R * 32) k6 (roomB s.B R i) w6 HRL.out hc6 (by omega) HR6.out).mono ?_
  rw [HRO.out]
  rintro e w7 ⟨hb7, A7, k7, rfl, hc7, hr7⟩
  have hbel7 := Below.then hbel6 hb7
  clear hb7 hbel6 HR6 hc7 hr7
  go_wp2_with fail
  have hbel8 : Below w.heap.size w (w7.alloc (.cells #[.bool true, .string ⟨r.name.toArray⟩, .int .i64 (r.num : Int)] 114)) := hbel7.alloc hbel7.size _
  have hk8 := Blk.new w7 #[.bool true, .string ⟨r.name.toArray⟩, .int .i64 (r.num : Int)] 114
  obtain ⟨g8, hg8⟩ : ∃ g8, w7.heap.size = g8 := ⟨_, rfl⟩
  rw [hg8] at hk8 ⊢
  generalize w7.alloc (.cells #[.bool true, .string ⟨r.name.toArray⟩, .int .i64 (r.num : Int)] 114) = w8 at hbel8 hk8 ⊢
  have S8 := H.out.below hbel8
  have HS8 := Lib.hid S8
  have HB8 := Lib.hid hbel8
  obtain ⟨d0, d1, d2, d3⟩ := S8.cells
  have d2' : w8.cell? ⟨q, 2, none⟩ = some (.slice (some ⟨b, 0, none⟩) n n) := d2
  have k0 : w8.cell? ⟨g8, 0, none⟩ = some (.bool true) := hk8.cell 0
  have k1 : w8.cell? ⟨g8, 1, none⟩ = some (.string ⟨r.name.toArray⟩) := hk8.cell 1
  have k2 : w8.cell? ⟨g8, 2, none⟩ = some (.int .i64 (r.num : Int)) := hk8.cell 2
  clear H hg8 hbel7 hk8 d2 S8 hbel8
  go_still_tail 7, (by kernel_rfl)
  change wpList _ _ _ _ _ w8.drew
  have S9 := HS8.out.below (w' := w8.drew) (Below.refl _ _).drew
  have HS9 := Lib.hid S9
  have HB9 := Lib.hid HB8.out.drew
  have f0 := (S9.ents rfl).frozen (i * 3)
  have f1 := (S9.ents rfl).frozen (i * 3 + 1)
  have f2 := (S9.ents rfl).frozen (i * 3 + 2)
  obtain ⟨v0, e0⟩ : ∃ v, w8.drew.cell? ⟨b, i * 3, none⟩ = some v := ⟨_, S9.cell0 hi⟩
  obtain ⟨v1, e1⟩ : ∃ v, w8.drew.cell? ⟨b, i * 3 + 1, none⟩ = some v := ⟨_, S9.cellE hi (j := 1) (by omega)⟩
  obtain ⟨v2, e2⟩ : ∃ v, w8.drew.cell? ⟨b, i * 3 + 2, none⟩ = some v := ⟨_, S9.cellE hi (j := 2) (by omega)⟩
  clear d0 d1 d2' d3 k0 k1 k2 S9 HS8 HB8
  generalize w8.drew = w9 at *
  go_wp2_with fail
  go_ret
  obtain ⟨S10, C10⟩ := HS9.out.putE (some (r.name, r.num)) hi rfl rfl
  exact ⟨rfl, S10, (Chg.of_below HB9.out).trans (C10.more fun k e => .inr (.inr (.inr e)))⟩

set_option maxHeartbeats 2000000 in
theorem psload_none {w : World} {q p g b c : Nat} {s : Dsk} {R n : Nat} {E : Nat → Ent} (h : SP w q p g b c s R n E false) {i : Nat} (hi : i < n) (hd : s.dead = false) (hu0 : usedB s.B R i = true) (hv : slotB s.B R i = none) :
    Calls Tryz.prog 28 #[.pointer (some ⟨q, 0, none⟩), .int .i64 (i : Int)] w fun e w' => e = .returned (.int .i64 (s.code (n * (R + 1)) ((i * (R + 1) : Nat) : Int) 0)) ∧
      SP w' q p g b c (s.next (n * (R + 1)) ((i * (R + 1) : Nat) : Int) []) R n (updE E i none) (decide (s.code (n * (R + 1)) ((i * (R + 1) : Nat) : Int) 0 ≠ 0)) ∧ Chg (fourS q p g b) w w' := by
  have H := Lib.hid h
  have hsz := h.size
  have hpl := (h.place hi (Nat.zero_le R)).1
  obtain ⟨c0, c1, c2, c3⟩ := h.cells
  obtain ⟨hu, hro⟩ : usedB s.B R i = true ∧ readR (roomB s.B R i) = none := by
    unfold slotB at hv
    rw [if_pos hu0] at hv
    exact ⟨hu0, hv⟩
  have HRO := Lib.hid hro
  have hrl := room_len h.geo hi
  have HRL := Lib.hid hrl
  obtain ⟨x, r0, hx, hx1⟩ := sec_head h.geo hi
  obtain ⟨V, hV⟩ : ∃ V : Int, ((i * (R + 1) : Nat) : Int) = V := ⟨_, rfl⟩
  have HKEEP := Lib.hid (fun (W : World) (h' : Below w.heap.size w W) => (show W.cell? ⟨q, 0, none⟩ = some (.pointer (some ⟨p, 0, none⟩)) ∧ Below w.heap.size w W from ⟨(H.out.below h').cells.1, h'⟩))
  have HS := Lib.hid (show Calls Tryz.prog 53 #[.pointer (some ⟨q, 0, none⟩), .int .i64 (i : Int)] w.drew fun e w' => e = .returned (.int .i64 V) ∧ w.drew = w' from by rw [← hV]; exact psstate_any (h.below (Below.refl _ _).drew) hi)
  have HP := Lib.hid (show Calls Tryz.prog 52 #[.pointer (some ⟨p, 0, none⟩), .int .i64 V] w.drew (HeadPost w.drew x) from by rw [← hV]; exact head_any (h.disk.below (Below.refl _ _).drew) (by omega) hd hx)
  have hcd : Below w.heap.size w w.drew := (Below.refl _ _).drew
  have hxe : (x.toNat : Int) = 1 := by rw [hx1.2 hu]; rfl
  have HFR := Lib.hid (fun (W : World) (h' : Below w.heap.size w W) => psfree_any (H.out.below h') hi)
  have HRD := Lib.hid (fun (W : World) (h' : Below w.heap.size w W) => psread_any (H.out.below h') hi hd)
  generalize s.code (n * (R + 1)) ((i * (R + 1) : Nat) : Int) 0 = K at HFR ⊢
  generalize s.next (n * (R + 1)) ((i * (R + 1) : Nat) : Int) [] = s2 at HFR ⊢
  clear h hV hx hx1 hu hrl hro hd
  go_enter Tryz.func28, Tryz.ntmps28
  go_wp2_with fail
  go_region_held3 (fun W => W.cell? ⟨q, 0, none⟩ = some (.pointer (some ⟨p, 0, none⟩)) ∧ Below w.heap.size w W)
    ((first | exact HKEEP.out _ ‹_› | exact HKEEP.out _ (Below.drew ‹_›) | exact HKEEP.out _ (below_drewN ‹_› _)))
    ((first
      | (go_at_call 53; refine HS.out.mono ?_; rintro e w4 ⟨rfl, rfl⟩)
      | (go_at_call 52; refine HP.out.mono ?_; rintro e w5 ⟨b5, o5, k5, rfl, hc5, hb5⟩; have hbel5 := hcd.trans (hb5.mono hcd.size))))
  rw [hxe] at hc5
  rename_i hHeld
  clear HKEEP HS HP hHeld hb5 hcd
  go_wp2_with fail
  with_reducible refine (HRD.out _ hbel5).mono ?_
  rintro e w6 ⟨A6, k6, rfl, hc6, hr6, hb6⟩
  have hbel6 := Below.then hbel5 hb6
  have HR6 := Lib.hid hr6
  clear hb6 hr6 hbel5 HRD hc5 c0 c1 c2 c3
  go_wp2_with fail
  with_reducible refine (psunpack_any A6 (R * 32) k6 (roomB s.B R i) w6 HRL.out hc6 (by omega) HR6.out).mono ?_
  rw [HRO.out]
  rintro e w7 ⟨hb7, rfl⟩
  have hbel7 := Below.then hbel6 hb7
  clear hb7 hbel6 HR6
  unfold unkV
  go_wp2_with fail
  have hbel8 : Below w.heap.size w (w7.alloc (.cells #[.bool false, .string ⟨#[]⟩, .int .i64 0] 114)) := hbel7.alloc hbel7.size _
  with_reducible refine (HFR.out _ hbel8).mono ?_
  rintro e w9 ⟨rfl, S9, C9⟩
  have HS9 := Lib.hid S9
  have HC9 := Lib.hid ((Chg.of_below hbel8).trans C9)
  clear HFR hbel8 hbel7 S9 C9 H
  go_wp2_with fail
  go_ret
  exact ⟨rfl, HS9.out, HC9.out⟩
end Go.Proofs.YtndknifdajjalaaGreatDoor
