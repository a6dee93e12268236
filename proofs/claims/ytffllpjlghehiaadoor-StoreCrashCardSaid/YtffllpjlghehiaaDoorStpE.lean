/- The program's store: what stands where a slot has its record is read. -/
import Derived.Test.YtffllpjlghehiaaDoorStpD
import Derived.Deep.RegionHeld3
namespace Go.Proofs.YtffllpjlghehiaaDoor
open Go.RowKit
set_option maxRecDepth 100000

/-- The sectors of slot i's room, as far as k. -/
theorem room_take {s : Dsk} {R n i k : Nat} (h : Geo s R n) (hi : i < n) (hk : k < R) : (roomB s.B R i).take (k * 32) ++ s.sec (i * (R + 1) + 1 + k) = (roomB s.B R i).take ((k + 1) * 32) := by
  have hlt := geo_lt hi (show k + 1 ≤ R by omega)
  have hlen := h.len
  apply List.ext_getElem?
  intro t
  have e1 : ((roomB s.B R i).take (k * 32)).length = k * 32 := by
    unfold roomB
    rw [List.length_take, List.length_take, List.length_drop, hlen]
    have h3 : (i * (R + 1) + 1) * 32 + R * 32 ≤ n * (R + 1) * 32 := by
      have := geo_lt hi (Nat.le_refl R)
      omega
    omega
  by_cases ht : t < k * 32
  · rw [List.getElem?_append_left (by omega), List.getElem?_take, if_pos ht, List.getElem?_take, if_pos (by omega)]
  · rw [List.getElem?_append_right (by omega), e1, List.getElem?_take]
    unfold Dsk.sec
    rw [List.getElem?_take, List.getElem?_drop, roomB_get]
    by_cases h2 : t < (k + 1) * 32
    · rw [if_pos h2, if_pos (by omega), if_pos (by omega)]
      congr 1
      have : (i * (R + 1) + 1 + k) * 32 = (i * (R + 1) + 1) * 32 + k * 32 := by rw [Nat.add_mul (i * (R + 1) + 1) k 32]
      omega
    · rw [if_neg h2, if_neg (by omega)]
theorem room_len {s : Dsk} {R n i : Nat} (h : Geo s R n) (hi : i < n) : (roomB s.B R i).length = R * 32 := by
  have := geo_lt hi (Nat.le_refl R)
  have := h.len
  unfold roomB
  rw [List.length_take, List.length_drop]
  omega

set_option maxHeartbeats 1000000 in
theorem psread_any {w : World} {q p g b c : Nat} {s : Dsk} {R n : Nat} {E : Nat → Ent} {died : Bool} (h : SP w q p g b c s R n E died) {i : Nat} (hi : i < n) (hd : s.dead = false) :
    Calls Tryd.prog 44 #[.pointer (some ⟨q, 0, none⟩), .int .i64 (i : Int)] w fun e w' => ∃ A' c', e = .returned (.tuple #[.slice A' (R * 32) c', .int .i64 0]) ∧ R * 32 ≤ c' ∧ Rd w' w'.heap.size A' (roomB s.B R i) ∧ Below w.heap.size w w' := by
  obtain ⟨i0, hi0, hz0, hz1, hz2⟩ := info_parts info5
  have H := Lib.hid h
  have hsz := h.size
  have hg := h.geo
  obtain ⟨c0, c1, c2, c3⟩ := h.cells
  have h1 : ∀ {k : Nat}, k < R → i * (R + 1) + 1 + k < n * (R + 1) := fun {k} hk => by have := (h.place hi (show k + 1 ≤ R by omega)).1; omega
  clear h
  go_enter Tryd.func44, Tryd.ntmps44
  go_wp2
  go_loopw [6, 14] (fun v i' wr => ∃ k : Nat, k ≤ R ∧ i' = .int .i64 k ∧ Hid (OwnB wr w.heap.size 5 v (k * 32) ((roomB s.B R i).take (k * 32))) ∧ Below w.heap.size w wr) (fun _ i' _ => R - (intOf i').toNat)
  case atStart => exact ⟨0, Nat.zero_le _, rfl, Lib.hid (by rw [Nat.zero_mul, List.take_zero]; exact OwnB.nil _ _ _), Below.refl _ _⟩
  case round =>
    obtain ⟨k, hk, rfl, HO, hbel⟩ := hrel
    by_cases hlt : k < R
    · have hki : (k : Int) < (R : Int) := by omega
      have HR := Lib.hid (H.out.below hbel)
      obtain ⟨d0, d1, d2, d3⟩ := HR.out.cells
      have hpl := h1 hlt
      obtain ⟨pl, hpe⟩ : ∃ pl, i * (R + 1) + 1 + k = pl := ⟨_, rfl⟩
      obtain ⟨V, hV⟩ : ∃ V : Int, ((i * (R + 1) : Nat) : Int) = V := ⟨_, rfl⟩
      rw [hpe] at hpl
      have hV0 : 0 ≤ V := by omega
      have hV1 : V ≤ 4096 := by omega
      have hVk : IntKind.i64.wrap (IntKind.i64.wrap (V + 1) + (k : Int)) = (pl : Int) := by rw [IntWalk.i64_in (V + 1) (by omega), IntWalk.i64_in _ (by omega)]; omega
      have HKEEP := Lib.hid (fun (W : World) (h : Below wr.heap.size wr W) => (show W.cell? ⟨q, 0, none⟩ = some (.pointer (some ⟨p, 0, none⟩)) ∧ W.cell? ⟨q, 1, none⟩ = some (.int .i64 (R : Int)) ∧ Below wr.heap.size wr W from ⟨(HR.out.below h).cells.1, (HR.out.below h).cells.2.1, h⟩))
      have HS := Lib.hid (fun (W : World) (h : Below wr.heap.size wr W) => (show Calls Tryd.prog 55 #[.pointer (some ⟨q, 0, none⟩), .int .i64 (i : Int)] W fun e w' => e = .returned (.int .i64 V) ∧ W = w' from by rw [← hV]; exact psstate_any (HR.out.below h) hi))
      have HP := Lib.hid (fun (W : World) (h : Below wr.heap.size wr W) => (show Calls Tryd.prog 52 #[.pointer (some ⟨p, 0, none⟩), .int .i64 (IntKind.i64.wrap (IntKind.i64.wrap (V + 1) + (k : Int)))] W fun e w' => ∃ A' c', e = .returned (.tuple #[.slice A' 32 c', .int .i64 0]) ∧ 32 ≤ c' ∧ c' ≤ maxLen ∧ OwnB w' W.heap.size 5 (.slice A' 32 c') 32 (s.sec pl) ∧ Below W.heap.size W w' from by rw [hVk]; exact pread_any (HR.out.below h).disk pl hpl hd))
      have HK := Lib.hid (show (roomB s.B R i).take (k * 32) ++ s.sec pl = (roomB s.B R i).take ((k + 1) * 32) by rw [← hpe]; exact room_take hg hi hlt)
      have hcd : Below wr.heap.size wr wr.drew := (Below.refl _ _).drew
      have hlim : k * 32 + 32 ≤ 140737488355328 := by omega
      clear hV hVk hpe hpl
      go_wp2_with fail
      go_region_held3 (fun W => W.cell? ⟨q, 0, none⟩ = some (.pointer (some ⟨p, 0, none⟩)) ∧ W.cell? ⟨q, 1, none⟩ = some (.int .i64 (R : Int)) ∧ Below wr.heap.size wr W)
        ((first | exact HKEEP.out _ ‹_› | exact HKEEP.out _ (Below.drew ‹_›) | exact HKEEP.out _ (below_drewN ‹_› _)))
        ((first
          | (go_at_call 55; refine (HS.out _ hcd).mono ?_; rintro e w4 ⟨rfl, rfl⟩)
          | (go_at_call 52; refine (HP.out _ hcd).mono ?_; rintro e w5 ⟨A', c', rfl, hc1, hc2, ho5, hb5⟩; have hbel5 := hcd.trans (hb5.mono hcd.size); have HS5 := Lib.hid ho5; clear ho5)))
      have HO5 := Lib.hid (HO.out.on hbel5)
      have hbel6 := Below.then hbel hbel5
      have hle5 := hbel6.size
      clear HO HR HS HP HKEEP hcd hb5 hbel5 d0 d1 d2 d3 hbel
      rename_i hHeld
      clear hHeld
      generalize IntKind.i64.wrap (IntKind.i64.wrap (V + 1) + (k : Int)) = P1
      generalize IntKind.i64.wrap (V + 1) = P2
      go_wp2_with (at_builtin; refine wpList_append_B rfl (.tmp 34) (.tmp 35) 31 31 rfl w.heap.size 5 i0 Tryd.underlying31 hi0 hz0 hz1 hz2 _ (k * 32) _ rfl HO5.out _ rfl 32 (s.sec pl) HS5.out.1 (Src.ofRd Tryd.underlying31 _ _ 32 c' _ HS5.out.1 HS5.out.rd) hlim hle5 ?_)
      intro v6 w6 ho6 hg6
      have hbel7 : Below w.heap.size w w6 := hbel6.grown hg6 hbel6.size (fun k hk => (HO5.out.lt k hk))
      rw [HK.out] at ho6
      have HO6 := Lib.hid ho6
      clear ho6 hg6 hbel6 HO5 HS5
      go_wp2_with fail
      go_roundw
      case rel => exact ⟨k + 1, by omega, by go_num, Lib.hid (by rw [show (k + 1) * 32 = k * 32 + 32 by omega]; rw [show (k + 1) * 32 = k * 32 + 32 by omega] at HO6; exact HO6.out), hbel7⟩
      case measure => simp [intOf]; omega
    · have hge : ¬ (k : Int) < (R : Int) := by omega
      obtain rfl : k = R := by omega
      have ho := HO.out
      rw [List.take_of_length_le (by rw [room_len hg hi]; exact Nat.le_refl _)] at ho
      obtain ⟨A1, c1', hv, hc1, _⟩ := own_caps ho.own
      subst hv
      have HRD := Lib.hid ho.rd
      clear ho
      go_wp2_with fail
      go_ret2
      exact ⟨A1, c1', rfl, hc1, HRD.out, hbel⟩
end Go.Proofs.YtffllpjlghehiaaDoor
