/- The document's own disk in memory, and what its calls do. -/
import Derived.Test.YtffllpjlghehiaaDoorDskQ
namespace Go.Proofs.YtffllpjlghehiaaDoor
open Go.RowKit
set_option maxRecDepth 100000

/-- The document's disk at block q, its bytes at block h. -/
structure RP (w : World) (q h n c : Nat) (s : Dsk) : Prop where
  head : Blk w q #[.slice (some ⟨h, 0, none⟩) (n * 32) c, .bool s.dead, .bool s.ahead, .int .i64 s.at_, .int .i64 (s.keep : Int), .int .i64 s.writes] 93
  body : BytesAt w h 5 s.B
  ne : q ≠ h
  len : s.B.length = n * 32
  cap : n * 32 ≤ c
  small : 1 ≤ n ∧ n ≤ 4096
  keep : s.keep ≤ 32
theorem RP.chg {S : Nat → Prop} {w w' : World} {q g n c : Nat} {s : Dsk} (h : RP w q g n c s) (hc : Chg S w w') (hp : ¬ S q) (hg : ¬ S g) : RP w' q g n c s :=
  ⟨hc.blk h.head hp, h.body.chg hc hg, h.ne, h.len, h.cap, h.small, h.keep⟩
theorem RP.below {w w' : World} {q g n c : Nat} {s : Dsk} (h : RP w q g n c s) (hb : Below w.heap.size w w') : RP w' q g n c s := h.chg (S := fun _ => False) (.of_below hb) id id
theorem RP.cells {w : World} {q g n c : Nat} {s : Dsk} (h : RP w q g n c s) : w.cell? ⟨q, 0, none⟩ = some (.slice (some ⟨g, 0, none⟩) (n * 32) c) ∧ w.cell? ⟨q, 1, none⟩ = some (.bool s.dead) ∧ w.cell? ⟨q, 2, none⟩ = some (.bool s.ahead) ∧ w.cell? ⟨q, 3, none⟩ = some (.int .i64 s.at_) ∧ w.cell? ⟨q, 4, none⟩ = some (.int .i64 (s.keep : Int)) ∧ w.cell? ⟨q, 5, none⟩ = some (.int .i64 s.writes) :=
  ⟨h.head.cell 0, h.head.cell 1, h.head.cell 2, h.head.cell 3, h.head.cell 4, h.head.cell 5⟩

theorem rdlen_any {w : World} {q g n c : Nat} {s : Dsk} (h : RP w q g n c s) : Calls Tryd.prog 47 #[.pointer (some ⟨q, 0, none⟩)] w fun e w' => e = .returned (.int .i64 (n : Int)) ∧ w = w' := by
  obtain ⟨c0, _⟩ := h.cells
  have hs := h.small
  go_enter Tryd.func47, Tryd.ntmps47
  go_wp2
  go_ret
  exact ⟨ret_int (by omega), rfl⟩
theorem rdstop_any {w : World} {q g n c : Nat} {s : Dsk} (h : RP w q g n c s) (at_ keep : Int) :
    Calls Tryd.prog 27 #[.pointer (some ⟨q, 0, none⟩), .int .i64 at_, .int .i64 keep] w fun e w' => e = .returned (.tuple #[]) ∧ RP w' q g n c (s.stop at_ keep) ∧ Chg (two q g) w w' := by
  have H := Lib.hid h
  obtain ⟨c0, c1, c2, c3, c4, c5⟩ := h.cells
  have f2 := h.head.frozen 2
  have f3 := h.head.frozen 3
  have f4 := h.head.frozen 4
  clear h
  go_enter Tryd.func27, Tryd.ntmps27
  go_wp2
  go_end0
  have e : (keepOf keep : Int) = min (max keep 0) 32 := by unfold keepOf; omega
  have k := ((H.out.head.set 2 (.bool true)).set 3 (.int .i64 (max at_ 0))).set 4 (.int .i64 (min (max keep 0) 32))
  refine ⟨rfl, ⟨?_, ((H.out.body.other (p := ⟨q, 2, none⟩) (fun e => H.out.ne e.symm) _).other (p := ⟨q, 3, none⟩) (fun e => H.out.ne e.symm) _).other (p := ⟨q, 4, none⟩) (fun e => H.out.ne e.symm) _, H.out.ne, H.out.len, H.out.cap, H.out.small, keepOf_le _⟩, (((Chg.refl _ w).setCell (fun _ => .inl rfl) _).setCell (fun _ => .inl rfl) _).setCell (fun _ => .inl rfl) _⟩
  show Blk _ q #[.slice (some ⟨g, 0, none⟩) (n * 32) c, .bool s.dead, .bool true, .int .i64 (max at_ 0), .int .i64 (keepOf keep : Int), .int .i64 s.writes] _
  rw [e]
  exact k

/-! ### Read -/
theorem rdread_bad {w : World} {q g n c : Nat} {s : Dsk} (h : RP w q g n c s) (i : Int) (hi : ¬ (0 ≤ i ∧ i < n)) : Calls Tryd.prog 53 #[.pointer (some ⟨q, 0, none⟩), .int .i64 i] w fun e w' => e = .returned (.tuple #[.slice none 0 0, .int .i64 1]) ∧ w = w' := by
  have HC := Lib.hid (rdlen_any h)
  have hs := h.small
  by_cases h0 : i < 0
  · have hd : decide (i < 0) = true := decide_eq_true h0
    clear h hi
    go_enter Tryd.func53, Tryd.ntmps53
    go_wp2
    go_ret2
    exact ⟨rfl, rfl⟩
  · have hd : decide (i < 0) = false := decide_eq_false h0
    have h1 : (n : Int) ≤ i := by omega
    have hd1 : decide ((n : Int) ≤ i) = true := decide_eq_true h1
    clear h hi
    go_enter Tryd.func53, Tryd.ntmps53
    go_wp2_with fail
    with_reducible refine HC.out.mono ?_
    rintro e w' ⟨rfl, rfl⟩
    go_wp2_with fail
    go_ret2
    exact ⟨rfl, rfl⟩
theorem rdread_dead {w : World} {q g n c : Nat} {s : Dsk} (h : RP w q g n c s) (i : Nat) (hi : i < n) (hd : s.dead = true) : Calls Tryd.prog 53 #[.pointer (some ⟨q, 0, none⟩), .int .i64 (i : Int)] w fun e w' => e = .returned (.tuple #[.slice none 0 0, .int .i64 8]) ∧ w = w' := by
  have HC := Lib.hid (rdlen_any h)
  have hs := h.small
  obtain ⟨_, c1, _⟩ := h.cells
  rw [hd] at c1
  have h1 : ¬ (n : Int) ≤ (i : Int) := by omega
  have h2 : ¬ (i : Int) < 0 := by omega
  have hd1 : decide (n ≤ i) = false := decide_eq_false (by omega)
  clear h hd
  go_enter Tryd.func53, Tryd.ntmps53
  go_wp2_with fail
  with_reducible refine HC.out.mono ?_
  rintro e w' ⟨rfl, rfl⟩
  go_wp2_with fail
  go_ret2
  exact ⟨rfl, rfl⟩
theorem RP.sec_len {w : World} {p g n c : Nat} {s : Dsk} (h : RP w p g n c s) {i : Nat} (hi : i < n) : (s.sec i).length = 32 := by
  have := h.len
  unfold Dsk.sec
  rw [List.length_take, List.length_drop]
  omega
set_option maxHeartbeats 1000000 in
theorem rdread_any {w : World} {q g n c : Nat} {s : Dsk} (h : RP w q g n c s) (i : Nat) (hi : i < n) (hd : s.dead = false) : Calls Tryd.prog 53 #[.pointer (some ⟨q, 0, none⟩), .int .i64 (i : Int)] w fun e w' =>
    ∃ A' c', e = .returned (.tuple #[.slice A' 32 c', .int .i64 0]) ∧ 32 ≤ c' ∧ c' ≤ maxLen ∧ OwnB w' w.heap.size 5 (.slice A' 32 c') 32 (s.sec i) ∧ Below w.heap.size w w' := by
  have HC := Lib.hid (rdlen_any h)
  have HR := Lib.hid (show Rd w w.heap.size (some ⟨g, i * 32, none⟩) (s.sec i) from h.body.rd (i * 32) 32)
  have HSL := Lib.hid (h.sec_len hi)
  have hs := h.small
  have hcap := h.cap
  obtain ⟨c0, c1, _⟩ := h.cells
  rw [hd] at c1
  have h1 : ¬ (n : Int) ≤ (i : Int) := by omega
  have h2 : ¬ (i : Int) < 0 := by omega
  have h4 : i * 32 + 32 ≤ c := by omega
  have hd1 : decide (n ≤ i) = false := decide_eq_false (by omega)
  have HS2 := Lib.hid (show (s.sec i).length = (i + 1) * 32 - i * 32 by rw [HSL.out]; omega)
  obtain ⟨i0, hi0, hz0, hz1, hz2⟩ := info_parts info5
  clear h hd
  go_enter Tryd.func53, Tryd.ntmps53
  go_wp2_with fail
  with_reducible refine HC.out.mono ?_
  rintro e w' ⟨rfl, rfl⟩
  go_wp2_with (at_builtin; refine wpList_append_B rfl (.const (.slice none 0 0)) (.tmp 27) 31 31 rfl w.heap.size 5 i0 Tryd.underlying31 hi0 hz0 hz1 hz2 _ 0 [] rfl (OwnB.nil _ _ _) _ rfl ((i + 1) * 32 - i * 32) (s.sec i) HS2.out (Src.ofRd Tryd.underlying31 _ _ ((i + 1) * 32 - i * 32) (c - i * 32) (s.sec i) HS2.out HR.out) (by omega) (Nat.le_refl _) ?_)
  intro v1 w1 hown1 hg1
  have hb1 : Below w.heap.size w w1 := (Below.refl _ _).grown hg1 (Nat.le_refl _) (by simp [Value.ownBlock])
  have h5 : OwnB w1 w.heap.size 5 v1 32 (s.sec i) := by
    have e : (i + 1) * 32 - i * 32 = 32 := by omega
    simpa [e] using hown1
  obtain ⟨A', c', rfl, hc1, hc2⟩ := own_caps h5.own
  have HO := Lib.hid h5
  clear hown1 hg1 h5
  go_wp2_with fail
  go_ret2
  exact ⟨A', c', rfl, hc1, hc2, HO.out, hb1⟩
end Go.Proofs.YtffllpjlghehiaaDoor
