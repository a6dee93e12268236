/- The document's own disk: Write of anything; new disks; copies. Both disks are one another's likeness, and stay so. -/
import Derived.Test.YtclmnpfmodlnjaaDskW
namespace Go.Proofs.Ytclmnpfmodlnjaa
open Go.RowKit

def Dsk.rnext (s : Dsk) (n : Nat) (i : Int) (b : List UInt8) : Dsk := if badW n i b.length then s else if s.dead = true then s else if s.ahead = true ∧ s.at_ = 0 then s.tear i.toNat b else s.rwell i.toNat b
theorem rdwrite_place {w : World} {q g n c : Nat} {s : Dsk} (h : RP w q g n c s) (i : Int) (A : Option Addr) (m d : Nat) (hi : ¬ (0 ≤ i ∧ i < n)) : Calls Try.prog 30 #[.pointer (some ⟨q, 0, none⟩), .int .i64 i, .slice A m d] w fun e w' => e = .returned (.int .i64 1) ∧ w = w' := by
  have HC := Lib.hid (rdlen_any h)
  have hs := h.small
  by_cases h0 : i < 0
  · have hd : decide (i < 0) = true := decide_eq_true h0
    clear h hi
    go_enter Try.func30, Try.ntmps30
    go_wp2
    go_ret
    exact ⟨rfl, rfl⟩
  · have hd : decide (i < 0) = false := decide_eq_false h0
    have h1 : (n : Int) ≤ i := by omega
    have hd1 : decide ((n : Int) ≤ i) = true := decide_eq_true h1
    clear h hi
    go_enter Try.func30, Try.ntmps30
    go_wp2_with fail
    with_reducible refine HC.out.mono ?_
    rintro e w' ⟨rfl, rfl⟩
    go_wp2_with fail
    go_ret
    exact ⟨rfl, rfl⟩
theorem rdwrite_long {w : World} {q g n c : Nat} {s : Dsk} (h : RP w q g n c s) (i : Nat) (A : Option Addr) (m d : Nat) (hi : i < n) (hm : 32 < m) : Calls Try.prog 30 #[.pointer (some ⟨q, 0, none⟩), .int .i64 (i : Int), .slice A m d] w fun e w' => e = .returned (.int .i64 1) ∧ w = w' := by
  have HC := Lib.hid (rdlen_any h)
  have hs := h.small
  have h1 : ¬ (n : Int) ≤ (i : Int) := by omega
  have h2 : ¬ (i : Int) < 0 := by omega
  have hd1 : decide (n ≤ i) = false := decide_eq_false (by omega)
  have hm' : (32 : Int) < (m : Int) := by omega
  clear h
  go_enter Try.func30, Try.ntmps30
  go_wp2_with fail
  with_reducible refine HC.out.mono ?_
  rintro e w' ⟨rfl, rfl⟩
  go_wp2_with fail
  go_ret
  exact ⟨rfl, rfl⟩
theorem rdwrite_dead {w : World} {q g n c : Nat} {s : Dsk} (h : RP w q g n c s) (i : Nat) (A : Option Addr) (m d : Nat) (hi : i < n) (hm : m ≤ 32) (hd : s.dead = true) : Calls Try.prog 30 #[.pointer (some ⟨q, 0, none⟩), .int .i64 (i : Int), .slice A m d] w fun e w' => e = .returned (.int .i64 8) ∧ w = w' := by
  have HC := Lib.hid (rdlen_any h)
  have hs := h.small
  obtain ⟨_, c1, _⟩ := h.cells
  rw [hd] at c1
  have h1 : ¬ (n : Int) ≤ (i : Int) := by omega
  have h2 : ¬ (i : Int) < 0 := by omega
  have hd1 : decide (n ≤ i) = false := decide_eq_false (by omega)
  have hm' : ¬ (32 : Int) < (m : Int) := by omega
  clear h hd
  go_enter Try.func30, Try.ntmps30
  go_wp2_with fail
  with_reducible refine HC.out.mono ?_
  rintro e w' ⟨rfl, rfl⟩
  go_wp2_with fail
  go_ret
  exact ⟨rfl, rfl⟩
theorem rdwrite_any {w : World} {q g n c : Nat} {s : Dsk} (h : RP w q g n c s) (i : Int) (A : Option Addr) (m d : Nat) (b : List UInt8) (hb : b.length = m) (hr : RdA (two q g) w A b) :
    Calls Try.prog 30 #[.pointer (some ⟨q, 0, none⟩), .int .i64 i, .slice A m d] w fun e w' => e = .returned (.int .i64 (s.code n i m)) ∧ RP w' q g n c (s.rnext n i b) ∧ Chg (two q g) w w' := by
  unfold Dsk.code Dsk.rnext
  rw [hb]
  by_cases h1 : badW n i m
  · rw [if_pos h1, if_pos h1]
    have k : Calls Try.prog 30 #[.pointer (some ⟨q, 0, none⟩), .int .i64 i, .slice A m d] w fun e w' => e = .returned (.int .i64 1) ∧ w = w' := by
      by_cases h2 : 0 ≤ i ∧ i < n
      · obtain ⟨j, rfl⟩ : ∃ j : Nat, i = (j : Int) := ⟨i.toNat, by omega⟩
        exact rdwrite_long h j A m d (by omega) (by rcases h1 with h1 | h1; exact absurd h2 h1; exact h1)
      · exact rdwrite_place h i A m d h2
    refine k.mono ?_
    rintro e w' ⟨rfl, rfl⟩
    exact ⟨rfl, h, Chg.refl _ _⟩
  · rw [if_neg h1, if_neg h1]
    obtain ⟨h2, h3⟩ : (0 ≤ i ∧ i < n) ∧ m ≤ 32 := by unfold badW at h1; omega
    obtain ⟨j, rfl⟩ : ∃ j : Nat, i = (j : Int) := ⟨i.toNat, by omega⟩
    have hj : j < n := by omega
    cases hd : s.dead with
    | true =>
      rw [if_pos rfl, if_pos rfl]
      refine (rdwrite_dead h j A m d hj h3 hd).mono ?_
      rintro e w' ⟨rfl, rfl⟩
      exact ⟨rfl, h, Chg.refl _ _⟩
    | false =>
      rw [if_neg (show ¬ false = true by simp), if_neg (show ¬ false = true by simp), Int.toNat_natCast]
      cases ha : s.ahead with
      | true =>
        by_cases h0 : s.at_ = 0
        · rw [if_pos ⟨rfl, h0⟩, if_pos ⟨rfl, h0⟩]
          exact rdwrite_tear h j A m d b hj h3 hb hr hd ha h0
        · rw [if_neg (fun h => h0 h.2), if_neg (fun h => h0 h.2)]
          exact rdwrite_well1 h j A m d b hj h3 hb hr hd ha h0
      | false =>
        rw [if_neg (show ¬ (false = true ∧ s.at_ = 0) by simp), if_neg (show ¬ (false = true ∧ s.at_ = 0) by simp)]
        exact rdwrite_well0 h j A m d b hj h3 hb hr hd ha

/-! ### New -/
theorem madeZ (n : Nat) : (madeCells #[Value.int .u8 0] n).toList = Lib.byteCells (List.replicate n 0) := by
  apply List.ext_getElem?
  intro j
  by_cases hj : j < n
  · simp [madeCells, hj, Lib.byteCells, Nat.mod_one]
  · rw [List.getElem?_eq_none (by simp [madeCells]; omega), List.getElem?_eq_none (by rw [Lib.byteCells_length, List.length_replicate]; omega)]
theorem rdnew_bad (n : Int) (w : World) (hn : n < 1 ∨ 4096 < n) : Calls Try.prog 15 #[.int .i64 n] w fun e w' => e = .returned (.tuple #[.pointer none, .bool false]) ∧ w = w' := by
  by_cases h1 : n < 1
  · have hd : decide (n < 1) = true := decide_eq_true h1
    clear hn
    go_enter Try.func15, Try.ntmps15
    go_wp2
    go_ret2
    exact ⟨rfl, rfl⟩
  · have hd : decide (n < 1) = false := decide_eq_false h1
    have h2 : 4096 < n := by omega
    clear hn
    go_enter Try.func15, Try.ntmps15
    go_wp2
    go_ret2
    exact ⟨rfl, rfl⟩
theorem rdnew_any (n : Nat) (w : World) (h1 : 1 ≤ n) (h2 : n ≤ 4096) : Calls Try.prog 15 #[.int .i64 (n : Int)] w fun e w' => ∃ p, e = .returned (.tuple #[.pointer (some ⟨p, 0, none⟩), .bool true]) ∧ w.heap.size ≤ p ∧ ∃ g, w.heap.size ≤ g ∧ RP w' p g n (n * 32) (newD n) ∧ Below w.heap.size w w' := by
  have hd : decide ((n : Int) < 1) = false := decide_eq_false (by omega)
  have hd2 : decide (4096 < (n : Int)) = false := decide_eq_false (by omega)
  have h3 : ¬ (n : Int) < 1 := by omega
  have h4 : ¬ 4096 < (n : Int) := by omega
  obtain ⟨i0, hi, hz0, hz1, hz2⟩ := info_parts info5
  have hmk := fun W => run_make (P := Try.prog) W 22 5 i0 (.int .u8 0) Try.underlying22 hi hz0 .i64 .i64 ((n : Int) * 32) ((n : Int) * 32) (by omega) (by omega) (by rw [hz2]; omega) (by omega)
  go_enter Try.func15, Try.ntmps15
  go_wp2
  clear hmk
  go_ret2
  have k1 := Blk.new w (madeCells #[Value.int .u8 0] (n * 32)) 5
  have hb : Below w.heap.size w (w.alloc (.cells (madeCells #[Value.int .u8 0] (n * 32)) 5)) := (Below.refl _ _).alloc (Nat.le_refl _) _
  generalize hw1 : w.alloc (.cells (madeCells #[Value.int .u8 0] (n * 32)) 5) = w1 at k1 hb ⊢
  have hs1 : w1.heap.size = w.heap.size + 1 := by rw [← hw1]; simp
  have k2 := Blk.new w1 #[.slice (some ⟨w.heap.size, 0, none⟩) (n * 32) (n * 32), .bool false, .bool false, .int .i64 0, .int .i64 0, .int .i64 0] 57
  rw [hs1] at k2
  refine ⟨w.heap.size + 1, rfl, by omega, w.heap.size, Nat.le_refl _, ⟨k2, ⟨_, k1.alloc _, ?_⟩, by omega, by simp [newD], Nat.le_refl _, ⟨h1, h2⟩, Nat.zero_le _⟩, hb.alloc (by omega) _⟩
  rw [madeZ]
  simp only [newD, List.length_replicate]
  rw [List.take_of_length_le (by rw [Lib.byteCells_length, List.length_replicate]; exact Nat.le_refl _)]

/-! ### Copies -/
set_option maxHeartbeats 1000000 in
theorem rdcopy_any {w : World} {p g n c : Nat} {s : Dsk} (h : RP w p g n c s) :
    Calls Try.prog 18 #[.pointer (some ⟨p, 0, none⟩)] w fun e w' => ∃ p', e = .returned (.pointer (some ⟨p', 0, none⟩)) ∧ w.heap.size ≤ p' ∧ ∃ g' c', w.heap.size ≤ g' ∧ RP w' p' g' n c' s ∧ Below w.heap.size w w' := by
  have H := Lib.hid h
  obtain ⟨cs, hcs⟩ : ∃ cs : Array Value, #[.slice (some ⟨g, 0, none⟩) (n * 32) c, .bool s.dead, .bool s.ahead, .int .i64 s.at_, .int .i64 (s.keep : Int), .int .i64 s.writes] = cs := ⟨_, rfl⟩
  have hb := h.head
  rw [hcs] at hb
  have HCS := Lib.hid hcs
  have HCZ := Lib.hid (show (Try.prog.info? 57).map (·.size) = some cs.size by rw [← hcs]; kernel_rfl)
  have HCO := Lib.hid (show cs.all (·.oneCell') = true by rw [← hcs]; simp [Value.oneCell'])
  have HOLD := Lib.hid (show (#[.slice none 0 0, .bool false, .bool false, .int .i64 0, .int .i64 0, .int .i64 0] : Array Value).size = cs.size by rw [← hcs]; rfl)
  have HBK := Lib.hid hb
  obtain ⟨i0, hi0, hz0, hz1, hz2⟩ := info_parts info5
  have hs := h.small
  have HL := Lib.hid h.len
  clear h hb hcs
  go_enter Try.func18, Try.ntmps18
  go_wp2_with (first
    | (with_reducible refine wpList_load_blk rfl 57 (.tmp 5) rfl p rfl 57 cs _ HBK.out Try.underlying57 rfl HCZ.out ?_)
    | (with_reducible refine wpList_store_blkTo rfl 57 (.tmp 3) (.tmp 6) rfl rfl w.heap.size cs rfl rfl 57 #[.slice none 0 0, .bool false, .bool false, .int .i64 0, .int .i64 0, .int .i64 0] (Blk.new _ _ _) HCZ.out HOLD.out HCO.out ?_
       generalize hw1 : World.setRow _ _ _ = w1
       obtain ⟨k1, k2⟩ := store_new hw1 (Below.refl _ _)
       have H1 := Lib.hid (H.out.below k2)
       have K1 := Lib.hid k1
       have K2 := Lib.hid k2
       have e0 := H1.out.cells.1
       have HRD := Lib.hid (show Rd w1 w1.heap.size (some ⟨g, 0, none⟩) s.B from by
         have := H1.out.body.rd 0 (n * 32)
         rwa [List.drop_zero, List.take_of_length_le (by rw [HL.out]; exact Nat.le_refl _)] at this)
       clear hw1 k1 k2)
    | (at_builtin; refine wpList_append_B rfl (.const (.slice none 0 0)) (.tmp 10) 22 22 rfl w1.heap.size 5 i0 Try.underlying22 hi0 hz0 hz1 hz2 _ 0 [] rfl (OwnB.nil _ _ _) _ rfl (n * 32) s.B HL.out (Src.ofRd Try.underlying22 _ _ (n * 32) c s.B HL.out HRD.out) (by omega) (Nat.le_refl _) ?_))
  intro v2 w2 hown hg2
  have k3 : Below w1.heap.size w1 w2 := (Below.refl _ _).grown hg2 (Nat.le_refl _) (by simp [Value.ownBlock])
  have k2 : OwnB w2 w1.heap.size 5 v2 (n * 32) s.B := by simpa using hown
  obtain ⟨g', c', hv, _, _⟩ := k2.own.form (show 0 < n * 32 by omega)
  obtain ⟨A2, c2, hv2, hcap, _⟩ := own_caps k2.own
  subst hv
  obtain rfl : c' = c2 := by injection hv2
  obtain ⟨k4, k5⟩ := BytesAt.of_own k2.own
  have hsz := k3.size
  have hsz0 := K2.out.size
  have hlt := K1.out.lt
  have e2 : Blk w2 w.heap.size cs 57 := K1.out.below k3 hlt
  have f0 := e2.frozen 0
  have c0 : ∃ v, w2.cell? ⟨w.heap.size, 0, none⟩ = some v := ⟨_, by rw [e2.cell 0, ← HCS.out]; rfl⟩
  obtain ⟨v0, c0⟩ := c0
  have E2 := Lib.hid e2
  have K3 := Lib.hid k3
  have K4 := Lib.hid k4
  clear k2 k3 k4 e2 hv2 e0 hown hg2
  go_wp2_with fail
  go_ret
  have hk := E2.out.set 0 (.slice (some ⟨g', 0, none⟩) (n * 32) c')
  rw [← HCS.out] at hk
  refine ⟨w.heap.size, rfl, Nat.le_refl _, g', c', by omega, ⟨hk, K4.out.other (p := ⟨w.heap.size, 0, none⟩) (fun e => by have e' : g' = w.heap.size := e; omega) _, by omega, H.out.len, hcap, H.out.small, H.out.keep⟩, ?_⟩
  exact (K2.out.trans (K3.out.mono hsz0)).setCell (Nat.le_refl _) _

/-! ### The likeness -/
structure Like (s r : Dsk) : Prop where
  B : s.B = r.B
  dead : s.dead = r.dead
  writes : s.writes = r.writes
  ahead : s.ahead = r.ahead
  where_ : s.ahead = true → s.at_ = r.at_ ∧ s.keep = r.keep
theorem Like.refl (s : Dsk) : Like s s := ⟨rfl, rfl, rfl, rfl, fun _ => ⟨rfl, rfl⟩⟩
theorem Like.code {s r : Dsk} (h : Like s r) (n : Nat) (i : Int) (m : Nat) : s.code n i m = r.code n i m := by
  unfold Dsk.code
  rw [h.dead]
  congr 2
  by_cases ha : s.ahead = true
  · rw [(h.where_ ha).1, h.ahead]
  · rw [if_neg (fun k => ha k.1), if_neg (fun k => ha (h.ahead.trans k.1))]
theorem Like.sec {s r : Dsk} (h : Like s r) (i : Nat) : s.sec i = r.sec i := by unfold Dsk.sec; rw [h.B]
theorem Like.stop {s r : Dsk} (h : Like s r) (at_ keep : Int) : Like (s.stop at_ keep) (r.stop at_ keep) := ⟨h.B, h.dead, h.writes, rfl, fun _ => ⟨rfl, rfl⟩⟩
theorem Like.start {s r : Dsk} (h : Like s r) : Like s.start { r with dead := false, ahead := false, at_ := 0 } := ⟨h.B, rfl, h.writes, rfl, fun k => by cases k⟩
theorem Like.next {s r : Dsk} (h : Like s r) (hb : s.ahead = true → 0 ≤ s.at_ ∧ s.at_ ≤ 9223372036854775807) (n : Nat) (i : Int) (b : List UInt8) : Like (s.next n i b) (r.rnext n i b) := by
  unfold Dsk.next Dsk.rnext
  by_cases h1 : badW n i b.length
  · rw [if_pos h1, if_pos h1]; exact h
  · rw [if_neg h1, if_neg h1, ← h.dead]
    by_cases h2 : s.dead = true
    · rw [if_pos h2, if_pos h2]; exact h
    · rw [if_neg h2, if_neg h2]
      by_cases ha : s.ahead = true
      · obtain ⟨e1, e2⟩ := h.where_ ha
        rw [← h.ahead, ← e1]
        by_cases h0 : s.at_ = 0
        · rw [if_pos ⟨ha, h0⟩, if_pos ⟨ha, h0⟩]
          exact ⟨by show layL _ _ _ = layL _ _ _; rw [h.B, e2], rfl, h.writes, h.ahead, fun k => h.where_ k⟩
        · rw [if_neg (fun k => h0 k.2), if_neg (fun k => h0 k.2)]
          refine ⟨by show layL _ _ _ = layL _ _ _; rw [h.B], h.dead, by show IntKind.i64.wrap _ = IntKind.i64.wrap _; rw [h.writes], h.ahead, fun _ => ⟨?_, e2⟩⟩
          show (if s.ahead then s.at_ - 1 else s.at_) = IntKind.i64.wrap (r.at_ - 1)
          rw [if_pos ha, ← e1, IntWalk.i64_in _ (by have := hb ha; omega)]
      · rw [if_neg (fun k => ha k.1), if_neg (fun k => ha (h.ahead.trans k.1))]
        exact ⟨by show layL _ _ _ = layL _ _ _; rw [h.B], h.dead, by show IntKind.i64.wrap _ = IntKind.i64.wrap _; rw [h.writes], h.ahead, fun k => absurd k ha⟩
end Go.Proofs.Ytclmnpfmodlnjaa
