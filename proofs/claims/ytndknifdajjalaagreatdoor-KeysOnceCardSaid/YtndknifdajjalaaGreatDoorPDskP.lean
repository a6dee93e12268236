/- The program's disk in memory, and what its calls do: Len, Dead, Writes, has, Read, Write, Stop, Start, New, Clone. -/
import Derived.WalkLawsBesides
import Derived.StillTailTactics
import Derived.BigQuiet
import Derived.Test.YtndknifdajjalaaGreatDoorPDskA
import Derived.Test.YtndknifdajjalaaGreatDoorPMakeA
import Derived.Test.YtndknifdajjalaaGreatDoorPNet
namespace Go.Proofs.YtndknifdajjalaaGreatDoor
open Go.RowKit
set_option maxRecDepth 100000

/-- A load of what its run is known of, in a region that only reads. -/
theorem still_load {P : Program} {ops : Array Oper} {w : World} {Q : Act → Prop} {rest : List Oper} {o : Oper} {a : Act} (hgd : o.guard = none) (ty : TypeId) (x : Operand) (ho : o.op = .load ty x) (p v : Value) (hx : a.eval x = p)
    (hrun : (Instr.loadAt ty p).run P w = .ok v w) (h : wpStill P ops w Q rest (a.put o.dst v)) : wpStill P ops w Q (o :: rest) a := by
  refine wpStill_step (fun K hK => ?_)
  rw [if_pos (by simp [Region.wanted, hgd])]
  unfold Oper.still execOp
  simp only [ho, hx, Sem.run_bind, hrun, Result.andThen_ok, Sem.run_pure]
  rw [Oper.stillUpon_value]
  exact hK _ h
/-- A disk: its bytes, whether it is dead, how many writes ended well, whether a Stop is ahead, where, and what it keeps. -/
structure Dsk where
  B : List UInt8
  dead : Bool
  writes : Int
  ahead : Bool
  at_ : Int
  keep : Nat
/-- The program's disk at block p, its sectors at block g. -/
structure DP (w : World) (p g n c : Nat) (s : Dsk) : Prop where
  head : Blk w p #[.slice (some ⟨g, 0, none⟩) n c, .bool s.dead, .int .i64 s.writes, .bool s.ahead, .int .i64 s.at_, .int .i64 (s.keep : Int)] 73
  body : BytesAt w g 148 s.B
  ne : p ≠ g
  len : s.B.length = n * 32
  cap : n ≤ c
  small : 1 ≤ n ∧ n ≤ 4096
  ahead : s.ahead = true → 0 ≤ s.at_ ∧ s.at_ ≤ 9223372036854775807
  keep : s.keep ≤ 32
/-- The two blocks of a disk. -/
def two (p g : Nat) : Nat → Prop := fun k => k = p ∨ k = g
theorem DP.chg {S : Nat → Prop} {w w' : World} {p g n c : Nat} {s : Dsk} (h : DP w p g n c s) (hc : Chg S w w') (hp : ¬ S p) (hg : ¬ S g) : DP w' p g n c s :=
  ⟨hc.blk h.head hp, h.body.chg hc hg, h.ne, h.len, h.cap, h.small, h.ahead, h.keep⟩
theorem DP.below {w w' : World} {p g n c : Nat} {s : Dsk} (h : DP w p g n c s) (hb : Below w.heap.size w w') : DP w' p g n c s := h.chg (S := fun _ => False) (.of_below hb) id id
theorem DP.cells {w : World} {p g n c : Nat} {s : Dsk} (h : DP w p g n c s) : w.cell? ⟨p, 0, none⟩ = some (.slice (some ⟨g, 0, none⟩) n c) ∧ w.cell? ⟨p, 1, none⟩ = some (.bool s.dead) ∧ w.cell? ⟨p, 2, none⟩ = some (.int .i64 s.writes) ∧ w.cell? ⟨p, 3, none⟩ = some (.bool s.ahead) ∧ w.cell? ⟨p, 4, none⟩ = some (.int .i64 s.at_) ∧ w.cell? ⟨p, 5, none⟩ = some (.int .i64 (s.keep : Int)) :=
  ⟨h.head.cell 0, h.head.cell 1, h.head.cell 2, h.head.cell 3, h.head.cell 4, h.head.cell 5⟩

theorem pdlen_any {w : World} {p g n c : Nat} {s : Dsk} (h : DP w p g n c s) : Calls Tryz.prog 27 #[.pointer (some ⟨p, 0, none⟩)] w fun e w' => e = .returned (.int .i64 (n : Int)) ∧ w = w' := by
  obtain ⟨c0, _⟩ := h.cells
  go_enter Tryz.func27, Tryz.ntmps27
  go_wp2
  go_ret
  exact ⟨rfl, rfl⟩
theorem phas_yes {w : World} {p g n c : Nat} {s : Dsk} (h : DP w p g n c s) (i : Nat) (hi : i < n) : Calls Tryz.prog 90 #[.pointer (some ⟨p, 0, none⟩), .int .i64 (i : Int)] w fun e w' => e = .returned (.bool true) ∧ w = w' := by
  obtain ⟨c0, _⟩ := h.cells
  have hs := h.small
  have h0 : (0 : Int) ≤ (i : Int) := by omega
  have h1 : (i : Int) < (n : Int) := by omega
  go_enter Tryz.func90, Tryz.ntmps90
  go_wp2
  go_ret
  exact ⟨by simp, rfl⟩
theorem phas_no {w : World} {p g n c : Nat} {s : Dsk} (h : DP w p g n c s) (i : Int) (hi : ¬ (0 ≤ i ∧ i < n)) : Calls Tryz.prog 90 #[.pointer (some ⟨p, 0, none⟩), .int .i64 i] w fun e w' => e = .returned (.bool false) ∧ w = w' := by
  obtain ⟨c0, _⟩ := h.cells
  have hs := h.small
  by_cases h0 : 0 ≤ i
  · have h1 : ¬ i < (n : Int) := by omega
    have hd : decide (0 ≤ i) = true := decide_eq_true h0
    have hd1 : decide (i < (n : Int)) = false := decide_eq_false h1
    clear hi
    go_enter Tryz.func90, Tryz.ntmps90
    go_wp2
    go_ret
    exact ⟨rfl, rfl⟩
  · have hd : decide (0 ≤ i) = false := decide_eq_false h0
    clear hi
    go_enter Tryz.func90, Tryz.ntmps90
    go_wp2
    go_ret
    exact ⟨rfl, rfl⟩

/-- bytes.Clone of bytes that lie somewhere: the same bytes in new memory; its spare cells are bytes, too. -/
theorem clonB_any (ad : Addr) (n c : Nat) (l : List UInt8) (w : World) (hn : l.length = n) (h1 : n ≤ 1000000) (hr : Rd w w.heap.size (some ad) l) :
    Calls Tryz.prog 91 #[.slice (some ad) n c] w fun e w' => ∃ A' c', e = .returned (.slice A' n c') ∧ n ≤ c' ∧ c' ≤ maxLen ∧ OwnB w' w.heap.size 5 (.slice A' n c') n l ∧ Below w.heap.size w w' := by
  obtain ⟨i0, hi, hz0, hz1, hz2⟩ := info_parts info5
  have HN := Lib.hid hn
  clear hn
  have hnil : ∀ W, (binOp .eql 35 (.slice (some ad) n c) (.slice none 0 0)).run Tryz.prog W = .ok (.bool false) W := fun _ => rfl
  go_enter Tryz.func91, Tryz.ntmps91
  go_wp2_with (at_builtin; refine wpList_append_B rfl (.tmp 5) (.tmp 6) 35 35 rfl w.heap.size 5 i0 Tryz.underlying35 hi hz0 hz1 hz2 (.slice (some ⟨w.heap.size, 0, none⟩) 0 0) 0 [] rfl ⟨rfl, .inr ⟨w.heap.size, 0, [], rfl, Nat.le_refl _, heap_alloc_new w _, Nat.le_refl _, Nat.zero_le _, rfl, rfl⟩⟩ _ rfl n l HN.out (Src.ofRd Tryz.underlying35 _ (some ad) n c l HN.out (hr.alloc (Nat.le_refl _) _)) (by omega) (by simp) ?_)
  intro v1 w1 hown1 hg1
  have hb : Below w.heap.size w w1 := ((Below.refl _ _).alloc (Nat.le_refl _) _).grown hg1 (by simp) (fun k hk => by simp [Value.ownBlock] at hk; omega)
  obtain ⟨A', c', rfl, hc1, hc2⟩ := own_caps hown1.own
  have HO := Lib.hid hown1
  have HB := Lib.hid hb
  clear hown1 hg1 hb hnil
  go_wp2_with fail
  go_ret
  exact ⟨A', c', rfl, hc1, hc2, HO.out, HB.out⟩

theorem pread_dead {w : World} {p g n c : Nat} {s : Dsk} (h : DP w p g n c s) (i : Nat) (hi : i < n) (hd : s.dead = true) : Calls Tryz.prog 52 #[.pointer (some ⟨p, 0, none⟩), .int .i64 (i : Int)] w fun e w' => e = .returned (.tuple #[.slice none 0 0, .int .i64 8]) ∧ w = w' := by
  have HC := Lib.hid (phas_yes h i hi)
  obtain ⟨_, c1, _⟩ := h.cells
  rw [hd] at c1
  clear h hi hd
  go_enter Tryz.func52, Tryz.ntmps52
  go_wp2_with fail
  with_reducible refine HC.out.mono ?_
  rintro e w' ⟨rfl, rfl⟩
  go_wp2_with fail
  go_ret2
  exact ⟨rfl, rfl⟩
/-- The bytes of sector i. -/
def Dsk.sec (s : Dsk) (i : Nat) : List UInt8 := (s.B.drop (i * 32)).take 32
theorem DP.sec_len {w : World} {p g n c : Nat} {s : Dsk} (h : DP w p g n c s) {i : Nat} (hi : i < n) : (s.sec i).length = 32 := by
  have := h.len
  unfold Dsk.sec
  rw [List.length_take, List.length_drop]
  omega
theorem pread_any {w : World} {p g n c : Nat} {s : Dsk} (h : DP w p g n c s) (i : Nat) (hi : i < n) (hd : s.dead = false) : Calls Tryz.prog 52 #[.pointer (some ⟨p, 0, none⟩), .int .i64 (i : Int)] w fun e w' =>
    ∃ A' c', e = .returned (.tuple #[.slice A' 32 c', .int .i64 0]) ∧ 32 ≤ c' ∧ c' ≤ maxLen ∧ OwnB w' w.heap.size 5 (.slice A' 32 c') 32 (s.sec i) ∧ Below w.heap.size w w' := by
  have HC := Lib.hid (phas_yes h i hi)
  have HCL := Lib.hid (clonB_any ⟨g, i * 32, none⟩ 32 32 (s.sec i) w (h.sec_len hi) (by omega) (h.body.rd (i * 32) 32))
  obtain ⟨c0, c1, _⟩ := h.cells
  have hs := h.small
  have h0 : (0 : Int) ≤ (i : Int) := by omega
  have h1 : (i : Int) < (n : Int) := by omega
  rw [hd] at c1
  clear h hd
  go_enter Tryz.func52, Tryz.ntmps52
  go_wp2_with fail
  with_reducible refine HC.out.mono ?_
  rintro e w' ⟨rfl, rfl⟩
  go_wp2_with fail
  with_reducible refine HCL.out.mono ?_
  rintro e w' ⟨A', c', rfl, k1, k2, k3, k4⟩
  have HO := Lib.hid k3
  clear k3
  go_wp2_with fail
  go_ret2
  exact ⟨A', c', rfl, k1, k2, HO.out, k4⟩

theorem pwrite_place {w : World} {p g n c : Nat} {s : Dsk} (h : DP w p g n c s) (i : Int) (A : Option Addr) (m d : Nat) (hi : ¬ (0 ≤ i ∧ i < n)) : Calls Tryz.prog 115 #[.pointer (some ⟨p, 0, none⟩), .int .i64 i, .slice A m d] w fun e w' => e = .returned (.int .i64 1) ∧ w = w' := by
  have HC := Lib.hid (phas_no h i hi)
  clear h hi
  go_enter Tryz.func115, Tryz.ntmps115
  go_wp2_with fail
  with_reducible refine HC.out.mono ?_
  rintro e w' ⟨rfl, rfl⟩
  go_wp2_with fail
  go_ret
  exact ⟨rfl, rfl⟩
theorem pwrite_long {w : World} {p g n c : Nat} {s : Dsk} (h : DP w p g n c s) (i : Nat) (A : Option Addr) (m d : Nat) (hi : i < n) (hm : 32 < m) : Calls Tryz.prog 115 #[.pointer (some ⟨p, 0, none⟩), .int .i64 (i : Int), .slice A m d] w fun e w' => e = .returned (.int .i64 1) ∧ w = w' := by
  have HC := Lib.hid (phas_yes h i hi)
  have hm' : (32 : Int) < (m : Int) := by omega
  clear h hi
  go_enter Tryz.func115, Tryz.ntmps115
  go_wp2_with fail
  with_reducible refine HC.out.mono ?_
  rintro e w' ⟨rfl, rfl⟩
  go_wp2_with fail
  go_ret
  exact ⟨rfl, rfl⟩
theorem pwrite_dead {w : World} {p g n c : Nat} {s : Dsk} (h : DP w p g n c s) (i : Nat) (A : Option Addr) (m d : Nat) (hi : i < n) (hm : m ≤ 32) (hd : s.dead = true) : Calls Tryz.prog 115 #[.pointer (some ⟨p, 0, none⟩), .int .i64 (i : Int), .slice A m d] w fun e w' => e = .returned (.int .i64 8) ∧ w = w' := by
  have HC := Lib.hid (phas_yes h i hi)
  have hm' : ¬ (32 : Int) < (m : Int) := by omega
  obtain ⟨_, c1, _⟩ := h.cells
  rw [hd] at c1
  clear h hi hd
  go_enter Tryz.func115, Tryz.ntmps115
  go_wp2_with fail
  with_reducible refine HC.out.mono ?_
  rintro e w' ⟨rfl, rfl⟩
  go_wp2_with fail
  go_ret
  exact ⟨rfl, rfl⟩
def zeroS : List UInt8 := List.replicate 32 0
theorem zeroS_len : zeroS.length = 32 := rfl
theorem layL_pad (b : List UInt8) : layL zeroS 0 b = padB 32 b := by
  simp only [zeroS, layL, padB, List.take_zero, List.nil_append, Nat.zero_add, List.drop_replicate]
def Dsk.tear (s : Dsk) (i : Nat) (b : List UInt8) : Dsk := { s with B := layL s.B (i * 32) ((padB 32 b).take s.keep), dead := true }
def Dsk.well (s : Dsk) (i : Nat) (b : List UInt8) : Dsk := { s with B := layL s.B (i * 32) (padB 32 b), writes := IntKind.i64.wrap (s.writes + 1), at_ := if s.ahead then s.at_ - 1 else s.at_ }
theorem DP.tear {w w' : World} {p g n c : Nat} {s : Dsk} (h : DP w p g n c s) {i : Nat} (hi : i < n) (b : List UInt8) (hb : b.length ≤ 32)
    (h1 : Blk w' p #[.slice (some ⟨g, 0, none⟩) n c, .bool true, .int .i64 s.writes, .bool s.ahead, .int .i64 s.at_, .int .i64 (s.keep : Int)] 73) (h2 : BytesAt w' g 148 (layL s.B (i * 32) ((padB 32 b).take s.keep))) : DP w' p g n c (s.tear i b) :=
  ⟨h1, h2, h.ne, by
    have := h.len
    have hk := h.keep
    show (layL _ _ _).length = _
    rw [layL_len (by rw [List.length_take, padB_len hb]; omega), this], h.cap, h.small, h.ahead, h.keep⟩
set_option maxHeartbeats 1000000 in
theorem pwrite_tear {w : World} {p g n c : Nat} {s : Dsk} (h : DP w p g n c s) (i : Nat) (A : Option Addr) (m d : Nat) (b : List UInt8) (hi : i < n) (hm : m ≤ 32) (hb : b.length = m) (hr : Rd w w.heap.size A b) (hd : s.dead = false) (ha : s.ahead = true) (h0 : s.at_ = 0) :
    Calls Tryz.prog 115 #[.pointer (some ⟨p, 0, none⟩), .int .i64 (i : Int), .slice A m d] w fun e w' => e = .returned (.int .i64 8) ∧ DP w' p g n c (s.tear i b) ∧ Chg (two p g) w w' := by
  have HC := Lib.hid (phas_yes h i hi)
  have H := Lib.hid h
  have hm' : ¬ (32 : Int) < (m : Int) := by omega
  obtain ⟨c0, c1, c2, c3, c4, c5⟩ := h.cells
  have hk32 := h.keep
  have hgl := h.body.lt
  have hpl := h.head.lt
  have hs := h.small
  have hi0 : (0 : Int) ≤ (i : Int) := by omega
  have hi1 : (i : Int) < (n : Int) := by omega
  have hd1 := hd
  rw [hd] at c1
  rw [ha] at c3
  rw [h0] at c4
  have HB := Lib.hid hb
  have HA := Lib.hid ha
  have H0 := Lib.hid h0
  have HD := Lib.hid hd
  clear h hd hb ha h0 hd1
  go_enter Tryz.func115, Tryz.ntmps115
  go_wp2_with fail
  with_reducible refine HC.out.mono ?_
  rintro e w' ⟨rfl, rfl⟩
  clear HC
  go_wp2_with (with_reducible refine wpList_copy_at rfl (.tmp 21) (.tmp 22) rfl w.heap.size 0 32 32 148 zeroS ?hw _ A m d b rfl rfl HB.out (hr.alloc (Nat.le_refl _) _) m ?hk ?hf ?_)
  case hw => exact ⟨_, Blk.new _ _ _, rfl⟩
  case hk => omega
  case hf => rw [zeroS_len]; omega
  intro w1 hw1 hg1
  have hb1 : Below w.heap.size w w1 := ((Below.refl _ _).alloc (Nat.le_refl _) _).grown hg1 (by simp) (fun k hk => by injection hk with hk; omega)
  rw [List.take_of_length_le (by rw [HB.out]; exact Nat.le_refl _), layL_pad] at hw1
  have H1 := Lib.hid (H.out.below hb1)
  obtain ⟨e0, e1, e2, e3, e4, e5⟩ := H1.out.cells
  rw [HD.out] at e1
  rw [HA.out] at e3
  rw [H0.out] at e4
  have hws := hb1.size
  have hwl := hw1.lt
  have HW1 := Lib.hid hw1
  have HB1 := Lib.hid hb1
  obtain ⟨wb, hwb⟩ : ∃ x, w.heap.size = x := ⟨_, rfl⟩
  have HWB := Lib.hid hwb
  have hk0 : (0 : Int) ≤ (s.keep : Int) := by omega
  have hk1 : (s.keep : Int) ≤ 32 := by omega
  rw [hwb] at hw1 hgl hpl hws hwl HW1 ⊢
  clear hg1 hb1 hw1 hwb c0 c1 c2 c3 c4 c5 hr
  go_wp2_with fail
  go_still_tail 13, (by kernel_rfl)
  change wpList _ _ _ _ _ w1.drew
  have H2 := Lib.hid (H1.out.below (Below.refl _ _).drew)
  obtain ⟨f0, f1, f2, f3, f4, f5⟩ := H2.out.cells
  have HW2 := Lib.hid (show BytesAt w1.drew wb 148 (padB 32 b) from HW1.out)
  have HB2 := Lib.hid (show Below w.heap.size w w1.drew from HB1.out.drew)
  have HL2 := Lib.hid (show wb < w1.drew.heap.size from hwl)
  have HPL := Lib.hid (padB_len (k := 32) (bs := b) (by rw [HB.out]; exact hm))
  have HRD := Lib.hid (show Rd w1.drew w1.drew.heap.size (some ⟨wb, 0, none⟩) (padB 32 b) from by
    have := HW2.out.rd 0 32
    rwa [List.drop_zero, List.take_of_length_le (by rw [HPL.out]; exact Nat.le_refl _)] at this)
  rw [HD.out] at f1
  rw [HA.out] at f3
  rw [H0.out] at f4
  generalize w1.drew = w2 at H2 f0 f1 f2 f3 f4 f5 HW2 HB2 HL2 HRD ⊢
  clear e0 e1 e2 e3 e4 e5 H1 HW1 HB1 hwl hws
  go_wp2_with (with_reducible refine wpList_copy_at rfl (.tmp 48) (.tmp 49) rfl g (i * 32) s.keep 32 148 s.B H2.out.body _ (some ⟨wb, 0, none⟩) 32 32 (padB 32 b) rfl rfl HPL.out HRD.out s.keep ?hk2 ?hf2 ?_)
  case hk2 => omega
  case hf2 => rw [H2.out.len]; omega
  intro w3 hw3 hg3
  have HG3 := Lib.hid hg3
  have HW3 := Lib.hid hw3
  have h3 : Blk w3 p _ _ := H2.out.head.grown hg3 (by intro e; injection e with e; exact H2.out.ne e)
  have g1 := h3.cell 1
  have g1f := h3.frozen 1
  have H3 := Lib.hid h3
  rw [show (#[.slice (some ⟨g, 0, none⟩) n c, .bool s.dead, .int .i64 s.writes, .bool s.ahead, .int .i64 s.at_, .int .i64 (s.keep : Int)] : Array Value)[1]? = some (.bool s.dead) from rfl] at g1
  clear f0 f1 f2 f3 f4 f5 hg3 hw3 h3
  go_wp2_with fail
  go_ret
  refine ⟨rfl, H.out.tear hi b (by rw [HB.out]; exact hm) (H3.out.set 1 (.bool true)) ?_, ?_⟩
  · obtain ⟨cur, k1, k2⟩ := HW3.out
    exact ⟨cur, k1.other (p := ⟨p, 1, none⟩) (fun e => H2.out.ne e.symm) _, k2⟩
  · have hc : Chg (two p g) w w2 := .of_below HB2.out
    exact (hc.grown HG3.out (fun k hk _ => by injection hk with hk; exact .inr hk.symm)).setCell (fun _ => .inl rfl) _
set_option maxHeartbeats 1000000 in
theorem pwrite_well1 {w : World} {p g n c : Nat} {s : Dsk} (h : DP w p g n c s) (i : Nat) (A : Option Addr) (m d : Nat) (b : List UInt8) (hi : i < n) (hm : m ≤ 32) (hb : b.length = m) (hr : Rd w w.heap.size A b) (hd : s.dead = false) (ha : s.ahead = true) (h0 : 0 < s.at_) :
    Calls Tryz.prog 115 #[.pointer (some ⟨p, 0, none⟩), .int .i64 (i : Int), .slice A m d] w fun e w' => e = .returned (.int .i64 0) ∧ DP w' p g n c (s.well i b) ∧ Chg (two p g) w w' := by
  have HC := Lib.hid (phas_yes h i hi)
  have H := Lib.hid h
  have hm' : ¬ (32 : Int) < (m : Int) := by omega
  obtain ⟨c0, c1, c2, c3, c4, c5⟩ := h.cells
  have hgl := h.body.lt
  have hpl := h.head.lt
  have hs := h.small
  have hi0 : (0 : Int) ≤ (i : Int) := by omega
  have hi1 : (i : Int) < (n : Int) := by omega
  rw [hd] at c1
  rw [ha] at c3
  have hat := (h.ahead ha).2
  obtain ⟨t, ht⟩ : ∃ t, s.at_ = t := ⟨_, rfl⟩
  rw [ht] at c4 h0 hat
  have HT := Lib.hid ht
  have ht0 : (t == 0) = false := by simp; omega
  have ht1 : ¬ t = 0 := by omega
  clear ht
  have HB := Lib.hid hb
  have HA := Lib.hid ha
  have HD := Lib.hid hd
  obtain ⟨v, hv⟩ : ∃ v, s.writes = v := ⟨_, rfl⟩
  obtain ⟨v', hv'⟩ : ∃ v', IntKind.i64.wrap (v + 1) = v' := ⟨_, rfl⟩
  have HV := Lib.hid hv
  have HV' := Lib.hid hv'
  rw [hv] at c2
  clear h hd hb ha hv hv'
  go_enter Tryz.func115, Tryz.ntmps115
  go_wp2_with fail
  with_reducible refine HC.out.mono ?_
  rintro e w' ⟨rfl, rfl⟩
  clear HC
  go_wp2_with (with_reducible refine wpList_copy_at rfl (.tmp 21) (.tmp 22) rfl w.heap.size 0 32 32 148 zeroS ?hw _ A m d b rfl rfl HB.out (hr.alloc (Nat.le_refl _) _) m ?hk ?hf ?_)
  case hw => exact ⟨_, Blk.new _ _ _, rfl⟩
  case hk => omega
  case hf => rw [zeroS_len]; omega
  intro w1 hw1 hg1
  have hb1 : Below w.heap.size w w1 := ((Below.refl _ _).alloc (Nat.le_refl _) _).grown hg1 (by simp) (fun k hk => by injection hk with hk; omega)
  rw [List.take_of_length_le (by rw [HB.out]; exact Nat.le_refl _), layL_pad] at hw1
  have H1 := Lib.hid (H.out.below hb1)
  obtain ⟨e0, e1, e2, e3, e4, e5⟩ := H1.out.cells
  rw [HD.out] at e1
  rw [HV.out] at e2
  rw [HA.out] at e3
  rw [HT.out] at e4
  have f4 := H1.out.head.frozen 4
  have hws := hb1.size
  have hwl := hw1.lt
  have HW1 := Lib.hid hw1
  have HB1 := Lib.hid hb1
  obtain ⟨wb, hwb⟩ : ∃ x, w.heap.size = x := ⟨_, rfl⟩
  have HWB := Lib.hid hwb
  rw [hwb] at hw1 hgl hpl hws hwl HW1 ⊢
  clear hg1 hb1 hw1 hwb c0 c1 c2 c3 c4 c5 hr
  go_wp2_with fail
  have k2 : Blk (w1.setCell ⟨p, 4, none⟩ (.int .i64 (t - 1))) p #[.slice (some ⟨g, 0, none⟩) n c, .bool s.dead, .int .i64 s.writes, .bool s.ahead, .int .i64 (t - 1), .int .i64 (s.keep : Int)] 73 := H1.out.head.set 4 (.int .i64 (t - 1))
  have k3 : BytesAt (w1.setCell ⟨p, 4, none⟩ (.int .i64 (t - 1))) g 148 s.B := H1.out.body.other (fun e => H1.out.ne e.symm) _
  have k4 : BytesAt (w1.setCell ⟨p, 4, none⟩ (.int .i64 (t - 1))) wb 148 (padB 32 b) := HW1.out.other (fun e => by have e' : wb = p := e; omega) _
  have k5 : Chg (two p g) w (w1.setCell ⟨p, 4, none⟩ (.int .i64 (t - 1))) := (Chg.of_below HB1.out).setCell (fun _ => .inl rfl) _
  have HA4 := Lib.hid (show t - 1 = if s.ahead then s.at_ - 1 else s.at_ by rw [HA.out, HT.out]; rfl)
  have HA5 := Lib.hid (show s.ahead = true → 0 ≤ t - 1 ∧ t - 1 ≤ 9223372036854775807 from fun _ => ⟨by omega, by omega⟩)
  generalize w1.setCell ⟨p, 4, none⟩ (.int .i64 (t - 1)) = w2 at k2 k3 k4 k5 ⊢
  generalize t - 1 = a4 at k2 HA4 HA5
  clear e0 e1 e2 e3 e4 e5 f4 H1 HW1 HB1 hwl hws
  have HPL := Lib.hid (padB_len (k := 32) (bs := b) (by rw [HB.out]; exact hm))
  obtain ⟨X, hX⟩ : ∃ X, u8A (padB 32 b) = X := ⟨_, rfl⟩
  have HX := Lib.hid hX
  have HXZ := Lib.hid (show X.size = 32 by rw [← hX, u8A_size, HPL.out])
  have HXO := Lib.hid (show X.all (·.oneCell') = true by rw [← hX]; exact u8A_one _)
  have hld : (Instr.loadAt 148 (.pointer (some ⟨wb, 0, none⟩))).run Tryz.prog ({ heap := w2.heap, tape := w2.tape, drawn := w2.drawn + 1, os := w2.os, output := w2.output } : World) = .ok (.agg X) ({ heap := w2.heap, tape := w2.tape, drawn := w2.drawn + 1, os := w2.os, output := w2.output } : World) := by
    rw [← hX]
    have := k4.range 0 32
    rw [List.drop_zero, List.take_of_length_le (by rw [HPL.out]; exact Nat.le_refl _)] at this
    exact run_loadAt_mid w2.drew wb 0 148 _ _ this Tryz.underlying148 rfl (by rw [Lib.byteCells_length, HPL.out]; kernel_rfl)
  have e0 := k2.cell 0
  rw [show (#[.slice (some ⟨g, 0, none⟩) n c, .bool s.dead, .int .i64 s.writes, .bool s.ahead, .int .i64 a4, .int .i64 (s.keep : Int)] : Array Value)[0]? = some (.slice (some ⟨g, 0, none⟩) n c) from rfl] at e0
  have K2 := Lib.hid k2
  have K3 := Lib.hid k3
  have K5 := Lib.hid k5
  clear hX k2 k3 k4 k5
  go_still_tail 7, (by kernel_rfl)
  refine still_load rfl 148 (.tmp 7) rfl _ _ rfl hld ?_
  repeat still_step
  refine wpStill_nil ?_
  change wpList _ _ _ _ _ w2.drew
  clear hld e0
  have K2d : Hid (Blk w2.drew p _ _) := Lib.hid (show Blk w2.drew p _ _ from K2.out)
  have K3d : Hid (BytesAt w2.drew g _ _) := Lib.hid (show BytesAt w2.drew g _ _ from K3.out)
  have K5d := Lib.hid K5.out.drew
  generalize w2.drew = w3 at K2d K3d K5d ⊢
  clear K2 K3 K5
  have HLN := Lib.hid H.out.len
  have HNE := Lib.hid H.out.ne
  have HTH := Lib.hid (K3d.out.there (i * 32) X.size (by rw [HLN.out, HXZ.out]; omega))
  have HXI := Lib.hid (show (Tryz.prog.info? 148).map (·.size) = some X.size by rw [HXZ.out]; kernel_rfl)
  refine wpList_store_mid rfl 148 (.tmp 74) (.tmp 73) rfl g (i * 32) X rfl rfl HTH.out HXI.out HXO.out ?_
  have k3 : BytesAt (w3.setCells g (i * 32) X.toList) g 148 (layL s.B (i * 32) (padB 32 b)) := by
    have := K3d.out.putAll (padB 32 b) (i * 32) (by rw [HLN.out, HPL.out]; omega)
    rw [← HX.out]
    exact this
  have k2 : Blk (w3.setCells g (i * 32) X.toList) p _ _ := K2d.out.otherCells (g := g) HNE.out X.toList (i * 32)
  have k5 : Chg (two p g) w (w3.setCells g (i * 32) X.toList) := Chg.setCells (fun _ => .inr rfl) _ _ K5d.out
  generalize w3.setCells g (i * 32) X.toList = w4 at k2 k3 k5 ⊢
  have K2 := Lib.hid k2
  have K3 := Lib.hid k3
  have K5 := Lib.hid k5
  have e2 := k2.cell 2
  have g2 := k2.frozen 2
  rw [show (#[.slice (some ⟨g, 0, none⟩) n c, .bool s.dead, .int .i64 s.writes, .bool s.ahead, .int .i64 a4, .int .i64 (s.keep : Int)] : Array Value)[2]? = some (.int .i64 s.writes) from rfl, HV.out] at e2
  have hwr := HV'.out
  clear k2 k3 k5 K2d K3d K5d
  go_wp2_with fail
  go_ret
  refine ⟨rfl, ?_, K5.out.setCell (fun _ => .inl rfl) _⟩
  have h6 := K2.out.set 2 (.int .i64 v')
  have h7 := K3.out.other (p := ⟨p, 2, none⟩) (fun e => HNE.out e.symm) (.int .i64 v')
  refine ⟨?_, h7, HNE.out, ?_, H.out.cap, H.out.small, ?_, H.out.keep⟩
  · show Blk _ p #[.slice (some ⟨g, 0, none⟩) n c, .bool s.dead, .int .i64 (IntKind.i64.wrap (s.writes + 1)), .bool s.ahead, .int .i64 (if s.ahead then s.at_ - 1 else s.at_), .int .i64 (s.keep : Int)] _
    rw [HV.out, HV'.out, ← HA4.out]
    exact h6
  · show (layL _ _ _).length = _
    rw [layL_len (by rw [HPL.out, HLN.out]; omega), HLN.out]
  · show s.ahead = true → 0 ≤ (if s.ahead then s.at_ - 1 else s.at_) ∧ (if s.ahead then s.at_ - 1 else s.at_) ≤ 9223372036854775807
    rw [← HA4.out]
    exact HA5.out
set_option maxHeartbeats 1000000 in
theorem pwrite_well0 {w : World} {p g n c : Nat} {s : Dsk} (h : DP w p g n c s) (i : Nat) (A : Option Addr) (m d : Nat) (b : List UInt8) (hi : i < n) (hm : m ≤ 32) (hb : b.length = m) (hr : Rd w w.heap.size A b) (hd : s.dead = false) (ha : s.ahead = false) :
    Calls Tryz.prog 115 #[.pointer (some ⟨p, 0, none⟩), .int .i64 (i : Int), .slice A m d] w fun e w' => e = .returned (.int .i64 0) ∧ DP w' p g n c (s.well i b) ∧ Chg (two p g) w w' := by
  have HC := Lib.hid (phas_yes h i hi)
  have H := Lib.hid h
  have hm' : ¬ (32 : Int) < (m : Int) := by omega
  obtain ⟨c0, c1, c2, c3, c4, c5⟩ := h.cells
  have hgl := h.body.lt
  have hpl := h.head.lt
  have hs := h.small
  have hi0 : (0 : Int) ≤ (i : Int) := by omega
  have hi1 : (i : Int) < (n : Int) := by omega
  rw [hd] at c1
  rw [ha] at c3
  have HB := Lib.hid hb
  have HA := Lib.hid ha
  have HD := Lib.hid hd
  obtain ⟨v, hv⟩ : ∃ v, s.writes = v := ⟨_, rfl⟩
  obtain ⟨v', hv'⟩ : ∃ v', IntKind.i64.wrap (v + 1) = v' := ⟨_, rfl⟩
  have HV := Lib.hid hv
  have HV' := Lib.hid hv'
  rw [hv] at c2
  clear h hd hb ha hv hv'
  go_enter Tryz.func115, Tryz.ntmps115
  go_wp2_with fail
  with_reducible refine HC.out.mono ?_
  rintro e w' ⟨rfl, rfl⟩
  clear HC
  go_wp2_with (with_reducible refine wpList_copy_at rfl (.tmp 21) (.tmp 22) rfl w.heap.size 0 32 32 148 zeroS ?hw _ A m d b rfl rfl HB.out (hr.alloc (Nat.le_refl _) _) m ?hk ?hf ?_)
  case hw => exact ⟨_, Blk.new _ _ _, rfl⟩
  case hk => omega
  case hf => rw [zeroS_len]; omega
  intro w1 hw1 hg1
  have hb1 : Below w.heap.size w w1 := ((Below.refl _ _).alloc (Nat.le_refl _) _).grown hg1 (by simp) (fun k hk => by injection hk with hk; omega)
  rw [List.take_of_length_le (by rw [HB.out]; exact Nat.le_refl _), layL_pad] at hw1
  have H1 := Lib.hid (H.out.below hb1)
  obtain ⟨e0, e1, e2, e3, e4, e5⟩ := H1.out.cells
  rw [HD.out] at e1
  rw [HV.out] at e2
  rw [HA.out] at e3
  have hws := hb1.size
  have hwl := hw1.lt
  have HW1 := Lib.hid hw1
  have HB1 := Lib.hid hb1
  obtain ⟨wb, hwb⟩ : ∃ x, w.heap.size = x := ⟨_, rfl⟩
  have HWB := Lib.hid hwb
  rw [hwb] at hw1 hgl hpl hws hwl HW1 ⊢
  clear hg1 hb1 hw1 hwb c0 c1 c2 c3 c4 c5 hr
  go_wp2_with fail
  have k2 : Blk w1 p #[.slice (some ⟨g, 0, none⟩) n c, .bool s.dead, .int .i64 s.writes, .bool s.ahead, .int .i64 s.at_, .int .i64 (s.keep : Int)] 73 := H1.out.head
  have k3 := H1.out.body
  have k4 := HW1.out
  have k5 : Chg (two p g) w w1 := .of_below HB1.out
  obtain ⟨a4, ha4⟩ : ∃ x, s.at_ = x := ⟨_, rfl⟩
  have HA4 := Lib.hid (show a4 = if s.ahead then s.at_ - 1 else s.at_ by rw [HA.out, ← ha4]; rfl)
  have HA5 := Lib.hid (show s.ahead = true → 0 ≤ a4 ∧ a4 ≤ 9223372036854775807 by rw [HA.out]; intro h; cases h)
  generalize w1 = w2 at k2 k3 k4 k5 ⊢
  rw [ha4] at k2
  clear ha4
  clear e0 e1 e2 e3 e4 e5  H1 HW1 HB1 hwl hws
  have HPL := Lib.hid (padB_len (k := 32) (bs := b) (by rw [HB.out]; exact hm))
  obtain ⟨X, hX⟩ : ∃ X, u8A (padB 32 b) = X := ⟨_, rfl⟩
  have HX := Lib.hid hX
  have HXZ := Lib.hid (show X.size = 32 by rw [← hX, u8A_size, HPL.out])
  have HXO := Lib.hid (show X.all (·.oneCell') = true by rw [← hX]; exact u8A_one _)
  have hld : (Instr.loadAt 148 (.pointer (some ⟨wb, 0, none⟩))).run Tryz.prog ({ heap := w2.heap, tape := w2.tape, drawn := w2.drawn + 1, os := w2.os, output := w2.output } : World) = .ok (.agg X) ({ heap := w2.heap, tape := w2.tape, drawn := w2.drawn + 1, os := w2.os, output := w2.output } : World) := by
    rw [← hX]
    have := k4.range 0 32
    rw [List.drop_zero, List.take_of_length_le (by rw [HPL.out]; exact Nat.le_refl _)] at this
    exact run_loadAt_mid w2.drew wb 0 148 _ _ this Tryz.underlying148 rfl (by rw [Lib.byteCells_length, HPL.out]; kernel_rfl)
  have e0 := k2.cell 0
  rw [show (#[.slice (some ⟨g, 0, none⟩) n c, .bool s.dead, .int .i64 s.writes, .bool s.ahead, .int .i64 a4, .int .i64 (s.keep : Int)] : Array Value)[0]? = some (.slice (some ⟨g, 0, none⟩) n c) from rfl] at e0
  have K2 := Lib.hid k2
  have K3 := Lib.hid k3
  have K5 := Lib.hid k5
  clear hX k2 k3 k4 k5
  go_still_tail 7, (by kernel_rfl)
  refine still_load rfl 148 (.tmp 7) rfl _ _ rfl hld ?_
  repeat still_step
  refine wpStill_nil ?_
  change wpList _ _ _ _ _ w2.drew
  clear hld e0
  have K2d : Hid (Blk w2.drew p _ _) := Lib.hid (show Blk w2.drew p _ _ from K2.out)
  have K3d : Hid (BytesAt w2.drew g _ _) := Lib.hid (show BytesAt w2.drew g _ _ from K3.out)
  have K5d := Lib.hid K5.out.drew
  generalize w2.drew = w3 at K2d K3d K5d ⊢
  clear K2 K3 K5
  have HLN := Lib.hid H.out.len
  have HNE := Lib.hid H.out.ne
  have HTH := Lib.hid (K3d.out.there (i * 32) X.size (by rw [HLN.out, HXZ.out]; omega))
  have HXI := Lib.hid (show (Tryz.prog.info? 148).map (·.size) = some X.size by rw [HXZ.out]; kernel_rfl)
  refine wpList_store_mid rfl 148 (.tmp 74) (.tmp 73) rfl g (i * 32) X rfl rfl HTH.out HXI.out HXO.out ?_
  have k3 : BytesAt (w3.setCells g (i * 32) X.toList) g 148 (layL s.B (i * 32) (padB 32 b)) := by
    have := K3d.out.putAll (padB 32 b) (i * 32) (by rw [HLN.out, HPL.out]; omega)
    rw [← HX.out]
    exact this
  have k2 : Blk (w3.setCells g (i * 32) X.toList) p _ _ := K2d.out.otherCells (g := g) HNE.out X.toList (i * 32)
  have k5 : Chg (two p g) w (w3.setCells g (i * 32) X.toList) := Chg.setCells (fun _ => .inr rfl) _ _ K5d.out
  generalize w3.setCells g (i * 32) X.toList = w4 at k2 k3 k5 ⊢
  have K2 := Lib.hid k2
  have K3 := Lib.hid k3
  have K5 := Lib.hid k5
  have e2 := k2.cell 2
  have g2 := k2.frozen 2
  rw [show (#[.slice (some ⟨g, 0, none⟩) n c, .bool s.dead, .int .i64 s.writes, .bool s.ahead, .int .i64 a4, .int .i64 (s.keep : Int)] : Array Value)[2]? = some (.int .i64 s.writes) from rfl, HV.out] at e2
  have hwr := HV'.out
  clear k2 k3 k5 K2d K3d K5d
  go_wp2_with fail
  go_ret
  refine ⟨rfl, ?_, K5.out.setCell (fun _ => .inl rfl) _⟩
  have h6 := K2.out.set 2 (.int .i64 v')
  have h7 := K3.out.other (p := ⟨p, 2, none⟩) (fun e => HNE.out e.symm) (.int .i64 v')
  refine ⟨?_, h7, HNE.out, ?_, H.out.cap, H.out.small, ?_, H.out.keep⟩
  · show Blk _ p #[.slice (some ⟨g, 0, none⟩) n c, .bool s.dead, .int .i64 (IntKind.i64.wrap (s.writes + 1)), .bool s.ahead, .int .i64 (if s.ahead then s.at_ - 1 else s.at_), .int .i64 (s.keep : Int)] _
    rw [HV.out, HV'.out, ← HA4.out]
    exact h6
  · show (layL _ _ _).length = _
    rw [layL_len (by rw [HPL.out, HLN.out]; omega), HLN.out]
  · show s.ahead = true → 0 ≤ (if s.ahead then s.at_ - 1 else s.at_) ∧ (if s.ahead then s.at_ - 1 else s.at_) ≤ 9223372036854775807
    rw [← HA4.out]
    exact HA5.out
end Go.Proofs.YtndknifdajjalaaGreatDoor
