/- The program's inverse in the making: its memory; the step that brings a row to its place. Worlds in which one block alone, and what is new, has changed. The library's Grow of nothing, and Concat. The program's inverse in the making: how it begins. The program's inverse in the making: the step that makes a column's 1. The program's inverse in the making: a row, times a byte, added to another; the step that makes noughts of all else in a column. The program's Rows; bytes copied by the library's Clone. The program's inverse of a matrix. What the program's matrices do. -/
import Derived.Test.YtdaofffkbnkljaaPMul2
import Derived.Test.YtdaofffkbnkljaaRMInv
import Derived.BigRegion
import Derived.Test.YtdaofffkbnkljaaMxH
import Derived.Test.YtdaofffkbnkljaaGfS
import Derived.Test.YtdaofffkbnkljaaOwnB
import Derived.Lib.AppendZerosOnto
import Derived.Test.YtdaofffkbnkljaaStepA
import Derived.Test.YtdaofffkbnkljaaFreeL
import Derived.StillTailTactics
import Derived.Test.YtdaofffkbnkljaaShelf
namespace Go.Proofs.Ytdaofffkbnkljaa
open Go.RowKit

/-- At s there is a sweep: its rows lie at g, its field at fd. -/
structure Swp (w : World) (B s fd g : Nat) (β γ : Nat → Nat) (n d cap : Nat) (f : Mx) : Prop where
  blk : Blk w s #[.slice (some ⟨g, 0, none⟩) n cap, .func (.func 70) #[.pointer (some ⟨fd, 0, none⟩)] #[], .func (.func 71) #[.pointer (some ⟨fd, 0, none⟩)] #[]] 102
  fld : FdAt w fd
  mx : MxW w B g β γ n d f
/-- Below B, and in all blocks but those of bytes and of slices of bytes, all is as it was. -/
def Kept (B : Nat) (w w' : World) : Prop := Below B w w' ∧ w.heap.size ≤ w'.heap.size ∧ ∀ b rc (T : TypeId), T ≠ 5 → T ≠ 22 → Blk w b rc T → Blk w' b rc T
section
variable {w : World} {B s fd g n d cap : Nat} {β γ : Nat → Nat} {f : Mx}
theorem Kept.refl (B : Nat) (w : World) : Kept B w w := ⟨Below.refl _ _, Nat.le_refl _, fun _ _ _ _ _ h => h⟩
theorem Kept.trans {w' w'' : World} (h : Kept B w w') (k : Kept B w' w'') : Kept B w w'' := ⟨h.1.trans k.1, Nat.le_trans h.2.1 k.2.1, fun b rc T h1 h2 h3 => k.2.2 b rc T h1 h2 (h.2.2 b rc T h1 h2 h3)⟩
theorem Kept.drewN {w' : World} (h : Kept B w w') (q : Nat) : Kept B w (w'.drewN q) := ⟨below_drewN h.1 q, h.2.1, fun b rc T h1 h2 h3 => h.2.2 b rc T h1 h2 h3⟩
theorem Kept.drew {w' : World} (h : Kept B w w') : Kept B w w'.drew := h.drewN 1
theorem Kept.set {w' : World} (h : Kept B w w') {b : Nat} {rc : Array Value} {T : TypeId} (hb : Blk w' b rc T) (hB : B ≤ b) (hT : T = 5 ∨ T = 22) (i : Nat) (v : Value) : Kept B w (w'.setCell ⟨b, i, none⟩ v) :=
  ⟨h.1.setCell hB v, by have := h.2.1; simp; omega, fun b' rc' T' h1 h2 h3 => (h.2.2 b' rc' T' h1 h2 h3).other (fun e => by
    subst e
    have h4 := (h.2.2 b' rc' T' h1 h2 h3).symm.trans hb
    injection h4 with h5
    injection h5 with _ h6
    rcases hT with rfl | rfl
    · exact h1 h6
    · exact h2 h6) v⟩
theorem sweepT_ne : (102 : TypeId) ≠ 5 ∧ (102 : TypeId) ≠ 22 := by decide
theorem fieldT_ne : (89 : TypeId) ≠ 5 ∧ (89 : TypeId) ≠ 22 := by decide
theorem Swp.kept {w' : World} (h : Swp w B s fd g β γ n d cap f) (k : Kept B w w') {β' γ' : Nat → Nat} {f' : Mx} (hm : MxW w' B g β' γ' n d f') : Swp w' B s fd g β' γ' n d cap f' :=
  ⟨k.2.2 _ _ _ sweepT_ne.1 sweepT_ne.2 h.blk, ⟨h.fld.1, k.2.2 _ _ _ fieldT_ne.1 fieldT_ne.2 h.fld.2⟩, hm⟩
theorem Swp.drewN (h : Swp w B s fd g β γ n d cap f) (q : Nat) : Swp (w.drewN q) B s fd g β γ n d cap f := ⟨h.blk, h.fld.drewN q, h.mx.drewN q⟩
theorem Swp.congr (h : Swp w B s fd g β γ n d cap f) {f' : Mx} (e : ∀ i j, i < n → j < d → f i j = f' i j) : Swp w B s fd g β γ n d cap f' := ⟨h.blk, h.fld, h.mx.congr e⟩
theorem Swp.rows (h : Swp w B s fd g β γ n d cap f) : w.cell? ⟨s, 0, none⟩ = some (.slice (some ⟨g, 0, none⟩) n cap) := h.blk.cell 0
theorem Swp.times (h : Swp w B s fd g β γ n d cap f) : w.cell? ⟨s, 1, none⟩ = some (.func (.func 70) #[.pointer (some ⟨fd, 0, none⟩)] #[]) := h.blk.cell 1
theorem Swp.inverse (h : Swp w B s fd g β γ n d cap f) : w.cell? ⟨s, 2, none⟩ = some (.func (.func 71) #[.pointer (some ⟨fd, 0, none⟩)] #[]) := h.blk.cell 2
theorem MxW.keptByte {w0 : World} (h : MxW w B g β γ n d f) (k : Kept B w0 w) {i : Nat} (hi : i < n) (j : Nat) (v : Value) : Kept B w0 (w.setCell ⟨β i, j, none⟩ v) := by
  obtain ⟨h1, _, _, rc, h4, _⟩ := h.rows i hi
  exact k.set h4 h1 (.inl rfl) j v
theorem MxW.keptHead {w0 w1 : World} (h : MxW w B g β γ n d f) (k : Kept B w0 w1) {cur : Array Value} (hc : Blk w1 g cur 22) (j : Nat) (v : Value) : Kept B w0 (w1.setCell ⟨g, j, none⟩ v) :=
  k.set hc h.base (.inr rfl) j v
end

set_option maxRecDepth 100000 in
set_option maxHeartbeats 4000000 in
theorem lift_any {w : World} {B s fd g n d cap c : Nat} {β γ : Nat → Nat} {f : Mx} (h : Swp w B s fd g β γ n d cap f) (hc : c < n) (hn : n ≤ 16) (hd : c < d) :
    Calls Try.prog 73 #[.pointer (some ⟨s, 0, none⟩), .int .i64 (c : Int)] w fun e w' => ((e = .returned (.bool true) ∧ ∃ p β' γ', c ≤ p ∧ p < n ∧ f p c ≠ 0 ∧ Swp w' B s fd g β' γ' n d cap (swM c p f)) ∨ (e = .returned (.bool false) ∧ ∀ p, c ≤ p → p < n → f p c = 0)) ∧ Kept B w w' := by
  have h0 := h.rows
  have H := Lib.hid h
  have hci : (c : Int) < (n : Int) := by omega
  clear h
  go_enter Try.func73, Try.ntmps73
  go_wp2_with fail
  go_loop [5] (fun t => ∃ p : Nat, c ≤ p ∧ p ≤ n ∧ t = .int .i64 p ∧ Hid (∀ q, c ≤ q → q < p → f q c = 0)) (fun t => n - (intOf t).toNat)
  case atStart => exact ⟨c, by omega, by omega, rfl, Lib.hid (fun q h1 h2 => by omega)⟩
  case round =>
    obtain ⟨p, hcp, hp, rfl, HP⟩ := hrel
    by_cases hpi : p < n
    · have hpii : (p : Int) < (n : Int) := by omega
      have hcc : (c : Int) < (d : Int) := by omega
      have hh := H.out.mx.header hpi
      have hb := H.out.mx.byte (j := c) hpi hd
      by_cases hz : f p c = 0
      · have HZ := Lib.hid (show ∀ q, c ≤ q → q < p + 1 → f q c = 0 from fun q h1 h2 => by
          by_cases e : q = p
          · rw [e]; exact hz
          · exact HP.out q h1 (by omega))
        have hz0 : ((0 : UInt8).toNat : Int) = 0 := rfl
        rw [hz, hz0] at hb
        clear hz hz0
        go_wp2_with fail
        go_round
        case rel => exact ⟨p + 1, by omega, by omega, by go_num, HZ⟩
        case measure => simp [intOf]; omega
      · have hzb : (((f p c).toNat : Int) != 0) = true := by have := pos8' hz; simp only [bne_iff_ne, ne_eq]; omega
        have HNZ := Lib.hid hz
        clear hz
        obtain ⟨x, hx⟩ : ∃ x, f p c = x := ⟨_, rfl⟩
        rw [hx] at hzb hb
        clear hx
        have hhc := H.out.mx.header hc
        have hfc := H.out.mx.headFree c
        have hfp := H.out.mx.headFree p
        obtain ⟨cur, hcur, _⟩ := H.out.mx.head
        have HSW := Lib.hid ((H.out.mx.swap hc hpi).drewN 1)
        have HK := Lib.hid ((H.out.mx.keptHead (H.out.mx.keptHead (Kept.refl B w) hcur c (.slice (some ⟨β p, 0, none⟩) d (γ p))) (hcur.set c (.slice (some ⟨β p, 0, none⟩) d (γ p))) p (.slice (some ⟨β c, 0, none⟩) d (γ c))).drewN 1)
        obtain ⟨o, ho⟩ : ∃ o, (w.setCell ⟨g, c, none⟩ (.slice (some ⟨β p, 0, none⟩) d (γ p))).cell? ⟨g, p, none⟩ = some o := by
          obtain ⟨cur, q1, q2⟩ := H.out.mx.head
          have q3 := q1.set c (.slice (some ⟨β p, 0, none⟩) d (γ p))
          rw [q3.cell]
          exact ⟨_, Array.getElem?_eq_getElem (by rw [Array.size_setIfInBounds]; exact (Array.getElem?_eq_some_iff.1 (q2 p hpi)).1)⟩
        clear hcur
        go_wp2_with fail
        go_region
        have HS2 := Lib.hid (H.out.kept HK.out HSW.out)
        go_wp2_with fail
        go_ret
        exact ⟨.inl ⟨rfl, p, _, _, hcp, hpi, HNZ.out, HS2.out⟩, HK.out⟩
    · obtain rfl : p = n := by omega
      have hni : ¬ (p : Int) < (p : Int) := by omega
      go_wp2_with fail
      go_ret
      exact ⟨.inr ⟨rfl, HP.out⟩, Kept.refl _ _⟩
end Go.Proofs.Ytdaofffkbnkljaa
namespace Go.Proofs.Ytdaofffkbnkljaa
open Go.RowKit

/-- Below B all blocks but s are as they were. -/
def But (B s : Nat) (w w' : World) : Prop := B ≤ w'.heap.size ∧ ∀ b, b < B → b ≠ s → w'.heap[b]? = w.heap[b]?
section
variable {w w' w'' : World} {B C s : Nat}
theorem But.refl (h : B ≤ w.heap.size) : But B s w w := ⟨h, fun _ _ _ => rfl⟩
theorem But.on (h : But B s w w') (hb : Below w'.heap.size w' w'') : But B s w w'' :=
  ⟨Nat.le_trans h.1 hb.size, fun b h1 h2 => (hb.block b (by have := h.1; omega)).trans (h.2 b h1 h2)⟩
theorem But.grown (h : But B s w w') {row : Option Nat} (hg : w'.grownBy w'' row) (hr : ∀ k, row = some k → B ≤ k) : But B s w w'' :=
  ⟨Nat.le_trans h.1 hg.size, fun b h1 h2 => (hg.block b (by have := h.1; omega) (fun e => by have := hr b e.symm; omega)).trans (h.2 b h1 h2)⟩
theorem But.set (h : But B s w w') (i : Nat) (v : Value) : But B s w (w'.setCell ⟨s, i, none⟩ v) :=
  ⟨by have := h.1; simp; omega, fun b h1 h2 => (Below.heap_setCell w' ⟨s, i, none⟩ v b h2).trans (h.2 b h1 h2)⟩
theorem But.blk (h : But B s w w') {b : Nat} {cs : Array Value} {T : TypeId} (hb : Blk w b cs T) (hB : b < B) (hs : b ≠ s) : Blk w' b cs T := (h.2 b hB hs).trans hb
theorem MxW.but {g n m : Nat} {β γ : Nat → Nat} {f : Mx} (h : MxW w C g β γ n m f) (k : But B s w w') (hB : w.heap.size ≤ B) (hs : s < C) : MxW w' C g β γ n m f :=
  ⟨h.base, by
    obtain ⟨cur, h1, h2⟩ := h.head
    exact ⟨cur, k.blk h1 (by have := h1.lt; omega) (by have := h.base; omega), h2⟩, fun i hi => by
    obtain ⟨a1, a2, a3, rc, a4, a5⟩ := h.rows i hi
    exact ⟨a1, a2, a3, rc, k.blk a4 (by have := a4.lt; omega) (by omega), a5⟩, h.apart⟩
theorem FdAt.but {g : Nat} (h : FdAt w g) (k : But B s w w') (hB : g < B) (hs : g ≠ s) : FdAt w' g := ⟨h.1, k.blk h.2 hB hs⟩
theorem own_low {base n : Nat} {e : TypeId} {v : Value} {xs : List Value} (h : w.ownsRow base e 1 v n xs) (hs : s < base) (i : Nat) (u : Value) : (w.setCell ⟨s, i, none⟩ u).ownsRow base e 1 v n xs := by
  refine ⟨h.1, ?_⟩
  rcases h.2 with h0 | ⟨g, cap, cur, h1, h2, h3, h4⟩
  · exact .inl h0
  · exact .inr ⟨g, cap, cur, h1, h2, (Below.heap_setCell w ⟨s, i, none⟩ u g (Nat.ne_of_gt (Nat.lt_of_lt_of_le hs h2))).trans h3, h4⟩
theorem MxB.low {n m : Nat} {v : Value} {f : Mx} (h : MxB w B v n m f) (hs : s < B) (i : Nat) (u : Value) : MxB (w.setCell ⟨s, i, none⟩ u) B v n m f := by
  obtain ⟨β, γ, h1, h2, h3⟩ := h
  refine ⟨β, γ, own_low h1 hs i u, fun k hk => ?_, h3⟩
  obtain ⟨a1, a2, a3, rc, a4, a5⟩ := h2 k hk
  exact ⟨a1, a2, a3, rc, a4.other (Nat.ne_of_gt (Nat.lt_of_lt_of_le hs a1)) u, a5⟩
end
end Go.Proofs.Ytdaofffkbnkljaa
namespace Go.Proofs.Ytdaofffkbnkljaa
open Go.RowKit

theorem zeroCells_bytes (k : Nat) : Builtin.zeroCells (Value.int .u8 0).cells k = (Lib.byteCells (List.replicate k 0)).toArray := by
  apply Array.ext'
  have : (Builtin.zeroCells (Value.int .u8 0).cells k).toList = List.replicate k (Value.int .u8 0) := by
    have h := toList_madeCells_one (Value.int .u8 0) k
    rw [← h]
    have hc : (Value.int .u8 0).cells = #[Value.int .u8 0] := rfl
    unfold Builtin.zeroCells madeCells
    simp [hc]
  rw [this]
  unfold Lib.byteCells
  rw [List.map_replicate]; rfl
set_option maxRecDepth 100000 in
set_option maxHeartbeats 1000000 in
theorem grow_any (n : Nat) (w : World) (h1 : 1 ≤ n) (h2 : n ≤ 100000) :
    Calls Try.prog 62 #[.slice none 0 0, .int .i64 (n : Int)] w fun e w' => ∃ v, e = .returned v ∧ OwnB w' w.heap.size 5 v 0 [] ∧ Below w.heap.size w w' := by
  obtain ⟨i0, hi, hz0, hz1, hz2⟩ := info_parts info5
  have hold : (Builtin.firstCells i0.size 0 (.slice none 0 0)).run Try.prog w.drew = .ok ([] : List Value).toArray w.drew := run_firstCells_none w.drew i0.size 0 0 0
  have hrz := fun ty => Lib.run_append_grow_zeros (P := Try.prog) w 22 3 ty 5 i0 (.int .u8 0) .i64 .i64 Try.underlying22 Try.underlying3 hi hz0 none 0 0 [] hold n h1 (by rw [hz1]; decide) (by omega) (by omega) (by rw [hz2]; omega) (growslice_fits (by omega) (by rw [hz2]; omega))
  rw [Nat.zero_add] at hrz
  have hge := grownCap_ge w n 0 5
  have hcm := grownCap_le_maxLen w n 0 5 (by unfold maxLen; omega)
  have HROW := Lib.hid (show ([] : List Value).toArray ++ Builtin.zeroCells (Value.int .u8 0).cells n ++ Builtin.zeroCells (Value.int .u8 0).cells (grownCap w n 0 5 - n) = (Lib.byteCells (List.replicate (grownCap w n 0 5) 0)).toArray by
    rw [zeroCells_bytes, zeroCells_bytes]
    apply Array.ext'
    simp only [List.nil_append, Array.toList_append, ← Lib.byteCells_append, List.replicate_append_replicate]
    rw [show n + (grownCap w n 0 5 - n) = grownCap w n 0 5 by omega])
  rw [HROW.out] at hrz
  generalize grownCap w n 0 5 = cp at *
  have hni : (0 : Int) < (n : Int) := by omega
  have hnn : ¬ (n : Int) < 0 := by omega
  clear hold hi hz0 hz1 hz2 HROW
  go_enter Try.func62, Try.ntmps62
  go_wp2_with (at_builtin; refine Lib.wpList_append_run _ rfl _ _ _ _ rfl _ _ rfl rfl _ _ (hrz _) ?_)
  go_ret
  refine ⟨_, rfl, ⟨rfl, .inr ⟨w.heap.size, cp, List.replicate cp 0, rfl, Nat.le_refl _, heap_alloc_new w.drew _, Nat.zero_le _, hcm, List.length_replicate .., rfl⟩⟩, ((Below.refl _ _).drew).alloc (Nat.le_refl _) _⟩

theorem grow_zero (w : World) :
    Calls Try.prog 62 #[.slice none 0 0, .int .i64 0] w fun e w' => ∃ v, e = .returned v ∧ OwnB w' w.heap.size 5 v 0 [] ∧ Below w.heap.size w w' := by
  go_enter Try.func62, Try.ntmps62
  go_wp2_with fail
  go_ret
  exact ⟨_, rfl, OwnB.nil _ _ _, Below.refl _ _⟩
theorem grow_all (n : Nat) (w : World) (h2 : n ≤ 100000) :
    Calls Try.prog 62 #[.slice none 0 0, .int .i64 (n : Int)] w fun e w' => ∃ v, e = .returned v ∧ OwnB w' w.heap.size 5 v 0 [] ∧ Below w.heap.size w w' := by
  rcases Nat.eq_zero_or_pos n with rfl | h
  · exact grow_zero w
  · exact grow_any n w h h2

def catTo (ls : List (List UInt8)) (k : Nat) : List UInt8 := (ls.take k).flatten
theorem catTo_zero (ls : List (List UInt8)) : catTo ls 0 = [] := rfl
theorem catTo_succ {ls : List (List UInt8)} {k : Nat} (h : k < ls.length) : catTo ls (k + 1) = catTo ls k ++ ls[k] := by
  unfold catTo
  rw [List.take_succ_eq_append_getElem h, List.flatten_append]
  simp
theorem catTo_all (ls : List (List UInt8)) : catTo ls ls.length = ls.flatten := by unfold catTo; rw [List.take_length]
theorem catTo_le (ls : List (List UInt8)) (k : Nat) : (catTo ls k).length ≤ ls.flatten.length := by
  have : ls.flatten = catTo ls k ++ (ls.drop k).flatten := by unfold catTo; rw [← List.flatten_append, List.take_append_drop]
  rw [this, List.length_append]; omega
set_option maxRecDepth 100000 in
set_option maxHeartbeats 2000000 in
theorem concat_all (A : Option Addr) (n c m C : Nat) (ls : List (List UInt8)) (w : World) (hn : ls.length = n) (hm : ls.flatten.length = m) (h1 : m ≤ 100000) (h2 : n ≤ 1000) (hC : C ≤ w.heap.size) (hr : RdR w C A ls) :
    Calls Try.prog 41 #[.slice A n c] w fun e w' => ∃ v, e = .returned v ∧ OwnB w' w.heap.size 5 v m ls.flatten ∧ Below w.heap.size w w' := by
  obtain ⟨i0, hi, hz0, hz1, hz2⟩ := info_parts info5
  have HN := Lib.hid hn
  have HM := Lib.hid hm
  have HG := Lib.hid (grow_all m w h1)
  have HLE := Lib.hid (catTo_le ls)
  clear hn hm
  go_enter Try.func41, Try.ntmps41
  go_wp2_with fail
  go_loop [3, 5, 11] (fun z _ t => ∃ k : Nat, k ≤ n ∧ t = .int .i64 k ∧ z = .int .i64 ((catTo ls k).length : Int)) (fun _ _ t => n - (intOf t).toNat)
  case atStart => exact ⟨0, by omega, rfl, rfl⟩
  case round =>
    obtain ⟨k, hk, rfl, rfl⟩ := hrel
    by_cases hlt : k < n
    · have hii : (k : Int) < (n : Int) := by omega
      have hil : k < ls.length := by rw [HN.out]; exact hlt
      obtain ⟨b, off, A1, c1, rfl, hbs, hc, hlc, hcm, hrd⟩ := hr.at_ k hil
      have HSC := Lib.hid (catTo_succ hil)
      have HL1 := Lib.hid (HLE.out (k + 1))
      rw [HSC.out, List.length_append, HM.out] at HL1
      obtain ⟨p, hp⟩ : ∃ p, (catTo ls k).length = p := ⟨_, rfl⟩
      obtain ⟨q, hq⟩ : ∃ q, ls[k].length = q := ⟨_, rfl⟩
      have HPQ := Lib.hid (show (catTo ls (k + 1)).length = p + q by rw [HSC.out, List.length_append, hp, hq])
      rw [hq] at hc
      rw [hp, hq] at HL1
      rw [hp]
      have hpq := HL1.out
      have hpq2 : (p : Int) + (q : Int) ≤ 100000 := by omega
      have hneg : ¬ (p : Int) + (q : Int) < 0 := by omega
      clear hp hq hrd hlc HSC HL1 hil
      go_wp2_with fail
      go_round
      case rel => exact ⟨k + 1, by omega, by go_num, by rw [HPQ.out]; go_num⟩
      case measure => simp [intOf]; omega
    · obtain rfl : k = n := by omega
      have HCA := Lib.hid (show (catTo ls k).length = m by rw [← HN.out, catTo_all, HM.out])
      rw [HCA.out]
      have hni : ¬ (k : Int) < (k : Int) := by omega
      go_wp2_with fail
      with_reducible refine (HG.out).mono ?_
      rintro e w1 ⟨v, rfl, hown, hb1⟩
      have HO1 := Lib.hid hown
      clear hown HG
      go_wp2_with fail
      clear hni
      go_loopw [6, 8, 27] (fun u _ t wr => ∃ j : Nat, j ≤ k ∧ t = .int .i64 j ∧ Below w.heap.size w wr ∧ Hid (OwnB wr w.heap.size 5 u (catTo ls j).length (catTo ls j))) (fun _ _ t _ => k - (intOf t).toNat)
      case atStart => exact ⟨0, by omega, rfl, hb1, HO1⟩
      case round =>
        clear hb1 HO1
        obtain ⟨j, hj, rfl, hbel, HO⟩ := hrel
        by_cases hjk : j < k
        · have hji : (j : Int) < (k : Int) := by omega
          have hjl : j < ls.length := by rw [HN.out]; exact hjk
          obtain ⟨b, off, A1, c1, rfl, hbs, hc, hlc, hcm, hrd⟩ := hr.at_ j hjl
          have HSC := Lib.hid (catTo_succ hjl)
          have HL1 := Lib.hid (HLE.out (j + 1))
          rw [HSC.out, List.length_append, HM.out] at HL1
          have hcc := (hbel.cell (p := ⟨b, off + j, none⟩) (Nat.lt_of_lt_of_le hbs hC)).trans hc
          have HRD := Lib.hid (hrd.below hbel hC)
          obtain ⟨q, hq⟩ : ∃ q, ls[j].length = q := ⟨_, rfl⟩
          have HQ := Lib.hid hq
          obtain ⟨p, hp⟩ : ∃ p, (catTo ls j).length = p := ⟨_, rfl⟩
          have HPQ := Lib.hid (show (catTo ls (j + 1)).length = p + q by rw [HSC.out, List.length_append, hp, hq])
          rw [hq] at hcc
          rw [hp, hq] at HL1
          rw [hp] at HO
          have hpq := HL1.out
          have hle := hbel.size
          have HOE := Lib.hid (fun v' w' (h : OwnB w' w.heap.size 5 v' (p + q) (catTo ls j ++ ls[j])) => (show OwnB w' w.heap.size 5 v' (catTo ls (j + 1)).length (catTo ls (j + 1)) by rw [HPQ.out, HSC.out]; exact h))
          generalize ls[j] = row at *
          clear hc hrd hlc hq hp hjl HSC HL1
          go_wp2_with (at_builtin; refine wpList_append_B rfl _ _ 22 22 rfl w.heap.size 5 i0 Try.underlying22 hi hz0 hz1 hz2 _ p (catTo ls j) rfl HO.out _ rfl q row HQ.out (Src.ofRd Try.underlying22 _ A1 q c1 row HQ.out HRD.out) (by omega) hle ?_)
          intro v2 w2 hown2 hg2
          have HO2 := Lib.hid (HOE.out v2 w2 hown2)
          have hbel2 : Below w.heap.size w w2 := hbel.grown hg2 hle (fun k hk => HO.out.lt k hk)
          clear hown2 hg2 HO HOE HRD hbel hcc HPQ hle
          go_wp2_with fail
          go_roundw
          case rel => exact ⟨j + 1, by omega, by go_num, hbel2, HO2⟩
          case measure => simp [intOf]; omega
        · obtain rfl : j = k := by omega
          have HO2 := Lib.hid HO.out
          rw [HCA.out] at HO2
          have HFL := Lib.hid (show catTo ls j = ls.flatten by rw [← HN.out, catTo_all])
          rw [HFL.out] at HO2
          have hni : ¬ (j : Int) < (j : Int) := by omega
          clear HO
          go_wp2_with fail
          go_ret
          exact ⟨_, rfl, HO2.out, hbel⟩
theorem concat_any (A : Option Addr) (n c m C : Nat) (ls : List (List UInt8)) (w : World) (hn : ls.length = n) (hm : ls.flatten.length = m) (_h0 : 1 ≤ m) (h1 : m ≤ 1000) (h2 : n ≤ 1000) (hC : C ≤ w.heap.size) (hr : RdR w C A ls) :
    Calls Try.prog 41 #[.slice A n c] w fun e w' => ∃ v, e = .returned v ∧ OwnB w' w.heap.size 5 v m ls.flatten ∧ Below w.heap.size w w' :=
  concat_all A n c m C ls w hn hm (by omega) h2 hC hr
end Go.Proofs.Ytdaofffkbnkljaa
namespace Go.Proofs.Ytdaofffkbnkljaa
open Go.RowKit

/-- append of one slice value, which lies in a block of its own, onto a row of the call's own. -/
theorem wpList_append_one' {P : Program} {w : World} {ops : Array Oper} {rest : List Oper} {o : Oper} {a : Act} {Q : Exit → Act → World → Prop} (hgd : o.guard = none) (s x : Operand) (t : TypeId)
    (ho : o.op = .call { callee := .builtin .append, args := #[s, x], argTypes := #[t, t] })
    (base : Nat) (e : TypeId) (i : TypeInfo) (ht : P.underlying t = some (.slice e)) (hi : P.info? e = some i) (hz : i.zero = some (.slice none 0 0)) (hsize : i.size = 1) (hby : i.bytes = 24)
    (v : Value) (n : Nat) (xs : List Value) (hs : a.eval s = v) (hown : w.ownsRow base e 1 v n xs) (b : Nat) (A : Option Addr) (m c : Nat) (hb : w.heap[b]? = some (.cells #[.slice A m c] e (0, 0))) (hx : a.eval x = .slice (some ⟨b, 0, none⟩) 1 1)
    (hlim : n + 1 ≤ 1000000) (hbase : base ≤ w.heap.size)
    (h : ∀ v' w', w'.ownsRow base e 1 v' (n + 1) (xs ++ [.slice A m c]) → w.grownBy w' v.ownBlock → wpList P ops Q rest (a.put o.dst v') w') : wpList P ops Q (o :: rest) a w := by
  refine wpList_append_own (P := P) _ hgd s x t ho base e i (.slice none 0 0) 1 24 ht hi hz hsize hby rfl (by omega) v n xs hs hown ⟨b, 0, none⟩ 1 1 [.slice A m c] hx rfl (fun j u hj => ?_) (fun u hu => ?_) (by unfold maxLen; omega) (by omega) hbase (fun v' w' h1 h2 _ => h v' w' h1 h2)
  · exact World.news_of_block hb j u (by simpa using hj)
  · simp at hu
    subst hu
    rfl
theorem rdr_pair (w : World) (A B : Option Addr) {n m c e : Nat} {l k : List UInt8} (hl : l.length = n) (hc : n ≤ c) (hcm : c ≤ maxLen) (hk : k.length = m) (he : m ≤ e) (hem : e ≤ maxLen) (h1 : Rd w w.heap.size A l) (h2 : Rd w w.heap.size B k) :
    RdR (w.alloc (.cells #[.slice A n c, .slice B m e] 22)) (w.alloc (.cells #[.slice A n c, .slice B m e] 22)).heap.size (some ⟨w.heap.size, 0, none⟩) [l, k] := by
  subst hl hk
  have hal : Below w.heap.size w (w.alloc (.cells #[.slice A l.length c, .slice B k.length e] 22)) := (Below.refl _ _).alloc (Nat.le_refl _) _
  refine .inr ⟨w.heap.size, 0, rfl, (Blk.new w _ _).lt, fun i hi => ?_⟩
  have hb := (Blk.new w #[.slice A l.length c, .slice B k.length e] 22).cell i
  rw [Nat.zero_add]
  match i, hi with
  | 0, _ => exact ⟨A, c, hb, hc, hcm, (h1.below hal (Nat.le_refl _)).more hal.size⟩
  | 1, _ => exact ⟨B, e, hb, he, hem, (h2.below hal (Nat.le_refl _)).more hal.size⟩
theorem beside_row {n i j : Nat} {ls : List (List UInt8)} {full : List UInt8} (hi : i < ls.length) (hn : (ls[i]).length = n) (hf : full.take (n + n) = [ls[i], rowL unitM 0 n i].flatten) (hj : j < n + n) :
    (u8A full)[j]? = some (.int .u8 ((besideM n (entM ls) i j).toNat : Int)) := by
  rw [u8A_head hf hj (by simp [hn, rowL_len])]
  congr 3
  unfold besideM
  by_cases hjn : j < n
  · rw [if_pos hjn]
    have h2 : j < ls[i].length := by rw [hn]; exact hjn
    simp only [List.flatten_cons, List.flatten_nil, List.append_nil]
    rw [List.getD_eq_getElem?_getD, List.getElem?_append_left h2]
    simp [entM, List.getD_eq_getElem?_getD, hi]
  · rw [if_neg hjn]
    simp only [List.flatten_cons, List.flatten_nil, List.append_nil]
    rw [List.getD_eq_getElem?_getD, List.getElem?_append_right (by rw [hn]; omega), hn]
    simp [rowL, show j - n < n by omega]
set_option maxRecDepth 100000 in
set_option maxHeartbeats 8000000 in
theorem begin_any (A : Option Addr) (n c : Nat) (ls : List (List UInt8)) (w : World) (hn : ls.length = n) (hrow : ∀ r ∈ ls, r.length = n) (h1 : 1 ≤ n) (h16 : n ≤ 16) (hr : RdR w w.heap.size A ls) :
    Calls Try.prog 51 #[.slice A n c] w fun e w' => ∃ s, e = .returned (.pointer (some ⟨s, 0, none⟩)) ∧ (∃ fd g β γ cap, n ≤ cap ∧ w.heap.size ≤ s ∧ Swp w' w.heap.size s fd g β γ n (n + n) cap (besideM n (entM ls))) ∧ Below w.heap.size w w' := by
  obtain ⟨i1, hi', hz0', hz1', hz2'⟩ := info_parts infoSlice
  have HN := Lib.hid hn
  have HROW := Lib.hid hrow
  clear hn hrow
  obtain ⟨d, hd⟩ : ∃ d, n + n = d := ⟨_, rfl⟩
  have HD := Lib.hid hd
  have hd2 : 2 ≤ d := by omega
  have hd32 : d ≤ 32 := by omega
  obtain ⟨f, hfe⟩ : ∃ f, besideM n (entM ls) = f := ⟨_, rfl⟩
  have HFE := Lib.hid hfe
  rw [hd, hfe]
  clear hd hfe
  go_enter Try.func51, Try.ntmps51
  go_wp2_with fail
  with_reducible refine (fnew_any w).mono ?_
  rintro e w1 ⟨fd, rfl, hfd, hf, hb1⟩
  have HF1 := Lib.hid hf
  clear hf
  go_wp2_with fail
  have HS2 := Lib.hid (Blk.new w1 #[.slice none 0 0, .func (.func 70) #[.pointer (some ⟨fd, 0, none⟩)] #[], .func (.func 71) #[.pointer (some ⟨fd, 0, none⟩)] #[]] 102)
  have hb2 : Below w1.heap.size w1 (w1.alloc (.cells #[.slice none 0 0, .func (.func 70) #[.pointer (some ⟨fd, 0, none⟩)] #[], .func (.func 71) #[.pointer (some ⟨fd, 0, none⟩)] #[]] 102)) := (Below.refl _ _).alloc (Nat.le_refl _) _
  have HF2 := Lib.hid (FdAt.below HF1.out hb2 HF1.out.lt)
  have hfs := HF1.out.lt
  have hbel2 := hb1.trans (hb2.mono hb1.size)
  have hsw := hb1.size
  obtain ⟨s, hs⟩ : ∃ s, w1.heap.size = s := ⟨_, rfl⟩
  have hsl2 := HS2.out.lt
  generalize w1.alloc _ = w2 at *
  rw [hs] at HS2 hfs hsl2 hsw ⊢
  clear hb2 hs hb1 HF1
  with_reducible refine (punit_mx n w2 h1 h16).mono ?_
  rintro e w3 ⟨gu, rfl, ⟨βu, γu, hmu⟩, hb3⟩
  have HU := Lib.hid hmu
  have HS3 := Lib.hid (HS2.out.below hb3 HS2.out.lt)
  have HF3 := Lib.hid (HF2.out.below hb3 HF2.out.lt)
  have hbel3 := hbel2.trans (hb3.mono hbel2.size)
  have hsg0 : s < w3.heap.size := by have := hb3.size; omega
  have hg30 := hbel3.size
  obtain ⟨g3, hg3e⟩ : ∃ g, w3.heap.size = g := ⟨_, rfl⟩
  obtain ⟨u3, hu3⟩ : ∃ g, w2.heap.size = g := ⟨_, rfl⟩
  rw [hu3] at HU hsl2
  have HG3 := Lib.hid hg3e
  have HBUT3 := Lib.hid (But.refl (w := w3) (s := s) (B := g3) (by omega))
  rw [hg3e] at hsg0 hg30
  have hsg : s < g3 := hsg0
  have hg3 : w.heap.size ≤ g3 := hg30
  have HB3 := Lib.hid (MxB.nil w3 g3 d f)
  clear hmu hb3 hbel2 hg3e hu3 HS2 HF2 hsg0 hg30 hfd
  go_wp2_with fail
  go_loopw [18] (fun t wr => ∃ (i : Nat) (v : Value), i ≤ n ∧ t = .int .i64 i ∧ Below w.heap.size w wr ∧ Hid (But g3 s w3 wr) ∧ Hid (Blk wr s #[v, .func (.func 70) #[.pointer (some ⟨fd, 0, none⟩)] #[], .func (.func 71) #[.pointer (some ⟨fd, 0, none⟩)] #[]] 102) ∧ Hid (MxB wr g3 v i d f)) (fun t _ => n - (intOf t).toNat)
  case atStart => exact ⟨0, _, by omega, rfl, hbel3, HBUT3, HS3, HB3⟩
  case round =>
    clear hbel3 HBUT3 HS3 HB3
    obtain ⟨i, v, hin, rfl, hbel, HBUT, HBS, HB⟩ := hrel
    by_cases hlt : i < n
    · have hii : (i : Int) < (n : Int) := by omega
      have hil : i < ls.length := by rw [HN.out]; exact hlt
      obtain ⟨ba, oa, A1, c1, rfl, hbs, hc, hlc1, hcm1, hrd⟩ := hr.at_ i hil
      have HLA := Lib.hid (show ls[i].length = n from HROW.out _ (List.getElem_mem _))
      rw [HLA.out] at hc hlc1
      have HU2 := Lib.hid (HU.out.but HBUT.out (by rw [HG3.out]; exact Nat.le_refl _) hsl2)
      have hhu := HU2.out.header hlt
      obtain ⟨_, hlcu, hcmu, _⟩ := HU2.out.rows i hlt
      have HLU := Lib.hid (rowL_len unitM 0 n i)
      have HAC := Lib.hid (fun W (h : Below wr.heap.size wr W) => (h.cell (p := ⟨ba, oa + i, none⟩) (Nat.lt_of_lt_of_le hbs hbel.size)).trans ((hbel.cell (p := ⟨ba, oa + i, none⟩) hbs).trans hc))
      have HVC := Lib.hid (fun W (h : Below wr.heap.size wr W) => (show W.cell? ⟨s, 0, none⟩ = some v from (HBS.out.below h HBS.out.lt).cell 0))
      have HRA := Lib.hid (fun W (h : Below wr.heap.size wr W) => ((hrd.below hbel (Nat.le_refl _)).below h hbel.size).more (Nat.le_trans hbel.size h.size))
      have HRU := Lib.hid (fun W (h : Below wr.heap.size wr W) => (HU2.out.below h).row hlt)
      obtain ⟨row, hrw⟩ : ∃ row, [ls[i], rowL unitM 0 n i].flatten = row := ⟨_, rfl⟩
      have HROWI := Lib.hid (show ∀ full : List UInt8, full.take d = row → ∀ j, j < d → (u8A full)[j]? = some (.int .u8 ((f i j).toNat : Int)) from fun full hfu j hj => by
        rw [← HFE.out]
        rw [← HD.out] at hfu hj
        exact beside_row hil HLA.out (by rw [hfu, hrw]) hj)
      have HCAT := Lib.hid (fun g W (hR : RdR W W.heap.size (some ⟨g, 0, none⟩) [ls[i], rowL unitM 0 n i]) (h : Below wr.heap.size wr W) => (show Calls Try.prog 41 #[.slice (some ⟨g, 0, none⟩) 2 2] W fun e w' => ∃ v, e = .returned v ∧ OwnB w' wr.heap.size 5 v d row ∧ Below W.heap.size W w' from by
        have := concat_any (some ⟨g, 0, none⟩) 2 2 d W.heap.size [ls[i], rowL unitM 0 n i] W rfl (by simp [HLA.out, rowL_len]; exact HD.out) (by omega) (by omega) (by omega) (Nat.le_refl _) hR
        rw [hrw] at this
        exact this.mono fun e w' ⟨v, he, ho, hq⟩ => ⟨v, he, ho.less h.size, hq⟩))
      obtain ⟨β, γ, hG⟩ := HB.out
      have HG := Lib.hid hG
      generalize ls[i] = la at *
      generalize rowL unitM 0 n i = lu at *
      obtain ⟨bu, hbu⟩ : ∃ z, βu i = z := ⟨_, rfl⟩
      obtain ⟨cu, hcu⟩ : ∃ z, γu i = z := ⟨_, rfl⟩
      rw [hbu] at hhu HRU
      rw [hcu] at hhu hlcu hcmu
      clear hc hrd hil hrw HB hG HU2 hbu hcu
      go_wp2_with fail
      refine wp_region_loose1 13 4 (fun i => false) (promises [.is (.pointer (some ⟨s, 0, none⟩)), .is (.pointer (some ⟨s, 0, none⟩)), .is (.pointer (some ⟨s, 0, none⟩)), .is (.pointer (some ⟨s, 0, none⟩)), .is v, .is (.slice (some ⟨ba, oa, none⟩) n c), .is (.int .i64 (i : Int)), .is (.pointer (some ⟨ba, oa + i, none⟩)), .is (.slice A1 n c1), .is (.slice (some ⟨bu, 0, none⟩) n cu), .rows 2 [la, lu], .own wr.heap.size d row, .one wr.heap.size d row]) _ (.pointer (some ⟨s, 0, none⟩)) (by kernel_rfl) rfl (by kernel_rfl) (by kernel_rfl) rfl (.inl ⟨wanted_none rfl, fun w => BigFrame.run_move (.tmp 4) rfl w⟩) (fun _ _ => rfl) (fun _ _ _ h => h) (fun i v w w' h hb => Spec.keep h hb) ⟨?_, ?_, ?_, ?_, ?_, ?_, ?_, ?_, ?_, ?_, ?_, ?_, ?_, trivial⟩ ?_
      · refine StepOKl.of ?_
        intro ac w hb hu hk
        refine ⟨wanted_none rfl, ?_⟩
        have e4 : ac.eval (.tmp 4) = .pointer (some ⟨s, 0, none⟩) := hu.is (t := 4) (by kernel_rfl)
        exact step_value (BigFrame.run_move (.tmp 4) rfl w) (Below.refl _ _) e4
      · refine StepOKl.of ?_
        intro ac w hb hu hk
        refine ⟨wanted_none rfl, ?_⟩
        have e4 : ac.eval (.tmp 4) = .pointer (some ⟨s, 0, none⟩) := hu.is (t := 4) (by kernel_rfl)
        exact step_value (BigFrame.run_move (.tmp 4) rfl w) (Below.refl _ _) e4
      · refine StepOKl.of ?_
        intro ac w hb hu hk
        refine ⟨wanted_none rfl, ?_⟩
        have e24 : ac.eval (.tmp 24) = (.pointer (some ⟨s, 0, none⟩)) := (hk ⟨1, .data⟩ (by simp) rfl).is rfl rfl
        refine step_value (w' := w) (v := (.pointer (some ⟨s, 0, none⟩))) ?_ (Below.refl _ _) rfl
        generalize ac.eval = ρ at e24 ⊢
        go_simp
      · refine StepOKl.of ?_
        intro ac w hb hu hk
        refine ⟨wanted_none rfl, ?_⟩
        have e25 : ac.eval (.tmp 25) = (.pointer (some ⟨s, 0, none⟩)) := (hk ⟨2, .data⟩ (by simp) rfl).is rfl rfl
        refine step_value (w' := w) (v := (.pointer (some ⟨s, 0, none⟩))) ?_ (Below.refl _ _) rfl
        generalize ac.eval = ρ at e25 ⊢
        go_simp
      · refine StepOKl.of ?_
        intro ac w hb hu hk
        refine ⟨wanted_none rfl, ?_⟩
        have e26 : ac.eval (.tmp 26) = (.pointer (some ⟨s, 0, none⟩)) := (hk ⟨3, .data⟩ (by simp) rfl).is rfl rfl
        have hcx := HVC.out w hb
        refine step_value (w' := w) (v := v) ?_ (Below.refl _ _) rfl
        generalize ac.eval = ρ at e26 ⊢
        go_simp
      · refine StepOKl.of ?_
        intro ac w hb hu hk
        refine ⟨wanted_none rfl, ?_⟩
        have e0 : ac.eval (.tmp 0) = .slice (some ⟨ba, oa, none⟩) n c := hu.is (t := 0) (by kernel_rfl)
        exact step_value (BigFrame.run_move (.tmp 0) rfl w) (Below.refl _ _) e0
      · refine StepOKl.of ?_
        intro ac w hb hu hk
        refine ⟨wanted_none rfl, ?_⟩
        have e5 : ac.eval (.tmp 5) = .int .i64 (i : Int) := hu.is (t := 5) (by kernel_rfl)
        exact step_value (BigFrame.run_move (.tmp 5) rfl w) (Below.refl _ _) e5
      · refine StepOKl.of ?_
        intro ac w hb hu hk
        refine ⟨wanted_none rfl, ?_⟩
        have e28 : ac.eval (.tmp 28) = (.slice (some ⟨ba, oa, none⟩) n c) := (hk ⟨5, .data⟩ (by simp) rfl).is rfl rfl
        have e29 : ac.eval (.tmp 29) = (.int .i64 (i : Int)) := (hk ⟨6, .data⟩ (by simp) rfl).is rfl rfl
        refine step_value (w' := w) (v := (.pointer (some ⟨ba, oa + i, none⟩))) ?_ (Below.refl _ _) rfl
        generalize ac.eval = ρ at e28 e29 ⊢
        go_simp
      · refine StepOKl.of ?_
        intro ac w hb hu hk
        refine ⟨wanted_none rfl, ?_⟩
        have e30 : ac.eval (.tmp 30) = (.pointer (some ⟨ba, oa + i, none⟩)) := (hk ⟨7, .data⟩ (by simp) rfl).is rfl rfl
        have hcx := HAC.out w hb
        refine step_value (w' := w) (v := .slice A1 n c1) ?_ (Below.refl _ _) rfl
        generalize ac.eval = ρ at e30 ⊢
        go_simp
      · refine StepOKl.of ?_
        intro ac w hb hu hk
        refine ⟨wanted_none rfl, ?_⟩
        have e6 : ac.eval (.tmp 6) = .slice (some ⟨bu, 0, none⟩) n cu := hu.is (t := 6) (by kernel_rfl)
        exact step_value (BigFrame.run_move (.tmp 6) rfl w) (Below.refl _ _) e6
      · refine StepOKl.of ?_
        intro ac w hb hu hk
        refine ⟨wanted_none rfl, ?_⟩
        have e31 : ac.eval (.tmp 31) = (.slice A1 n c1) := (hk ⟨8, .data⟩ (by simp) rfl).is rfl rfl
        have e32 : ac.eval (.tmp 32) = (.slice (some ⟨bu, 0, none⟩) n cu) := (hk ⟨9, .data⟩ (by simp) rfl).is rfl rfl
        refine step_value (w' := w.alloc (.cells #[.slice A1 n c1, .slice (some ⟨bu, 0, none⟩) n cu] 22)) (v := .slice (some ⟨w.heap.size, 0, none⟩) 2 2) ?_ ((Below.refl _ _).alloc (Nat.le_refl _) _) ⟨w.heap.size, rfl, rdr_pair w _ _ HLA.out hlc1 hcm1 HLU.out hlcu hcmu (HRA.out w hb) (HRU.out w hb)⟩
        generalize ac.eval = ρ at e31 e32 ⊢
        go_simp
      · refine StepOKl.of ?_
        intro ac w hb hu hk
        refine ⟨wanted_none rfl, ?_⟩
        have e33 : ∃ g, ac.eval (.tmp 33) = .slice (some ⟨g, 0, none⟩) 2 2 ∧ RdR w w.heap.size (some ⟨g, 0, none⟩) [la, lu] := (hk ⟨10, .data⟩ (by simp) rfl).is rfl rfl
        obtain ⟨g, eg, hr⟩ := e33
        have ef : ac.eval (.func 41) = .func (.func 41) #[] #[] := rfl
        refine step_enter (f := 41) (args := #[.slice (some ⟨g, 0, none⟩) 2 2]) ?_ ?_
        · generalize ac.eval = ρ at eg ef ⊢
          go_simp
        · exact (HCAT.out g w hr hb).mono fun e w' ⟨v, he, ho, hq⟩ => by
            obtain ⟨X, c, hv, hc⟩ := own_slice ho.own
            exact ⟨v, he, ⟨X, c, hv, hc, ho⟩, hq⟩
      · refine StepOKl.of ?_
        intro ac w hb hu hk
        refine ⟨wanted_none rfl, ?_⟩
        have e34 : ∃ X c, ac.eval (.tmp 34) = .slice X d c ∧ d ≤ c ∧ OwnB w wr.heap.size 5 (ac.eval (.tmp 34)) d row := (hk ⟨11, .data⟩ (by simp) rfl).is rfl rfl
        obtain ⟨X, xc, eX, hxc, hX⟩ := e34
        have hX : OwnB w wr.heap.size 5 (.slice X d xc) d row := by rw [← eX]; exact hX
        have hal : Below w.heap.size w (w.alloc (.cells #[.slice X d xc] 22)) := (Below.refl _ _).alloc (Nat.le_refl _) _
        refine step_value (w' := w.alloc (.cells #[.slice X d xc] 22)) (v := .slice (some ⟨w.heap.size, 0, none⟩) 1 1) ?_ hal ⟨w.heap.size, rfl, X, xc, heap_alloc_new w _, hxc, hX.on hal⟩
        generalize ac.eval = ρ at eX ⊢
        go_simp
      · intro ac w' hb hu hk hap
        obtain ⟨_, h23, rfl⟩ := (hk 0 (by decide)).put rfl rfl
        obtain ⟨_, h24, rfl⟩ := (hk 1 (by decide)).put rfl rfl
        obtain ⟨_, h25, rfl⟩ := (hk 2 (by decide)).put rfl rfl
        obtain ⟨_, h26, rfl⟩ := (hk 3 (by decide)).put rfl rfl
        obtain ⟨_, h27, rfl⟩ := (hk 4 (by decide)).put rfl rfl
        obtain ⟨_, h28, rfl⟩ := (hk 5 (by decide)).put rfl rfl
        obtain ⟨_, h29, rfl⟩ := (hk 6 (by decide)).put rfl rfl
        obtain ⟨_, h30, rfl⟩ := (hk 7 (by decide)).put rfl rfl
        obtain ⟨_, h31, rfl⟩ := (hk 8 (by decide)).put rfl rfl
        obtain ⟨_, h32, rfl⟩ := (hk 9 (by decide)).put rfl rfl
        obtain ⟨_, h33, ⟨g33, rfl, hG33⟩⟩ := (hk 10 (by decide)).put rfl rfl
        obtain ⟨_, h34, ⟨X34, xc34, rfl, hxc34, hX34⟩⟩ := (hk 11 (by decide)).put rfl rfl
        obtain ⟨_, h35, ⟨g35, rfl, X35, xc35, hG35, hxc35, hX35⟩⟩ := (hk 12 (by decide)).put rfl rfl
        clear hap
        have hF : AllPuts ac.tmps ((23, _) :: (24, _) :: (25, _) :: (26, _) :: (27, _) :: (28, _) :: (29, _) :: (30, _) :: (31, _) :: (32, _) :: (33, _) :: (34, _) :: (35, _) :: []) := ⟨h23, h24, h25, h26, h27, h28, h29, h30, h31, h32, h33, h34, h35, trivial⟩
        obtain rfl := frame_puts hu (by kernel_rfl) hF
        simp only [puts, Act.put, List.setIfInBounds_toArray, List.set_cons_zero, List.set_cons_succ, List.drop_succ_cons, List.drop_zero]
        clear hk hu hF h23 h24 h25 h26 h27 h28 h29 h30 h31 h32 h33 h34 h35
        clear hX34
        rcases hX35.2 with ⟨_, e0⟩ | ⟨g5, cap5, full5, e5, hg5, hB5, hk5, hm5, hf5, ht5⟩
        · exact absurd e0 (by omega)
        injection e5 with e5a _ e5b
        subst e5a e5b
        have HB5 := Lib.hid hB5
        have HG5 := Lib.hid (HG.out.below hb)
        have HS5 := Lib.hid (HBS.out.below hb HBS.out.lt)
        have HBUT5 := Lib.hid (HBUT.out.on hb)
        have hbel5 : Below w.heap.size w w' := hbel.trans (hb.mono hbel.size)
        have hs5 : g3 ≤ w'.heap.size := HBUT5.out.1
        have hs0 : w.heap.size ≤ w'.heap.size := hbel5.size
        have HROWF := Lib.hid (HROWI.out full5 ht5)
        clear hX35 hB5 ht5
        go_wp2_with (at_builtin; refine wpList_append_one' rfl _ _ 29 rfl g3 22 i1 Try.underlying29 hi' hz0' hz1' hz2' _ i (hdrs β γ i d) rfl HG5.out.own g35 (some ⟨g5, 0, none⟩) d xc35 hG35 rfl (by omega) hs5 ?_)
        intro v7 w7 hown7 hgr7
        obtain ⟨A7, c7, rfl, _⟩ := own_caps hown7
        have hown6 := HG5.out.own
        have hkeep : ∀ b rc (T : TypeId), 22 ≠ T → Blk w' b rc T → Blk w7 b rc T := fun b rc T hT h => grown_apart hown6 hgr7 h hT
        have HS7 := Lib.hid (hkeep _ _ _ (by decide) HS5.out)
        have HB7 := Lib.hid (HG.out.snoc (f := f) hown7 (fun b rc h => hkeep b rc _ tys_ne (h.below hb h.lt)) (Nat.le_trans HBUT.out.1 hg5) hk5 hm5 (by omega) (hkeep _ _ _ tys_ne HB5.out) HROWF.out)
        have HBUT7 := Lib.hid (HBUT5.out.grown hgr7 (fun k hk => (HG5.out.own.lt k hk).1))
        have hbel7 : Below w.heap.size w w7 := hbel5.grown hgr7 (by omega) (fun k hk => Nat.le_trans hg3 (HG5.out.own.lt k hk).1)
        have hcs := HS7.out.cell 0
        have hfs := HS7.out.frozen 0
        have HB8 := Lib.hid (HB7.out.low hsg 0 (.slice A7 (i + 1) c7))
        have HBUT8 := Lib.hid (HBUT7.out.set 0 (.slice A7 (i + 1) c7))
        have HS8 := Lib.hid (show Blk (w7.setCell ⟨s, 0, none⟩ (.slice A7 (i + 1) c7)) s #[.slice A7 (i + 1) c7, .func (.func 70) #[.pointer (some ⟨fd, 0, none⟩)] #[], .func (.func 71) #[.pointer (some ⟨fd, 0, none⟩)] #[]] 102 from HS7.out.set 0 (.slice A7 (i + 1) c7))
        have hbel8 : Below w.heap.size w (w7.setCell ⟨s, 0, none⟩ (.slice A7 (i + 1) c7)) := hbel7.setCell hsw _
        obtain ⟨o8, ho8⟩ : ∃ o, w7.cell? ⟨s, 0, none⟩ = some o := ⟨_, hcs⟩
        clear hG35 hown6 hkeep hown7 hgr7 hcs HG HBS HBUT HVC HAC HRA HRU HCAT HROWI HB5 HS7 HB7 HBUT7 HG5 HS5 HBUT5 hb hbel
        go_wp2_with fail
        go_roundw
        case rel => exact ⟨i + 1, _, by omega, by go_num, hbel8, HBUT8, HS8, HB8⟩
        case measure => simp [intOf]; omega
    · obtain rfl : i = n := by omega
      obtain ⟨g, cap, β, γ, rfl, hc1, hc2, hM⟩ := HB.out.opened (by omega)
      have HM := Lib.hid (hM.more hg3)
      have HF4 := Lib.hid (FdAt.but HF3.out HBUT.out (by omega) (by omega))
      have HSW := Lib.hid (show Swp wr w.heap.size s fd g β γ i d cap f from ⟨HBS.out, HF4.out, HM.out⟩)
      have hni : ¬ (i : Int) < (i : Int) := by omega
      clear HB hM HBUT HBS HM HF4
      go_wp2_with fail
      go_ret
      exact ⟨s, rfl, ⟨fd, g, β, γ, cap, hc1, hsw, HSW.out⟩, hbel⟩
end Go.Proofs.Ytdaofffkbnkljaa
namespace Go.Proofs.Ytdaofffkbnkljaa
open Go.RowKit

theorem Kept.on {w w' w'' : World} {B : Nat} (h : Kept B w w') (hb : Below w'.heap.size w' w'') (hB : B ≤ w'.heap.size := by omega) : Kept B w w'' :=
  ⟨h.1.trans (hb.mono hB), Nat.le_trans h.2.1 hb.size, fun b rc T h1 h2 h3 => (h.2.2 b rc T h1 h2 h3).below hb (h.2.2 b rc T h1 h2 h3).lt⟩
/-- Row c, its first k bytes times s. -/
theorem scK_step' (c k : Nat) (s : UInt8) (f : Mx) (a b : Nat) : putM c k (mulU s (f c k)) (scK c k s f) a b = scK c (k + 1) s f a b := by
  rw [mulU_comm]; exact scK_step c k s f a b
set_option maxRecDepth 100000 in
set_option maxHeartbeats 4000000 in
theorem scale_any {w : World} {B s fd g n d cap c : Nat} {β γ : Nat → Nat} {f : Mx} (h : Swp w B s fd g β γ n d cap f) (hc : c < n) (hd : c < d) (hd32 : d ≤ 32) :
    Calls Try.prog 74 #[.pointer (some ⟨s, 0, none⟩), .int .i64 (c : Int)] w fun e w' => e = .returned (.bool true) ∧ Swp w' B s fd g β γ n d cap (scM c (ivU (f c c)) f) ∧ Kept B w w' := by
  have h0 := h.rows
  have h2 := h.inverse
  have hh := h.mx.header hc
  have hby := h.mx.byte hc hd
  have hci : (c : Int) < (n : Int) := by omega
  have hcd : (c : Int) < (d : Int) := by omega
  have H := Lib.hid h
  have HB := Lib.hid (show B ≤ w.heap.size from Nat.le_trans h.mx.base (Nat.le_of_lt (by obtain ⟨cur, h1, _⟩ := h.mx.head; exact h1.lt)))
  have HI := Lib.hid (fun q => finv_any fd (f c c) (w.drewN q) (h.fld.drewN q))
  obtain ⟨y, hy⟩ : ∃ y, ivU (f c c) = y := ⟨_, rfl⟩
  rw [hy] at HI ⊢
  generalize ((f c c).toNat : Int) = x at *
  obtain ⟨bc, hbc⟩ : ∃ z, β c = z := ⟨_, rfl⟩
  obtain ⟨cc, hcc⟩ : ∃ z, γ c = z := ⟨_, rfl⟩
  have HBC := Lib.hid hbc
  rw [hbc] at hh hby
  rw [hcc] at hh
  clear h hy hbc hcc
  go_enter Try.func74, Try.ntmps74
  go_wp2_with fail
  go_quiet ((go_at_call 71; (with_reducible refine (HI.out _).mono ?_; exact fun e w'' h => ⟨h.1, _, h.2.symm⟩)))
  go_wp2_with fail
  have HK0 := Lib.hid ((Kept.refl B w).drewN nq)
  have HM0 := Lib.hid ((H.out.mx.drewN nq).congr (f' := scK c 0 y f) fun a b _ _ => by unfold scK; rw [if_neg (by omega)])
  have HS := Lib.hid (fun W (k : Kept B w W) f' (m : MxW W B g β γ n d f') => H.out.kept k m)
  have HT := Lib.hid (fun W (k : Kept B w W) => (H.out.kept k (f' := f) (β' := β) (γ' := γ)))
  clear h0 h2 hh hby HI
  generalize w.drewN nq = w1 at *
  go_loopw [26] (fun t wr => ∃ j : Nat, j ≤ d ∧ t = .int .i64 j ∧ Hid (Kept B w wr) ∧ Hid (MxW wr B g β γ n d (scK c j y f))) (fun t _ => d - (intOf t).toNat)
  case atStart => exact ⟨0, by omega, rfl, HK0, HM0⟩
  case round =>
    clear HK0 HM0
    obtain ⟨j, hj, rfl, HK, HM⟩ := hrel
    by_cases hjd : j < d
    · have hji : (j : Int) < (d : Int) := by omega
      have HSW := Lib.hid (HS.out wr HK.out _ HM.out)
      have HTM := Lib.hid (fun w' (hb : Below wr.heap.size wr w') => (HSW.out.kept ((Kept.refl B wr).on hb (Nat.le_trans HB.out HK.out.2.1)) (HM.out.below hb)).times)
      have hB2 : B ≤ wr.heap.size := Nat.le_trans HB.out HK.out.2.1
      have hzz : scK c j y f c j = f c j := if_neg (by omega)
      have HZB := Lib.hid (fun w' (hb : Below wr.heap.size wr w') => (show w'.cell? ⟨bc, j, none⟩ = some (.int .u8 ((f c j).toNat : Int)) by
        have := (HM.out.below hb).byte hc hjd
        rwa [hzz, HBC.out] at this))
      have HNX := Lib.hid (show ∀ a b, a < n → b < d → putM c j (mulU y (f c j)) (scK c j y f) a b = scK c (j + 1) y f a b from fun a b _ _ => scK_step' c j y f a b)
      have HMU := Lib.hid (fun w' (hb : Below wr.heap.size wr w') => fmul_any fd y (f c j) w' (HSW.out.fld.below hb HSW.out.fld.lt))
      clear hzz
      generalize mulU y (f c j) = zy at *
      generalize f c j = z at *
      go_wp2_with fail
      refine wp_region_loose 13 1 (fun i => false) (promises [.is (.slice (some ⟨bc, 0, none⟩) d cc), .is (.int .i64 (j : Int)), .is (.pointer (some ⟨s, 0, none⟩)), .is (.pointer (some ⟨s, 0, none⟩)), .is (.pointer (some ⟨s, 1, none⟩)), .is (.func (.func 70) #[.pointer (some ⟨fd, 0, none⟩)] #[]), .is (.int .u8 (y.toNat : Int)), .is (.slice (some ⟨bc, 0, none⟩) d cc), .is (.int .i64 (j : Int)), .is (.pointer (some ⟨bc, j, none⟩)), .is (.int .u8 (z.toNat : Int)), .is (.int .u8 (zy.toNat : Int)), .is (.pointer (some ⟨bc, j, none⟩))]) (by kernel_rfl) rfl (by kernel_rfl) (fun i v w w' h hb => Spec.keep h hb) ⟨?_, ?_, ?_, ?_, ?_, ?_, ?_, ?_, ?_, ?_, ?_, ?_, ?_, trivial⟩ ?_
      · refine StepOKl.of ?_
        intro ac w hb hu hk
        refine ⟨wanted_none rfl, ?_⟩
        have e5 : ac.eval (.tmp 5) = .slice (some ⟨bc, 0, none⟩) d cc := hu.is (t := 5) (by kernel_rfl)
        exact step_value (BigFrame.run_move (.tmp 5) rfl w) (Below.refl _ _) e5
      · refine StepOKl.of ?_
        intro ac w hb hu hk
        refine ⟨wanted_none rfl, ?_⟩
        have e7 : ac.eval (.tmp 7) = .int .i64 (j : Int) := hu.is (t := 7) (by kernel_rfl)
        exact step_value (BigFrame.run_move (.tmp 7) rfl w) (Below.refl _ _) e7
      · refine StepOKl.of ?_
        intro ac w hb hu hk
        refine ⟨wanted_none rfl, ?_⟩
        have e0 : ac.eval (.tmp 0) = .pointer (some ⟨s, 0, none⟩) := hu.is (t := 0) (by kernel_rfl)
        exact step_value (BigFrame.run_move (.tmp 0) rfl w) (Below.refl _ _) e0
      · refine StepOKl.of ?_
        intro ac w hb hu hk
        refine ⟨wanted_none rfl, ?_⟩
        have e31 : ac.eval (.tmp 31) = (.pointer (some ⟨s, 0, none⟩)) := (hk ⟨2, .data⟩ (by simp) rfl).is rfl rfl
        refine step_value (w' := w) (v := (.pointer (some ⟨s, 0, none⟩))) ?_ (Below.refl _ _) rfl
        generalize ac.eval = ρ at e31 ⊢
        go_simp
      · refine StepOKl.of ?_
        intro ac w hb hu hk
        refine ⟨wanted_none rfl, ?_⟩
        have e32 : ac.eval (.tmp 32) = (.pointer (some ⟨s, 0, none⟩)) := (hk ⟨3, .data⟩ (by simp) rfl).is rfl rfl
        refine step_value (w' := w) (v := (.pointer (some ⟨s, 1, none⟩))) ?_ (Below.refl _ _) rfl
        generalize ac.eval = ρ at e32 ⊢
        go_simp
      · refine StepOKl.of ?_
        intro ac w hb hu hk
        refine ⟨wanted_none rfl, ?_⟩
        have e33 : ac.eval (.tmp 33) = (.pointer (some ⟨s, 1, none⟩)) := (hk ⟨4, .data⟩ (by simp) rfl).is rfl rfl
        have hcx := HTM.out w hb
        refine step_value (w' := w) (v := .func (.func 70) #[.pointer (some ⟨fd, 0, none⟩)] #[]) ?_ (Below.refl _ _) rfl
        generalize ac.eval = ρ at e33 ⊢
        go_simp
      · refine StepOKl.of ?_
        intro ac w hb hu hk
        refine ⟨wanted_none rfl, ?_⟩
        have e6 : ac.eval (.tmp 6) = .int .u8 (y.toNat : Int) := hu.is (t := 6) (by kernel_rfl)
        exact step_value (BigFrame.run_move (.tmp 6) rfl w) (Below.refl _ _) e6
      · refine StepOKl.of ?_
        intro ac w hb hu hk
        refine ⟨wanted_none rfl, ?_⟩
        have e5 : ac.eval (.tmp 5) = .slice (some ⟨bc, 0, none⟩) d cc := hu.is (t := 5) (by kernel_rfl)
        exact step_value (BigFrame.run_move (.tmp 5) rfl w) (Below.refl _ _) e5
      · refine StepOKl.of ?_
        intro ac w hb hu hk
        refine ⟨wanted_none rfl, ?_⟩
        have e7 : ac.eval (.tmp 7) = .int .i64 (j : Int) := hu.is (t := 7) (by kernel_rfl)
        exact step_value (BigFrame.run_move (.tmp 7) rfl w) (Below.refl _ _) e7
      · refine StepOKl.of ?_
        intro ac w hb hu hk
        refine ⟨wanted_none rfl, ?_⟩
        have e36 : ac.eval (.tmp 36) = (.slice (some ⟨bc, 0, none⟩) d cc) := (hk ⟨7, .data⟩ (by simp) rfl).is rfl rfl
        have e37 : ac.eval (.tmp 37) = (.int .i64 (j : Int)) := (hk ⟨8, .data⟩ (by simp) rfl).is rfl rfl
        refine step_value (w' := w) (v := (.pointer (some ⟨bc, j, none⟩))) ?_ (Below.refl _ _) rfl
        generalize ac.eval = ρ at e36 e37 ⊢
        go_simp
      · refine StepOKl.of ?_
        intro ac w hb hu hk
        refine ⟨wanted_none rfl, ?_⟩
        have e38 : ac.eval (.tmp 38) = (.pointer (some ⟨bc, j, none⟩)) := (hk ⟨9, .data⟩ (by simp) rfl).is rfl rfl
        have hcx := HZB.out w hb
        refine step_value (w' := w) (v := .int .u8 (z.toNat : Int)) ?_ (Below.refl _ _) rfl
        generalize ac.eval = ρ at e38 ⊢
        go_simp
      · refine StepOKl.of ?_
        intro ac w hb hu hk
        refine ⟨wanted_none rfl, ?_⟩
        have e34 : ac.eval (.tmp 34) = (.func (.func 70) #[.pointer (some ⟨fd, 0, none⟩)] #[]) := (hk ⟨5, .data⟩ (by simp) rfl).is rfl rfl
        have e35 : ac.eval (.tmp 35) = (.int .u8 (y.toNat : Int)) := (hk ⟨6, .data⟩ (by simp) rfl).is rfl rfl
        have e39 : ac.eval (.tmp 39) = (.int .u8 (z.toNat : Int)) := (hk ⟨10, .data⟩ (by simp) rfl).is rfl rfl
        refine step_enter (f := 70) (args := #[.pointer (some ⟨fd, 0, none⟩), .int .u8 (y.toNat : Int), .int .u8 (z.toNat : Int)]) ?_ ?_
        · generalize ac.eval = ρ at e34 e35 e39 ⊢
          go_simp
        · exact (HMU.out w hb).mono fun e w' ⟨he, q, hq⟩ => ⟨_, he, rfl, by rw [hq]; exact below_drewN (Below.refl _ _) q⟩
      · refine StepOKl.of ?_
        intro ac w hb hu hk
        refine ⟨wanted_none rfl, ?_⟩
        have e29 : ac.eval (.tmp 29) = (.slice (some ⟨bc, 0, none⟩) d cc) := (hk ⟨0, .data⟩ (by simp) rfl).is rfl rfl
        have e30 : ac.eval (.tmp 30) = (.int .i64 (j : Int)) := (hk ⟨1, .data⟩ (by simp) rfl).is rfl rfl
        refine step_value (w' := w) (v := (.pointer (some ⟨bc, j, none⟩))) ?_ (Below.refl _ _) rfl
        generalize ac.eval = ρ at e29 e30 ⊢
        go_simp
      · intro ac w' hb hu hk hap
        obtain ⟨_, h29, rfl⟩ := (hk 0 (by decide)).put rfl rfl
        obtain ⟨_, h30, rfl⟩ := (hk 1 (by decide)).put rfl rfl
        obtain ⟨_, h31, rfl⟩ := (hk 2 (by decide)).put rfl rfl
        obtain ⟨_, h32, rfl⟩ := (hk 3 (by decide)).put rfl rfl
        obtain ⟨_, h33, rfl⟩ := (hk 4 (by decide)).put rfl rfl
        obtain ⟨_, h34, rfl⟩ := (hk 5 (by decide)).put rfl rfl
        obtain ⟨_, h35, rfl⟩ := (hk 6 (by decide)).put rfl rfl
        obtain ⟨_, h36, rfl⟩ := (hk 7 (by decide)).put rfl rfl
        obtain ⟨_, h37, rfl⟩ := (hk 8 (by decide)).put rfl rfl
        obtain ⟨_, h38, rfl⟩ := (hk 9 (by decide)).put rfl rfl
        obtain ⟨_, h39, rfl⟩ := (hk 10 (by decide)).put rfl rfl
        obtain ⟨_, h40, rfl⟩ := (hk 11 (by decide)).put rfl rfl
        obtain ⟨_, h41, rfl⟩ := (hk 12 (by decide)).put rfl rfl
        clear hap
        have hF : AllPuts ac.tmps ((29, _) :: (30, _) :: (31, _) :: (32, _) :: (33, _) :: (34, _) :: (35, _) :: (36, _) :: (37, _) :: (38, _) :: (39, _) :: (40, _) :: (41, _) :: []) := ⟨h29, h30, h31, h32, h33, h34, h35, h36, h37, h38, h39, h40, h41, trivial⟩
        obtain rfl := frame_puts hu (by kernel_rfl) hF
        simp only [puts, Act.put, List.setIfInBounds_toArray, List.set_cons_zero, List.set_cons_succ, List.drop_succ_cons, List.drop_zero]
        clear hk hu hF h29 h30 h31 h32 h33 h34 h35 h36 h37 h38 h39 h40 h41
        have hM := HM.out.below hb
        have hfr := hM.byteFree hc j
        have hbo := hM.byte hc hjd
        have HK2 := Lib.hid (hM.keptByte (HK.out.on hb) hc j (.int .u8 (zy.toNat : Int)))
        have HST := Lib.hid ((hM.store hc hjd zy).congr HNX.out)
        rw [HBC.out] at hfr hbo HK2 HST
        clear hM HM HK hb HTM HZB HMU HNX
        go_wp2_with fail
        go_roundw
        case rel => exact ⟨j + 1, by omega, by go_num, HK2, HST⟩
        case measure => simp [intOf]; omega
    · obtain rfl : j = d := by omega
      have HM2 := Lib.hid (HM.out.congr fun a b ha hb => scK_all c j y f a b ha hb)
      have HS2 := Lib.hid (HS.out wr HK.out _ HM2.out)
      have hni : ¬ (j : Int) < (j : Int) := by omega
      clear HM HM2 HS
      go_wp2_with fail
      go_ret
      exact ⟨rfl, HS2.out, HK.out⟩
end Go.Proofs.Ytdaofffkbnkljaa
namespace Go.Proofs.Ytdaofffkbnkljaa
open Go.RowKit

set_option maxRecDepth 100000 in
set_option maxHeartbeats 4000000 in
theorem addTimes_any {w : World} {B s fd g n d cap c i : Nat} {β γ : Nat → Nat} {f : Mx} (x : UInt8) (h : Swp w B s fd g β γ n d cap f) (hc : c < n) (hi : i < n) (hne : c ≠ i) (hd32 : d ≤ 32) :
    Calls Try.prog 81 #[.pointer (some ⟨s, 0, none⟩), .slice (some ⟨β i, 0, none⟩) d (γ i), .int .u8 (x.toNat : Int), .slice (some ⟨β c, 0, none⟩) d (γ c)] w fun e w' => e = .returned (.tuple #[]) ∧ Swp w' B s fd g β γ n d cap (adK c i d x f) ∧ Kept B w w' := by
  have HB := Lib.hid (show B ≤ w.heap.size from Nat.le_trans h.mx.base (Nat.le_of_lt (by obtain ⟨cur, h1, _⟩ := h.mx.head; exact h1.lt)))
  have HK0 := Lib.hid (Kept.refl B w)
  have HM0 := Lib.hid (h.mx.congr (f' := adK c i 0 x f) fun a b _ _ => by unfold adK; rw [if_neg (by omega)])
  have HS := Lib.hid (fun W (k : Kept B w W) f' (m : MxW W B g β γ n d f') => h.kept k m)
  have HNE := Lib.hid hne
  obtain ⟨bc, hbc⟩ : ∃ z, β c = z := ⟨_, rfl⟩
  obtain ⟨cc, hcc⟩ : ∃ z, γ c = z := ⟨_, rfl⟩
  obtain ⟨bi, hbi⟩ : ∃ z, β i = z := ⟨_, rfl⟩
  obtain ⟨ci, hci⟩ : ∃ z, γ i = z := ⟨_, rfl⟩
  rw [hbc, hcc, hbi, hci]
  have HBC := Lib.hid hbc
  have HBI := Lib.hid hbi
  clear h hne hbc hcc hbi hci
  go_enter Try.func81, Try.ntmps81
  go_wp2_with fail
  go_loopw [11] (fun t wr => ∃ j : Nat, j ≤ d ∧ t = .int .i64 j ∧ Hid (Kept B w wr) ∧ Hid (MxW wr B g β γ n d (adK c i j x f))) (fun t _ => d - (intOf t).toNat)
  case atStart => exact ⟨0, by omega, rfl, HK0, HM0⟩
  case round =>
    clear HK0 HM0
    obtain ⟨j, hj, rfl, HK, HM⟩ := hrel
    by_cases hjd : j < d
    · have hji : (j : Int) < (d : Int) := by omega
      have HSW := Lib.hid (HS.out wr HK.out _ HM.out)
      have HTM := Lib.hid (fun w' (hb : Below wr.heap.size wr w') => (HSW.out.kept ((Kept.refl B wr).on hb (Nat.le_trans HB.out HK.out.2.1)) (HM.out.below hb)).times)
      have hB2 : B ≤ wr.heap.size := Nat.le_trans HB.out HK.out.2.1
      have h1 : adK c i j x f i j = f i j := if_neg (by omega)
      have h2 : adK c i j x f c j = f c j := if_neg (fun e => HNE.out e.1)
      have HZ1 := Lib.hid (fun w' (hb : Below wr.heap.size wr w') => (show w'.cell? ⟨bi, j, none⟩ = some (.int .u8 ((f i j).toNat : Int)) by
        have := (HM.out.below hb).byte hi hjd
        rwa [h1, HBI.out] at this))
      have HZ2 := Lib.hid (fun w' (hb : Below wr.heap.size wr w') => (show w'.cell? ⟨bc, j, none⟩ = some (.int .u8 ((f c j).toNat : Int)) by
        have := (HM.out.below hb).byte hc hjd
        rwa [h2, HBC.out] at this))
      have HNX := Lib.hid (show ∀ a b, a < n → b < d → putM i j (f i j ^^^ mulU x (f c j)) (adK c i j x f) a b = adK c i (j + 1) x f a b from fun a b _ _ => adK_step c i j x f HNE.out a b)
      have HMU := Lib.hid (fun w' (hb : Below wr.heap.size wr w') => fmul_any fd x (f c j) w' (HSW.out.fld.below hb HSW.out.fld.lt))
      have HAD := Lib.hid (fun w' => add_any (f i j) (mulU x (f c j)) w')
      clear h1 h2
      generalize f i j ^^^ mulU x (f c j) = zs at *
      generalize mulU x (f c j) = zy at *
      generalize f i j = z1 at *
      generalize f c j = z2 at *
      go_wp2_with fail
      refine wp_region_loose 18 1 (fun i => false) (promises [.is (.slice (some ⟨bi, 0, none⟩) d ci), .is (.int .i64 (j : Int)), .is (.slice (some ⟨bi, 0, none⟩) d ci), .is (.int .i64 (j : Int)), .is (.pointer (some ⟨bi, j, none⟩)), .is (.int .u8 (z1.toNat : Int)), .is (.pointer (some ⟨s, 0, none⟩)), .is (.pointer (some ⟨s, 0, none⟩)), .is (.pointer (some ⟨s, 1, none⟩)), .is (.func (.func 70) #[.pointer (some ⟨fd, 0, none⟩)] #[]), .is (.int .u8 (x.toNat : Int)), .is (.slice (some ⟨bc, 0, none⟩) d cc), .is (.int .i64 (j : Int)), .is (.pointer (some ⟨bc, j, none⟩)), .is (.int .u8 (z2.toNat : Int)), .is (.int .u8 (zy.toNat : Int)), .is (.int .u8 (zs.toNat : Int)), .is (.pointer (some ⟨bi, j, none⟩))]) (by kernel_rfl) rfl (by kernel_rfl) (fun i v w w' h hb => Spec.keep h hb) ⟨?_, ?_, ?_, ?_, ?_, ?_, ?_, ?_, ?_, ?_, ?_, ?_, ?_, ?_, ?_, ?_, ?_, ?_, trivial⟩ ?_
      · refine StepOKl.of ?_
        intro ac w hb hu hk
        refine ⟨wanted_none rfl, ?_⟩
        have e1 : ac.eval (.tmp 1) = .slice (some ⟨bi, 0, none⟩) d ci := hu.is (t := 1) (by kernel_rfl)
        exact step_value (BigFrame.run_move (.tmp 1) rfl w) (Below.refl _ _) e1
      · refine StepOKl.of ?_
        intro ac w hb hu hk
        refine ⟨wanted_none rfl, ?_⟩
        have e8 : ac.eval (.tmp 8) = .int .i64 (j : Int) := hu.is (t := 8) (by kernel_rfl)
        exact step_value (BigFrame.run_move (.tmp 8) rfl w) (Below.refl _ _) e8
      · refine StepOKl.of ?_
        intro ac w hb hu hk
        refine ⟨wanted_none rfl, ?_⟩
        have e1 : ac.eval (.tmp 1) = .slice (some ⟨bi, 0, none⟩) d ci := hu.is (t := 1) (by kernel_rfl)
        exact step_value (BigFrame.run_move (.tmp 1) rfl w) (Below.refl _ _) e1
      · refine StepOKl.of ?_
        intro ac w hb hu hk
        refine ⟨wanted_none rfl, ?_⟩
        have e8 : ac.eval (.tmp 8) = .int .i64 (j : Int) := hu.is (t := 8) (by kernel_rfl)
        exact step_value (BigFrame.run_move (.tmp 8) rfl w) (Below.refl _ _) e8
      · refine StepOKl.of ?_
        intro ac w hb hu hk
        refine ⟨wanted_none rfl, ?_⟩
        have e16 : ac.eval (.tmp 16) = (.slice (some ⟨bi, 0, none⟩) d ci) := (hk ⟨2, .data⟩ (by simp) rfl).is rfl rfl
        have e17 : ac.eval (.tmp 17) = (.int .i64 (j : Int)) := (hk ⟨3, .data⟩ (by simp) rfl).is rfl rfl
        refine step_value (w' := w) (v := (.pointer (some ⟨bi, j, none⟩))) ?_ (Below.refl _ _) rfl
        generalize ac.eval = ρ at e16 e17 ⊢
        go_simp
      · refine StepOKl.of ?_
        intro ac w hb hu hk
        refine ⟨wanted_none rfl, ?_⟩
        have e18 : ac.eval (.tmp 18) = (.pointer (some ⟨bi, j, none⟩)) := (hk ⟨4, .data⟩ (by simp) rfl).is rfl rfl
        have hcx := HZ1.out w hb
        refine step_value (w' := w) (v := .int .u8 (z1.toNat : Int)) ?_ (Below.refl _ _) rfl
        generalize ac.eval = ρ at e18 ⊢
        go_simp
      · refine StepOKl.of ?_
        intro ac w hb hu hk
        refine ⟨wanted_none rfl, ?_⟩
        have e0 : ac.eval (.tmp 0) = .pointer (some ⟨s, 0, none⟩) := hu.is (t := 0) (by kernel_rfl)
        exact step_value (BigFrame.run_move (.tmp 0) rfl w) (Below.refl _ _) e0
      · refine StepOKl.of ?_
        intro ac w hb hu hk
        refine ⟨wanted_none rfl, ?_⟩
        have e20 : ac.eval (.tmp 20) = (.pointer (some ⟨s, 0, none⟩)) := (hk ⟨6, .data⟩ (by simp) rfl).is rfl rfl
        refine step_value (w' := w) (v := (.pointer (some ⟨s, 0, none⟩))) ?_ (Below.refl _ _) rfl
        generalize ac.eval = ρ at e20 ⊢
        go_simp
      · refine StepOKl.of ?_
        intro ac w hb hu hk
        refine ⟨wanted_none rfl, ?_⟩
        have e21 : ac.eval (.tmp 21) = (.pointer (some ⟨s, 0, none⟩)) := (hk ⟨7, .data⟩ (by simp) rfl).is rfl rfl
        refine step_value (w' := w) (v := (.pointer (some ⟨s, 1, none⟩))) ?_ (Below.refl _ _) rfl
        generalize ac.eval = ρ at e21 ⊢
        go_simp
      · refine StepOKl.of ?_
        intro ac w hb hu hk
        refine ⟨wanted_none rfl, ?_⟩
        have e22 : ac.eval (.tmp 22) = (.pointer (some ⟨s, 1, none⟩)) := (hk ⟨8, .data⟩ (by simp) rfl).is rfl rfl
        have hcx := HTM.out w hb
        refine step_value (w' := w) (v := .func (.func 70) #[.pointer (some ⟨fd, 0, none⟩)] #[]) ?_ (Below.refl _ _) rfl
        generalize ac.eval = ρ at e22 ⊢
        go_simp
      · refine StepOKl.of ?_
        intro ac w hb hu hk
        refine ⟨wanted_none rfl, ?_⟩
        have e2 : ac.eval (.tmp 2) = .int .u8 (x.toNat : Int) := hu.is (t := 2) (by kernel_rfl)
        exact step_value (BigFrame.run_move (.tmp 2) rfl w) (Below.refl _ _) e2
      · refine StepOKl.of ?_
        intro ac w hb hu hk
        refine ⟨wanted_none rfl, ?_⟩
        have e3 : ac.eval (.tmp 3) = .slice (some ⟨bc, 0, none⟩) d cc := hu.is (t := 3) (by kernel_rfl)
        exact step_value (BigFrame.run_move (.tmp 3) rfl w) (Below.refl _ _) e3
      · refine StepOKl.of ?_
        intro ac w hb hu hk
        refine ⟨wanted_none rfl, ?_⟩
        have e8 : ac.eval (.tmp 8) = .int .i64 (j : Int) := hu.is (t := 8) (by kernel_rfl)
        exact step_value (BigFrame.run_move (.tmp 8) rfl w) (Below.refl _ _) e8
      · refine StepOKl.of ?_
        intro ac w hb hu hk
        refine ⟨wanted_none rfl, ?_⟩
        have e25 : ac.eval (.tmp 25) = (.slice (some ⟨bc, 0, none⟩) d cc) := (hk ⟨11, .data⟩ (by simp) rfl).is rfl rfl
        have e26 : ac.eval (.tmp 26) = (.int .i64 (j : Int)) := (hk ⟨12, .data⟩ (by simp) rfl).is rfl rfl
        refine step_value (w' := w) (v := (.pointer (some ⟨bc, j, none⟩))) ?_ (Below.refl _ _) rfl
        generalize ac.eval = ρ at e25 e26 ⊢
        go_simp
      · refine StepOKl.of ?_
        intro ac w hb hu hk
        refine ⟨wanted_none rfl, ?_⟩
        have e27 : ac.eval (.tmp 27) = (.pointer (some ⟨bc, j, none⟩)) := (hk ⟨13, .data⟩ (by simp) rfl).is rfl rfl
        have hcx := HZ2.out w hb
        refine step_value (w' := w) (v := .int .u8 (z2.toNat : Int)) ?_ (Below.refl _ _) rfl
        generalize ac.eval = ρ at e27 ⊢
        go_simp
      · refine StepOKl.of ?_
        intro ac w hb hu hk
        refine ⟨wanted_none rfl, ?_⟩
        have e23 : ac.eval (.tmp 23) = (.func (.func 70) #[.pointer (some ⟨fd, 0, none⟩)] #[]) := (hk ⟨9, .data⟩ (by simp) rfl).is rfl rfl
        have e24 : ac.eval (.tmp 24) = (.int .u8 (x.toNat : Int)) := (hk ⟨10, .data⟩ (by simp) rfl).is rfl rfl
        have e28 : ac.eval (.tmp 28) = (.int .u8 (z2.toNat : Int)) := (hk ⟨14, .data⟩ (by simp) rfl).is rfl rfl
        refine step_enter (f := 70) (args := #[.pointer (some ⟨fd, 0, none⟩), .int .u8 (x.toNat : Int), .int .u8 (z2.toNat : Int)]) ?_ ?_
        · generalize ac.eval = ρ at e23 e24 e28 ⊢
          go_simp
        · exact (HMU.out w hb).mono fun e w' ⟨he, q, hq⟩ => ⟨_, he, rfl, by rw [hq]; exact below_drewN (Below.refl _ _) q⟩
      · refine StepOKl.of ?_
        intro ac w hb hu hk
        refine ⟨wanted_none rfl, ?_⟩
        have e19 : ac.eval (.tmp 19) = (.int .u8 (z1.toNat : Int)) := (hk ⟨5, .data⟩ (by simp) rfl).is rfl rfl
        have e29 : ac.eval (.tmp 29) = (.int .u8 (zy.toNat : Int)) := (hk ⟨15, .data⟩ (by simp) rfl).is rfl rfl
        have ef : ac.eval (.func 79) = .func (.func 79) #[] #[] := rfl
        refine step_enter (f := 79) (args := #[.int .u8 (z1.toNat : Int), .int .u8 (zy.toNat : Int)]) ?_ ?_
        · generalize ac.eval = ρ at e19 e29 ef ⊢
          go_simp
        · exact (HAD.out w).mono fun e w' ⟨he, hq⟩ => ⟨_, he, rfl, by rw [← hq]; exact Below.refl _ _⟩
      · refine StepOKl.of ?_
        intro ac w hb hu hk
        refine ⟨wanted_none rfl, ?_⟩
        have e14 : ac.eval (.tmp 14) = (.slice (some ⟨bi, 0, none⟩) d ci) := (hk ⟨0, .data⟩ (by simp) rfl).is rfl rfl
        have e15 : ac.eval (.tmp 15) = (.int .i64 (j : Int)) := (hk ⟨1, .data⟩ (by simp) rfl).is rfl rfl
        refine step_value (w' := w) (v := (.pointer (some ⟨bi, j, none⟩))) ?_ (Below.refl _ _) rfl
        generalize ac.eval = ρ at e14 e15 ⊢
        go_simp
      · intro ac w' hb hu hk hap
        obtain ⟨_, h14, rfl⟩ := (hk 0 (by decide)).put rfl rfl
        obtain ⟨_, h15, rfl⟩ := (hk 1 (by decide)).put rfl rfl
        obtain ⟨_, h16, rfl⟩ := (hk 2 (by decide)).put rfl rfl
        obtain ⟨_, h17, rfl⟩ := (hk 3 (by decide)).put rfl rfl
        obtain ⟨_, h18, rfl⟩ := (hk 4 (by decide)).put rfl rfl
        obtain ⟨_, h19, rfl⟩ := (hk 5 (by decide)).put rfl rfl
        obtain ⟨_, h20, rfl⟩ := (hk 6 (by decide)).put rfl rfl
        obtain ⟨_, h21, rfl⟩ := (hk 7 (by decide)).put rfl rfl
        obtain ⟨_, h22, rfl⟩ := (hk 8 (by decide)).put rfl rfl
        obtain ⟨_, h23, rfl⟩ := (hk 9 (by decide)).put rfl rfl
        obtain ⟨_, h24, rfl⟩ := (hk 10 (by decide)).put rfl rfl
        obtain ⟨_, h25, rfl⟩ := (hk 11 (by decide)).put rfl rfl
        obtain ⟨_, h26, rfl⟩ := (hk 12 (by decide)).put rfl rfl
        obtain ⟨_, h27, rfl⟩ := (hk 13 (by decide)).put rfl rfl
        obtain ⟨_, h28, rfl⟩ := (hk 14 (by decide)).put rfl rfl
        obtain ⟨_, h29, rfl⟩ := (hk 15 (by decide)).put rfl rfl
        obtain ⟨_, h30, rfl⟩ := (hk 16 (by decide)).put rfl rfl
        obtain ⟨_, h31, rfl⟩ := (hk 17 (by decide)).put rfl rfl
        clear hap
        have hF : AllPuts ac.tmps ((14, _) :: (15, _) :: (16, _) :: (17, _) :: (18, _) :: (19, _) :: (20, _) :: (21, _) :: (22, _) :: (23, _) :: (24, _) :: (25, _) :: (26, _) :: (27, _) :: (28, _) :: (29, _) :: (30, _) :: (31, _) :: []) := ⟨h14, h15, h16, h17, h18, h19, h20, h21, h22, h23, h24, h25, h26, h27, h28, h29, h30, h31, trivial⟩
        obtain rfl := frame_puts hu (by kernel_rfl) hF
        simp only [puts, Act.put, List.setIfInBounds_toArray, List.set_cons_zero, List.set_cons_succ, List.drop_succ_cons, List.drop_zero]
        clear hk hu hF h14 h15 h16 h17 h18 h19 h20 h21 h22 h23 h24 h25 h26 h27 h28 h29 h30 h31
        have hM := HM.out.below hb
        have hfr := hM.byteFree hi j
        have hbo := hM.byte hi hjd
        have HK2 := Lib.hid (hM.keptByte (HK.out.on hb) hi j (.int .u8 (zs.toNat : Int)))
        have HST := Lib.hid ((hM.store hi hjd zs).congr HNX.out)
        rw [HBI.out] at hfr hbo HK2 HST
        clear hM HM HK hb HTM HZ1 HZ2 HMU HNX HAD
        go_wp2_with fail
        go_roundw
        case rel => exact ⟨j + 1, by omega, by go_num, HK2, HST⟩
        case measure => simp [intOf]; omega
    · obtain rfl : j = d := by omega
      have HS2 := Lib.hid (HS.out wr HK.out _ HM.out)
      have hni : ¬ (j : Int) < (j : Int) := by omega
      clear HM HS
      go_wp2_with fail
      go_end0
      exact ⟨rfl, HS2.out, HK.out⟩

set_option maxRecDepth 100000 in
set_option maxHeartbeats 4000000 in
theorem wipe_any {w : World} {B s fd g n d cap c : Nat} {β γ : Nat → Nat} {f : Mx} (h : Swp w B s fd g β γ n d cap f) (hc : c < n) (hd : c < d) (hd32 : d ≤ 32) (hn16 : n ≤ 16) :
    Calls Try.prog 75 #[.pointer (some ⟨s, 0, none⟩), .int .i64 (c : Int)] w fun e w' => e = .returned (.bool true) ∧ Swp w' B s fd g β γ n d cap (adM c n f) ∧ Kept B w w' := by
  have h0 := h.rows
  have hci : (c : Int) < (n : Int) := by omega
  have hcd : (c : Int) < (d : Int) := by omega
  have HK0 := Lib.hid (Kept.refl B w)
  have HS0 := Lib.hid (h.congr (f' := adM c 0 f) fun a b _ _ => (adM_same f b (.inr (Nat.zero_le _))).symm)
  clear h
  go_enter Try.func75, Try.ntmps75
  go_wp2_with fail
  clear h0
  go_loopw [12] (fun t wr => ∃ i : Nat, i ≤ n ∧ t = .int .i64 i ∧ Hid (Kept B w wr) ∧ Hid (Swp wr B s fd g β γ n d cap (adM c i f))) (fun t _ => n - (intOf t).toNat)
  case atStart => exact ⟨0, by omega, rfl, HK0, HS0⟩
  case round =>
    clear HK0 HS0
    obtain ⟨i, hin, rfl, HK, HS⟩ := hrel
    by_cases hlt : i < n
    · have hii : (i : Int) < (n : Int) := by omega
      have hh := HS.out.mx.header hlt
      by_cases hic : i = c
      · have he : ((i : Int) != (c : Int)) = false := by rw [hic]; simp
        have HS2 := Lib.hid (HS.out.congr (f' := adM c (i + 1) f) fun a b _ _ => adM_next_same hic a b)
        clear hic
        go_wp2_with fail
        go_roundw
        case rel => exact ⟨i + 1, by omega, by go_num, HK, HS2⟩
        case measure => simp [intOf]; omega
      · have he : ((i : Int) != (c : Int)) = true := by simp only [bne_iff_ne, ne_eq]; omega
        have h0 := HS.out.rows
        have hhc := HS.out.mx.header hc
        have hby := HS.out.mx.byte (j := c) hlt hd
        rw [adM_same f c (.inr (Nat.le_refl i))] at hby
        have HAD := Lib.hid (addTimes_any (f i c) (show Swp wr.drew B s fd g β γ n d cap (adM c i f) from HS.out.drewN 1) hc hlt (fun e => hic e.symm) hd32)
        have HNX := Lib.hid (show ∀ a b, a < n → b < d → adK c i d (f i c) (adM c i f) a b = adM c (i + 1) f a b from fun a b _ hb => adM_next hic a b hb)
        clear hic
        generalize adM c i f = f2 at *
        generalize f i c = x at *
        obtain ⟨bc, hbc⟩ : ∃ z, β c = z := ⟨_, rfl⟩
        obtain ⟨cc, hcc⟩ : ∃ z, γ c = z := ⟨_, rfl⟩
        obtain ⟨bi, hbi⟩ : ∃ z, β i = z := ⟨_, rfl⟩
        obtain ⟨ci, hci2⟩ : ∃ z, γ i = z := ⟨_, rfl⟩
        rw [hbc, hcc] at hhc HAD
        rw [hbi, hci2] at hh HAD
        rw [hbi] at hby
        clear hbc hcc hbi hci2
        go_wp2_with fail
        go_still_tail 13, (by kernel_rfl)
        change wpList _ _ _ _ _ wr.drew
        clear hh h0 hhc hby
        go_wp2_with fail
        with_reducible refine (HAD.out).mono ?_
        rintro e w4 ⟨rfl, hs4, hk4⟩
        have HK2 := Lib.hid ((HK.out.drew).trans hk4)
        have HS2 := Lib.hid (hs4.congr HNX.out)
        clear hs4 hk4 HAD HNX HS HK
        go_wp2_with fail
        go_roundw
        case rel => exact ⟨i + 1, by omega, by go_num, HK2, HS2⟩
        case measure => simp [intOf]; omega
    · obtain rfl : i = n := by omega
      have hni : ¬ (i : Int) < (i : Int) := by omega
      go_wp2_with fail
      go_ret
      exact ⟨rfl, HS.out, HK.out⟩
end Go.Proofs.Ytdaofffkbnkljaa
namespace Go.Proofs.Ytdaofffkbnkljaa
open Go.RowKit

theorem clone_any (A : Option Addr) (n c C : Nat) (l : List UInt8) (w : World) (hn : l.length = n) (h0 : 1 ≤ n) (h1 : n ≤ 1000) (hr : Rd w C A l) :
    Calls Try.prog 43 #[.slice A n c] w fun e w' => ∃ A' c', e = .returned (.slice A' n c') ∧ n ≤ c' ∧ c' ≤ maxLen ∧ w'.ownsRow w.heap.size 5 1 (.slice A' n c') n (Lib.byteCells l) ∧ Below w.heap.size w w' := by
  rcases hr with rfl | ⟨b, off, rfl, hb, hc⟩
  · simp at hn; omega
  · refine (Try.bytes_Clone_at ⟨b, off, none⟩ n c (l.map fun x => (x.toNat : Int)) w (by rw [List.length_map, hn]) (by omega) (fun i hi => ?_)).mono ?_
    · have hil : i < l.length := by omega
      rw [Addr.add_lit, hc i hil]
      simp [List.getD_eq_getElem?_getD, hil]
    · rintro e w' ⟨v', rfl, h2, _, h3⟩
      have h2 : w'.ownsRow w.heap.size 5 1 v' n (Lib.byteCells l) := by
        have e : (l.map fun x => (x.toNat : Int)).map (Value.int .u8) = Lib.byteCells l := by simp [Lib.byteCells]
        rw [← e]; exact h2
      obtain ⟨A', c', rfl, h4, h5⟩ := own_caps h2
      exact ⟨A', c', rfl, h4, h5, h2, h3⟩

theorem rowsOK_no {ls : List (List UInt8)} {ns : List Int} (h : ¬ rowsOK ls ns) : rowsE ls ns = 1 ∧ rowsS ls ns = [] := ⟨if_neg h, if_neg h⟩
def pickL (ls : List (List UInt8)) (ns : List Int) : List (List UInt8) := ns.map fun n => ls.getD n.toNat []
theorem pickL_succ (ls : List (List UInt8)) {ns : List Int} {j : Nat} (h : j < ns.length) {k : Nat} (hk : ns[j] = (k : Int)) (hl : k < ls.length) : pickL ls (ns.take (j + 1)) = pickL ls (ns.take j) ++ [ls[k]] := by
  unfold pickL
  rw [List.take_succ_eq_append_getElem h, List.map_append, List.map_singleton, hk, Int.toNat_natCast, List.getD_eq_getElem?_getD, List.getElem?_eq_getElem hl]; rfl
set_option maxRecDepth 100000 in
set_option maxHeartbeats 4000000 in
theorem prows_any {w : World} {x y : Value} {ls : List (List UInt8)} {ns : List Int} (hx : MV w x ls) (hy : IV w y ns) (hsm : ns.length ≤ 1000) :
    Calls Try.prog 40 #[x, y] w fun e w' => ∃ v, e = .returned (.tuple #[v, .int .i64 (rowsE ls ns)]) ∧ MV w' v (rowsS ls ns) ∧ Below w.heap.size w w' := by
  obtain ⟨X, c, rfl, hc, hr⟩ := hx
  obtain ⟨Y, d, rfl, hd, hs⟩ := hy
  obtain ⟨i1, hi', hz0', hz1', hz2'⟩ := info_parts infoSlice
  have HMAY := Lib.hid (pmay_any X ls.length c ls w rfl hr)
  by_cases h1 : IsMx ls
  · rw [show decide (IsMx ls) = true from decide_eq_true h1] at HMAY
    obtain ⟨n, hn⟩ : ∃ n, ls.length = n := ⟨_, rfl⟩
    obtain ⟨q, hq⟩ : ∃ q, ns.length = q := ⟨_, rfl⟩
    have HN := Lib.hid hn
    have HQ := Lib.hid hq
    have HMX := Lib.hid h1
    have hn16 : n ≤ 16 := by have := h1.2.1; omega
    rw [hn] at HMAY ⊢
    rw [hq] at hsm ⊢
    by_cases h2 : q = 0
    · have HE := Lib.hid (rowsOK_no (ls := ls) (ns := ns) fun h => by have := h.2.1; omega)
      subst h2
      clear hr hs h1 hc hd hn hq
      go_enter Try.func40, Try.ntmps40
      go_wp2_with fail
      with_reducible refine (HMAY.out).mono ?_
      rintro e w1 ⟨rfl, rfl⟩
      clear HMAY
      go_wp2_with fail
      go_ret2
      exact ⟨_, by rw [HE.out.1]; rfl, by rw [HE.out.2]; exact MV.nil _, Below.refl _ _⟩
    · have hqe : ((q : Int) == 0) = false := beq_eq_false_iff_ne.2 (by omega)
      clear h1 hc hd hn hq
      go_enter Try.func40, Try.ntmps40
      go_wp2_with fail
      with_reducible refine (HMAY.out).mono ?_
      rintro e w1 ⟨rfl, rfl⟩
      clear HMAY
      go_wp2_with fail
      go_loopw [6, 19] (fun v t wr => ∃ (j : Nat) (vs : List Value), j ≤ q ∧ t = .int .i64 j ∧ Hid (wr.ownsRow w.heap.size 22 1 v j vs) ∧ Hid (sliceOwn wr w.heap.size 5 vs (pickL ls (ns.take j))) ∧ Hid (∀ i (h : i < ns.length), i < j → 0 ≤ ns[i] ∧ ns[i] < ls.length) ∧ Below w.heap.size w wr) (fun _ t _ => q - (intOf t).toNat)
      case atStart => exact ⟨0, [], by omega, rfl, Lib.hid (World.ownsRow_nil _ _ _ _), Lib.hid ⟨rfl, fun i h => by simp [pickL] at h⟩, Lib.hid (fun i h h2 => by omega), Below.refl _ _⟩
      case round =>
        obtain ⟨j, vs, hj, rfl, HO, HS, HP, hbel⟩ := hrel
        by_cases hlt : j < q
        · have hji : (j : Int) < (q : Int) := by omega
          have hjl : j < ns.length := by rw [HQ.out]; exact hlt
          obtain ⟨b2, off2, rfl, hb2, hcz⟩ := hs.at_ j hjl
          have hcz2 := (hbel.cell (p := ⟨b2, off2 + j, none⟩) hb2).trans hcz
          obtain ⟨z, hz⟩ : ∃ z, ns[j] = z := ⟨_, rfl⟩
          rw [hz] at hcz2
          by_cases hin : 0 ≤ z ∧ z < (n : Int)
          · obtain ⟨k, rfl⟩ : ∃ k : Nat, z = (k : Int) := ⟨z.toNat, by omega⟩
            have hkn : k < n := by omega
            have hkl : k < ls.length := by rw [HN.out]; exact hkn
            have HPS := Lib.hid (pickL_succ ls hjl hz hkl)
            have HP2 := Lib.hid (show ∀ i (h : i < ns.length), i < j + 1 → 0 ≤ ns[i] ∧ ns[i] < ls.length from fun i h h2 => by
              by_cases e : i = j
              · subst e; rw [hz, HN.out]; exact ⟨by omega, by omega⟩
              · exact HP.out i h (by omega))
            obtain ⟨b, off, A1, c1, rfl, hbs, hcx, hlc, hcm, hrd⟩ := hr.at_ k hkl
            have hcc := (hbel.cell (p := ⟨b, off + k, none⟩) hbs).trans hcx
            obtain ⟨s, hsl⟩ : ∃ s, ls[k].length = s := ⟨_, rfl⟩
            have hs16 : 1 ≤ s ∧ s ≤ 16 := by
              have := HMX.out.2.2 k hkl
              unfold rowOK at this
              omega
            have HSL := Lib.hid hsl
            rw [hsl] at hcc
            have hki : (k : Int) < (n : Int) := by omega
            have d1 : decide ((k : Int) < 0) = false := decide_eq_false (by omega)
            have d2 : decide ((n : Int) ≤ (k : Int)) = false := decide_eq_false (by omega)
            have d3 : decide (n ≤ k) = false := decide_eq_false (by omega)
            have HRD := Lib.hid (hrd.below hbel (Nat.le_refl _))
            generalize ls[k] = row at *
            have hle := hbel.size
            obtain ⟨hs1, hs2⟩ := hs16
            clear hz hcz hjl hkl hcx hrd hlc hsl hin HP
            go_wp2_with fail
            with_reducible refine (clone_any A1 s c1 w.heap.size row wr HSL.out hs1 (by omega) HRD.out).mono ?_
            rintro e w4 ⟨A4, c4, rfl, hc41, hc42, hown4, hb4⟩
            have HO4 := Lib.hid (own_keep HO.out hb4)
            have hbel4 := hbel.trans (hb4.mono hle)
            have hle4 := hbel4.size
            have hal : Below w4.heap.size w4 (w4.alloc (.cells #[.slice A4 s c4] 22)) := (Below.refl _ _).alloc (Nat.le_refl _) _
            have HN4 := Lib.hid (own_keep (own_base hown4 hle) hal)
            have HS4 := Lib.hid (fun w5 (hg : (w4.alloc (.cells #[.slice A4 s c4] 22)).grownBy w5 _) => HS.out.grow (hb4.trans (hal.mono hb4.size)) (own_keep HO4.out hal) hg HN4.out HSL.out hc41 hc42)
            clear hown4 hbel hcc hb4
            go_wp2_with (at_builtin; refine wpList_append_one rfl _ _ 29 rfl w.heap.size 22 i1 Try.underlying29 hi' hz0' hz1' hz2' _ j vs rfl w4 A4 s c4 rfl HO4.out rfl (by omega) hle4 ?_)
            intro v5 w5 hown5 hg5
            have HS5 := Lib.hid (HS4.out w5 hg5)
            rw [← HPS.out] at HS5
            have HO5 := Lib.hid hown5
            have hbel5 : Below w.heap.size w w5 := (hbel4.trans (hal.mono hle4)).grown hg5 (by simp; omega) (fun k hk => (HO4.out.lt k hk).1)
            clear hown5 hg5 hal HS4 HN4 HO4 HS HO hbel4 hle4 hle HRD HPS
            go_wp2_with fail
            go_roundw
            case rel => exact ⟨j + 1, _, by omega, by go_num, HO5, HS5, HP2, hbel5⟩
            case measure => simp [intOf]; omega
          · have HE := Lib.hid (rowsOK_no (ls := ls) (ns := ns) fun h => hin (by
              have := h.2.2 j hjl
              rw [hz, HN.out] at this
              exact this))
            clear hz hcz hjl HP HO HS
            by_cases hneg : z < 0
            · have d1 : decide (z < 0) = true := decide_eq_true hneg
              go_wp2_with fail
              go_ret2
              exact ⟨_, by rw [HE.out.1]; rfl, by rw [HE.out.2]; exact MV.nil _, hbel⟩
            · have d1 : decide (z < 0) = false := decide_eq_false hneg
              have d2 : decide ((n : Int) ≤ z) = true := decide_eq_true (by omega)
              clear hin
              go_wp2_with fail
              go_ret2
              exact ⟨_, by rw [HE.out.1]; rfl, by rw [HE.out.2]; exact MV.nil _, hbel⟩
        · obtain rfl : j = q := by omega
          have HOK := Lib.hid (show rowsE ls ns = 0 ∧ rowsS ls ns = pickL ls ns by
            have ok : rowsOK ls ns := ⟨HMX.out, by rw [HQ.out]; omega, fun i hi => HP.out i hi (by rw [← HQ.out]; exact hi)⟩
            exact ⟨if_pos ok, if_pos ok⟩)
          have HT := Lib.hid (show ns.take j = ns from List.take_of_length_le (by rw [HQ.out]; exact Nat.le_refl _))
          rw [HT.out] at HS
          obtain ⟨A', c', rfl, hkc, _⟩ := own_caps HO.out
          have HR := Lib.hid (MV.mk (show (pickL ls ns).length = j by rw [← HQ.out]; simp [pickL]) hkc (RdR.of_own HO.out HS.out.vals (Nat.le_refl _)))
          have hni : ¬ (j : Int) < (j : Int) := by omega
          clear HO HS HP
          go_wp2_with fail
          go_ret2
          exact ⟨_, by rw [HOK.out.1]; rfl, by rw [HOK.out.2]; exact HR.out, hbel⟩
  · rw [show decide (IsMx ls) = false from decide_eq_false h1] at HMAY
    have HE := Lib.hid (rowsOK_no (ls := ls) (ns := ns) fun h => h1 h.1)
    generalize ls.length = n at *
    generalize ns.length = q at *
    clear h1 hr hs hc hd
    go_enter Try.func40, Try.ntmps40
    go_wp2_with fail
    with_reducible refine (HMAY.out).mono ?_
    rintro e w1 ⟨rfl, rfl⟩
    clear HMAY
    go_wp2_with fail
    go_ret2
    exact ⟨_, by rw [HE.out.1]; rfl, by rw [HE.out.2]; exact MV.nil _, Below.refl _ _⟩
end Go.Proofs.Ytdaofffkbnkljaa
namespace Go.Proofs.Ytdaofffkbnkljaa
open Go.RowKit

theorem part_row (f : Mx) (n r : Nat) : (rowL f 0 (n + n) r).drop n = rowL f n n r := by
  rw [rowL_drop, Nat.zero_add, Nat.add_sub_cancel]
set_option maxRecDepth 100000 in
set_option maxHeartbeats 4000000 in
theorem behind_any {w : World} {B s fd g n d cap : Nat} {β γ : Nat → Nat} {f : Mx} (h : Swp w B s fd g β γ n d cap f) (hd : n + n = d) (h1 : 1 ≤ n) (h16 : n ≤ 16) :
    Calls Try.prog 53 #[.pointer (some ⟨s, 0, none⟩), .int .i64 (n : Int)] w fun e w' => ∃ v, e = .returned v ∧ MV w' v (rowsL f n n n) ∧ Below w.heap.size w w' := by
  obtain ⟨i1, hi', hz0', hz1', hz2'⟩ := info_parts infoSlice
  have h0 := h.rows
  have H := Lib.hid h
  have HD := Lib.hid hd
  have hnd : n ≤ d := by omega
  have hd32 : d ≤ 32 := by omega
  clear h hd
  go_enter Try.func53, Try.ntmps53
  go_wp2_with fail
  clear h0
  go_loopw [5, 13] (fun v t wr => ∃ (r : Nat) (vs : List Value), r ≤ n ∧ t = .int .i64 r ∧ Hid (wr.ownsRow w.heap.size 22 1 v r vs) ∧ Hid (sliceOwn wr w.heap.size 5 vs (rowsL f n n r)) ∧ Below w.heap.size w wr) (fun _ t _ => n - (intOf t).toNat)
  case atStart => exact ⟨0, [], by omega, rfl, Lib.hid (World.ownsRow_nil _ _ _ _), Lib.hid ⟨rfl, fun i h => by simp [rowsL] at h⟩, Below.refl _ _⟩
  case round =>
    obtain ⟨r, vs, hr, rfl, HO, HS, hbel⟩ := hrel
    by_cases hlt : r < n
    · have hrci : (r : Int) < (n : Int) := by omega
      have hM := H.out.mx.below hbel
      have hh := hM.header hlt
      have hpt := fun W => run_part_l (some ⟨β r, 0, none⟩) d (γ r) n W hnd
      have HRW := Lib.hid ((hM.row hlt).rest n (γ r) (rowL_len _ _ _ _) hnd (hM.rows r hlt).2.1)
      have hdn : d - n = n := by have := HD.out; omega
      rw [rowL_drop, Nat.zero_add, hdn] at HRW
      simp only [hdn] at hpt
      have HSN := Lib.hid (rowsL_succ f n n r)
      have HRL := Lib.hid (rowL_len f n n r)
      have hle := hbel.size
      generalize γ r - n = gr at *
      generalize partA (some ⟨β r, 0, none⟩) n (γ r) = Ar at *
      generalize rowL f n n r = row at *
      clear hM hdn
      go_wp2_with fail
      with_reducible refine (clone_any Ar n gr wr.heap.size row wr HRL.out h1 (by omega) HRW.out).mono ?_
      rintro e w4 ⟨A4, c4, rfl, hc41, hc42, hown4, hb4⟩
      have HO4 := Lib.hid (own_keep HO.out hb4)
      have hbel4 := hbel.trans (hb4.mono hle)
      have hle4 := hbel4.size
      have hal : Below w4.heap.size w4 (w4.alloc (.cells #[.slice A4 n c4] 22)) := (Below.refl _ _).alloc (Nat.le_refl _) _
      have HN4 := Lib.hid (own_keep (own_base hown4 hle) hal)
      have HS4 := Lib.hid (fun w5 (hg : (w4.alloc (.cells #[.slice A4 n c4] 22)).grownBy w5 _) => HS.out.grow (hb4.trans (hal.mono hb4.size)) (own_keep HO4.out hal) hg HN4.out HRL.out hc41 hc42)
      clear hown4 hbel hb4 hh hpt HRW
      go_wp2_with (at_builtin; refine wpList_append_one rfl _ _ 29 rfl w.heap.size 22 i1 Try.underlying29 hi' hz0' hz1' hz2' _ r vs rfl w4 A4 n c4 rfl HO4.out rfl (by omega) hle4 ?_)
      intro v5 w5 hown5 hg5
      have HS5 := Lib.hid (HS4.out w5 hg5)
      rw [← HSN.out] at HS5
      have HO5 := Lib.hid hown5
      have hbel5 : Below w.heap.size w w5 := (hbel4.trans (hal.mono hle4)).grown hg5 (by simp; omega) (fun k hk => (HO4.out.lt k hk).1)
      clear hown5 hg5 hal HS4 HN4 HO4 HS HO hbel4 hle4 hle HSN
      go_wp2_with fail
      go_roundw
      case rel => exact ⟨r + 1, _, by omega, by go_num, HO5, HS5, hbel5⟩
      case measure => simp [intOf]; omega
    · obtain rfl : r = n := by omega
      obtain ⟨A', c', rfl, hkc, _⟩ := own_caps HO.out
      have HR := Lib.hid (MV.mk (rowsL_len f r r r) hkc (RdR.of_own HO.out HS.out.vals (Nat.le_refl _)))
      have hni : ¬ (r : Int) < (r : Int) := by omega
      clear HO HS
      go_wp2_with fail
      go_ret
      exact ⟨_, rfl, HR.out, hbel⟩

theorem steps_any (w : World) :
    Calls Try.prog 52 #[] w fun e w' => e = .returned (.slice (some ⟨w.heap.size, 0, none⟩) 3 3) ∧ w' = w.alloc (.cells #[.func (.func 73) #[] #[], .func (.func 74) #[] #[], .func (.func 75) #[] #[]] 79) := by
  go_enter Try.func52, Try.ntmps52
  go_wp2_with fail
  go_ret
  exact ⟨rfl, rfl⟩

/-- Ahead of step j of column c. -/
def Stage (n c : Nat) (a : Mx) (j : Nat) (f : Mx) : Prop :=
  (j = 0 ∧ GInv n c a f) ∨ (j = 1 ∧ GInv n c a f ∧ f c c ≠ 0) ∨ (j = 2 ∧ GInv n c a f ∧ f c c = 1) ∨ (j = 3 ∧ GInv n (c + 1) a f)
theorem Stage.zero {n c : Nat} {a f : Mx} (h : Stage n c a 0 f) : GInv n c a f := by
  rcases h with ⟨_, h⟩ | ⟨h, _⟩ | ⟨h, _⟩ | ⟨h, _⟩
  · exact h
  all_goals omega
theorem Stage.one {n c : Nat} {a f : Mx} (h : Stage n c a 1 f) : GInv n c a f ∧ f c c ≠ 0 := by
  rcases h with ⟨h, _⟩ | ⟨_, h⟩ | ⟨h, _⟩ | ⟨h, _⟩
  · omega
  · exact h
  all_goals omega
theorem Stage.two {n c : Nat} {a f : Mx} (h : Stage n c a 2 f) : GInv n c a f ∧ f c c = 1 := by
  rcases h with ⟨h, _⟩ | ⟨h, _⟩ | ⟨_, h⟩ | ⟨h, _⟩
  · omega
  · omega
  · exact h
  · omega
theorem Stage.three {n c : Nat} {a f : Mx} (h : Stage n c a 3 f) : GInv n (c + 1) a f := by
  rcases h with ⟨h, _⟩ | ⟨h, _⟩ | ⟨h, _⟩ | ⟨_, h⟩
  · omega
  · omega
  · omega
  · exact h
theorem Swp.below {w w' : World} {B s fd g n d cap : Nat} {β γ : Nat → Nat} {f : Mx} (h : Swp w B s fd g β γ n d cap f) (hb : Below w.heap.size w w') (hB : B ≤ w.heap.size) : Swp w' B s fd g β γ n d cap f :=
  h.kept ((Kept.refl B w).on hb hB) (h.mx.below hb)
theorem funT_ne : (79 : TypeId) ≠ 5 ∧ (79 : TypeId) ≠ 22 := by decide
def stepsA : Array Value := #[.func (.func 73) #[] #[], .func (.func 74) #[] #[], .func (.func 75) #[] #[]]
/-- What is answered of an inverse. -/
def InvEnd (W : World) (ls : List (List UInt8)) (e : Ending) (w' : World) : Prop :=
  ∃ v er rs, e = .returned (.tuple #[v, .int .i64 er]) ∧ InvSpec ls er rs ∧ MV w' v rs ∧ Below W.heap.size W w'

set_option maxRecDepth 100000 in
set_option maxHeartbeats 8000000 in
theorem pinv_yes {w : World} {X : Option Addr} {n c0 : Nat} {ls : List (List UInt8)} (hn : ls.length = n) (hr : RdR w w.heap.size X ls) (h1 : IsMx ls) (h2 : (ls.getD 0 []).length = n) :
    Calls Try.prog 32 #[.slice X n c0] w (InvEnd w ls) := by
  have HMAY := Lib.hid (pmay_any X n c0 ls w hn hr)
  rw [show decide (IsMx ls) = true from decide_eq_true h1] at HMAY
  have hn1 : 1 ≤ n := by have := h1.1; omega
  have hn16 : n ≤ 16 := by have := h1.2.1; omega
  have HBEG := Lib.hid (begin_any X n c0 ls w hn (fun r h => (h1.rows r h).trans h2) hn1 hn16 hr)
  have HOK := Lib.hid (show sqOK ls from ⟨h1, by rw [hn, h2]⟩)
  have HN := Lib.hid hn
  obtain ⟨b, off, A0, cc, rfl, hb, hcell⟩ := h1.first hr
  rw [h2] at hcell
  obtain ⟨a, ha⟩ : ∃ a, entM ls = a := ⟨_, rfl⟩
  rw [ha] at HBEG
  have HA := Lib.hid ha
  have hne : ((n : Int) != (n : Int)) = false := by simp
  have hn0 : 0 < n := hn1
  have hni : (0 : Int) < (n : Int) := by omega
  obtain ⟨d, hd⟩ : ∃ d, n + n = d := ⟨_, rfl⟩
  rw [hd] at HBEG
  have HD := Lib.hid hd
  have hd32 : d ≤ 32 := by omega
  have hnd : n ≤ d := by omega
  obtain ⟨B, hB⟩ : ∃ B, w.heap.size = B := ⟨_, rfl⟩
  have HB := Lib.hid hB
  clear hn hr h1 h2 ha hd
  go_enter Try.func32, Try.ntmps32
  go_wp2_with fail
  with_reducible refine (HMAY.out).mono ?_
  rintro e w1 ⟨rfl, rfl⟩
  clear HMAY
  go_wp2_with fail
  with_reducible refine (HBEG.out).mono ?_
  rintro e w1 ⟨s, rfl, ⟨fd, g, β, γ, cap, hcap, hsw, hS⟩, hb1⟩
  rw [hB] at hS hb1
  have HS := Lib.hid hS
  have HG := Lib.hid (show GInv n 0 a (besideM n a) from ginv_start fun _ _ _ _ => rfl)
  clear HBEG hS hcell hne hsw hb hB
  go_wp2_with fail
  go_loopw [24] (fun t wr => ∃ (c : Nat) (β γ : Nat → Nat) (f : Mx), c ≤ n ∧ t = .int .i64 c ∧ Below B w wr ∧ Hid (Swp wr B s fd g β γ n d cap f) ∧ Hid (GInv n c a f)) (fun t _ => n - (intOf t).toNat)
  case atStart => exact ⟨0, β, γ, _, by omega, rfl, hb1, HS, HG⟩
  case round =>
    clear hb1 HS HG
    obtain ⟨c, β, γ, f, hc, rfl, hbel, HS, HG⟩ := hrel
    have HBW := Lib.hid (show B ≤ wr.heap.size from Nat.le_trans HS.out.mx.base (Nat.le_of_lt (by obtain ⟨cur, h1, _⟩ := HS.out.mx.head; exact h1.lt)))
    by_cases hlt : c < n
    · have hci : (c : Int) < (n : Int) := by omega
      have hcd : c < d := by omega
      go_wp2_with fail
      with_reducible refine (steps_any wr).mono ?_
      rintro e w2 ⟨rfl, hw2⟩
      have hal : Below wr.heap.size wr w2 := by rw [hw2]; exact (Below.refl _ _).alloc (Nat.le_refl _) _
      have HT := Lib.hid (show Blk w2 wr.heap.size stepsA 79 by rw [hw2]; exact Blk.new _ _ _)
      have HS2 := Lib.hid (HS.out.below hal HBW.out)
      have hbel2 := hbel.trans (hal.mono HBW.out)
      have HST := Lib.hid (show Stage n c a 0 f from .inl ⟨rfl, HG.out⟩)
      obtain ⟨k, hk⟩ : ∃ k, wr.heap.size = k := ⟨_, rfl⟩
      rw [hk] at HT ⊢
      clear hw2 hal hbel HS HG hk
      go_wp2_with fail
      go_loopw [29] (fun t wq => ∃ (j : Nat) (β γ : Nat → Nat) (f : Mx), j ≤ 3 ∧ t = .int .i64 j ∧ Below B w wq ∧ Hid (Blk wq k stepsA 79) ∧ Hid (Swp wq B s fd g β γ n d cap f) ∧ Hid (Stage n c a j f)) (fun t _ => 3 - (intOf t).toNat)
      case atStart => exact ⟨0, β, γ, f, by omega, rfl, hbel2, HT, HS2, HST⟩
      case round =>
        clear hbel2 HT HS2 HST
        obtain ⟨j, β, γ, f, hj, rfl, hbel, HT, HS, HST⟩ := hrel
        by_cases h0 : j = 0
        · subst h0
          have hcf : wr.cell? ⟨k, 0, none⟩ = some (.func (.func 73) #[] #[]) := HT.out.cell 0
          go_wp2_with fail
          with_reducible refine (lift_any HS.out hlt hn16 hcd).mono ?_
          rintro e w4 ⟨⟨rfl, p, β', γ', hcp, hpn, hz, hs4⟩ | ⟨rfl, hz⟩, hk4⟩
          · have HS4 := Lib.hid hs4
            have HT4 := Lib.hid (hk4.2.2 _ _ _ funT_ne.1 funT_ne.2 HT.out)
            have hbel4 := hbel.trans hk4.1
            have HST4 := Lib.hid (show Stage n c a 1 (swM c p f) from .inr (.inl ⟨rfl, ginv_swap HST.out.zero hlt hpn hcp, by rw [swM_at]; unfold swI; rw [if_pos rfl]; exact hz⟩))
            clear hs4 hk4 hbel hcf HT HS HST hz
            go_wp2_with fail
            go_roundw
            case rel => exact ⟨1, β', γ', _, by omega, by rfl, hbel4, HT4, HS4, HST4⟩
            case measure => simp [intOf]
          · have HE := Lib.hid (show InvSpec ls 4 [] from .inr (.inr ⟨HOK.out, rfl, rfl, by rw [HN.out, HA.out]; exact ginv_fail HST.out.zero hlt hz⟩))
            have hbel4 := hbel.trans hk4.1
            clear hk4 hbel hcf HT HS HST hz
            go_wp2_with fail
            go_ret2
            exact ⟨_, 4, [], rfl, HE.out, MV.nil _, by rw [HB.out]; exact hbel4⟩
        · by_cases h1 : j = 1
          · subst h1
            have hcf : wr.cell? ⟨k, 1, none⟩ = some (.func (.func 74) #[] #[]) := HT.out.cell 1
            clear h0
            go_wp2_with fail
            with_reducible refine (scale_any HS.out hlt hcd hd32).mono ?_
            rintro e w4 ⟨rfl, hs4, hk4⟩
            have HS4 := Lib.hid hs4
            have HT4 := Lib.hid (hk4.2.2 _ _ _ funT_ne.1 funT_ne.2 HT.out)
            have hbel4 := hbel.trans hk4.1
            have HST4 := Lib.hid (show Stage n c a 2 (scM c (ivU (f c c)) f) from .inr (.inr (.inl ⟨rfl, ginv_scale HST.out.one.1 hlt (ivU_ne HST.out.one.2), by rw [scM_same, ivU_mul HST.out.one.2]⟩)))
            clear hs4 hk4 hbel hcf HT HS HST
            go_wp2_with fail
            go_roundw
            case rel => exact ⟨2, β, γ, _, by omega, by rfl, hbel4, HT4, HS4, HST4⟩
            case measure => simp [intOf]
          · by_cases h2 : j = 2
            · subst h2
              have hcf : wr.cell? ⟨k, 2, none⟩ = some (.func (.func 75) #[] #[]) := HT.out.cell 2
              clear h0 h1
              go_wp2_with fail
              with_reducible refine (wipe_any HS.out hlt hcd hd32 hn16).mono ?_
              rintro e w4 ⟨rfl, hs4, hk4⟩
              have HS4 := Lib.hid hs4
              have HT4 := Lib.hid (hk4.2.2 _ _ _ funT_ne.1 funT_ne.2 HT.out)
              have hbel4 := hbel.trans hk4.1
              have HST4 := Lib.hid (show Stage n c a 3 (adM c n f) from .inr (.inr (.inr ⟨rfl, ginv_add HST.out.two.1 hlt HST.out.two.2⟩)))
              clear hs4 hk4 hbel hcf HT HS HST
              go_wp2_with fail
              go_roundw
              case rel => exact ⟨3, β, γ, _, by omega, by rfl, hbel4, HT4, HS4, HST4⟩
              case measure => simp [intOf]
            · obtain rfl : j = 3 := by omega
              have HG2 := Lib.hid HST.out.three
              clear h0 h1 h2 HT HST
              go_wp2_with fail
              go_roundw
              case rel => exact ⟨c + 1, β, γ, f, by omega, by go_num, hbel, HS, HG2⟩
              case measure => simp [intOf]; omega
    · obtain rfl : c = n := by omega
      have HBH := Lib.hid (behind_any HS.out HD.out hn1 hn16)
      have HE := Lib.hid (show InvSpec ls 0 (rowsL f c c c) from .inr (.inl ⟨HOK.out, rfl, by rw [HN.out]; exact sqL_rows _ _ _, by
        rw [HN.out, HA.out]
        exact (ginv_end HG.out).of_alike (fun _ _ _ _ => rfl) (s := entM (rowsL f c c c)) (fun i j hi hj => (rowsL_ent f c c c hi hj).symm)⟩))
      have hnn : ¬ (c : Int) < (c : Int) := by omega
      clear HS HG
      go_wp2_with fail
      with_reducible refine (HBH.out).mono ?_
      rintro e w4 ⟨v, rfl, hv, hb4⟩
      have HV := Lib.hid hv
      have HBB := Lib.hid (show Below w.heap.size w w4 by rw [HB.out]; exact hbel.trans (hb4.mono HBW.out))
      clear hv hb4 hbel HBH
      go_wp2_with fail
      go_ret2
      exact ⟨v, 0, _, rfl, HE.out, HV.out, HBB.out⟩
theorem pinv_any {w : World} {x : Value} {ls : List (List UInt8)} (hx : MV w x ls) :
    Calls Try.prog 32 #[x] w fun e w' => ∃ v er rs, e = .returned (.tuple #[v, .int .i64 er]) ∧ InvSpec ls er rs ∧ MV w' v rs ∧ Below w.heap.size w w' := by
  obtain ⟨X, c, rfl, hc, hr⟩ := hx
  obtain ⟨n, hn⟩ : ∃ n, ls.length = n := ⟨_, rfl⟩
  rw [hn]
  by_cases h1 : IsMx ls
  · by_cases h2 : (ls.getD 0 []).length = n
    · exact pinv_yes hn hr h1 h2
    · have HE := Lib.hid (show InvSpec ls 1 [] from .inl ⟨fun h => h2 (by rw [← hn]; exact h.2.symm), rfl, rfl⟩)
      have HMAY := Lib.hid (pmay_any X n c ls w hn hr)
      rw [show decide (IsMx ls) = true from decide_eq_true h1] at HMAY
      obtain ⟨b, off, A0, cc, rfl, hb, hcell⟩ := h1.first hr
      have hn0 : 0 < n := by have := h1.1; omega
      have hne : ((n : Int) != ((ls.getD 0 []).length : Int)) = true := by simp only [bne_iff_ne, ne_eq]; omega
      generalize (ls.getD 0 []).length = k at *
      clear h1 h2 hn hr hc
      go_enter Try.func32, Try.ntmps32
      go_wp2_with fail
      with_reducible refine (HMAY.out).mono ?_
      rintro e w1 ⟨rfl, rfl⟩
      clear HMAY
      go_wp2_with fail
      go_ret2
      exact ⟨_, 1, [], rfl, HE.out, MV.nil _, Below.refl _ _⟩
  · have HE := Lib.hid (show InvSpec ls 1 [] from .inl ⟨fun h => h1 h.1, rfl, rfl⟩)
    have HMAY := Lib.hid (pmay_any X n c ls w hn hr)
    rw [show decide (IsMx ls) = false from decide_eq_false h1] at HMAY
    clear h1 hn hr hc
    go_enter Try.func32, Try.ntmps32
    go_wp2_with fail
    with_reducible refine (HMAY.out).mono ?_
    rintro e w1 ⟨rfl, rfl⟩
    clear HMAY
    go_wp2_with fail
    go_ret2
    exact ⟨_, 1, [], rfl, HE.out, MV.nil _, Below.refl _ _⟩
end Go.Proofs.Ytdaofffkbnkljaa

