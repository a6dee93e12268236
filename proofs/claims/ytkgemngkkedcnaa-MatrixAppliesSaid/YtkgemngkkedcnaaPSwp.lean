/- The program's inverse in the making: its memory; the step that brings a row to its place. Worlds in which one block alone, and what is new, has changed. The library's Grow of nothing, and Concat. -/
import Derived.Test.YtkgemngkkedcnaaPMul2
import Derived.Test.YtkgemngkkedcnaaRMInv
import Derived.BigRegion
import Derived.Test.YtkgemngkkedcnaaMxH
import Derived.Test.YtkgemngkkedcnaaGfS
import Derived.Test.YtkgemngkkedcnaaOwnB
import Derived.Lib.AppendZerosOnto
namespace Go.Proofs.Ytkgemngkkedcnaa
open Go.RowKit

/-- At s there is a sweep: its rows lie at g, its field at fd. -/
structure Swp (w : World) (B s fd g : Nat) (β γ : Nat → Nat) (n d cap : Nat) (f : Mx) : Prop where
  blk : Blk w s #[.slice (some ⟨g, 0, none⟩) n cap, .func (.func 53) #[.pointer (some ⟨fd, 0, none⟩)] #[], .func (.func 55) #[.pointer (some ⟨fd, 0, none⟩)] #[]] 82
  fld : FdAt w fd
  mx : MxW w B g β γ n d f
/-- Below B, and in all blocks but those of bytes and of slices of bytes, all is as it was. -/
def Kept (B : Nat) (w w' : World) : Prop := Below B w w' ∧ w.heap.size ≤ w'.heap.size ∧ ∀ b rc (T : TypeId), T ≠ 5 → T ≠ 22 → Blk w b rc T → Blk w' b rc T
section
variable {w : World} {B s fd g n d cap : Nat} {β γ : Nat → Nat} {f : Mx}
theorem Kept.refl (B : Nat) (w : World) : Kept B w w := ⟨Below.refl _ _, Nat.le_refl _, fun _ _ _ _ _ h => h⟩
theorem Kept.trans {w' w'' : World} (h : Kept B w w') (k : Kept B w' w'') : Kept B w w'' := ⟨h.1.trans k.1, Nat.le_trans h.2.1 k.2.1, fun b rc T h1 h2 h3 => k.2.2 b rc T h1 h2 (h.2.2 b rc T h1 h2 h3)⟩
theorem Kept.drewN {w' : World} (h : Kept B w w') (q : Nat) : Kept B w (w'.drewN q) := ⟨below_drewN h.1 q, h.2.1, fun b rc T h1 h2 h3 => h.2.2 b rc T h1 h2 h3⟩
theorem Kept.drew {w' : World} (h : Kept B w w') : Kept B w w'.drew := h.drewN 1
theorem Kept.set {w' : World} (h : Kept B w w') {b : Nat} {rc : Array Value} {T : TypeId} (hb : Blk w' b rc T) (hB : B ≤ b) (hT : T = 5 ∨ T = 22) (i : Nat) (v : Value) : Kept B w (w'.setCell ⟨b, i, none⟩ v) :=
  ⟨h.1.setCell hB v, by have := h.2.1; simp; omega, fun b' rc' T' h1 h2 h3 => (h.2.2 b' rc' T' h1 h2 h3).other (fun e => by
    subst e
    have h4 := (h.2.2 b' rc' T' h1 h2 h3).symm.trans hb
    injection h4 with h5
    injection h5 with _ h6
    rcases hT with rfl | rfl
    · exact h1 h6
    · exact h2 h6) v⟩
theorem sweepT_ne : (82 : TypeId) ≠ 5 ∧ (82 : TypeId) ≠ 22 := by decide
theorem fieldT_ne : (74 : TypeId) ≠ 5 ∧ (74 : TypeId) ≠ 22 := by decide
theorem Swp.kept {w' : World} (h : Swp w B s fd g β γ n d cap f) (k : Kept B w w') {β' γ' : Nat → Nat} {f' : Mx} (hm : MxW w' B g β' γ' n d f') : Swp w' B s fd g β' γ' n d cap f' :=
  ⟨k.2.2 _ _ _ sweepT_ne.1 sweepT_ne.2 h.blk, ⟨h.fld.1, k.2.2 _ _ _ fieldT_ne.1 fieldT_ne.2 h.fld.2⟩, hm⟩
theorem Swp.drewN (h : Swp w B s fd g β γ n d cap f) (q : Nat) : Swp (w.drewN q) B s fd g β γ n d cap f := ⟨h.blk, h.fld.drewN q, h.mx.drewN q⟩
theorem Swp.congr (h : Swp w B s fd g β γ n d cap f) {f' : Mx} (e : ∀ i j, i < n → j < d → f i j = f' i j) : Swp w B s fd g β γ n d cap f' := ⟨h.blk, h.fld, h.mx.congr e⟩
theorem Swp.rows (h : Swp w B s fd g β γ n d cap f) : w.cell? ⟨s, 0, none⟩ = some (.slice (some ⟨g, 0, none⟩) n cap) := h.blk.cell 0
theorem Swp.times (h : Swp w B s fd g β γ n d cap f) : w.cell? ⟨s, 1, none⟩ = some (.func (.func 53) #[.pointer (some ⟨fd, 0, none⟩)] #[]) := h.blk.cell 1
theorem Swp.inverse (h : Swp w B s fd g β γ n d cap f) : w.cell? ⟨s, 2, none⟩ = some (.func (.func 55) #[.pointer (some ⟨fd, 0, none⟩)] #[]) := h.blk.cell 2
theorem MxW.keptByte {w0 : World} (h : MxW w B g β γ n d f) (k : Kept B w0 w) {i : Nat} (hi : i < n) (j : Nat) (v : Value) : Kept B w0 (w.setCell ⟨β i, j, none⟩ v) := by
  obtain ⟨h1, _, _, rc, h4, _⟩ := h.rows i hi
  exact k.set h4 h1 (.inl rfl) j v
theorem MxW.keptHead {w0 w1 : World} (h : MxW w B g β γ n d f) (k : Kept B w0 w1) {cur : Array Value} (hc : Blk w1 g cur 22) (j : Nat) (v : Value) : Kept B w0 (w1.setCell ⟨g, j, none⟩ v) :=
  k.set hc h.base (.inr rfl) j v
end

set_option maxRecDepth 100000 in
set_option maxHeartbeats 4000000 in
theorem lift_any {w : World} {B s fd g n d cap c : Nat} {β γ : Nat → Nat} {f : Mx} (h : Swp w B s fd g β γ n d cap f) (hc : c < n) (hn : n ≤ 16) (hd : c < d) :
    Calls Try.prog 57 #[.pointer (some ⟨s, 0, none⟩), .int .i64 (c : Int)] w fun e w' => ((e = .returned (.bool true) ∧ ∃ p β' γ', c ≤ p ∧ p < n ∧ f p c ≠ 0 ∧ Swp w' B s fd g β' γ' n d cap (swM c p f)) ∨ (e = .returned (.bool false) ∧ ∀ p, c ≤ p → p < n → f p c = 0)) ∧ Kept B w w' := by
  have h0 := h.rows
  have H := Lib.hid h
  have hci : (c : Int) < (n : Int) := by omega
  clear h
  go_enter Try.func57, Try.ntmps57
  go_wp2_with fail
  go_loop [5] (fun t => ∃ p : Nat, c ≤ p ∧ p ≤ n ∧ t = .int .i64 p ∧ Hid (∀ q, c ≤ q → q < p → f q c = 0)) (fun t => n - (intOf t).toNat)
  case atStart => exact ⟨c, by omega, by omega, rfl, Lib.hid (fun q h1 h2 => by omega)⟩
  case round =>
    obtain ⟨p, hcp, hp, rfl, HP⟩ := hrel
    by_cases hpi : p < n
    · have hpii : (p : Int) < (n : Int) := by omega
      have hcc : (c : Int) < (d : Int) := by omega
      have hh := H.out.mx.header hpi
      have hb := H.out.mx.byte (j := c) hpi hd
      by_cases hz : f p c = 0
      · have HZ := Lib.hid (show ∀ q, c ≤ q → q < p + 1 → f q c = 0 from fun q h1 h2 => by
          by_cases e : q = p
          · rw [e]; exact hz
          · exact HP.out q h1 (by omega))
        have hz0 : ((0 : UInt8).toNat : Int) = 0 := rfl
        rw [hz, hz0] at hb
        clear hz hz0
        go_wp2_with fail
        go_round
        case rel => exact ⟨p + 1, by omega, by omega, by go_num, HZ⟩
        case measure => simp [intOf]; omega
      · have hzb : (((f p c).toNat : Int) != 0) = true := by have := pos8' hz; simp only [bne_iff_ne, ne_eq]; omega
        have HNZ := Lib.hid hz
        clear hz
        obtain ⟨x, hx⟩ : ∃ x, f p c = x := ⟨_, rfl⟩
        rw [hx] at hzb hb
        clear hx
        have hhc := H.out.mx.header hc
        have hfc := H.out.mx.headFree c
        have hfp := H.out.mx.headFree p
        obtain ⟨cur, hcur, _⟩ := H.out.mx.head
        have HSW := Lib.hid ((H.out.mx.swap hc hpi).drewN 1)
        have HK := Lib.hid ((H.out.mx.keptHead (H.out.mx.keptHead (Kept.refl B w) hcur c (.slice (some ⟨β p, 0, none⟩) d (γ p))) (hcur.set c (.slice (some ⟨β p, 0, none⟩) d (γ p))) p (.slice (some ⟨β c, 0, none⟩) d (γ c))).drewN 1)
        obtain ⟨o, ho⟩ : ∃ o, (w.setCell ⟨g, c, none⟩ (.slice (some ⟨β p, 0, none⟩) d (γ p))).cell? ⟨g, p, none⟩ = some o := by
          obtain ⟨cur, q1, q2⟩ := H.out.mx.head
          have q3 := q1.set c (.slice (some ⟨β p, 0, none⟩) d (γ p))
          rw [q3.cell]
          exact ⟨_, Array.getElem?_eq_getElem (by rw [Array.size_setIfInBounds]; exact (Array.getElem?_eq_some_iff.1 (q2 p hpi)).1)⟩
        clear hcur
        go_wp2_with fail
        go_region
        have HS2 := Lib.hid (H.out.kept HK.out HSW.out)
        go_wp2_with fail
        go_ret
        exact ⟨.inl ⟨rfl, p, _, _, hcp, hpi, HNZ.out, HS2.out⟩, HK.out⟩
    · obtain rfl : p = n := by omega
      have hni : ¬ (p : Int) < (p : Int) := by omega
      go_wp2_with fail
      go_ret
      exact ⟨.inr ⟨rfl, HP.out⟩, Kept.refl _ _⟩
end Go.Proofs.Ytkgemngkkedcnaa
namespace Go.Proofs.Ytkgemngkkedcnaa
open Go.RowKit

/-- Below B all blocks but s are as they were. -/
def But (B s : Nat) (w w' : World) : Prop := B ≤ w'.heap.size ∧ ∀ b, b < B → b ≠ s → w'.heap[b]? = w.heap[b]?
section
variable {w w' w'' : World} {B C s : Nat}
theorem But.refl (h : B ≤ w.heap.size) : But B s w w := ⟨h, fun _ _ _ => rfl⟩
theorem But.on (h : But B s w w') (hb : Below w'.heap.size w' w'') : But B s w w'' :=
  ⟨Nat.le_trans h.1 hb.size, fun b h1 h2 => (hb.block b (by have := h.1; omega)).trans (h.2 b h1 h2)⟩
theorem But.grown (h : But B s w w') {row : Option Nat} (hg : w'.grownBy w'' row) (hr : ∀ k, row = some k → B ≤ k) : But B s w w'' :=
  ⟨Nat.le_trans h.1 hg.size, fun b h1 h2 => (hg.block b (by have := h.1; omega) (fun e => by have := hr b e.symm; omega)).trans (h.2 b h1 h2)⟩
theorem But.set (h : But B s w w') (i : Nat) (v : Value) : But B s w (w'.setCell ⟨s, i, none⟩ v) :=
  ⟨by have := h.1; simp; omega, fun b h1 h2 => (Below.heap_setCell w' ⟨s, i, none⟩ v b h2).trans (h.2 b h1 h2)⟩
theorem But.blk (h : But B s w w') {b : Nat} {cs : Array Value} {T : TypeId} (hb : Blk w b cs T) (hB : b < B) (hs : b ≠ s) : Blk w' b cs T := (h.2 b hB hs).trans hb
theorem MxW.but {g n m : Nat} {β γ : Nat → Nat} {f : Mx} (h : MxW w C g β γ n m f) (k : But B s w w') (hB : w.heap.size ≤ B) (hs : s < C) : MxW w' C g β γ n m f :=
  ⟨h.base, by
    obtain ⟨cur, h1, h2⟩ := h.head
    exact ⟨cur, k.blk h1 (by have := h1.lt; omega) (by have := h.base; omega), h2⟩, fun i hi => by
    obtain ⟨a1, a2, a3, rc, a4, a5⟩ := h.rows i hi
    exact ⟨a1, a2, a3, rc, k.blk a4 (by have := a4.lt; omega) (by omega), a5⟩, h.apart⟩
theorem FdAt.but {g : Nat} (h : FdAt w g) (k : But B s w w') (hB : g < B) (hs : g ≠ s) : FdAt w' g := ⟨h.1, k.blk h.2 hB hs⟩
theorem own_low {base n : Nat} {e : TypeId} {v : Value} {xs : List Value} (h : w.ownsRow base e 1 v n xs) (hs : s < base) (i : Nat) (u : Value) : (w.setCell ⟨s, i, none⟩ u).ownsRow base e 1 v n xs := by
  refine ⟨h.1, ?_⟩
  rcases h.2 with h0 | ⟨g, cap, cur, h1, h2, h3, h4⟩
  · exact .inl h0
  · exact .inr ⟨g, cap, cur, h1, h2, (Below.heap_setCell w ⟨s, i, none⟩ u g (Nat.ne_of_gt (Nat.lt_of_lt_of_le hs h2))).trans h3, h4⟩
theorem MxB.low {n m : Nat} {v : Value} {f : Mx} (h : MxB w B v n m f) (hs : s < B) (i : Nat) (u : Value) : MxB (w.setCell ⟨s, i, none⟩ u) B v n m f := by
  obtain ⟨β, γ, h1, h2, h3⟩ := h
  refine ⟨β, γ, own_low h1 hs i u, fun k hk => ?_, h3⟩
  obtain ⟨a1, a2, a3, rc, a4, a5⟩ := h2 k hk
  exact ⟨a1, a2, a3, rc, a4.other (Nat.ne_of_gt (Nat.lt_of_lt_of_le hs a1)) u, a5⟩
end
end Go.Proofs.Ytkgemngkkedcnaa
namespace Go.Proofs.Ytkgemngkkedcnaa
open Go.RowKit

theorem zeroCells_bytes (k : Nat) : Builtin.zeroCells (Value.int .u8 0).cells k = (Lib.byteCells (List.replicate k 0)).toArray := by
  apply Array.ext'
  have : (Builtin.zeroCells (Value.int .u8 0).cells k).toList = List.replicate k (Value.int .u8 0) := by
    have h := toList_madeCells_one (Value.int .u8 0) k
    rw [← h]
    have hc : (Value.int .u8 0).cells = #[Value.int .u8 0] := rfl
    unfold Builtin.zeroCells madeCells
    simp [hc]
  rw [this]
  unfold Lib.byteCells
  rw [List.map_replicate]; rfl
set_option maxRecDepth 100000 in
set_option maxHeartbeats 1000000 in
theorem grow_any (n : Nat) (w : World) (h1 : 1 ≤ n) (h2 : n ≤ 1000) :
    Calls Try.prog 63 #[.slice none 0 0, .int .i64 (n : Int)] w fun e w' => ∃ v, e = .returned v ∧ OwnB w' w.heap.size 5 v 0 [] ∧ Below w.heap.size w w' := by
  obtain ⟨i0, hi, hz0, hz1, hz2⟩ := info_parts info5
  have hold : (Builtin.firstCells i0.size 0 (.slice none 0 0)).run Try.prog w.drew = .ok ([] : List Value).toArray w.drew := run_firstCells_none w.drew i0.size 0 0 0
  have hrz := fun ty => Lib.run_append_grow_zeros (P := Try.prog) w 22 3 ty 5 i0 (.int .u8 0) .i64 .i64 Try.underlying22 Try.underlying3 hi hz0 none 0 0 [] hold n h1 (by rw [hz1]; decide) (by omega) (by omega) (by rw [hz2]; omega) (growslice_fits (by omega) (by rw [hz2]; omega))
  rw [Nat.zero_add] at hrz
  have hge := grownCap_ge w n 0 5
  have hcm := grownCap_le_maxLen w n 0 5 (by unfold maxLen; omega)
  have HROW := Lib.hid (show ([] : List Value).toArray ++ Builtin.zeroCells (Value.int .u8 0).cells n ++ Builtin.zeroCells (Value.int .u8 0).cells (grownCap w n 0 5 - n) = (Lib.byteCells (List.replicate (grownCap w n 0 5) 0)).toArray by
    rw [zeroCells_bytes, zeroCells_bytes]
    apply Array.ext'
    simp only [List.nil_append, Array.toList_append, ← Lib.byteCells_append, List.replicate_append_replicate]
    rw [show n + (grownCap w n 0 5 - n) = grownCap w n 0 5 by omega])
  rw [HROW.out] at hrz
  generalize grownCap w n 0 5 = cp at *
  have hni : (0 : Int) < (n : Int) := by omega
  have hnn : ¬ (n : Int) < 0 := by omega
  clear hold hi hz0 hz1 hz2 HROW
  go_enter Try.func63, Try.ntmps63
  go_wp2_with (at_builtin; refine Lib.wpList_append_run _ rfl _ _ _ _ rfl _ _ rfl rfl _ _ (hrz _) ?_)
  go_ret
  refine ⟨_, rfl, ⟨rfl, .inr ⟨w.heap.size, cp, List.replicate cp 0, rfl, Nat.le_refl _, heap_alloc_new w.drew _, Nat.zero_le _, hcm, List.length_replicate .., rfl⟩⟩, ((Below.refl _ _).drew).alloc (Nat.le_refl _) _⟩

def catTo (ls : List (List UInt8)) (k : Nat) : List UInt8 := (ls.take k).flatten
theorem catTo_zero (ls : List (List UInt8)) : catTo ls 0 = [] := rfl
theorem catTo_succ {ls : List (List UInt8)} {k : Nat} (h : k < ls.length) : catTo ls (k + 1) = catTo ls k ++ ls[k] := by
  unfold catTo
  rw [List.take_succ_eq_append_getElem h, List.flatten_append]
  simp
theorem catTo_all (ls : List (List UInt8)) : catTo ls ls.length = ls.flatten := by unfold catTo; rw [List.take_length]
theorem catTo_le (ls : List (List UInt8)) (k : Nat) : (catTo ls k).length ≤ ls.flatten.length := by
  have : ls.flatten = catTo ls k ++ (ls.drop k).flatten := by unfold catTo; rw [← List.flatten_append, List.take_append_drop]
  rw [this, List.length_append]; omega
set_option maxRecDepth 100000 in
set_option maxHeartbeats 2000000 in
theorem concat_any (A : Option Addr) (n c m C : Nat) (ls : List (List UInt8)) (w : World) (hn : ls.length = n) (hm : ls.flatten.length = m) (h0 : 1 ≤ m) (h1 : m ≤ 1000) (h2 : n ≤ 1000) (hC : C ≤ w.heap.size) (hr : RdR w C A ls) :
    Calls Try.prog 56 #[.slice A n c] w fun e w' => ∃ v, e = .returned v ∧ OwnB w' w.heap.size 5 v m ls.flatten ∧ Below w.heap.size w w' := by
  obtain ⟨i0, hi, hz0, hz1, hz2⟩ := info_parts info5
  have HN := Lib.hid hn
  have HM := Lib.hid hm
  have HG := Lib.hid (grow_any m w h0 h1)
  have HLE := Lib.hid (catTo_le ls)
  clear hn hm
  go_enter Try.func56, Try.ntmps56
  go_wp2_with fail
  go_loop [3, 5, 11] (fun z _ t => ∃ k : Nat, k ≤ n ∧ t = .int .i64 k ∧ z = .int .i64 ((catTo ls k).length : Int)) (fun _ _ t => n - (intOf t).toNat)
  case atStart => exact ⟨0, by omega, rfl, rfl⟩
  case round =>
    obtain ⟨k, hk, rfl, rfl⟩ := hrel
    by_cases hlt : k < n
    · have hii : (k : Int) < (n : Int) := by omega
      have hil : k < ls.length := by rw [HN.out]; exact hlt
      obtain ⟨b, off, A1, c1, rfl, hbs, hc, hlc, hcm, hrd⟩ := hr.at_ k hil
      have HSC := Lib.hid (catTo_succ hil)
      have HL1 := Lib.hid (HLE.out (k + 1))
      rw [HSC.out, List.length_append, HM.out] at HL1
      obtain ⟨p, hp⟩ : ∃ p, (catTo ls k).length = p := ⟨_, rfl⟩
      obtain ⟨q, hq⟩ : ∃ q, ls[k].length = q := ⟨_, rfl⟩
      have HPQ := Lib.hid (show (catTo ls (k + 1)).length = p + q by rw [HSC.out, List.length_append, hp, hq])
      rw [hq] at hc
      rw [hp, hq] at HL1
      rw [hp]
      have hpq := HL1.out
      have hpq2 : (p : Int) + (q : Int) ≤ 1000 := by omega
      have hneg : ¬ (p : Int) + (q : Int) < 0 := by omega
      clear hp hq hrd hlc HSC HL1 hil
      go_wp2_with fail
      go_round
      case rel => exact ⟨k + 1, by omega, by go_num, by rw [HPQ.out]; go_num⟩
      case measure => simp [intOf]; omega
    · obtain rfl : k = n := by omega
      have HCA := Lib.hid (show (catTo ls k).length = m by rw [← HN.out, catTo_all, HM.out])
      rw [HCA.out]
      have hni : ¬ (k : Int) < (k : Int) := by omega
      go_wp2_with fail
      with_reducible refine (HG.out).mono ?_
      rintro e w1 ⟨v, rfl, hown, hb1⟩
      have HO1 := Lib.hid hown
      clear hown HG
      go_wp2_with fail
      clear hni
      go_loopw [6, 8, 27] (fun u _ t wr => ∃ j : Nat, j ≤ k ∧ t = .int .i64 j ∧ Below w.heap.size w wr ∧ Hid (OwnB wr w.heap.size 5 u (catTo ls j).length (catTo ls j))) (fun _ _ t _ => k - (intOf t).toNat)
      case atStart => exact ⟨0, by omega, rfl, hb1, HO1⟩
      case round =>
        clear hb1 HO1
        obtain ⟨j, hj, rfl, hbel, HO⟩ := hrel
        by_cases hjk : j < k
        · have hji : (j : Int) < (k : Int) := by omega
          have hjl : j < ls.length := by rw [HN.out]; exact hjk
          obtain ⟨b, off, A1, c1, rfl, hbs, hc, hlc, hcm, hrd⟩ := hr.at_ j hjl
          have HSC := Lib.hid (catTo_succ hjl)
          have HL1 := Lib.hid (HLE.out (j + 1))
          rw [HSC.out, List.length_append, HM.out] at HL1
          have hcc := (hbel.cell (p := ⟨b, off + j, none⟩) (Nat.lt_of_lt_of_le hbs hC)).trans hc
          have HRD := Lib.hid (hrd.below hbel hC)
          obtain ⟨q, hq⟩ : ∃ q, ls[j].length = q := ⟨_, rfl⟩
          have HQ := Lib.hid hq
          obtain ⟨p, hp⟩ : ∃ p, (catTo ls j).length = p := ⟨_, rfl⟩
          have HPQ := Lib.hid (show (catTo ls (j + 1)).length = p + q by rw [HSC.out, List.length_append, hp, hq])
          rw [hq] at hcc
          rw [hp, hq] at HL1
          rw [hp] at HO
          have hpq := HL1.out
          have hle := hbel.size
          have HOE := Lib.hid (fun v' w' (h : OwnB w' w.heap.size 5 v' (p + q) (catTo ls j ++ ls[j])) => (show OwnB w' w.heap.size 5 v' (catTo ls (j + 1)).length (catTo ls (j + 1)) by rw [HPQ.out, HSC.out]; exact h))
          generalize ls[j] = row at *
          clear hc hrd hlc hq hp hjl HSC HL1
          go_wp2_with (at_builtin; refine wpList_append_B rfl _ _ 22 22 rfl w.heap.size 5 i0 Try.underlying22 hi hz0 hz1 hz2 _ p (catTo ls j) rfl HO.out _ rfl q row HQ.out (Src.ofRd Try.underlying22 _ A1 q c1 row HQ.out HRD.out) (by omega) hle ?_)
          intro v2 w2 hown2 hg2
          have HO2 := Lib.hid (HOE.out v2 w2 hown2)
          have hbel2 : Below w.heap.size w w2 := hbel.grown hg2 hle (fun k hk => HO.out.lt k hk)
          clear hown2 hg2 HO HOE HRD hbel hcc HPQ hle
          go_wp2_with fail
          go_roundw
          case rel => exact ⟨j + 1, by omega, by go_num, hbel2, HO2⟩
          case measure => simp [intOf]; omega
        · obtain rfl : j = k := by omega
          have HO2 := Lib.hid HO.out
          rw [HCA.out] at HO2
          have HFL := Lib.hid (show catTo ls j = ls.flatten by rw [← HN.out, catTo_all])
          rw [HFL.out] at HO2
          have hni : ¬ (j : Int) < (j : Int) := by omega
          clear HO
          go_wp2_with fail
          go_ret
          exact ⟨_, rfl, HO2.out, hbel⟩
end Go.Proofs.Ytkgemngkkedcnaa
