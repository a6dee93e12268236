/- Sum of the document answers the law on plain numbers. -/
import Derived.Test.YtkkokngdhhakdaaDoorShaC
import Derived.RegionTactic
import Derived.BigRegion
import Derived.Test.YtkkokngdhhakdaaDoorShaD
import Derived.Test.YtkkokngdhhakdaaDoorRSumEnd
namespace Go.Proofs.YtkkokngdhhakdaaDoor
open Go.RowKit

set_option maxHeartbeats 400000 in
theorem turn_any (x n : Nat) (w : World) (hx : x < 4294967296) (hn : n < 32) :
    Calls Tryd.prog 94 #[.int .u32 x, .int .u64 n] w fun e w' => e = .returned (.int .u32 (rot x n : Int)) ∧ w = w' := by
  have hr : bits .or .u32 ((x : Int) / 2 ^ n) ((x : Int) * 2 ^ (32 - n) % 4294967296) = ((rot x n : Nat) : Int) := by
    have e1 : (x : Int) / 2 ^ n = ((x / 2 ^ n : Nat) : Int) := by simp
    have e2 : (x : Int) * 2 ^ (32 - n) % 4294967296 = ((x * 2 ^ (32 - n) % 4294967296 : Nat) : Int) := by simp
    rw [e1, e2, or_u32 _ _ (Nat.lt_of_le_of_lt (Nat.div_le_self _ _) hx) (Nat.mod_lt _ (by decide))]
    rfl
  have HR := Lib.hid hr
  clear hr
  go_enter Tryd.func94, Tryd.ntmps94
  go_wp2
  go_ret
  exact ⟨ret_int HR.out, rfl⟩

theorem turn_s (x n : Nat) (w : World) (hx : x < 4294967296) (hn : n < 32) (k : Int) (hk : k = (n : Int)) :
    Calls Tryd.prog 94 #[.int .u32 x, .int .u64 k] w fun e w' => e = .returned (.int .u32 (rot x n : Int)) ∧ w' = w := by
  subst hk
  exact (turn_any x n w hx hn).mono fun _ _ ⟨h, k⟩ => ⟨h, k.symm⟩
theorem turn_t (x n : Nat) (w : World) (hx : x < 4294967296) (hn : n < 32) (k : Int) (hk : k = (n : Int)) :
    Calls Tryd.prog 94 #[.int .u32 x, .int .u64 k] w fun e w' => e = .returned (.int .u32 (rot x n : Int)) ∧ w = w' := by
  subst hk
  exact turn_any x n w hx hn
theorem bg1_val (e : Nat) (h : e < 4294967296) : bits .xor .u32 (bits .xor .u32 (rot e 6 : Int) (rot e 11 : Int)) (rot e 25 : Int) = (bg1 e : Int) := by
  rw [xor_u32 _ _ (rot_lt e _ h) (rot_lt e _ h), xor_u32 _ _ (xor_lt (rot_lt e _ h) (rot_lt e _ h)) (rot_lt e _ h)]; rfl
theorem bg0_val (e : Nat) (h : e < 4294967296) : bits .xor .u32 (bits .xor .u32 (rot e 2 : Int) (rot e 13 : Int)) (rot e 22 : Int) = (bg0 e : Int) := by
  rw [xor_u32 _ _ (rot_lt e _ h) (rot_lt e _ h), xor_u32 _ _ (xor_lt (rot_lt e _ h) (rot_lt e _ h)) (rot_lt e _ h)]; rfl
def stI (w : World) (g : Nat) (v0 v1 v2 v3 v4 v5 v6 v7 : Int) : World := (((((((w.setCell ⟨g, 0, none⟩ (.int .u32 v0)).setCell ⟨g, 1, none⟩ (.int .u32 v1)).setCell ⟨g, 2, none⟩ (.int .u32 v2)).setCell ⟨g, 3, none⟩ (.int .u32 v3)).setCell ⟨g, 4, none⟩ (.int .u32 v4)).setCell ⟨g, 5, none⟩ (.int .u32 v5)).setCell ⟨g, 6, none⟩ (.int .u32 v6)).setCell ⟨g, 7, none⟩ (.int .u32 v7)
theorem stI_blk {w : World} {g : Nat} {H : H8} {T : TypeId} (h : Blk w g (h8 H) T) (H' : H8) {v0 v1 v2 v3 v4 v5 v6 v7 : Int} (e0 : v0 = H'.a) (e1 : v1 = H'.b) (e2 : v2 = H'.c) (e3 : v3 = H'.d) (e4 : v4 = H'.e) (e5 : v5 = H'.f) (e6 : v6 = H'.g) (e7 : v7 = H'.h) : Blk (stI w g v0 v1 v2 v3 v4 v5 v6 v7) g (h8 H') T := by
  subst e0 e1 e2 e3 e4 e5 e6 e7
  have s := (((((((h.set 0 (.int .u32 (H'.a : Int))).set 1 (.int .u32 (H'.b : Int))).set 2 (.int .u32 (H'.c : Int))).set 3 (.int .u32 (H'.d : Int))).set 4 (.int .u32 (H'.e : Int))).set 5 (.int .u32 (H'.f : Int))).set 6 (.int .u32 (H'.g : Int))).set 7 (.int .u32 (H'.h : Int))
  have e : (((((((((h8 H).setIfInBounds 0 (.int .u32 (H'.a : Int))).setIfInBounds 1 (.int .u32 (H'.b : Int))).setIfInBounds 2 (.int .u32 (H'.c : Int))).setIfInBounds 3 (.int .u32 (H'.d : Int))).setIfInBounds 4 (.int .u32 (H'.e : Int))).setIfInBounds 5 (.int .u32 (H'.f : Int))).setIfInBounds 6 (.int .u32 (H'.g : Int))).setIfInBounds 7 (.int .u32 (H'.h : Int))) = h8 H' := by
    simp [h8, u32A, list8]
  rw [e] at s
  exact s
theorem stI_below {w : World} {g : Nat} (v0 v1 v2 v3 v4 v5 v6 v7 : Int) {B : Nat} {a : World} (h : Below B a w) (hg : B ≤ g) : Below B a (stI w g v0 v1 v2 v3 v4 v5 v6 v7) :=
  (((((((h.setCell hg _).setCell hg _).setCell hg _).setCell hg _).setCell hg _).setCell hg _).setCell hg _).setCell hg _
theorem stI_other {w : World} {g b : Nat} {cs : Array Value} {T : TypeId} (h : Blk w b cs T) (hb : b ≠ g) (v0 v1 v2 v3 v4 v5 v6 v7 : Int) : Blk (stI w g v0 v1 v2 v3 v4 v5 v6 v7) b cs T :=
  (((((((h.other hb _).other hb _).other hb _).other hb _).other hb _).other hb _).other hb _).other hb _
theorem stI_grown (w : World) (g : Nat) (v0 v1 v2 v3 v4 v5 v6 v7 : Int) : w.grownBy (stI w g v0 v1 v2 v3 v4 v5 v6 v7) (some g) :=
  (((((((Lib.grownBy_setCell w g 0 _).trans (Lib.grownBy_setCell _ _ _ _)).trans (Lib.grownBy_setCell _ _ _ _)).trans (Lib.grownBy_setCell _ _ _ _)).trans (Lib.grownBy_setCell _ _ _ _)).trans (Lib.grownBy_setCell _ _ _ _)).trans (Lib.grownBy_setCell _ _ _ _)).trans (Lib.grownBy_setCell _ _ _ _)
theorem made_row {w1 w2 : World} {old cs : Array Value} {T : TypeId} (hw2 : (w1.alloc (.cells old T)).setRow w1.heap.size cs = w2) : w2.heap[w1.heap.size]? = some (.cells cs T (0, 0)) ∧ Below w1.heap.size w1 w2 ∧ w2.heap.size = w1.heap.size + 1 := by
  subst hw2
  refine ⟨setRow_heap _ _ _ _ _ _ (heap_alloc_new _ _), ?_, by simp⟩
  exact ((Below.refl _ _).alloc (Nat.le_refl _) _).grown (row := some w1.heap.size) ⟨rfl, rfl, rfl, by simp, fun j _ hj => setRow_other _ _ _ _ (fun e => hj (by rw [e]))⟩ (by simp) (fun k hk => by injection hk with hk; omega)

/-- The result's row, the constants', the state's. -/
def Rows3 (w : World) (rb kb hb : Nat) (rs : Array Value) (H : H8) : Prop :=
  Blk w rb rs 25 ∧ Blk w kb (u32Cells kL).toArray 101 ∧ Blk w hb (h8 H) 95
theorem Rows3.keep {w w' : World} {rb kb hb B : Nat} {rs : Array Value} {H : H8} (h : Rows3 w rb kb hb rs H) (h1 : rb < B) (h2 : kb < B) (h3 : hb < B) (hk : Below B w w') : Rows3 w' rb kb hb rs H :=
  ⟨h.1.below hk h1, h.2.1.below hk h2, h.2.2.below hk h3⟩

def sliceN : Value → Nat
  | .slice _ n _ => n
  | _ => 0
/-- The bytes with the mark and j noughts. -/
def padTo (l : List UInt8) (j : Nat) : List UInt8 := l ++ [128] ++ List.replicate j 0
theorem padTo_len (l : List UInt8) (j : Nat) : (padTo l j).length = l.length + 1 + j := by simp [padTo]; omega
theorem padTo_succ (l : List UInt8) (j : Nat) : padTo l (j + 1) = padTo l j ++ [0] := by simp [padTo, List.replicate_succ']
theorem zeros_end (n j : Nat) (hj : j ≤ zeros n) (h : (n + 1 + j) % 64 = 56) : j = zeros n := by unfold zeros at *; omega
theorem zeros_more (n j : Nat) (hj : j ≤ zeros n) (h : (n + 1 + j) % 64 ≠ 56) : j < zeros n := by unfold zeros at *; omega
theorem zeros_lt (n : Nat) : zeros n < 64 := by unfold zeros; omega
theorem Rows3.at_ {w : World} {rb kb hb : Nat} {rs : Array Value} {H : H8} (h : Rows3 w rb kb hb rs H) : Blk w hb (h8 H) 95 := h.2.2
theorem drop_getD (M : List UInt8) (a k i : Nat) (h : i < k) : ((M.drop a).take k).getD i 0 = M.getD (a + i) 0 := by
  rw [List.getD_eq_getElem?_getD, List.getD_eq_getElem?_getD, List.getElem?_take_of_lt h, List.getElem?_drop]
/-- What stands in memory between two blocks. -/
def RIn (w0 w : World) (kb hb gm : Nat) (rs : Array Value) (H : H8) (M : List UInt8) : Prop :=
  Rows3 w w0.heap.size kb hb rs H ∧ Rd w w.heap.size (some ⟨gm, 0, none⟩) M ∧ Below w0.heap.size w0 w ∧ gm < w.heap.size
theorem RIn.below {w0 w w' : World} {kb hb gm C : Nat} {rs : Array Value} {H : H8} {M : List UInt8} (h : RIn w0 w kb hb gm rs H M) (h0 : w0.heap.size < C) (hk : kb < C) (hh : hb < C) (hg : gm < C) (hb' : Below C w w') : RIn w0 w' kb hb gm rs H M := by
  obtain ⟨h1, h2, h3, h4⟩ := h
  refine ⟨h1.keep h0 hk hh hb', ?_, h3.trans (hb'.mono (by omega)), Nat.lt_of_lt_of_le h4 hb'.size⟩
  rcases h2 with h2 | ⟨b, off, e, hb, hc⟩
  · exact .inl h2
  · injection e with e; injection e with e1 e2; subst e1 e2
    exact .inr ⟨gm, 0, rfl, Nat.lt_of_lt_of_le h4 hb'.size, fun i hi => (hb'.cell (p := ⟨gm, 0 + i, none⟩) hg).trans (hc i hi)⟩

theorem RIn.sum {w0 w : World} {kb hb gm : Nat} {rs : Array Value} {H : H8} {M : List UInt8} (h : RIn w0 w kb hb gm rs H M) (h0 : w0.heap.size < kb) (hk : kb < hb) (hg : hb < gm) (S : H8) {v0 v1 v2 v3 v4 v5 v6 v7 : Int}
    (e0 : v0 = (plus8 H S).a) (e1 : v1 = (plus8 H S).b) (e2 : v2 = (plus8 H S).c) (e3 : v3 = (plus8 H S).d) (e4 : v4 = (plus8 H S).e) (e5 : v5 = (plus8 H S).f) (e6 : v6 = (plus8 H S).g) (e7 : v7 = (plus8 H S).h) : RIn w0 (stI w hb v0 v1 v2 v3 v4 v5 v6 v7) kb hb gm rs (plus8 H S) M := by
  obtain ⟨h1, h2, h3, h4⟩ := h
  have hgr := stI_grown w hb v0 v1 v2 v3 v4 v5 v6 v7
  have b1 := stI_other h1.1 (show w0.heap.size ≠ hb by omega) v0 v1 v2 v3 v4 v5 v6 v7
  have b2 := stI_other h1.2.1 (show kb ≠ hb by omega) v0 v1 v2 v3 v4 v5 v6 v7
  have b3 := stI_blk h1.2.2 (plus8 H S) e0 e1 e2 e3 e4 e5 e6 e7
  have b4 := stI_below v0 v1 v2 v3 v4 v5 v6 v7 h3 (show w0.heap.size ≤ hb by omega)
  generalize stI w hb v0 v1 v2 v3 v4 v5 v6 v7 = w' at *
  refine ⟨⟨b1, b2, b3⟩, ?_, b4, Nat.lt_of_lt_of_le h4 hgr.size⟩
  rcases h2 with h2 | ⟨b, off, e, hb', hc⟩
  · exact .inl h2
  · injection e with e; injection e with ea eb; subst ea eb
    exact .inr ⟨gm, 0, rfl, Nat.lt_of_lt_of_le h4 hgr.size, fun i hi => (World.cell?_of_block (hgr.block gm h4 (fun e => by injection e with e; omega))).trans (hc i hi)⟩

set_option maxRecDepth 100000 in
set_option maxHeartbeats 20000000 in
theorem rsum_any (A : Option Addr) (n c : Nat) (l : List UInt8) (w : World) (hl : l.length = n) (h1 : n ≤ 1000000) (hr : Rd w w.heap.size A l) :
    Calls Tryd.prog 80 #[.slice A n c] w fun e w' => e = .returned (.agg (u8A (shaL l))) ∧ Below w.heap.size w w' := by
  obtain ⟨i0, hi, hz0, hz1, hz2⟩ := info_parts info5
  have hp8 : ∀ w : World, Calls Tryd.prog 49 #[.int .i64 (8 * (n : Int)), .int .i64 8] w fun e w' => ∃ A c, e = .returned (.slice A 8 c) ∧ w'.ownsRow w.heap.size 5 1 (.slice A 8 c) 8 (Lib.byteCells (putL (8 * n) 8)) ∧ Below w.heap.size w w' := fun w => by
    have h := rput_any (8 * (n : Int)) 8 w (by omega)
    rw [show putW 8 = 8 from rfl, show putN (8 * (n : Int)) = 8 * n from by unfold putN; rw [if_neg (by omega)]; omega] at h
    exact h
  have HP8 := Lib.hid hp8
  have HL := Lib.hid hl
  clear hp8 hl
  go_enter Tryd.func80, Tryd.ntmps80
  go_wp2_with fail
  generalize hw0 : w.alloc _ = w0
  obtain ⟨rs, hg0, hrs⟩ : ∃ cs, w0.heap[w.heap.size]? = some (.cells cs 25 (0, 0)) ∧ cs.size = 32 := by rw [← hw0]; exact ⟨_, heap_alloc_new _ _, rfl⟩
  have hb0 : Below w.heap.size w w0 := by rw [← hw0]; exact (Below.refl _ _).alloc (Nat.le_refl _) _
  have hs0 : w.heap.size < w0.heap.size := by rw [← hw0]; simp
  clear hw0
  refine (rounds_any _).mono ?_
  rintro e w1 ⟨rfl, hb1⟩
  have hg1 := (hb1.block w.heap.size hs0).trans hg0
  have hbel1 := hb0.trans (hb1.mono (Nat.le_of_lt hs0))
  have hs1 : w.heap.size < w1.heap.size := Nat.lt_of_lt_of_le hs0 hb1.size
  clear hg0 hb0 hb1 hs0
  go_wp2_with (first
    | (with_reducible refine wpList_store_row rfl 101 (.tmp 3) (.tmp 26) rfl w1.heap.size (u32Cells kL).toArray rfl rfl 101 _ (heap_alloc_new _ _) (by kernel_rfl) (by kernel_rfl) (by kernel_rfl) ?_
       generalize hw2 : World.setRow _ _ _ = w2
       obtain ⟨hk2, hb2, hs2⟩ := made_row hw2
       clear hw2)
    | (at_builtin; refine wpList_append_rd rfl _ _ 26 rfl (w2.heap.size + 1) 5 i0 Tryd.underlying26 hi hz0 hz1 hz2 _ 0 [] rfl (World.ownsRow_nil _ _ _ _) w.heap.size A n c l rfl HL.out (hr.below ((hbel1.trans (hb2.mono (Nat.le_of_lt hs1))).alloc (by omega) _) (Nat.le_refl _)) (by omega) (by simp) ?_))
  intro v3 w3 hown3 hg3
  obtain ⟨kb, hkb⟩ : ∃ x, w1.heap.size = x := ⟨_, rfl⟩
  obtain ⟨hb, hhb⟩ : ∃ x, kb + 1 = x := ⟨_, rfl⟩
  obtain ⟨B, hB⟩ : ∃ x, hb + 1 = x := ⟨_, rfl⟩
  have hst : Rows3 w3 w.heap.size kb hb rs init8 ∧ Below w.heap.size w w3 ∧ B ≤ w3.heap.size := by
    have hs3 := hg3.size
    simp only [World.size_alloc] at hs3
    have e1 : ∀ g, g < w2.heap.size + 1 → w3.heap[g]? = (w2.alloc (.cells (h8 init8) 95)).heap[g]? := fun g hg => hg3.block g (by simp; omega) (by simp [Value.ownBlock])
    refine ⟨⟨?_, ?_, ?_⟩, ?_, by omega⟩
    · unfold Blk; rw [e1 _ (by omega), heap_alloc_old _ _ (by omega), hb2.block _ hs1]; exact hg1
    · unfold Blk; rw [e1 _ (by omega), heap_alloc_old _ _ (by omega), ← hkb]; exact hk2
    · unfold Blk; rw [e1 _ (by omega), ← hhb, ← hkb, ← hs2]; exact heap_alloc_new _ _
    · exact ((hbel1.trans (hb2.mono (Nat.le_of_lt hs1))).alloc (by omega) _).grown hg3 (by simp; omega) (by simp [Value.ownBlock])
  have hBs : w1.heap.size + 1 + 1 = B := by omega
  have hs2B : w2.heap.size + 1 = B := by omega
  rw [hBs] at hown3
  obtain ⟨hR3, hbel3, hsz3⟩ := hst
  have hrb : w.heap.size < kb := by omega
  have HR3 := Lib.hid hR3
  have HO3 := Lib.hid hown3
  rw [hkb]
  rw [hhb]
  clear hown3 hg3 hR3 hbel1 hb2 hk2 hg1 hs1 hs2 hBs hkb hs2B
  go_wp2_with (at_builtin; refine wpList_append_rd rfl _ _ 26 rfl B 5 i0 Tryd.underlying26 hi hz0 hz1 hz2 v3 n _ rfl (HO3.out.alloc _) _ _ 1 1 [128] rfl rfl (Rd.one _ 5 128 _ rfl) (by omega) (by simp; omega) ?_)
  intro v4 w4 hown4 hg4
  have hbel4 : Below w.heap.size w w4 := (hbel3.alloc (by omega) _).grown hg4 (by simp; omega) (fun k hk => by have := (HO3.out.lt k hk).1; omega)
  have hkeep4 : Below B w3 w4 := ((Below.refl B w3).alloc hsz3 _).grown hg4 (by simp; omega) (fun k hk => (HO3.out.lt k hk).1)
  have HR4 := Lib.hid (HR3.out.keep (B := B) (by omega) (by omega) (by omega) hkeep4)
  have hsz4 := Nat.le_trans hsz3 hkeep4.size
  have HO4 := Lib.hid (show w4.ownsRow B 5 1 v4 (n + 1 + 0) (Lib.byteCells (padTo l 0)) by rw [← Lib.byteCells_append] at hown4; exact (by simpa [padTo] using hown4))
  clear hown4 hg4 hbel3 hsz3 hkeep4 HR3 HO3
  have hcast : w.heap.size ≤ B := by omega
  go_wp2_with fail
  go_loopw [5] (fun v wr => ∃ j : Nat, Hid (j ≤ zeros n) ∧ j ≤ 64 ∧ Hid (wr.ownsRow B 5 1 v (n + 1 + j) (Lib.byteCells (padTo l j))) ∧ Below w.heap.size w wr ∧ Hid (Rows3 wr w.heap.size kb hb rs init8) ∧ B ≤ wr.heap.size ∧ sliceN v = n + 1 + j) (fun v _ => n + 65 - sliceN v)
  case atStart => exact ⟨0, Lib.hid (Nat.zero_le _), by omega, HO4, hbel4, HR4, hsz4, by obtain ⟨A, c, rfl, _⟩ := own_slice HO4.out; rfl⟩
  case round =>
    obtain ⟨j, hj, hj64, HO, hbel, HR, hsz, hsn⟩ := hrel
    by_cases h56 : (n + 1 + j) % 64 = 56
    · have hjz := zeros_end n j hj.out h56
      have HO6 := HO
      have HPL := Lib.hid (show padTo l j ++ putL (8 * n) 8 = padL l by rw [hjz]; unfold padTo padL; rw [HL.out])
      obtain ⟨A5, c5, rfl, _⟩ := own_slice HO.out
      have t56 : ((n : Int) + 1 + (j : Int)) % 64 = 56 := by omega
      have hle : w.heap.size ≤ wr.heap.size := hbel.size
      clear hj HO hjz hsn HO4 HR4 hbel4 hsz4
      go_wp2_with fail
      refine (HP8.out _).mono ?_
      rintro e w5 ⟨A6, c6, rfl, hown6, hb6⟩
      have hr6 := Rd.of_own hown6
      have HO7 := Lib.hid (own_on HO6.out hb6)
      have HR7 := Lib.hid (HR.out.keep (B := B) (by omega) (by omega) (by omega) (hb6.mono hsz))
      have hbel7 := hbel.trans (hb6.mono hle)
      have hsz7 := Nat.le_trans hsz hb6.size
      clear hown6 hb6 HO6 HR hbel hsz
      go_wp2_with (at_builtin; refine wpList_append_rd rfl _ _ 26 rfl B 5 i0 Tryd.underlying26 hi hz0 hz1 hz2 (.slice A5 (n + 1 + j) c5) (n + 1 + j) _ rfl HO7.out _ A6 8 c6 (putL (8 * n) 8) rfl (putL_length _ _) hr6 (by omega) (by omega) ?_)
      intro v8 w8 hown8 hg8
      rw [← Lib.byteCells_append, HPL.out] at hown8
      have hbel8 := hbel7.grown hg8 (by omega) (fun q hq => by have := (HO7.out.lt q hq).1; omega)
      have hR8 := HR7.out.keep (B := B) (by omega) (by omega) (by omega) ((Below.refl B w5).grown hg8 hsz7 (fun q hq => (HO7.out.lt q hq).1))
      obtain ⟨gm, cm, rfl, hgB, hgl⟩ := hown8.form (by omega)
      have hNl := own_len hown8
      have HIN := Lib.hid (show RIn w w8 kb hb gm rs init8 (padL l) from ⟨hR8, Rd.of_own hown8, hbel8, hgl⟩)
      obtain ⟨N, hN⟩ : ∃ N, n + 1 + j + 8 = N := ⟨_, rfl⟩
      rw [hN] at hNl
      have hN64 : N % 64 = 0 := by omega
      have hNc : N ≤ cm := by have := own_cap hown8; omega
      have hNb : N ≤ 1001000 := by omega
      have HNL := Lib.hid hNl
      have hgm : hb < gm := by omega
      have hs8 := hgl
      rw [hN]
      obtain ⟨J, hJ⟩ : ∃ J, N = 64 * J := ⟨N / 64, by omega⟩
      have HJ := Lib.hid hJ
      have hkh : kb < hb := by omega
      have HHB := Lib.hid hhb
      have HHBB := Lib.hid hB
      clear hown8 hg8 hR8 hbel8 hbel7 hr6 HO7 HR7 hsz7 HPL hN hNl h56 t56 hJ HP8 hi hz0 hz1 hz2 hhb hB hgl hN64
      go_wp2_with fail
      go_loopw [6] (fun t wa => ∃ a : Nat, a ≤ J ∧ t = .int .i64 ((64 * a : Nat) : Int) ∧ Hid (RIn w wa kb hb gm rs (blocksTo (padL l) a) (padL l))) (fun t _ => N - (intOf t).toNat)
      case atStart => exact ⟨0, Nat.zero_le _, rfl, HIN⟩
      case round =>
        clear HIN
        obtain ⟨a, ha, rfl, HIN⟩ := hrel
        obtain ⟨wa, rfl⟩ : ∃ y : World, y = wr := ⟨_, rfl⟩
        by_cases haJ : a < J
        · skip
          obtain ⟨at_, hat⟩ : ∃ y, 64 * a = y := ⟨_, rfl⟩
          have hatN : at_ + 64 ≤ N := by have := HJ.out; omega
          have HAT := Lib.hid hat
          have HP := Lib.hid (show ((padL l).drop (64 * a)).take 64 = ((padL l).drop at_).take 64 by rw [hat])
          rw [hat]
          have hatNi : (at_ : Int) < (N : Int) := by omega
          have hsa := HIN.out.2.2.2
          clear hat
          go_wp2_with fail
          generalize hwi : wa.alloc _ = wi
          obtain ⟨wb, hwb⟩ : ∃ y, wa.heap.size = y := ⟨_, rfl⟩
          have hwbg : gm < wb := by omega
          have HIN2 := Lib.hid (show RIn w wi kb hb gm rs (blocksTo (padL l) a) (padL l) from HIN.out.below (C := wb) (by omega) (by omega) (by omega) hwbg (by subst hwi hwb; exact (Below.refl _ _).alloc (Nat.le_refl _) _))
          have HB0 := Lib.hid (show Blk wi wb (u32A (padW 64 [])) 101 by subst hwi hwb; exact Blk.new wa (u32A (padW 64 [])) 101)
          rw [hwb]
          clear hwi hwb HIN hsa
          go_loopw [8] (fun t wr => ∃ i : Nat, i ≤ 16 ∧ t = .int .i64 i ∧ Below wb wi wr ∧ Hid (Blk wr wb (u32A (padW 64 (wordsTo (((padL l).drop at_).take 64) i))) 101)) (fun t _ => 16 - (intOf t).toNat)
          case atStart => exact ⟨0, by omega, rfl, Below.refl _ _, HB0⟩
          case round =>
            clear HB0
            obtain ⟨i, hi, rfl, hbw, HB⟩ := hrel
            by_cases hi16 : i < 16
            · skip
              have hML := HNL.out
              obtain ⟨b0, b1, b2, b3⟩ := (HIN2.out.below (C := wb) (by omega) (by omega) (by omega) hwbg hbw).2.1.four (at_ + 4 * i) (by omega)
              simp only [Nat.zero_add] at b0 b1 b2 b3
              have e0 : (padL l).getD (at_ + 4 * i) 0 = (((padL l).drop at_).take 64).getD (4 * i) 0 := (drop_getD (padL l) at_ 64 (4 * i) (by omega)).symm
              have e1 : (padL l).getD (at_ + 4 * i + 1) 0 = (((padL l).drop at_).take 64).getD (4 * i + 1) 0 := (drop_getD (padL l) at_ 64 (4 * i + 1) (by omega)).symm
              have e2 : (padL l).getD (at_ + 4 * i + 2) 0 = (((padL l).drop at_).take 64).getD (4 * i + 2) 0 := (drop_getD (padL l) at_ 64 (4 * i + 2) (by omega)).symm
              have e3 : (padL l).getD (at_ + 4 * i + 3) 0 = (((padL l).drop at_).take 64).getD (4 * i + 3) 0 := (drop_getD (padL l) at_ 64 (4 * i + 3) (by omega)).symm
              rw [e0] at b0
              rw [e1] at b1
              rw [e2] at b2
              rw [e3] at b3
              generalize ((padL l).drop at_).take 64 = p at *
              have HW := Lib.hid (word_def p i)
              have f0 := (p.getD (4 * i) 0).toNat_lt
              have f1 := (p.getD (4 * i + 1) 0).toNat_lt
              have f2 := (p.getD (4 * i + 2) 0).toNat_lt
              have f3 := (p.getD (4 * i + 3) 0).toNat_lt
              clear e0 e1 e2 e3 hML
              generalize p.getD (4 * i) 0 = y0 at *
              generalize p.getD (4 * i + 1) 0 = y1 at *
              generalize p.getD (4 * i + 2) 0 = y2 at *
              generalize p.getD (4 * i + 3) 0 = y3 at *
              have l0 : (0 : Int) ≤ (at_ : Int) + 4 * (i : Int) := by omega
              have l1 : (at_ : Int) + 4 * (i : Int) ≤ (N : Int) := by omega
              have l2 : ((at_ : Int) + 4 * (i : Int)).toNat = at_ + 4 * i := by omega
              have l3 : ¬ N = at_ + 4 * i := by omega
              have l4 : ¬ cm = at_ + 4 * i := by omega
              obtain ⟨q, hq⟩ : ∃ q, N - (at_ + 4 * i) = q := ⟨_, rfl⟩
              have q0 : 0 < q := by omega
              have q1 : (1 : Int) < (q : Int) := by omega
              have q2 : (2 : Int) < (q : Int) := by omega
              have q3 : (3 : Int) < (q : Int) := by omega
              have i64 : (i : Int) < 64 := by omega
              have hf := HB.out.frozen i
              obtain ⟨old, ho⟩ : ∃ old, wr.cell? ⟨wb, i, none⟩ = some old := ⟨_, (HB.out.cell i).trans (u32A_get (by rw [padW_len (by rw [wordsTo_len]; omega)]; omega))⟩
              go_wp2_with fail
              clear l0 l1 l2 l3 l4 hq
              go_still_tail 24, (by kernel_rfl)
              go_wp2
              go_roundw
              case rel =>
                refine ⟨i + 1, by omega, by go_num, (hbw.drew).setCell (by simp) _, Lib.hid ?_⟩
                exact Blk.word (w := wr.drew) HB.out (wordsTo_len p i) (by omega) ((word_val y0 y1 y2 y3).trans (congrArg (fun n : Nat => (n : Int)) HW.out.symm))
              case measure => simp [intOf]; omega
            · skip
              have hp64 : (((padL l).drop at_).take 64).length = 64 := by rw [List.length_take, List.length_drop, HNL.out.symm]; omega
              have HB1 := Lib.hid (show Blk wr wb (u32A (padW 64 (schedTo (((padL l).drop at_).take 64) 0))) 101 by obtain rfl : i = 16 := (by omega); exact HB.out)
              obtain ⟨w10, rfl⟩ : ∃ y : World, y = wr := ⟨_, rfl⟩
              rw [← HP.out] at HB1
              obtain ⟨p, hpe⟩ : ∃ p, ((padL l).drop (64 * a)).take 64 = p := ⟨_, rfl⟩
              rw [hpe] at HB1
              have HPE := Lib.hid hpe
              clear HB hi hp64 hpe
              go_wp2_with fail
              go_loopw [10] (fun t wj => ∃ m : Nat, 16 ≤ m ∧ m ≤ 64 ∧ t = .int .i64 m ∧ Below wb wi wj ∧ Hid (Blk wj wb (u32A (padW 64 (schedTo p (m - 16)))) 101)) (fun t _ => 64 - (intOf t).toNat)
              case atStart => exact ⟨16, by omega, by omega, rfl, hbw, HB1⟩
              case round =>
                clear hbw HB1
                obtain ⟨m, hm, hm64, rfl, hbw, HB⟩ := hrel
                by_cases hlt : m < 64
                · skip
                  obtain ⟨s, hj⟩ : ∃ s, m - 16 = s := ⟨_, rfl⟩
                  rw [hj] at HB
                  have HLS := Lib.hid (show (schedTo p s).length = m by rw [schedTo_len]; omega)
                  have HN := Lib.hid (nextW_at _ m HLS.out)
                  have HJS := Lib.hid (show schedTo p (m + 1 - 16) = schedTo p s ++ [nextW (schedTo p s)] by rw [show m + 1 - 16 = s + 1 by omega]; rfl)
                  have rd : ∀ i, i < m → wr.cell? ⟨wb, i, none⟩ = some (.int .u32 ((schedTo p s).getD i 0 : Nat)) := fun i hi => by
                    rw [HB.out.cell i, u32A_get (by rw [padW_len (by rw [HLS.out]; omega)]; omega), padW_get (by rw [HLS.out]; exact hi)]
                  have c16 := rd (m - 16) (by omega)
                  have c15 := rd (m - 15) (by omega)
                  have c7 := rd (m - 7) (by omega)
                  have c2 := rd (m - 2) (by omega)
                  have hf := HB.out.frozen m
                  obtain ⟨old, ho⟩ : ∃ old, wr.cell? ⟨wb, m, none⟩ = some old := ⟨_, (HB.out.cell m).trans (u32A_get (by rw [padW_len (by rw [HLS.out]; omega)]; omega))⟩
                  have hx := getD_lt (sched_lt p s) (m - 15)
                  have hy := getD_lt (sched_lt p s) (m - 2)
                  generalize (schedTo p s).getD (m - 16) 0 = a0 at *
                  generalize (schedTo p s).getD (m - 15) 0 = x at *
                  generalize (schedTo p s).getD (m - 7) 0 = c0 at *
                  generalize (schedTo p s).getD (m - 2) 0 = y at *
                  clear rd hj
                  have m64 : (m : Int) < 64 := by omega
                  have g15 : (15 : Int) ≤ (m : Int) := by omega
                  have l15 : (m : Int) - 15 < 64 := by omega
                  have t15 : ((m : Int) - 15).toNat = m - 15 := by omega
                  have g2 : (2 : Int) ≤ (m : Int) := by omega
                  have l2 : (m : Int) - 2 < 64 := by omega
                  have t2 : ((m : Int) - 2).toNat = m - 2 := by omega
                  have s15 : IntKind.i64.wrap ((m : Int) - 15) = (m : Int) - 15 := IntWalk.i64_in _ (by omega)
                  have s2 : IntKind.i64.wrap ((m : Int) - 2) = (m : Int) - 2 := IntWalk.i64_in _ (by omega)
                  go_wp2_with fail
                  go_quiet (fail)
                  generalize hwq : wr.drewN nq = wq
                  have e16 : wq.cell? ⟨wb, m - 16, none⟩ = some (.int .u32 a0) := by rw [← hwq]; exact c16
                  have e7 : wq.cell? ⟨wb, m - 7, none⟩ = some (.int .u32 c0) := by rw [← hwq]; exact c7
                  have ef : wq.frozen? ⟨wb, m, none⟩ = false := by rw [← hwq]; exact hf
                  have eo : wq.cell? ⟨wb, m, none⟩ = some old := by rw [← hwq]; exact ho
                  have hbq : Below wb wi wq := by rw [← hwq]; exact below_drewN hbw _
                  have HBq := Lib.hid (show Blk wq wb (u32A (padW 64 (schedTo p s))) 101 by rw [← hwq]; exact HB.out)
                  clear c16 c7 hf ho hbw HB c15 c2 hwq s15 s2 t15 t2 g15 g2 l15 l2
                  have g16 : (16 : Int) ≤ (m : Int) := by omega
                  have l16 : (m : Int) - 16 < 64 := by omega
                  have t16 : ((m : Int) - 16).toNat = m - 16 := by omega
                  have g7 : (7 : Int) ≤ (m : Int) := by omega
                  have l7 : (m : Int) - 7 < 64 := by omega
                  have t7 : ((m : Int) - 7).toNat = m - 7 := by omega
                  have s16 : IntKind.i64.wrap ((m : Int) - 16) = (m : Int) - 16 := IntWalk.i64_in _ (by omega)
                  have s7 : IntKind.i64.wrap ((m : Int) - 7) = (m : Int) - 7 := IntWalk.i64_in _ (by omega)
                  go_wp2_with fail
                  refine wp_region_still_tail 29 (by kernel_rfl) (by kernel_rfl) ?_
                  simp only [List.take_succ_cons, List.take_zero, List.drop_succ_cons, List.drop_zero]
                  repeat still_step
                  still_call (turn_s x 7 _ hx (by decide) _ rfl)
                  repeat still_step
                  still_call (turn_s x 18 _ hx (by decide) _ rfl)
                  repeat still_step
                  still_call (turn_s y 17 _ hy (by decide) _ rfl)
                  repeat still_step
                  still_call (turn_s y 19 _ hy (by decide) _ rfl)
                  repeat still_step
                  refine wpStill_nil ?_
                  change wpList _ _ _ _ _ wq.drew
                  go_wp2
                  go_roundw
                  case rel =>
                    refine ⟨m + 1, by omega, by omega, by go_num, (hbq.drew).setCell (by simp) _, Lib.hid ?_⟩
                    rw [HJS.out, HN.out]
                    exact Blk.word (w := wq.drew) HBq.out HLS.out (by omega) (next_val a0 x c0 y hx hy)
                  case measure => simp [intOf]; omega
                · skip
                  have hws : Blk wr wb (u32A (schedTo p 48)) 101 := by obtain rfl : m = 64 := (by omega); have := HB.out; rwa [padW_full (by rw [schedTo_len])] at this
                  have hin := HIN2.out.below (C := wb) (by omega) (by omega) (by omega) hwbg hbw
                  obtain ⟨h0, h1', h2, h3, h4, h5, h6, h7⟩ := h8_cells hin.1.2.2
                  have HOKH := Lib.hid (blocksTo_ok (padL l) a)
                  have HPE2 := Lib.hid (show blocksTo (padL l) (a + 1) = plus8 (blocksTo (padL l) a) (rndsTo (schedTo p 48) (blocksTo (padL l) a) 64) by rw [← HPE.out]; rfl)
                  have HWL := Lib.hid (schedTo_len p 48)
                  have HWS := Lib.hid (sched_lt p 48)
                  generalize schedTo p 48 = ws at *
                  obtain ⟨Ha, hHa⟩ : ∃ y, blocksTo (padL l) a = y := ⟨_, rfl⟩
                  rw [hHa] at h0 h1' h2 h3 h4 h5 h6 h7 HOKH HPE2 hin
                  have HINA := Lib.hid hin
                  have HWSB := Lib.hid hws
                  clear hHa hin hws HB hm hm64 HIN2
                  go_wp2_with fail
                  go_quiet (fail)
                  clear h0 h1' h2 h3 h4 h5 h6 h7
                  generalize hwq : wr.drewN nq = wq
                  have hst : RIn w wq kb hb gm rs Ha (padL l) ∧ Blk wq wb (u32A ws) 101 := by
                    subst hwq
                    exact ⟨⟨HINA.out.1, HINA.out.2.1, below_drewN HINA.out.2.2.1 _, HINA.out.2.2.2⟩, HWSB.out⟩
                  have HST := Lib.hid hst
                  clear hst hwq HINA HWSB hbw
                  go_wp2_with fail
                  go_loopw [13, 14, 15, 16, 17, 18, 19, 20, 21] (fun va vb vc vd ve vf vg vh t wr => ∃ (z : Nat) (S : H8), z ≤ 64 ∧ t = .int .i64 z ∧ Hid (S = rndsTo ws Ha z) ∧ va = .int .u32 S.a ∧ vb = .int .u32 S.b ∧ vc = .int .u32 S.c ∧ vd = .int .u32 S.d ∧ ve = .int .u32 S.e ∧ vf = .int .u32 S.f ∧ vg = .int .u32 S.g ∧ vh = .int .u32 S.h ∧ Hid S.ok ∧ Hid (RIn w wr kb hb gm rs Ha (padL l) ∧ Blk wr wb (u32A ws) 101)) (fun _ _ _ _ _ _ _ _ t _ => 64 - (intOf t).toNat)
                  case atStart => exact ⟨0, Ha, by omega, rfl, Lib.hid rfl, rfl, rfl, rfl, rfl, rfl, rfl, rfl, rfl, HOKH, HST⟩
                  case round =>
                    clear HST
                    obtain ⟨z, S, hz, rfl, HS, rfl, rfl, rfl, rfl, rfl, rfl, rfl, rfl, HO, HST⟩ := hrel
                    by_cases hlt64 : z < 64
                    · skip
                      have HN := Lib.hid (show rnd S ((kL.getD z 0).toNat) (ws.getD z 0) = rndsTo ws Ha (z + 1) by rw [HS.out]; rfl)
                      have HON := Lib.hid (rnd_ok S ((kL.getD z 0).toNat) (ws.getD z 0) HO.out)
                      obtain ⟨ck, hkl2⟩ := kL_get z hlt64
                      have cw := (HST.out.2.cell z).trans (u32A_get (ns := ws) (i := z) (by rw [HWL.out]; omega))
                      have hwl2 := getD_lt HWS.out z
                      have ck2 := (HST.out.1.1.2.1.cell z).trans ck
                      obtain ⟨o1, o2, o3, o4, o5, o6, o7, o8⟩ := HO.out
                      obtain ⟨s1, s2, s3, s4, s5, s6, s7, s8⟩ := S
                      simp only at o1 o2 o3 o4 o5 o6 o7 o8 ⊢
                      generalize (kL.getD z 0).toNat = kj at *
                      generalize ws.getD z 0 = wj at *
                      have HCH := Lib.hid (chs_val s5 s6 s7 o5 o6 o7)
                      have HMJ := Lib.hid (maj_val s1 s2 s3 o1 o2 o3)
                      have HG1 := Lib.hid (bg1_val s5 o5)
                      have HG0 := Lib.hid (bg0_val s1 o1)
                      have z64 : (z : Int) < 64 := by omega
                      clear HS HO ck hz
                      go_wp2_with fail
                      go_quiet ((go_at_call 94; first | exact Calls.quiet_of_same (turn_s s5 6 _ o5 (by decide) _ rfl) | exact Calls.quiet_of_same (turn_s s5 11 _ o5 (by decide) _ rfl) | exact Calls.quiet_of_same (turn_s s5 25 _ o5 (by decide) _ rfl)))
                      have hstq : RIn w (wr.drewN nq) kb hb gm rs Ha (padL l) ∧ Blk (wr.drewN nq) wb (u32A ws) 101 := ⟨⟨HST.out.1.1, HST.out.1.2.1, below_drewN HST.out.1.2.2.1 _, HST.out.1.2.2.2⟩, HST.out.2⟩
                      generalize wr.drewN nq = wz at *
                      have HSTQ := Lib.hid hstq
                      clear hstq HST ck2 cw
                      go_wp2_with fail
                      refine (turn_t s1 2 _ o1 (by decide) _ rfl).mono ?_
                      rintro e w' ⟨rfl, rfl⟩
                      go_wp2_with fail
                      refine (turn_t s1 13 _ o1 (by decide) _ rfl).mono ?_
                      rintro e w' ⟨rfl, rfl⟩
                      go_wp2_with fail
                      refine (turn_t s1 22 _ o1 (by decide) _ rfl).mono ?_
                      rintro e w' ⟨rfl, rfl⟩
                      go_wp2_with fail
                      go_roundw
                      case rel =>
                        refine ⟨z + 1, _, by omega, by go_num, HN, ?_, rfl, rfl, rfl, ?_, rfl, rfl, rfl, HON, HSTQ⟩
                        · rw [HCH.out, HMJ.out, HG1.out, HG0.out]
                          exact congrArg _ (by simp only [rnd]; omega)
                        · rw [HCH.out, HG1.out]
                          exact congrArg _ (by simp only [rnd]; omega)
                      case measure => simp [intOf]; omega
                    · skip
                      have HE := Lib.hid (show blocksTo (padL l) (a + 1) = plus8 Ha S by obtain rfl : z = 64 := (by omega); rw [HPE2.out, HS.out])
                      obtain ⟨hin, hwsb⟩ := HST.out
                      obtain ⟨h0, h1', h2, h3, h4, h5, h6, h7⟩ := h8_cells hin.1.2.2
                      have y0 := hin.1.2.2.frozen 0
                      have y1 := hin.1.2.2.frozen 1
                      have y2 := hin.1.2.2.frozen 2
                      have y3 := hin.1.2.2.frozen 3
                      have y4 := hin.1.2.2.frozen 4
                      have y5 := hin.1.2.2.frozen 5
                      have y6 := hin.1.2.2.frozen 6
                      have y7 := hin.1.2.2.frozen 7
                      have HINA := Lib.hid hin
                      clear hin hwsb HST HS hz
                      go_wp2_with fail
                      go_roundw
                      case rel =>
                        refine ⟨a + 1, by omega, by have := HAT.out; exact congrArg _ (by omega), Lib.hid ?_⟩
                        rw [HE.out]
                        exact HINA.out.sum (by omega) (by omega) (by omega) S (by simp [plus8]) (by simp [plus8]) (by simp [plus8]) (by simp [plus8]) (by simp [plus8]) (by simp [plus8]) (by simp [plus8]) (by simp [plus8])
                      case measure => simp [intOf]; omega
        · skip
          have haJ2 : a = J := by omega
          have HSHA := Lib.hid (show shaL l = outTo (blocksTo (padL l) a) 8 by have h1 := HJ.out; have h2 := HNL.out; unfold shaL; rw [← h2, h1, haJ2, show 64 * J / 64 = J by omega]; rfl)
          have HOKH := Lib.hid (blocksTo_ok (padL l) a)
          have hge : ¬ ((64 * a : Nat) : Int) < (N : Int) := by have := HJ.out; omega
          generalize blocksTo (padL l) a = H at *
          have hsa := HIN.out.2.2.2
          clear ha haJ2 haJ
          go_wp2_with fail
          generalize hw6 : wa.alloc _ = w6
          obtain ⟨kh, hkh⟩ : ∃ y, wa.heap.size = y := ⟨_, rfl⟩
          have hkg : gm < kh := by omega
          have hst : Blk w6 kh (u8A (padB 32 (outTo H 0))) 25 ∧ Below kh wa w6 := by
            subst hw6 hkh
            exact ⟨Blk.new wa (u8A (padB 32 (outTo H 0))) 25, (Below.refl _ _).alloc (Nat.le_refl _) _⟩
          have HB6 := Lib.hid hst.1
          have hb6 := hst.2
          rw [hkh]
          clear hst hw6 hkh
          go_loopw [25] (fun t wr => ∃ i : Nat, i ≤ 8 ∧ t = .int .i64 i ∧ Below kh wa wr ∧ Hid (Blk wr kh (u8A (padB 32 (outTo H i))) 25)) (fun t _ => 8 - (intOf t).toNat)
          case atStart => exact ⟨0, by omega, rfl, hb6, HB6⟩
          case round =>
            clear hb6 HB6
            obtain ⟨i, hi, rfl, hbel, HB⟩ := hrel
            by_cases hlt : i < 8
            · skip
              have hin := HIN.out.below (C := kh) (by omega) (by omega) (by omega) hkg hbel
              have HHB8 := Lib.hid hin.1.2.2
              clear hin
              go_wp2_with fail
              refine sum_end hlt (by omega) HOKH.out HHB8.out HB hbel ?_
              intro u249 u250 u251 u252 u253 u254 u255 u256 u257 u258 u259 u260 u261 u262 u263 u264 u265 u266 u267 u268 u269 u270 u271 u272 u273 u274 u275 u276 u277 u278 u279 u280 u281 u282 w' hb' HB'
              clear HHB8 HB hbel
              go_wp2
              go_roundw
              case rel => exact ⟨i + 1, by omega, by go_num, hb', HB'⟩
              case measure => simp [intOf]; omega
            · skip
              have hB : Blk wr kh (u8A (shaL l)) 25 := by
                obtain rfl : i = 8 := (by omega)
                have := HB.out
                rwa [padB_full (outTo_len H 8 (by omega)), ← HSHA.out] at this
              have hsz : (u8A (shaL l)).size = 32 := by rw [u8A_size, HSHA.out, outTo_len H 8 (by omega)]
              have hone := u8A_one (shaL l)
              obtain ⟨fin, hfe⟩ : ∃ x, u8A (shaL l) = x := ⟨_, rfl⟩
              rw [hfe] at hB hsz hone
              have HFE := Lib.hid hfe
              have HZ := Lib.hid hsz
              have HONE2 := Lib.hid hone
              have hin := HIN.out.below (C := kh) (by omega) (by omega) (by omega) hkg hbel
              have hrs2 := hin.1.1
              have hbw := hin.2.2.1
              have HRZ := Lib.hid hrs
              have hlt2 := hrs2.lt
              clear hfe hsz hone hrs HB hi hin HIN hbel
              go_wp2_with (first
                | (with_reducible refine wpList_load_blk rfl 25 (.tmp 24) rfl kh rfl 25 fin _ hB Tryd.underlying25 rfl (by rw [HZ.out]; kernel_rfl) ?_)
                | (with_reducible refine wpList_store_blk rfl 25 (.tmp 2) (.tmp 283) rfl w.heap.size fin rfl rfl 25 rs hrs2 (by rw [HZ.out]; kernel_rfl) (by rw [HZ.out, HRZ.out]) HONE2.out ?_))
              refine bodyPost_ret (v := .agg fin) (results_cell_row (p := 2) (ty := 25) (by kernel_rfl) _ _ w.heap.size 25 _ (0, 0) _ rfl (hrs2.row fin) Tryd.underlying25 rfl (by rw [HZ.out]; kernel_rfl)) rfl ⟨by rw [HFE.out], below_row hbw (by omega) (Nat.le_refl _) _⟩
    · skip
      have hjm := zeros_more n j hj.out h56
      have hzl := zeros_lt n
      obtain ⟨A5, c5, rfl, _⟩ := own_slice HO.out
      have t56 : ¬ ((n : Int) + 1 + (j : Int)) % 64 = 56 := by omega
      have HOO := HO
      clear HO hsn HO4 HR4 hbel4 hsz4
      go_wp2_with (at_builtin; refine wpList_append_rd rfl _ _ 26 rfl B 5 i0 Tryd.underlying26 hi hz0 hz1 hz2 (.slice A5 (n + 1 + j) c5) (n + 1 + j) _ rfl (HOO.out.alloc _) _ _ 1 1 [0] rfl rfl (Rd.one _ 5 0 _ rfl) (by omega) (by simp; omega) ?_)
      intro v9 w9 hown9 hg9
      have hbel9 := (hbel.alloc hbel.size _).grown hg9 (by have := hbel.size; simp; omega) (fun q hq => by have := (HOO.out.lt q hq).1; omega)
      have hk9 : Below B wr w9 := ((Below.refl B wr).alloc hsz _).grown hg9 (by simp; omega) (fun q hq => (HOO.out.lt q hq).1)
      have HR9 := Lib.hid (HR.out.keep (B := B) (by omega) (by omega) (by omega) hk9)
      have hsz9 := Nat.le_trans hsz hk9.size
      rw [← Lib.byteCells_append, ← padTo_succ] at hown9
      have HO9 := Lib.hid (show w9.ownsRow B 5 1 v9 (n + 1 + (j + 1)) (Lib.byteCells (padTo l (j + 1))) from hown9)
      have hsl : sliceN v9 = n + 1 + (j + 1) := by obtain ⟨A, c, rfl, _⟩ := own_slice HO9.out; rfl
      have HSL := Lib.hid hsl
      clear hown9 hg9 hk9 hbel hsz HR HOO hsl
      go_wp2_with fail
      go_roundw
      case rel => exact ⟨j + 1, Lib.hid (by omega), by omega, HO9, hbel9, HR9, hsz9, HSL.out⟩
      case measure => rw [HSL.out]; simp [sliceN]; omega
end Go.Proofs.YtkkokngdhhakdaaDoor
