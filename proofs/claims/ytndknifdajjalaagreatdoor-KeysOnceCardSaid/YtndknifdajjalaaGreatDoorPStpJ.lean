/- The program's store: a record is written to a slot. -/
import Derived.Test.YtndknifdajjalaaGreatDoorPStpI
namespace Go.Proofs.YtndknifdajjalaaGreatDoor
open Go.RowKit Go.Shelf
attribute [local go_sem] Oper.semAt_some
set_option maxRecDepth 100000

theorem chunk_stops (n : Nat) (hn : 1 ≤ n) (Bs Bn rb ro L cp : Nat) (hL : 0 < L) (hLb : L ≤ 1000000) (hLc : L ≤ cp) (w : World) (h1 : Bs < w.heap.size) (h2 : Bn < w.heap.size)
    (hBs : w.cell? ⟨Bs, 0, none⟩ = some (.slice (some ⟨rb, ro, none⟩) L cp)) (hBn : w.cell? ⟨Bn, 0, none⟩ = some (.int .i64 32)) :
    SeqStopsK Fence.wide n Tryz.prog 116 #[.pointer (some ⟨Bs, 0, none⟩), .pointer (some ⟨Bn, 0, none⟩)] (ckV rb ro L) (Both Bs Bn) (fun ys => ckL ys = List.range (ckN L)) (fun pre => ckL pre = List.range pre.length ∧ pre.length ≤ ckN L) (ckN L) w :=
  fun l J Jx W hW hJ _ hY h0 => pchunk1_in n hn l Bs Bn rb ro L cp hL hLb hLc J Jx hY W hJ ((hW.cell (p := ⟨Bs, 0, none⟩) h1).trans hBs) ((hW.cell (p := ⟨Bn, 0, none⟩) h2).trans hBn) h0

/-- The sectors of a text that has come in parts. -/
def wrL (R j : Nat) (t : List UInt8) (pre : List Nat) : List (Nat × List UInt8) := pre.zipIdx.map fun x => (j * (R + 1) + (1 + x.2), chunk t x.1)
theorem wrL_snoc (R j : Nat) (t : List UInt8) (pre : List Nat) (x : Nat) : wrL R j t (pre ++ [x]) = wrL R j t pre ++ [(j * (R + 1) + (1 + pre.length), chunk t x)] := by
  unfold wrL
  rw [List.zipIdx_append, List.map_append]
  simp
theorem wrL_range (R j : Nat) (t : List UInt8) : ∀ K, wrL R j t (List.range K) = textW R j t K
  | 0 => rfl
  | K + 1 => by rw [List.range_succ, wrL_snoc, wrL_range R j t K, textW_succ, List.length_range]
theorem all_more {s : Dsk} {N : Nat} {a b : List (Nat × List UInt8)} (h : (s.all N a).2 = false) : s.all N (a ++ b) = s.all N a := by
  rw [Dsk.all_append, if_neg (by rw [h]; simp)]
theorem all_snoc {s : Dsk} {N : Nat} {a : List (Nat × List UInt8)} {i : Nat} {l : List UInt8} (h : (s.all N a).2 = true) :
    s.all N (a ++ [(i, l)]) = ((s.all N a).1.next N (i : Int) l, decide ((s.all N a).1.code N (i : Int) l.length = 0)) := by
  rw [Dsk.all_append, if_pos h, Dsk.all_cons]
  split
  · rename_i hc; rw [decide_eq_true hc]; rfl
  · rename_i hc; rw [decide_eq_false hc]
theorem KeepsFrom.of_chg {S : Nat → Prop} {B : Nat} {W W' : World} (hc : Chg S W W') (hS : ∀ k, S k → k < B) : KeepsFrom B W W' :=
  ⟨hc.size, fun k o hB hk _ => (hc.block k (Array.getElem?_eq_some_iff.1 hk).1 (fun h => by have := hS k h; omega)).trans hk⟩
theorem grown_far {B : Nat} {W W' : World} {row : Option Nat} (hg : W.grownBy W' row) (hr : ∀ r, row = some r → B ≤ r ∧ ∃ o : Obj, W.heap[r]? = some o ∧ o.isCells = false) : Chg (fun k => B ≤ k) W W' :=
  (Chg.refl _ W).grown hg fun k e _ => (hr k e).1
theorem SP.chg {S : Nat → Prop} {w w' : World} {q p g b c : Nat} {s : Dsk} {R n : Nat} {E : Nat → Ent} {died : Bool} (h : SP w q p g b c s R n E died) (hc : Chg S w w') (hq : ¬ S q) (hp : ¬ S p) (hg : ¬ S g) (hb : ¬ S b) : SP w' q p g b c s R n E died :=
  ⟨h.disk.chg hc hp hg, hc.blk h.head hq, fun e => hc.blk (h.ents e) hb, h.qp, h.qg, h.bp, h.bg, h.bq, h.room⟩

theorem Rd.chg {S : Nat → Prop} {w w' : World} {B b o : Nat} {l : List UInt8} (h : Rd w B (some ⟨b, o, none⟩) l) (hc : Chg S w w') (hb : ¬ S b) (hB : B ≤ w.heap.size) : Rd w' w'.heap.size (some ⟨b, o, none⟩) l := by
  rcases h with h0 | ⟨b', o', e, h1, h2⟩
  · exact .inl h0
  · injection e with e
    injection e with e1 e2
    subst e1 e2
    refine .inr ⟨_, _, rfl, by have := hc.size; omega, fun i hi => ?_⟩
    rw [cell_of_heap_eq (hc.block _ (by omega) hb)]
    exact h2 i hi

theorem results_cell1 {fn : Func} {p : Tmp} {ty : TypeId} (h : fn.results = #[.cell p ty]) (tmps : Array Value) (w : World) (g : Nat) (k : Int) (T : TypeId)
    (hp : tmps.getD p undef = .pointer (some ⟨g, 0, none⟩)) (hg : Blk w g #[.int .i64 k] T) (ha : ∀ w, (isAgg ty).run Tryz.prog w = .ok false w) : (results fn tmps).run Tryz.prog w = .ok (.int .i64 k) w := by
  have hp' : tmps[p]?.getD undef = .pointer (some ⟨g, 0, none⟩) := by simpa using hp
  have hc : w.cell? ⟨g, 0, none⟩ = some (.int .i64 k) := hg.cell 0
  simp [results, h, hp', asAddr, loadVar, ha, hc, go_sem]

theorem textW_part (R j : Nat) (t : List UInt8) {m K : Nat} (h : m ≤ K) : ∃ r, textW R j t K = textW R j t m ++ r := by
  refine ⟨(textW R j t K).drop m, ?_⟩
  have : textW R j t m = (textW R j t K).take m := by
    unfold textW
    rw [← List.map_take, List.take_range, Nat.min_eq_left h]
  rw [this, List.take_append_drop]
theorem Chg.putObj {S : Nat → Prop} {a b : World} (h : Chg S a b) {D : Nat} (hD : S D) (o : Obj) : Chg S a (b.putObj D o) := h.grown (grownBy_putObj' b D o) fun k e _ => by cases e; exact hD

set_option maxHeartbeats 4000000 in
theorem psfill_any {w : World} {q p g b c : Nat} {s : Dsk} {R n : Nat} {E : Nat → Ent} (h : SP w q p g b c s R n E false) (hbl : b < w.heap.size) {j : Nat} (hj : j < n) {t : List UInt8} {L rb ro cp : Nat} (hl : t.length = L) (hL : 0 < L) (hLR : ckN L ≤ R) (hLc : L ≤ cp)
    (hr : Rd w w.heap.size (some ⟨rb, ro, none⟩) t) (hrb : ¬ three q p g rb) :
    Calls Tryz.prog 64 #[.pointer (some ⟨q, 0, none⟩), .int .i64 (j : Int), .slice (some ⟨rb, ro, none⟩) L cp] w fun e w' => e = .returned (.int .i64 (if (s.all (n * (R + 1)) (textW R j t (ckN L) ++ [(j * (R + 1), [1])])).2 = true then 0 else 8)) ∧
      SP w' q p g b c (s.all (n * (R + 1)) (textW R j t (ckN L) ++ [(j * (R + 1), [1])])).1 R n E (!(s.all (n * (R + 1)) (textW R j t (ckN L) ++ [(j * (R + 1), [1])])).2) ∧ Chg (fourS q p g b) w w' := by
  obtain ⟨KK, hKK⟩ : ∃ KK : Int, (if (s.all (n * (R + 1)) (textW R j t (ckN L) ++ [(j * (R + 1), [1])])).2 = true then 0 else 8) = KK := ⟨_, rfl⟩
  obtain ⟨KB, hKB⟩ : ∃ KB : Bool, (!(s.all (n * (R + 1)) (textW R j t (ckN L) ++ [(j * (R + 1), [1])])).2) = KB := ⟨_, rfl⟩
  obtain ⟨X, hX⟩ : ∃ X, (s.all (n * (R + 1)) (textW R j t (ckN L) ++ [(j * (R + 1), [1])])).1 = X := ⟨_, rfl⟩
  rw [hKK, hKB, hX]
  have HKK := Lib.hid hKK
  have HKB := Lib.hid hKB
  have HX := Lib.hid hX
  clear hKK hKB hX
  have hsz := h.size
  have hpj := (h.place hj (Nat.zero_le R)).2
  have HS := Lib.hid h
  obtain ⟨V, hV⟩ : ∃ V : Int, ((j * (R + 1) : Nat) : Int) = V := ⟨_, rfl⟩
  have hV0 : 0 ≤ V := by omega
  have hV1 : V ≤ 4096 := by omega
  have hqlt := h.head.lt
  have HST := Lib.hid (fun (W : World) (h' : Below w.heap.size w W) => (show Calls Tryz.prog 53 #[.pointer (some ⟨q, 0, none⟩), .int .i64 (j : Int)] W fun e w' => e = .returned (.int .i64 V) ∧ W = w' from by rw [← hV]; exact psstate_any (h.below h') hj))
  refine (callsIn_wide (n := 3)).1 ?_
  refine callsIn_of_wp_marks Tryz.func64 rfl trivial ?_ rfl
  simp only [Tryz.ntmps64, List.size_toArray, List.length_cons, List.length_nil, Nat.reduceAdd, Nat.reduceSub, Array.replicate_succ, Array.replicate_zero, List.push_toArray, List.append_toArray, List.nil_append, List.cons_append]
  have hb1 : Below w.heap.size w ((w.alloc (.cells #[.pointer (some ⟨q, 0, none⟩)] 29)).alloc (.cells #[.int .i64 0] 26)) := ((Below.refl _ _).alloc (Nat.le_refl _) _).alloc (by simp) _
  gi_wp2_with (first
    | (refine ⟨trivial, ?_⟩; gi_at_call 53; refine (callsIn_wide.2 (HST.out _ hb1)).mono ?_; rintro e w' ⟨rfl, rfl⟩)
    | (refine ⟨trivial, ?_⟩; gi_at_call 95; refine (callsIn_wide.2 (pchunk_in _ _ _ _)).mono ?_; rintro e w' ⟨rfl, rfl⟩))
  have hbw : w.heap.size + 1 + 1 + 1 + 1 = w.heap.size + 4 := by omega
  obtain ⟨w1, hw1⟩ : ∃ w1, w.alloc (.cells #[.pointer (some ⟨q, 0, none⟩)] 29) = w1 := ⟨_, rfl⟩
  obtain ⟨w2, hw2⟩ : ∃ w2, w1.alloc (.cells #[.int .i64 0] 26) = w2 := ⟨_, rfl⟩
  obtain ⟨w3, hw3⟩ : ∃ w3, w2.alloc (.cells #[.int .i64 V] 3) = w3 := ⟨_, rfl⟩
  obtain ⟨w4, hw4⟩ : ∃ w4, w3.alloc (.cells #[.slice (some ⟨rb, ro, none⟩) L cp] 35) = w4 := ⟨_, rfl⟩
  obtain ⟨w5, hw5⟩ : ∃ w5, w4.alloc (.cells #[.int .i64 32] 3) = w5 := ⟨_, rfl⟩
  rw [hw1, hw2, hw3, hw4, hw5]
  have z1 : w1.heap.size = w.heap.size + 1 := by rw [← hw1]; simp
  have z2 : w2.heap.size = w.heap.size + 2 := by rw [← hw2]; simp [z1]
  have z3 : w3.heap.size = w.heap.size + 3 := by rw [← hw3]; simp [z2]
  have z4 : w4.heap.size = w.heap.size + 4 := by rw [← hw4]; simp [z3]
  have z5 : w5.heap.size = w.heap.size + 5 := by rw [← hw5]; simp [z4]
  have k1 := Blk.new w #[.pointer (some ⟨q, 0, none⟩)] 29
  have k2 := Blk.new w1 #[.int .i64 0] 26
  have k3 := Blk.new w2 #[.int .i64 V] 3
  have k4 := Blk.new w3 #[.slice (some ⟨rb, ro, none⟩) L cp] 35
  have k5 := Blk.new w4 #[.int .i64 32] 3
  rw [hw1] at k1
  rw [hw2, z1] at k2
  rw [hw3, z2] at k3
  rw [hw4, z3] at k4
  rw [hw5, z4] at k5
  have g1 : Below w.heap.size w w1 := by rw [← hw1]; exact (Below.refl _ _).alloc (Nat.le_refl _) _
  have g2 : Below w1.heap.size w1 w2 := by rw [← hw2]; exact (Below.refl _ _).alloc (Nat.le_refl _) _
  have g3 : Below w2.heap.size w2 w3 := by rw [← hw3]; exact (Below.refl _ _).alloc (Nat.le_refl _) _
  have g4 : Below w3.heap.size w3 w4 := by rw [← hw4]; exact (Below.refl _ _).alloc (Nat.le_refl _) _
  have g5 : Below w4.heap.size w4 w5 := by rw [← hw5]; exact (Below.refl _ _).alloc (Nat.le_refl _) _
  replace k4 := k4.below g5 k4.lt
  replace k3 := (k3.below g4 k3.lt).below g5 (by rw [z4]; omega)
  replace k2 := ((k2.below g3 k2.lt).below g4 (by rw [z3]; omega)).below g5 (by rw [z4]; omega)
  replace k1 := (((k1.below g2 k1.lt).below g3 (by rw [z2]; omega)).below g4 (by rw [z3]; omega)).below g5 (by rw [z4]; omega)
  have gg : Below w.heap.size w w5 := Below.then (Below.then (Below.then (Below.then g1 g2) g3) g4) g5
  clear hw1 hw2 hw3 hw4 hw5 z1 z2 z3 z4 g1 g2 g3 g4 g5 hb1 HST w1 w2 w3 w4
  obtain ⟨a0, ha0⟩ : ∃ a0, w.heap.size = a0 := ⟨_, rfl⟩
  rw [ha0] at k1 k2 k3 k4 k5 z5 hqlt hbl hbw ⊢
  have hp := HS.out.disk.head.lt
  have hgl := HS.out.disk.body.lt
  have HG := Lib.hid gg
  have HS5 := Lib.hid (HS.out.below gg)
  have HR5 := Lib.hid (hr.below gg (Nat.le_refl _))
  rw [ha0] at hp hgl
  obtain ⟨N, hN⟩ : ∃ N, n * (R + 1) = N := ⟨_, rfl⟩
  have hplace : ∀ i, i < ckN L → j * (R + 1) + (1 + i) < N := fun i hi => by
    have := (HS.out.place hj (show 1 + i ≤ R by omega)).1
    omega
  have hp0 : j * (R + 1) < N := by have := (HS.out.place hj (Nat.zero_le R)).1; omega
  have hLb : L ≤ 1000000 := by unfold ckN at hLR; omega
  have hrb' : rb < a0 := by
    rcases hr with h0 | ⟨b', o', e, hb', _⟩
    · rw [h0] at hl; simp at hl; omega
    · injection e with e; injection e with e1; omega
  refine wpIn_rangeFunc_ownG (w0 := w5) rfl (by omega) (gf := 116) (lb := #[.pointer (some ⟨a0 + 1 + 1 + 1, 0, none⟩), .pointer (some ⟨a0 + 1 + 1 + 1 + 1, 0, none⟩)]) rfl trivial (enters_of Tryz.func116 (by kernel_rfl) rfl)
    (chunk_stops (3 - 1) (by omega) (a0 + 1 + 1 + 1) (a0 + 1 + 1 + 1 + 1) rb ro L cp hL hLb hLc w5 (by omega) (by omega) (k4.cell 0) (k5.cell 0))
    (fun h k => h.trans k) (fun W l o o' hl1 hl2 _ _ => ⟨World.putObj_heap_other (by omega), World.putObj_heap_other (by omega)⟩) (Below.refl _ _) (fun _ => rfl)
    (fun pre W => SP W q p g b c (s.all N (wrL R j t (ckL pre))).1 R n E false ∧ (s.all N (wrL R j t (ckL pre))).2 = true ∧ Blk W (a0 + 1 + 1) #[.int .i64 (V + (pre.length : Int))] 3 ∧ Chg (fun k => three q p g k ∨ k = a0 + 1 + 1) w5 W)
    (fun code pre W => code = .ret ∧ SP W q p g b c (s.all N (wrL R j t (ckL pre))).1 R n E true ∧ (s.all N (wrL R j t (ckL pre))).2 = false ∧ Blk W (a0 + 1) #[.int .i64 8] 26 ∧ Chg (fun k => (three q p g k ∨ k = a0 + 1 + 1) ∨ k = a0 + 1) w5 W)
    ?own ?ownx ?start (fun x => { tmps := #[.pointer (some ⟨q, 0, none⟩), .int .i64 (j : Int), .slice (some ⟨rb, ro, none⟩) L cp, .pointer (some ⟨a0, 0, none⟩), undef, undef, .pointer (some ⟨a0 + 1, 0, none⟩), .pointer (some ⟨a0 + 1 + 1, 0, none⟩), .slice (some ⟨rb, ro + x.1 * 32, none⟩) (min 32 (L - x.1 * 32)) (min 32 (L - x.1 * 32)), undef, .pointer (some ⟨q, 0, none⟩), .int .i64 (j : Int), .int .i64 V, .slice (some ⟨rb, ro, none⟩) L cp, .func (.func 116) #[] #[.pointer (some ⟨a0 + 1 + 1 + 1, 0, none⟩), .pointer (some ⟨a0 + 1 + 1 + 1 + 1, 0, none⟩)], .slice (some ⟨rb, ro + x.1 * 32, none⟩) (min 32 (L - x.1 * 32)) (min 32 (L - x.1 * 32)), undef, undef, undef, undef, undef, undef, undef, undef, undef, undef, undef, undef, undef, undef, undef], defers := [] }) ?assign ?body ?done ?stop
  case own =>
    intro pre W W' row hs hg2 hr2
    have C := grown_far hg2 hr2
    obtain ⟨h1, h2, h3, h4⟩ := hs
    have hle := h4.size
    exact ⟨h1.chg C (by omega) (by omega) (by omega) (by omega), h2, C.blk h3 (by omega), ((h4.more (T := fun k => (three q p g k ∨ k = a0 + 1 + 1) ∨ w5.heap.size ≤ k) (fun k h => .inl h)).trans (C.more fun k h => .inr h)).less (fun k hk h => by rcases h with h | h; exact h; omega)⟩
  case ownx =>
    intro code pre W W' row hs hg2 hr2
    have C := grown_far hg2 hr2
    obtain ⟨h0, h1, h2, h3, h4⟩ := hs
    have hle := h4.size
    exact ⟨h0, h1.chg C (by omega) (by omega) (by omega) (by omega), h2, C.blk h3 (by omega), ((h4.more (T := fun k => ((three q p g k ∨ k = a0 + 1 + 1) ∨ k = a0 + 1) ∨ w5.heap.size ≤ k) (fun k h => .inl h)).trans (C.more fun k h => .inr h)).less (fun k hk h => by rcases h with h | h; exact h; omega)⟩
  case start => exact ⟨HS5.out, rfl, by simpa using k3, Chg.refl _ _⟩
  case assign =>
    intro l x W K hK
    unfold ckV
    gi_wp2
    exact hK
  case body =>
    rintro l pre x W ⟨h1, h2, h3, h4⟩ hlen
    have hpre := hplace _ hlen
    obtain ⟨u, hu⟩ : ∃ u : Int, V + (pre.length : Int) = u := ⟨_, rfl⟩
    rw [hu] at h3
    have hu0 : 0 ≤ u := by omega
    have hu1 : u ≤ 1000000 := by have := hsz.2.2.2; omega
    obtain ⟨m, hm⟩ : ∃ m, min 32 (L - x.1 * 32) = m := ⟨_, rfl⟩
    have hxm : x.1 * 32 < L := x.2
    have hlew := h4.size
    have e7 : W.cell? ⟨a0 + 1 + 1, 0, none⟩ = some (.int .i64 u) := h3.cell 0
    have hf3 := h3.frozen 0
    have hs3 : W.cell? ⟨a0, 0, none⟩ = some (.pointer (some ⟨q, 0, none⟩)) := (h4.blk k1 (by intro k; rcases k with (k | k | k) | k <;> omega)).cell 0
    have c1 : Chg (fun k => k = a0 + 1 + 1) W (W.setCell ⟨a0 + 1 + 1, 0, none⟩ (.int .i64 (u + 1))) := (Chg.refl (fun k => k = a0 + 1 + 1) W).setCell (fun _ => rfl) _
    have s1 := h1.chg c1 (by omega) (by omega) (by omega) (by omega)
    have c51 : Chg (fun k => three q p g k ∨ k = a0 + 1 + 1) w5 (W.setCell ⟨a0 + 1 + 1, 0, none⟩ (.int .i64 (u + 1))) := h4.trans (c1.more fun k e => .inr e)
    have b7 : Blk (W.setCell ⟨a0 + 1 + 1, 0, none⟩ (.int .i64 (u + 1))) (a0 + 1 + 1) #[.int .i64 (u + 1)] 3 := h3.set 0 (.int .i64 (u + 1))
    have hrd := ((HR5.out.chg c51 (by intro k; rcases k with k | k; exact hrb k; omega) (by omega)).drop (x.1 * 32)).take 32
    have hcl : (chunk t x.1).length = m := by unfold chunk; rw [List.length_take, List.length_drop, hl]; omega
    have HW := Lib.hid (pswrite_any s1 (u + 1) (some ⟨rb, ro + x.1 * 32, none⟩) m m (chunk t x.1) hcl hrd)
    have hui : u + 1 = ((j * (R + 1) + (1 + pre.length) : Nat) : Int) := by omega
    rw [hN] at HW
    have hcode := code_fit (s := (s.all N (wrL R j t (ckL pre))).1) (N := N) hpre (m := m) (by omega)
    have hsn := wrL_snoc R j t (ckL pre) x.1
    rw [ckL_len, ← ckL_snoc] at hsn
    have HALL := Lib.hid (all_snoc (s := s) (N := N) (i := j * (R + 1) + (1 + pre.length)) (l := chunk t x.1) h2)
    rw [← hsn, ← hui, hcl] at HALL
    rw [← hui] at hcode
    have HB7 := Lib.hid b7
    have HC51 := Lib.hid c51
    have HC1 := Lib.hid c1
    have HU := Lib.hid (show V + ((pre ++ [x]).length : Int) = u + 1 by rw [List.length_append]; simp; omega)
    have HNB := Lib.hid (show (∀ k, three q p g k → k < a0) from fun k h => by rcases h with rfl | rfl | rfl <;> omega)
    have hz5 := z5
    have hlw : a0 + 5 ≤ W.heap.size := by omega
    rw [hm]
    generalize Dsk.next (s.all N (wrL R j t (ckL pre))).1 N (u + 1) (chunk t x.1) = s2 at HW HALL
    generalize Dsk.code (s.all N (wrL R j t (ckL pre))).1 N (u + 1) m = K at HW HALL hcode
    generalize chunk t x.1 = ck at *
    have HK2 := Lib.hid k2
    clear hui hrd hcl s1 h1 c1 c51 h4 h2 h3 b7 hlew hplace hu hm hpre hr hl HS HS5 HR5 h hsn hV hlen k1 k2 k3 k4 k5 gg hbw HG
    rcases hcode with rfl | rfl
    · gi_wp2_with (refine ⟨trivial, ?_⟩; gi_at_call 93; refine (CallsIn.inRound l (callsIn_wide.2 HW.out)).mono ?_; rintro e w6 ⟨rfl, s6, c6⟩)
      have c56 : Chg (fun k => three q p g k ∨ k = a0 + 1 + 1) w5 w6 := HC51.out.trans (c6.more fun k e => .inl e)
      have cw6 : Chg (fun k => three q p g k ∨ k = a0 + 1 + 1) W w6 := (HC1.out.more fun k e => .inr e).trans (c6.more fun k e => .inl e)
      have hall := HALL.out
      have hlt7 := HB7.out.lt
      refine ⟨KeepsFrom.of_chg cw6 (fun k e => by rcases e with e | e; have := HNB.out k e; omega; omega), ?_, ?_, ?_, ?_, c56⟩
      · exact ⟨cw6.block _ (by omega) (fun e => by rcases e with e | e; have := HNB.out _ e; omega; omega), cw6.block _ (by omega) (fun e => by rcases e with e | e; have := HNB.out _ e; omega; omega)⟩
      · rw [hall]; exact s6
      · rw [hall]; rfl
      · rw [HU.out]; exact c6.blk HB7.out (fun e => by have := HNB.out _ e; omega)
    · gi_wp2_with (refine ⟨trivial, ?_⟩; gi_at_call 93; refine (CallsIn.inRound l (callsIn_wide.2 HW.out)).mono ?_; rintro e w6 ⟨rfl, s6, c6⟩; have c56 : Chg (fun k => three q p g k ∨ k = a0 + 1 + 1) w5 w6 := HC51.out.trans (c6.more fun k e => .inl e); have b6 := c56.blk HK2.out (by intro k; rcases k with k | k; have := HNB.out _ k; omega; omega); have d6 : w6.cell? ⟨a0 + 1, 0, none⟩ = some (.int .i64 0) := b6.cell 0; have f6 := b6.frozen 0)
      have hall := HALL.out
      have cw6 : Chg (fun k => three q p g k ∨ k = a0 + 1 + 1) W w6 := (HC1.out.more fun k e => .inr e).trans (c6.more fun k e => .inl e)
      have c68 : Chg (fun k => k = a0 + 1) w6 (w6.setCell ⟨a0 + 1, 0, none⟩ (.int .i64 8)) := (Chg.refl (fun k => k = a0 + 1) w6).setCell (fun _ => rfl) _
      refine ⟨KeepsFrom.of_chg ((cw6.more (T := fun k => (three q p g k ∨ k = a0 + 1 + 1) ∨ k = a0 + 1) (fun k e => .inl e)).trans (c68.more fun k e => .inr e)) (fun k e => by rcases e with (e | e) | e; have := HNB.out k e; omega; omega; omega), rfl, ?_, ?_, b6.set 0 (.int .i64 8), (c56.more (fun k e => .inl e)).trans (c68.more fun k e => .inr e)⟩
      · rw [hall]; exact s6.chg c68 (by omega) (by omega) (by omega) (by omega)
      · rw [hall]; rfl
  case done =>
    rintro D xs W hD hxs ⟨h1, h2, h3, h4⟩ hK
    rw [hxs, wrL_range] at h1 h2
    have hlw := h4.size
    have hK0 : D ≠ a0 + 1 := by omega
    have b1 := h4.blk k1 (by intro k; rcases k with (k | k | k) | k <;> omega)
    have b2 := h4.blk k2 (by intro k; rcases k with (k | k | k) | k <;> omega)
    have hcode := code_fit (s := (s.all N (textW R j t (ckN L))).1) (N := N) hp0 (m := 1) (by omega)
    have HALL := Lib.hid (all_snoc (s := s) (N := N) (i := j * (R + 1)) (l := [1]) h2)
    have HS1 := Lib.hid h1
    have hd1 : Below W.heap.size W W.drew := (Below.refl _ _).drew
    have hd2 : Below W.heap.size W (W.drew.alloc (.cells #[.int .u8 1] 5)) := hd1.alloc (Nat.le_refl _) _
    have hqb : ∀ k, three q p g k → k < W.heap.size := fun k hk => by rcases hk with rfl | rfl | rfl <;> omega
    have HKEEP := Lib.hid (fun (W' : World) (hc : Chg (fun k => three q p g k ∨ k = a0 + 1) W W') => (show W'.cell? ⟨a0, 0, none⟩ = some (.pointer (some ⟨q, 0, none⟩)) ∧ Chg (fun k => three q p g k ∨ k = a0 + 1) W W' from
      ⟨(hc.blk b1 (by intro k; rcases k with (k | k | k) | k <;> omega)).cell 0, hc⟩))
    have HB2 := Lib.hid (fun (W' : World) (hc : Chg (fun k => three q p g k ∨ k = a0 + 1 + 1) W W') => hc.blk b2 (by intro k; rcases k with (k | k | k) | k <;> omega))
    have HST := Lib.hid (fun (W' : World) (h' : Below W.heap.size W W') => (show Calls Tryz.prog 53 #[.pointer (some ⟨q, 0, none⟩), .int .i64 (j : Int)] W' fun e w' => e = .returned (.int .i64 V) ∧ W' = w' from by rw [← hV]; exact psstate_any (h1.below h') hj))
    have HW := Lib.hid (show Calls Tryz.prog 93 #[.pointer (some ⟨q, 0, none⟩), .int .i64 V, .slice (some ⟨W.drew.heap.size, 0, none⟩) 1 1] (W.drew.alloc (.cells #[.int .u8 1] 5)) _ from by
      rw [← hV]
      exact pswrite_any (h1.below hd2) ((j * (R + 1) : Nat) : Int) (some ⟨W.drew.heap.size, 0, none⟩) 1 1 [1] rfl (Rd.of_blk (bs := [1]) (Blk.new W.drew _ 5)))
    rw [hN, hV] at HW
    rw [hV] at hcode HALL
    have hcd : Chg (fun k => three q p g k ∨ k = a0 + 1) W W.drew := (Chg.refl _ _).drew
    have hcd2 : Chg (fun k => three q p g k ∨ k = a0 + 1) W (W.drew.alloc (.cells #[.int .u8 1] 5)) := hcd.alloc _
    generalize Dsk.next (s.all N (textW R j t (ckN L))).1 N V [1] = s2 at HW HALL
    generalize hKe : Dsk.code (s.all N (textW R j t (ckN L))).1 N V 1 = K at HW HALL hcode
    clear h1 h2 h3
    gi_wp2
    refine wpIn_wide.2 ?_
    go_region_held3 (fun W' => W'.cell? ⟨a0, 0, none⟩ = some (.pointer (some ⟨q, 0, none⟩)) ∧ Chg (fun k => three q p g k ∨ k = a0 + 1) W W')
      ((first | exact HKEEP.out _ ‹_› | exact HKEEP.out _ (Chg.drew ‹_›) | exact HKEEP.out _ (Chg.drewN ‹_› _) | exact HKEEP.out _ (Chg.alloc ‹_› _) | exact HKEEP.out _ (Chg.setCell ‹_› (fun _ => .inr rfl) _)))
      ((first
        | (go_at_call 53; first | (refine (HST.out _ hd1).mono ?_; rintro e w' ⟨rfl, rfl⟩) | (refine (HST.out _ hd2).mono ?_; rintro e w' ⟨rfl, rfl⟩))
        | (go_at_call 93; refine HW.out.mono ?_; rintro e w6 ⟨rfl, s6, c6⟩; have hc6 : Chg (fun k => three q p g k ∨ k = a0 + 1) W w6 := hcd2.trans (c6.more fun k h => .inl h); have hb6 := HB2.out w6 ((Chg.of_below hd2).trans (c6.more fun k h => .inl h)); have hd6 : w6.cell? ⟨a0 + 1, 0, none⟩ = some (.int .i64 0) := hb6.cell 0; have hf6 := hb6.frozen 0; have HS6 := Lib.hid s6; have HB6 := Lib.hid hb6; clear s6 hb6)))
    all_goals
      have hK7 : (w6.setCell ⟨a0 + 1, 0, none⟩ (.int .i64 K)).heap[D]? = some (.deferred (some [])) := by
        refine Eq.trans ?_ hK
        refine (hc6.setCell (fun _ => .inr rfl) (.int .i64 K)).block D (Array.getElem?_eq_some_iff.1 hK).1 (fun e => ?_)
        rcases e with e | e
        · have := hqb _ e; rcases e with rfl | rfl | rfl <;> omega
        · omega
      have hb7 : Blk ((w6.setCell ⟨a0 + 1, 0, none⟩ (.int .i64 K)).putObj D (.deferred none)) (a0 + 1) #[.int .i64 K] 26 := (World.putObj_heap_other (by omega)).trans (HB6.out.set 0 (.int .i64 K))
      have c7 : Chg (fourS q p g b) w ((w6.setCell ⟨a0 + 1, 0, none⟩ (.int .i64 K)).putObj D (.deferred none)) := by
        have d1 : Chg (fun k => three q p g k ∨ a0 ≤ k) w w5 := .of_below HG.out
        have d2 : Chg (fun k => three q p g k ∨ a0 ≤ k) w W := d1.trans (h4.more fun k e => by rcases e with e | e; exact .inl e; right; omega)
        have d3 : Chg (fun k => three q p g k ∨ a0 ≤ k) w w6 := d2.trans (hc6.more fun k e => by rcases e with e | e; exact .inl e; right; omega)
        exact ((d3.setCell (fun _ => .inr (by show a0 ≤ a0 + 1; omega)) _).putObj (.inr (by omega)) _).less (fun k hk e => by rcases e with e | e; exact three_four k e; omega)
      have s7 : SP ((w6.setCell ⟨a0 + 1, 0, none⟩ (.int .i64 K)).putObj D (.deferred none)) q p g b c s2 R n E (decide (K ≠ 0)) := by
        have d3 : Chg (fun k => a0 ≤ k) w6 ((w6.setCell ⟨a0 + 1, 0, none⟩ (.int .i64 K)).putObj D (.deferred none)) := ((Chg.refl _ w6).setCell (fun _ => by show a0 ≤ a0 + 1; omega) _).putObj (by omega) _
        exact HS6.out.chg d3 (by omega) (by omega) (by omega) (by omega)
      gi_wp2
      refine ⟨by simp, .inl ⟨_, _, rfl, run_takeDeferred hK7, ?_⟩⟩
      have hall := HALL.out
      have e1 := HKK.out
      have e2 := HKB.out
      have e3 := HX.out
      rw [hN, hall] at e1 e2 e3
      refine ⟨_, results_cell1 (p := 6) (by kernel_rfl) _ _ (a0 + 1) K 26 rfl hb7 Tryz.isAgg26, ?_, ?_, c7⟩
      · rcases hcode with hk | hk
        · subst hk; rw [← e1]; rfl
        · subst hk; rw [← e1]; rfl
      · rw [← e3, ← e2]
        rcases hcode with hk | hk
        · subst hk; exact s7
        · subst hk; exact s7
  case stop =>
    rintro D c0 pre W hD ⟨hxs, hxl⟩ ⟨rfl, h1, h2, h3, h4⟩ hK
    have hlw := h4.size
    gi_wp2
    refine ⟨by simp, .inl ⟨_, _, rfl, run_takeDeferred hK, ?_⟩⟩
    have hb7 : Blk (W.putObj D (.deferred none)) (a0 + 1) #[.int .i64 8] 26 := (World.putObj_heap_other (by omega)).trans h3
    refine ⟨_, results_cell1 (p := 6) (by kernel_rfl) _ _ (a0 + 1) 8 26 rfl hb7 Tryz.isAgg26, ?_, ?_, ?_⟩
    all_goals
      rw [hxs, wrL_range] at h1 h2
      obtain ⟨r, hr⟩ := textW_part R j t hxl
      have hall : s.all N (textW R j t (ckN L) ++ [(j * (R + 1), [1])]) = s.all N (textW R j t pre.length) := by rw [hr, List.append_assoc, all_more h2]
      have e1 := HKK.out
      have e2 := HKB.out
      have e3 := HX.out
      rw [hN, hall] at e1 e2 e3
      rw [h2] at e1 e2
    · rw [← e1]; rfl
    · rw [← e3, ← e2]
      have d3 : Chg (fun k => a0 ≤ k) W (W.putObj D (.deferred none)) := (Chg.refl _ W).putObj (by omega) _
      exact h1.chg d3 (by omega) (by omega) (by omega) (by omega)
    · have d1 : Chg (fun k => three q p g k ∨ a0 ≤ k) w w5 := .of_below HG.out
      have d2 : Chg (fun k => three q p g k ∨ a0 ≤ k) w W := d1.trans (h4.more fun k e => by rcases e with (e | e) | e; exact .inl e; right; omega; right; omega)
      exact (d2.putObj (.inr (by omega)) _).less (fun k hk e => by rcases e with e | e; exact three_four k e; omega)
end Go.Proofs.YtndknifdajjalaaGreatDoor
