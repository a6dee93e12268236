/- A new hash, the table of the rounds, and the ending, as the program makes them. Bytes written into a hash in the making. -/
import Derived.Test.YtciflbkgfmbfdaaDoorShaB
import Derived.Test.YtciflbkgfmbfdaaDoorU8
import Derived.Deep.RegionWith
namespace Go.Proofs.YtciflbkgfmbfdaaDoor
open Go.RowKit

set_option maxRecDepth 100000 in
set_option maxHeartbeats 400000 in
theorem table_any (w : World) :
    Calls Tryd.prog 57 #[] w fun e w' => e = .returned (.agg (u32Cells kL).toArray) ∧ Below w.heap.size w w' := by
  go_enter Tryd.func57, Tryd.ntmps57
  go_wp2_with (first
    | (with_reducible refine wpList_buildFlatArr rfl 82 65 64 _ rfl .u32 kL ?hu ?hsz ?hz ?hparts ?_)
    | (with_reducible refine wpList_store_row rfl 82 (.tmp 0) (.tmp 1) rfl w.heap.size (kL.map (Value.int .u32)).toArray rfl rfl 82 ?old ?hg ?hi ?ho ?h1 ?_))
  case hu => exact Tryd.underlying82
  case hsz => kernel_rfl
  case hz => kernel_rfl
  case hparts => rfl
  case hi => kernel_rfl
  case h1 => kernel_rfl
  case hg => exact heap_alloc_new _ _
  case ho => rfl
  have hb : Below w.heap.size w ((w.alloc (.cells (List.replicate 64 (Value.int .u32 0)).toArray 82)).setRow w.heap.size (kL.map (Value.int .u32)).toArray) :=
    below_row ((Below.refl _ _).alloc (Nat.le_refl _) _) (by simp) (Nat.le_refl _) _
  refine bodyPost_ret (v := .agg (kL.map (Value.int .u32)).toArray) (results_cell_row (p := 0) (ty := 82) (by kernel_rfl) _ _ w.heap.size 82 _ (0, 0) _ rfl (setRow_heap _ _ _ _ _ _ (heap_alloc_new _ _)) Tryd.underlying82 rfl (by kernel_rfl)) rfl ⟨rfl, hb⟩

set_option maxRecDepth 100000 in
set_option maxHeartbeats 400000 in
theorem start_any (w : World) :
    Calls Tryd.prog 56 #[] w fun e w' => e = .returned (.agg (h8 init8)) ∧ Below w.heap.size w w' := by
  go_enter Tryd.func56, Tryd.ntmps56
  go_wp2_with (with_reducible refine wpList_store_blk rfl 77 (.tmp 0) (.tmp 1) rfl w.heap.size (h8 init8) rfl rfl 77 _ (Blk.new w _ _) (by kernel_rfl) (by kernel_rfl) (by kernel_rfl) ?_)
  refine bodyPost_ret (v := .agg (h8 init8)) (results_cell_row (p := 0) (ty := 77) (by kernel_rfl) _ _ w.heap.size 77 _ (0, 0) _ rfl ((Blk.new w _ _).row _) Tryd.underlying77 rfl (by kernel_rfl)) rfl ⟨rfl, below_row ((Below.refl _ _).alloc (Nat.le_refl _) _) (by simp) (Nat.le_refl _) _⟩

theorem zeros_small (n : Nat) : zeros n < 64 := by unfold zeros; omega
theorem own_on {w w' : World} {base : Nat} {e : TypeId} {v : Value} {n : Nat} {xs : List Value} (h : w.ownsRow base e 1 v n xs) (hb : Below w.heap.size w w') : w'.ownsRow base e 1 v n xs :=
  h.kept (row := none) ⟨hb.os, hb.tape, hb.output, hb.size, fun j hj _ => hb.block j hj⟩ (by cases v.ownBlock <;> simp)
theorem zeros_end63 (n : Nat) : 63 - (n + 8) % 64 = zeros n := by unfold zeros; omega
/-- The mark, the noughts, the count in bits. -/
def endL (n : Nat) : List UInt8 := [128] ++ List.replicate (zeros n) 0 ++ putL (8 * n) 8
theorem endL_pad (l : List UInt8) : l ++ endL l.length = padL l := by simp [endL, padL]

set_option maxRecDepth 100000 in
set_option maxHeartbeats 400000 in
theorem new_any (w : World) :
    Calls Tryd.prog 50 #[] w fun e w' => ∃ g, e = .returned (.pointer (some ⟨g, 0, none⟩)) ∧ w.heap.size ≤ g ∧ ShaAt w' g [] ∧ Below w.heap.size w w' := by
  go_enter Tryd.func50, Tryd.ntmps50
  go_wp2_with fail
  refine (start_any _).mono ?_
  rintro e w1 ⟨rfl, hb1⟩
  go_wp2_with (with_reducible refine wpList_build rfl 81 _ rfl (by kernel_rfl) ?_)
  have hbt : (Tryd.prog.built 81 [(0, Value.agg (h8 init8))]).getD #[] = shaA init8 (List.replicate 64 0) 0 := by kernel_rfl
  rw [hbt]
  have hs : ShaAt (w1.alloc (.cells (shaA init8 (List.replicate 64 0) 0) 81)) w1.heap.size [] := ⟨List.replicate 64 0, by simp, by simp, Blk.new _ _ _⟩
  have HS := Lib.hid hs
  have HB := Lib.hid (hb1.alloc hb1.size (.cells (shaA init8 (List.replicate 64 0) 0) 81))
  clear hbt hs
  generalize w1.alloc _ = w2 at *
  have hle := hb1.size
  generalize w1.heap.size = g at *
  go_ret
  exact ⟨g, rfl, hle, HS.out, HB.out⟩

set_option maxHeartbeats 1000000 in
theorem ending_any (n : Nat) (w : World) (hn : n ≤ 1000000) :
    Calls Tryd.prog 59 #[.int .i64 n] w fun e w' => ∃ v c, e = .returned (.slice v (zeros n + 9) c) ∧ w'.ownsRow w.heap.size 5 1 (.slice v (zeros n + 9) c) (zeros n + 9) (Lib.byteCells (endL n)) ∧ Below w.heap.size w w' := by
  obtain ⟨i0, hi, hz0, hz1, hz2⟩ := info_parts info5
  have hz := zeros_small n
  have hze := zeros_end63 n
  obtain ⟨z, hzz⟩ : ∃ z, zeros n = z := ⟨_, rfl⟩
  have HZ := Lib.hid hzz
  rw [hzz] at hz hze ⊢
  have hmod : (63 : Int) - ((n : Int) + 8) % 64 = (z : Int) := by omega
  have hmk := fun W => run_make (P := Tryd.prog) W 24 5 i0 (.int .u8 0) Tryd.underlying24 hi hz0 .i64 .i64 (1 + (z : Int)) (1 + (z : Int) + 8) (by omega) (by omega) (by rw [hz2]; omega) (by omega)
  have hm0 : (madeCells #[Value.int .u8 0] (1 + z + 8))[0]? = some (.int .u8 0) := by
    rw [← Array.getElem?_toList, toList_madeCells_one, List.getElem?_replicate]
    simp
  have hp8 : ∀ w : World, Calls Tryd.prog 35 #[.int .i64 (8 * (n : Int)), .int .i64 8] w fun e w' => ∃ A c, e = .returned (.slice A 8 c) ∧ w'.ownsRow w.heap.size 5 1 (.slice A 8 c) 8 (Lib.byteCells (putL (8 * n) 8)) ∧ Below w.heap.size w w' := fun w => by
    have h := put_any (8 * (n : Int)) 8 w (by omega)
    rw [show putW 8 = 8 from rfl, show putN (8 * (n : Int)) = 8 * n from by unfold putN; rw [if_neg (by omega)]; omega] at h
    exact h
  have HP8 := Lib.hid hp8
  have HE := Lib.hid (show Lib.byteCells ([128] ++ List.replicate z 0) ++ Lib.byteCells (putL (8 * n) 8) = Lib.byteCells (endL n) by rw [← Lib.byteCells_append, endL, HZ.out])
  clear hze hzz hp8
  go_enter Tryd.func59, Tryd.ntmps59
  go_wp2_with fail
  have hown : (w.alloc (.cells ((madeCells #[.int .u8 0] (1 + z + 8)).setIfInBounds 0 (.int .u8 128)) 5)).ownsRow w.heap.size 5 1 (.slice (some ⟨w.heap.size, 0, none⟩) (1 + z) (1 + z + 8)) (1 + z) (Lib.byteCells ([128] ++ List.replicate z 0)) := by
    refine ⟨by simp [Lib.byteCells]; omega, .inr ⟨w.heap.size, 1 + z + 8, _, rfl, Nat.le_refl _, Blk.new _ _ _, by omega, by unfold maxLen; omega, by simp [size_madeCells], ?_⟩⟩
    rw [Array.toList_setIfInBounds, toList_madeCells_one, show 1 + z + 8 = (z + 8) + 1 by omega, List.replicate_succ, List.set_cons_zero, show (1 + z) * 1 = z + 1 by omega, List.take_succ_cons, List.take_replicate, show min z (z + 8) = z by omega]
    simp [Lib.byteCells]
  have hb1 : Below w.heap.size w (w.alloc (.cells ((madeCells #[.int .u8 0] (1 + z + 8)).setIfInBounds 0 (.int .u8 128)) 5)) := (Below.refl _ _).alloc (Nat.le_refl _) _
  generalize w.alloc _ = w1 at *
  refine (HP8.out _).mono ?_
  rintro e w2 ⟨A2, c2, rfl, hown2, hb2⟩
  have HO := Lib.hid (own_on hown hb2)
  have hbel := hb1.trans (hb2.mono hb1.size)
  have hr2 := Rd.of_own hown2
  have hle := hbel.size
  clear hown hb1 hb2 hown2 hm0 hmk
  go_wp2_with (at_builtin; refine wpList_append_rd rfl _ _ 24 rfl w.heap.size 5 i0 Tryd.underlying24 hi hz0 hz1 hz2 _ _ _ rfl HO.out _ A2 8 c2 (putL (8 * n) 8) rfl (putL_length _ _) hr2 (by omega) hle ?_)
  intro v3 w3 hown3 hg3
  have hbel3 := hbel.grown hg3 hle (fun k hk => (HO.out.lt k hk).1)
  have hown4 : w3.ownsRow w.heap.size 5 1 v3 (z + 9) (Lib.byteCells (endL n)) := by rw [← HE.out, show z + 9 = 1 + z + 8 by omega]; exact hown3
  obtain ⟨A3, c3, rfl, _⟩ := own_slice hown4
  have HO3 := Lib.hid hown4
  clear hown3 hown4 hg3 HO hbel hle
  go_wp2_with fail
  go_ret
  exact ⟨A3, c3, rfl, HO3.out, hbel3⟩
end Go.Proofs.YtciflbkgfmbfdaaDoor
namespace Go.Proofs.YtciflbkgfmbfdaaDoor
open Go.RowKit

/-- The slice at A reads as l, below block B, and not in block g. -/
def RdN (w : World) (B g : Nat) (A : Option Addr) (l : List UInt8) : Prop :=
  l = [] ∨ ∃ b off, A = some ⟨b, off, none⟩ ∧ b < B ∧ b ≠ g ∧ ∀ i (h : i < l.length), w.cell? ⟨b, off + i, none⟩ = some (.int .u8 (l[i].toNat : Int))
theorem RdN.rd {w : World} {B g : Nat} {A : Option Addr} {l : List UInt8} (h : RdN w B g A l) : Rd w B A l := by
  rcases h with h | ⟨b, off, hA, hb, _, hc⟩
  · exact .inl h
  · exact .inr ⟨b, off, hA, hb, hc⟩
theorem Rd.notAt {w : World} {B g : Nat} {A : Option Addr} {l : List UInt8} (h : Rd w B A l) (hg : B ≤ g) : RdN w B g A l := by
  rcases h with h | ⟨b, off, hA, hb, hc⟩
  · exact .inl h
  · exact .inr ⟨b, off, hA, hb, by omega, hc⟩
theorem RdN.more {w : World} {B B' g : Nat} {A : Option Addr} {l : List UInt8} (h : RdN w B g A l) (hB : B ≤ B') : RdN w B' g A l := by
  rcases h with h | ⟨b, off, hA, hb, hn, hc⟩
  · exact .inl h
  · exact .inr ⟨b, off, hA, by omega, hn, hc⟩
theorem RdN.grown {w w' : World} {g : Nat} {A : Option Addr} {l : List UInt8} (h : RdN w w.heap.size g A l) (hg : w.grownBy w' (some g)) : RdN w' w.heap.size g A l := by
  rcases h with h | ⟨b, off, hA, hb, hn, hc⟩
  · exact .inl h
  · exact .inr ⟨b, off, hA, hb, hn, fun i hi => (World.cell?_of_block (hg.block b hb (fun e => hn (by injection e)))).trans (hc i hi)⟩
theorem grown_below {w w' w2 : World} {g : Nat} (h : w.grownBy w' (some g)) (hb : Below w'.heap.size w' w2) : w.grownBy w2 (some g) :=
  ⟨hb.os.trans h.os, hb.tape.trans h.tape, hb.output.trans h.output, Nat.le_trans h.size hb.size, fun j hj hn => (hb.block j (Nat.lt_of_lt_of_le hj h.size)).trans (h.block j hj hn)⟩
theorem below_grown {w w' : World} (hb : Below w.heap.size w w') (row : Option Nat) : w.grownBy w' row := ⟨hb.os, hb.tape, hb.output, hb.size, fun j hj _ => hb.block j hj⟩
/-- Only block g has turned. -/
theorem grown_in {w w' : World} {g B : Nat} (h : w.grownBy w' (some g)) (hB : B ≤ w.heap.size) (hg : B ≤ g) : Below B w w' :=
  ⟨h.os, h.tape, h.output, h.size, fun j hj => h.block j (by omega) (fun e => by injection e with e; omega)⟩
theorem sha_cells {w : World} {b n : Nat} {H : H8} {op : List UInt8} {T : TypeId} (h : Blk w b (shaA H op n) T) : w.cell? ⟨b, 0, none⟩ = some (.int .u32 (H.a : Int)) ∧ w.cell? ⟨b, 1, none⟩ = some (.int .u32 (H.b : Int)) ∧ w.cell? ⟨b, 2, none⟩ = some (.int .u32 (H.c : Int)) ∧ w.cell? ⟨b, 3, none⟩ = some (.int .u32 (H.d : Int)) ∧ w.cell? ⟨b, 4, none⟩ = some (.int .u32 (H.e : Int)) ∧ w.cell? ⟨b, 5, none⟩ = some (.int .u32 (H.f : Int)) ∧ w.cell? ⟨b, 6, none⟩ = some (.int .u32 (H.g : Int)) ∧ w.cell? ⟨b, 7, none⟩ = some (.int .u32 (H.h : Int)) :=
  ⟨h.cell 0, h.cell 1, h.cell 2, h.cell 3, h.cell 4, h.cell 5, h.cell 6, h.cell 7⟩
theorem sha_frozen {w : World} {b : Nat} {cs : Array Value} {T : TypeId} (h : Blk w b cs T) : w.frozen? ⟨b, 0, none⟩ = false ∧ w.frozen? ⟨b, 1, none⟩ = false ∧ w.frozen? ⟨b, 2, none⟩ = false ∧ w.frozen? ⟨b, 3, none⟩ = false ∧ w.frozen? ⟨b, 4, none⟩ = false ∧ w.frozen? ⟨b, 5, none⟩ = false ∧ w.frozen? ⟨b, 6, none⟩ = false ∧ w.frozen? ⟨b, 7, none⟩ = false :=
  ⟨h.frozen 0, h.frozen 1, h.frozen 2, h.frozen 3, h.frozen 4, h.frozen 5, h.frozen 6, h.frozen 7⟩
theorem sha_open {w : World} {b n : Nat} {H : H8} {op : List UInt8} {T : TypeId} (h : Blk w b (shaA H op n) T) (_ho : op.length = 64) : Rd w w.heap.size (some ⟨b, 8, none⟩) op :=
  .inr ⟨b, 8, rfl, h.lt, fun i hi => (h.cell (8 + i)).trans (shaA_open H op n i hi)⟩
theorem sha_there {w : World} {b n : Nat} {H : H8} {op : List UInt8} {T : TypeId} (h : Blk w b (shaA H op n) T) (hz : (shaA H op n).size = 73) : w.there b 0 8 := fun j hj => by
  rw [Nat.zero_add]
  exact ⟨by rw [h.cell j, Array.getElem?_eq_getElem (by omega)]; rfl, h.frozen j⟩
def st8 (w : World) (g : Nat) (H : H8) : World := (((((((w.setCell ⟨g, 0, none⟩ (.int .u32 H.a)).setCell ⟨g, 1, none⟩ (.int .u32 H.b)).setCell ⟨g, 2, none⟩ (.int .u32 H.c)).setCell ⟨g, 3, none⟩ (.int .u32 H.d)).setCell ⟨g, 4, none⟩ (.int .u32 H.e)).setCell ⟨g, 5, none⟩ (.int .u32 H.f)).setCell ⟨g, 6, none⟩ (.int .u32 H.g)).setCell ⟨g, 7, none⟩ (.int .u32 H.h)
theorem st8_blk {w : World} {g n : Nat} {H : H8} {op : List UInt8} {T : TypeId} (h : Blk w g (shaA H op n) T) (H' : H8) : Blk (st8 w g H') g (shaA H' op n) T := h.words H'
theorem st8_other {w : World} {g b : Nat} {cs : Array Value} {T : TypeId} (h : Blk w b cs T) (hb : b ≠ g) (H : H8) : Blk (st8 w g H) b cs T :=
  (((((((h.other hb _).other hb _).other hb _).other hb _).other hb _).other hb _).other hb _).other hb _
theorem st8_grown {w w' : World} {g : Nat} (h : w.grownBy w' (some g)) (H : H8) : w.grownBy (st8 w' g H) (some g) :=
  (((((((h.trans (Lib.grownBy_setCell _ _ _ _)).trans (Lib.grownBy_setCell _ _ _ _)).trans (Lib.grownBy_setCell _ _ _ _)).trans (Lib.grownBy_setCell _ _ _ _)).trans (Lib.grownBy_setCell _ _ _ _)).trans (Lib.grownBy_setCell _ _ _ _)).trans (Lib.grownBy_setCell _ _ _ _)).trans (Lib.grownBy_setCell _ _ _ _)
/-- .. with the answer's words written out. -/
theorem mix_lit (H H2 : H8) (g off ka : Nat) (p : List UInt8) (w : World) (h2 : comp H p = H2) (hH : H.ok) (hp : p.length = 64) (hr : Rd w w.heap.size (some ⟨g, off, none⟩) p) (hk : Blk w ka (u32Cells kL).toArray 82) :
    Calls Tryd.prog 58 #[.agg #[.int .u32 H.a, .int .u32 H.b, .int .u32 H.c, .int .u32 H.d, .int .u32 H.e, .int .u32 H.f, .int .u32 H.g, .int .u32 H.h], .pointer (some ⟨g, off, none⟩), .pointer (some ⟨ka, 0, none⟩)] w fun e w' => e = .returned (.agg #[.int .u32 H2.a, .int .u32 H2.b, .int .u32 H2.c, .int .u32 H2.d, .int .u32 H2.e, .int .u32 H2.f, .int .u32 H2.g, .int .u32 H2.h]) ∧ Below w.heap.size w w' := by
  subst h2
  exact mix_any H g off ka p w hH hp hr hk
def sliceN' : Value → Nat
  | .slice _ n _ => n
  | _ => 0

set_option maxRecDepth 100000 in
set_option maxHeartbeats 1000000 in
theorem write_any (g n c : Nat) (A : Option Addr) (l m : List UInt8) (w : World) (hl : l.length = n) (hc : n ≤ c) (hm : m.length + n ≤ 1000000) (hr : RdN w w.heap.size g A l) (hs : ShaAt w g m) :
    Calls Tryd.prog 51 #[.pointer (some ⟨g, 0, none⟩), .slice A n c] w fun e w' => e = .returned (.int .i64 ((m.length + n : Nat) : Int)) ∧ ShaAt w' g (m ++ l) ∧ w.grownBy w' (some g) := by
  have HL := Lib.hid hl
  have hgl := hs.lt
  have HS := Lib.hid hs
  clear hl hs
  go_enter Tryd.func51, Tryd.ntmps51
  go_wp2_with fail
  refine (table_any _).mono ?_
  rintro e w1 ⟨rfl, hb1⟩
  go_wp2_with (with_reducible refine wpList_store_blkTo rfl 82 (.tmp 5) (.tmp 8) rfl rfl w1.heap.size (u32Cells kL).toArray rfl rfl 82 _ (Blk.new w1 _ _) (by kernel_rfl) (by kernel_rfl) (by kernel_rfl) ?_)
  generalize hw2 : World.setRow _ _ _ = w2
  obtain ⟨ba, hba⟩ : ∃ x, w1.heap.size = x := ⟨_, rfl⟩
  have hst : Blk w2 ba (u32Cells kL).toArray 82 ∧ Below w.heap.size w w2 := by
    subst hw2 hba
    exact ⟨(Blk.new w1 _ _).row _, below_row (hb1.alloc hb1.size _) (by have := hb1.size; simp; omega) hb1.size _⟩
  have hbas : w.heap.size ≤ ba := by have := hb1.size; omega
  obtain ⟨hK2, hb2⟩ := hst
  have HK2 := Lib.hid hK2
  have HS2 := Lib.hid (HS.out.below hb2 hgl)
  have hg2 := below_grown hb2 (some g)
  rw [hba]
  clear hw2 hba hb1 hK2 hb2 HS
  go_wp2_with fail
  go_loopw [1] (fun b wr => ∃ (k : Nat) (A' : Option Addr) (c' : Nat), k ≤ n ∧ b = .slice A' (n - k : Nat) c' ∧ n - k ≤ c' ∧ Hid (RdN w w.heap.size g A' (l.drop k)) ∧ Hid (ShaAt wr g (m ++ l.take k)) ∧ Hid (Blk wr ba (u32Cells kL).toArray 82) ∧ w.grownBy wr (some g)) (fun b _ => sliceN' b)
  case atStart => exact ⟨0, A, c, Nat.zero_le _, rfl, hc, Lib.hid hr, Lib.hid (by simpa using HS2.out), HK2, hg2⟩
  case round =>
    clear HS2 HK2 hg2 hr
    obtain ⟨k, A', c', hk, rfl, hcc, HR, HS, HK, hgr⟩ := hrel
    by_cases hlt : k < n
    · obtain ⟨q, hq⟩ : ∃ q, n - k = q := ⟨_, rfl⟩
      have hq0 : 0 < q := by omega
      rw [hq] at hcc ⊢
      have hq0i : (0 : Int) < (q : Int) := by omega
      obtain ⟨M, hM⟩ : ∃ M, m ++ l.take k = M := ⟨_, rfl⟩
      rw [hM] at HS
      obtain ⟨N, hN⟩ : ∃ N, M.length = N := ⟨_, rfl⟩
      have hNv : N = m.length + k := by rw [← hN, ← hM, List.length_append, List.length_take, HL.out]; omega
      have hN1 : N + q ≤ 1000000 := by omega
      have HNV := Lib.hid hNv
      have HN := Lib.hid hN
      have HM := Lib.hid hM
      have HQ := Lib.hid hq
      obtain ⟨op, ho, hopn, hblk⟩ := HS.out
      rw [hN] at hopn hblk
      have c72 := (hblk.cell 72).trans (shaA_count _ _ _ ho)
      have hat : N % 64 < 64 := Nat.mod_lt _ (by decide)
      obtain ⟨t, ht⟩ : ∃ t, N % 64 = t := ⟨_, rfl⟩
      have hti : (N : Int) % 64 = (t : Int) := by omega
      rw [ht] at hat hopn
      have ht64 : (t : Int) ≤ 64 := by omega
      have htn : ¬ 64 = t := by omega
      have HT := Lib.hid ht
      obtain ⟨r, hrt⟩ : ∃ r, 64 - t = r := ⟨_, rfl⟩
      have HRT := Lib.hid (show t + r = 64 by omega)
      obtain ⟨b, off, rfl, hbl, hbg, hbc⟩ : ∃ b off, A' = some ⟨b, off, none⟩ ∧ b < w.heap.size ∧ b ≠ g ∧ ∀ i (h : i < (l.drop k).length), wr.cell? ⟨b, off + i, none⟩ = some (.int .u8 ((l.drop k)[i].toNat : Int)) := by
        rcases HR.out.grown hgr with h | h
        · have := congrArg List.length h
          rw [List.length_drop, HL.out] at this
          simp at this; omega
        · exact h
      obtain ⟨x, hx⟩ : ∃ x, (l.drop k).take (min q r) = x := ⟨_, rfl⟩
      obtain ⟨cnt, hcnt⟩ : ∃ y, min q r = y := ⟨_, rfl⟩
      rw [hcnt] at hx
      have hxl : x.length = cnt := by rw [← hx, List.length_take, List.length_drop, HL.out]; omega
      have hcopy := fun ty => run_copy_row (P := Tryd.prog) wr 24 24 ty 5 g (8 + t) r r ⟨b, off, none⟩ q c' _ _ (Lib.byteCells x) Tryd.underlying24 sizeByte' hblk (by rw [Lib.byteCells_length, hxl]; exact hcnt.symm)
        (Rd.cells (B := w.heap.size) (.inr ⟨b, off, rfl, hbl, fun i hi => by
          have h2 : i < (l.drop k).length := by rw [hxl] at hi; rw [List.length_drop, HL.out]; omega
          rw [hbc i h2]
          subst hx
          rw [List.getElem_take]⟩)) (by rw [Lib.byteCells_length, hxl, shaA_size _ _ _ ho]; omega) (Lib.byteCells_one x)
      rw [shaA_splice _ _ _ _ _ ho (by rw [hxl]; omega), Lib.byteCells_length, hxl] at hcopy
      have hqr : cnt ≤ q ∧ cnt ≤ r ∧ (cnt = q ∨ cnt = r) := by omega
      have hcnt0 : 0 < cnt := by omega
      obtain ⟨o2, ho2⟩ : ∃ y, op.take t ++ x ++ op.drop (t + cnt) = y := ⟨_, rfl⟩
      have ho2l : o2.length = 64 := by rw [← ho2]; simp [hxl, ho]; omega
      rw [ho2] at hcopy
      obtain ⟨w3, hw3⟩ : ∃ y, wr.setRow g (shaA (blocksTo M (N / 64)) o2 N) = y := ⟨_, rfl⟩
      rw [hw3] at hcopy
      have hb3 : Blk w3 g (shaA (blocksTo M (N / 64)) o2 N) 81 := by rw [← hw3]; exact hblk.row _
      have hg3 : w.grownBy w3 (some g) := by rw [← hw3]; exact World.grownBy.trans hgr (setRow_grown _ _ _)
      have hk3 : Blk w3 ba (u32Cells kL).toArray 82 := by rw [← hw3]; exact HK.out.rowOther (by omega) _
      have d72 := (hb3.cell 72).trans (shaA_count _ _ _ ho2l)
      have f72 := hb3.frozen 72
      have HX := Lib.hid (show m ++ l.take (k + cnt) = M ++ x by rw [← hM, ← hx, List.append_assoc, List.take_add])
      have HD := Lib.hid (show l.drop (k + cnt) = (l.drop k).drop cnt by rw [List.drop_drop])
      have HXL := Lib.hid hxl
      have hcq : (cnt : Int) ≤ (q : Int) := by omega
      have hqk : n - (k + cnt) = q - cnt := by omega
      have HQK := Lib.hid hqk
      have HO2 := Lib.hid ho2
      have HOP := Lib.hid hopn
      have HC := Lib.hid hcopy
      have HW3 := Lib.hid hw3
      have HB3 := Lib.hid hb3
      have HK3 := Lib.hid hk3
      have HO2L := Lib.hid ho2l
      have HOL := Lib.hid ho
      have HRD := Lib.hid (show RdN w w.heap.size g (some ⟨b, off + cnt, none⟩) (l.drop (k + cnt)) by
        rcases HR.out with h | ⟨b', off', e, h1, h2, h3⟩
        · exact .inl (by rw [HD.out, h, List.drop_nil])
        · injection e with e; injection e with e1 e2; subst e1 e2
          refine .inr ⟨b, off + cnt, rfl, h1, h2, fun i hi => ?_⟩
          have hi2 : cnt + i < (l.drop k).length := by rw [HD.out, List.length_drop] at hi; omega
          have := h3 (cnt + i) hi2
          rw [Nat.add_assoc, this]
          simp only [HD.out, List.getElem_drop])
      clear hcopy hw3 hb3 hk3 hblk hopn ho2 hx hcnt hM hN hNv ht hq HS HK hgr HR hbc hxl hqk ho2l ho
      have hto : t + cnt = 64 ∨ t + cnt < 64 := by have := HRT.out; omega
      rcases hto with hfull | hpart
      · have hl2 : (M ++ x).length = N + cnt := by rw [List.length_append, HN.out, HXL.out]
        obtain ⟨f1, f2, f3⟩ := open_full M x op HOL.out (by rw [HN.out, HT.out]; exact HOP.out) (by rw [HN.out, HT.out, HXL.out]; exact hfull)
        rw [HN.out, HT.out, HXL.out, HO2.out, hl2] at f1
        rw [hl2] at f2 f3
        have hb4 : Blk (w3.setCell ⟨g, 72, none⟩ (.int .i64 ((N : Int) + (cnt : Int)))) g (shaA (blocksTo M (N / 64)) o2 (N + cnt)) 81 := by
          have hc := HB3.out.set 72 (.int .i64 ((N + cnt : Nat) : Int))
          rw [shaA_setCount _ _ _ _ HO2L.out] at hc
          rw [show (N : Int) + (cnt : Int) = ((N + cnt : Nat) : Int) from by omega]
          exact hc
        obtain ⟨Hm, hHm⟩ : ∃ y, blocksTo M (N / 64) = y := ⟨_, rfl⟩
        obtain ⟨H2, hH2⟩ : ∃ y, blocksTo (M ++ x) ((N + cnt) / 64) = y := ⟨_, rfl⟩
        have HMO := Lib.hid (show Hm.ok by rw [← hHm]; exact blocksTo_ok _ _)
        rw [hHm, hH2] at f1
        rw [hHm] at hb4
        have HH2 := Lib.hid hH2
        have HF1 := Lib.hid f1
        have HF2 := Lib.hid f2
        have HF3 := Lib.hid f3
        have HL2 := Lib.hid hl2
        have HB4 := Lib.hid hb4
        have htc : ((N : Int) % 64 + (cnt : Int) == 64) = true := by simp; omega
        have hg4 := World.grownBy.trans hg3 (Lib.grownBy_setCell w3 g 72 (.int .i64 ((N : Int) + (cnt : Int))))
        have HK4 := Lib.hid (HK3.out.other (p := ⟨g, 72, none⟩) (by simp; omega) (.int .i64 ((N : Int) + (cnt : Int))))
        clear f1 f2 f3 hl2 hb4 hHm hH2
        rcases Decidable.em (c' = cnt) with hcap | hcap
        · have hqc : q = cnt := by omega
          subst hcap hqc
          have hcp := HC.out 3
          unfold goInt at hcp
          go_wp2_with fail
          clear hcp d72 f72 c72
          generalize w3.setCell _ _ = w4 at *
          obtain ⟨c0, c1, c2, c3, c4, c5, c6, c7⟩ : _ ∧ _ ∧ _ ∧ _ ∧ _ ∧ _ ∧ _ ∧ _ := sha_cells HB4.out
          have HRS := Lib.hid (sha_open HB4.out HO2L.out)
          have HRD4 := Lib.hid (show Rd w4.drew w4.drew.heap.size (some ⟨g, 8, none⟩) o2 from HRS.out)
          have HKD4 := Lib.hid (show Blk w4.drew ba (u32Cells kL).toArray 82 from HK4.out)
          have HBD4 := Lib.hid (show Blk w4.drew g (shaA Hm o2 (N + q)) 81 from HB4.out)
          have hg4d : w.grownBy w4.drew (some g) := ⟨hg4.os, hg4.tape, hg4.output, hg4.size, hg4.block⟩
          go_region_with (go_at_call 58; refine (mix_lit Hm H2 g 8 ba o2 _ HF1.out HMO.out HO2L.out HRD4.out HKD4.out).mono ?_; rintro e w6 ⟨rfl, hb6⟩; obtain ⟨y0, y1, y2, y3, y4, y5, y6, y7⟩ := sha_cells (HBD4.out.below hb6 HBD4.out.lt); obtain ⟨z0, z1, z2, z3, z4, z5, z6, z7⟩ := sha_frozen (HBD4.out.below hb6 HBD4.out.lt))
          generalize hw7 : World.setCell _ _ _ = w7
          have HW7 := Lib.hid (show Blk w7 g (shaA H2 o2 (N + q)) 81 by rw [← hw7]; exact st8_blk (HBD4.out.below hb6 HBD4.out.lt) H2)
          have HK7 := Lib.hid (show Blk w7 ba (u32Cells kL).toArray 82 by rw [← hw7]; exact st8_other (HKD4.out.below hb6 HKD4.out.lt) (by omega) H2)
          have hg7 : w.grownBy w7 (some g) := by rw [← hw7]; exact st8_grown (grown_below hg4d hb6) H2
          have HS7 := Lib.hid (show ShaAt w7 g (m ++ l.take (k + q)) by
            rw [HX.out]
            exact ⟨o2, HO2L.out, by rw [HL2.out, HF2.out, HF3.out]; rfl, by rw [HL2.out, HH2.out]; exact HW7.out⟩)
          clear hw7 HW7 hb6 y0 y1 y2 y3 y4 y5 y6 y7 z0 z1 z2 z3 z4 z5 z6 z7 HBD4 HKD4 HRD4 hg4d
          go_wp2_with fail
          go_roundw
          case rel => exact ⟨k + q, some ⟨b, off, none⟩, 0, by have := HQ.out; omega, by rw [show n - (k + q) = 0 by have := HQ.out; omega], by have := HQ.out; omega, Lib.hid (.inl (List.drop_of_length_le (by rw [HL.out]; have := HQ.out; omega))), HS7, HK7, hg7⟩
          case measure => simp [sliceN']; omega
        · have hcp := HC.out 3
          unfold goInt at hcp
          go_wp2_with fail
          clear hcp d72 f72 c72
          generalize w3.setCell _ _ = w4 at *
          obtain ⟨c0, c1, c2, c3, c4, c5, c6, c7⟩ : _ ∧ _ ∧ _ ∧ _ ∧ _ ∧ _ ∧ _ ∧ _ := sha_cells HB4.out
          have HRS := Lib.hid (sha_open HB4.out HO2L.out)
          have HRD4 := Lib.hid (show Rd w4.drew w4.drew.heap.size (some ⟨g, 8, none⟩) o2 from HRS.out)
          have HKD4 := Lib.hid (show Blk w4.drew ba (u32Cells kL).toArray 82 from HK4.out)
          have HBD4 := Lib.hid (show Blk w4.drew g (shaA Hm o2 (N + cnt)) 81 from HB4.out)
          have hg4d : w.grownBy w4.drew (some g) := ⟨hg4.os, hg4.tape, hg4.output, hg4.size, hg4.block⟩
          go_region_with (go_at_call 58; refine (mix_lit Hm H2 g 8 ba o2 _ HF1.out HMO.out HO2L.out HRD4.out HKD4.out).mono ?_; rintro e w6 ⟨rfl, hb6⟩; obtain ⟨y0, y1, y2, y3, y4, y5, y6, y7⟩ := sha_cells (HBD4.out.below hb6 HBD4.out.lt); obtain ⟨z0, z1, z2, z3, z4, z5, z6, z7⟩ := sha_frozen (HBD4.out.below hb6 HBD4.out.lt))
          generalize hw7 : World.setCell _ _ _ = w7
          have HW7 := Lib.hid (show Blk w7 g (shaA H2 o2 (N + cnt)) 81 by rw [← hw7]; exact st8_blk (HBD4.out.below hb6 HBD4.out.lt) H2)
          have HK7 := Lib.hid (show Blk w7 ba (u32Cells kL).toArray 82 by rw [← hw7]; exact st8_other (HKD4.out.below hb6 HKD4.out.lt) (by omega) H2)
          have hg7 : w.grownBy w7 (some g) := by rw [← hw7]; exact st8_grown (grown_below hg4d hb6) H2
          have HS7 := Lib.hid (show ShaAt w7 g (m ++ l.take (k + cnt)) by
            rw [HX.out]
            exact ⟨o2, HO2L.out, by rw [HL2.out, HF2.out, HF3.out]; rfl, by rw [HL2.out, HH2.out]; exact HW7.out⟩)
          clear hw7 HW7 hb6 y0 y1 y2 y3 y4 y5 y6 y7 z0 z1 z2 z3 z4 z5 z6 z7 HBD4 HKD4 HRD4 hg4d
          go_wp2_with fail
          go_roundw
          case rel => exact ⟨k + cnt, _, _, by have := HQ.out; omega, by rw [HQK.out], by have := HQ.out; omega, HRD, HS7, HK7, hg7⟩
          case measure => simp [sliceN']; omega
      · have hS : ShaAt (w3.setCell ⟨g, 72, none⟩ (.int .i64 ((N : Int) + (cnt : Int)))) g (m ++ l.take (k + cnt)) := by
          have hl2 : (M ++ x).length = N + cnt := by rw [List.length_append, HN.out, HXL.out]
          obtain ⟨h1, h2⟩ := open_more M x op HOL.out (by rw [HN.out, HT.out]; exact HOP.out) (by rw [HN.out, HT.out, HXL.out]; exact hpart)
          rw [hl2, HN.out, HT.out, HXL.out, HO2.out] at h1
          rw [hl2, HN.out] at h2
          rw [HX.out, show (N : Int) + (cnt : Int) = ((N + cnt : Nat) : Int) from by omega]
          refine ⟨o2, HO2L.out, by rw [hl2]; exact h1, ?_⟩
          have hc := HB3.out.set 72 (.int .i64 ((N + cnt : Nat) : Int))
          rw [shaA_setCount _ _ _ _ HO2L.out] at hc
          rw [hl2, h2]
          exact hc
        have HS4 := Lib.hid hS
        have htc : ((N : Int) % 64 + (cnt : Int) == 64) = false := by simp; omega
        have hg4 := World.grownBy.trans hg3 (Lib.grownBy_setCell w3 g 72 (.int .i64 ((N : Int) + (cnt : Int))))
        clear hS
        rcases Decidable.em (c' = cnt) with hcap | hcap
        · have hqc : q = cnt := by omega
          subst hcap hqc
          have hcp := HC.out 3
          unfold goInt at hcp
          go_wp2_with fail
          clear hcp
          go_roundw
          case rel => exact ⟨k + q, some ⟨b, off, none⟩, 0, by have := HQ.out; omega, by rw [show n - (k + q) = 0 by have := HQ.out; omega], by have := HQ.out; omega, Lib.hid (.inl (List.drop_of_length_le (by rw [HL.out]; have := HQ.out; omega))), HS4, Lib.hid (HK3.out.other (by simp; omega) _), hg4⟩
          case measure => simp [sliceN']; omega
        · have hcp := HC.out 3
          unfold goInt at hcp
          go_wp2_with fail
          clear hcp
          go_roundw
          case rel => exact ⟨k + cnt, _, _, by have := HQ.out; omega, by rw [HQK.out], by have := HQ.out; omega, HRD, HS4, Lib.hid (HK3.out.other (by simp; omega) _), hg4⟩
          case measure => simp [sliceN']; omega
    · have hkn : k = n := by omega
      have hS : ShaAt wr g (m ++ l) := by
        have := HS.out
        rwa [hkn, List.take_of_length_le (by rw [HL.out]; exact Nat.le_refl _)] at this
      have hml : (m ++ l).length = m.length + n := by rw [List.length_append, HL.out]
      have HSS := Lib.hid hS
      obtain ⟨op, ho, _, hblk⟩ := hS
      have c72 := (hblk.cell 72).trans (shaA_count _ _ _ ho)
      rw [hml] at c72
      have hzero : n - k = 0 := by omega
      rw [hzero]
      have hge : ¬ (0 : Int) < ((0 : Nat) : Int) := by omega
      clear hkn hml hblk ho HS HR HK hcc hlt hk hzero
      go_wp2_with fail
      go_ret
      exact ⟨rfl, HSS.out, hgr⟩
end Go.Proofs.YtciflbkgfmbfdaaDoor
