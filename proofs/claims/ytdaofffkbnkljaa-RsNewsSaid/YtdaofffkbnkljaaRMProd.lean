/- The document's own matrix of powers. The document's own product of matrices: a column, a row of a product. -/
import Derived.Test.YtdaofffkbnkljaaRMUnit
import Derived.Test.YtdaofffkbnkljaaGfD
import Derived.Test.YtdaofffkbnkljaaAppend
import Derived.Test.YtdaofffkbnkljaaStepA
import Derived.Deep.RegionHeld3
namespace Go.Proofs.Ytdaofffkbnkljaa
open Go.RowKit

theorem rowL_succ (f : Mx) (m r : Nat) : rowL f 0 (m + 1) r = rowL f 0 m r ++ [f r m] := by simp [rowL, List.range_succ]

theorem rvander_no (n k : Int) (w : World) (h : ¬ (1 ≤ n ∧ n ≤ 16 ∧ 1 ≤ k ∧ k ≤ 16)) :
    Calls Try.prog 44 #[.int .i64 n, .int .i64 k] w fun e w' => e = .returned (.slice none 0 0) ∧ w = w' := by
  by_cases h1 : n < 1
  · go_enter Try.func44, Try.ntmps44
    go_wp2_with fail
    go_ret
    exact ⟨rfl, rfl⟩
  · by_cases h2 : 16 < n
    · go_enter Try.func44, Try.ntmps44
      go_wp2_with fail
      go_ret
      exact ⟨rfl, rfl⟩
    · by_cases h3 : k < 1
      · go_enter Try.func44, Try.ntmps44
        go_wp2_with fail
        go_ret
        exact ⟨rfl, rfl⟩
      · have h4 : 16 < k := by omega
        go_enter Try.func44, Try.ntmps44
        go_wp2_with fail
        go_ret
        exact ⟨rfl, rfl⟩

set_option maxRecDepth 100000 in
set_option maxHeartbeats 4000000 in
theorem rvander_any (n k : Nat) (w : World) (h1 : 1 ≤ n) (h2 : n ≤ 16) (h3 : 1 ≤ k) (h4 : k ≤ 16) :
    Calls Try.prog 44 #[.int .i64 (n : Int), .int .i64 (k : Int)] w fun e w' => ∃ X cp, e = .returned (.slice X n cp) ∧ n ≤ cp ∧ RdR w' w'.heap.size X (rowsL vdM 0 k n) ∧ Below w.heap.size w w' := by
  obtain ⟨i0, hi, hz0, hz1, hz2⟩ := info_parts info5
  obtain ⟨i1, hi', hz0', hz1', hz2'⟩ := info_parts infoSlice
  have a1 : ¬ (n : Int) < 1 := by omega
  have a2 : ¬ (16 : Int) < (n : Int) := by omega
  have a3 : ¬ (k : Int) < 1 := by omega
  have a4 : ¬ (16 : Int) < (k : Int) := by omega
  go_enter Try.func44, Try.ntmps44
  go_wp2_with fail
  clear a1 a2 a3 a4
  go_loopw [5, 6] (fun v t wr => ∃ (i : Nat) (vs : List Value), i ≤ n ∧ t = .int .i64 i ∧ Hid (wr.ownsRow w.heap.size 22 1 v i vs) ∧ Hid (sliceOwn wr w.heap.size 5 vs (rowsL vdM 0 k i)) ∧ Below w.heap.size w wr) (fun _ t _ => n - (intOf t).toNat)
  case atStart => exact ⟨0, [], by omega, rfl, Lib.hid (World.ownsRow_nil _ _ _ _), Lib.hid ⟨rfl, fun i hi => by simp [rowsL] at hi⟩, Below.refl _ _⟩
  case round =>
    obtain ⟨i, vs, hin, rfl, HO, HS, hbel⟩ := hrel
    by_cases hlt : i < n
    · have hii : (i : Int) < (n : Int) := by omega
      have HSN := Lib.hid (rowsL_succ vdM 0 k i)
      have hle := hbel.size
      have hi16 : (i : Int) < 16 := by omega
      obtain ⟨wo, rfl⟩ : ∃ y : World, y = wr := ⟨_, rfl⟩
      have HB0 := Lib.hid hbel
      clear hbel
      go_wp2_with fail
      go_loopw [7, 8] (fun v t wq => ∃ j : Nat, j ≤ k ∧ t = .int .i64 j ∧ Hid (wq.ownsRow wo.heap.size 5 1 v j (Lib.byteCells (rowL vdM 0 j i))) ∧ Below wo.heap.size wo wq) (fun _ t _ => k - (intOf t).toNat)
      case atStart => exact ⟨0, by omega, rfl, Lib.hid (World.ownsRow_nil _ _ _ _), Below.refl _ _⟩
      case round =>
        obtain ⟨j, hj, rfl, HR, hbq⟩ := hrel
        by_cases hjk : j < k
        · have hji : (j : Int) < (k : Int) := by omega
          have HC := Lib.hid (show Calls Try.prog 63 #[.int .u8 (i : Int), .int .i64 (j : Int)] wr fun e w' => e = .returned (.int .u8 ((vdM i j).toNat : Int)) ∧ wr = w' by
            have := rpow_any (UInt8.ofNat i) (j : Int) wr ⟨by omega, by omega⟩
            rw [show ((UInt8.ofNat i).toNat : Int) = (i : Int) by rw [UInt8.toNat_ofNat', Nat.mod_eq_of_lt (by omega)], Int.toNat_natCast] at this
            exact this)
          have HRS := Lib.hid (rowL_succ vdM j i)
          generalize vdM i j = x at *
          have hlq := hbq.size
          go_wp2_with fail
          with_reducible refine (HC.out).mono ?_
          rintro e w4 ⟨rfl, rfl⟩
          go_wp2_with (at_builtin; refine wpList_append_rd rfl _ _ 22 rfl wo.heap.size 5 i0 Try.underlying22 hi hz0 hz1 hz2 _ _ _ rfl (HR.out.alloc _) _ _ 1 1 [x] rfl rfl (Rd.one _ 5 x _ rfl) (by omega) (by simp; omega) ?_)
          intro v3 w3 hown3 hg3
          have hbq3 : Below wo.heap.size wo w3 := (hbq.alloc hlq _).grown hg3 (by simp; omega) (fun k hk => (HR.out.lt k hk).1)
          have HR3 := Lib.hid (show w3.ownsRow wo.heap.size 5 1 v3 (j + 1) (Lib.byteCells (rowL vdM 0 (j + 1) i)) by rw [HRS.out, Lib.byteCells_append]; exact hown3)
          clear hown3 hg3 HR hbq hlq HC HRS
          go_wp2_with fail
          go_roundw
          case rel => exact ⟨j + 1, by omega, by go_num, HR3, hbq3⟩
          case measure => simp [intOf]; omega
        · obtain rfl : j = k := by omega
          obtain ⟨Ar, cr, rfl, hkc, hcm⟩ := own_caps HR.out
          have hlq := hbq.size
          have hsz : w.heap.size ≤ wr.heap.size := Nat.le_trans hle hlq
          go_wp2_with (at_builtin; refine wpList_append_one rfl _ _ 29 rfl w.heap.size 22 i1 Try.underlying29 hi' hz0' hz1' hz2' _ i vs rfl wr Ar j cr rfl (own_keep HO.out hbq) rfl (by omega) hsz ?_)
          intro v2 w2 hown2 hg2
          have hal : Below wr.heap.size wr (wr.alloc (.cells #[.slice Ar j cr] 22)) := (Below.refl _ _).alloc (Nat.le_refl _) _
          have HS2 := Lib.hid (HS.out.grow (hbq.trans (hal.mono hlq)) (own_keep (own_keep HO.out hbq) hal) hg2 (own_keep (own_base HR.out hle) hal) (rowL_len _ _ _ _) hkc hcm)
          rw [← HSN.out] at HS2
          have HO2 := Lib.hid hown2
          have hbel2 : Below w.heap.size w w2 := (HB0.out.trans ((hbq.trans (hal.mono hlq)).mono hle)).grown hg2 (by simp; omega) (fun k hk => (HO.out.lt k hk).1)
          clear hown2 hg2 hal hbq HO HS HR
          go_wp2_with fail
          go_roundw
          case rel => exact ⟨i + 1, _, by omega, by go_num, HO2, HS2, hbel2⟩
          case measure => simp [intOf]; omega
    · obtain rfl : i = n := by omega
      obtain ⟨A', c', rfl, hkc, _⟩ := own_caps HO.out
      have HR := Lib.hid (RdR.of_own HO.out HS.out.vals (Nat.le_refl _))
      have hni : ¬ (i : Int) < (i : Int) := by omega
      clear HO HS
      go_wp2_with fail
      go_ret
      exact ⟨A', c', rfl, hkc, HR.out, hbel⟩
end Go.Proofs.Ytdaofffkbnkljaa
namespace Go.Proofs.Ytdaofffkbnkljaa
open Go.RowKit

/-- A column's first j bytes. -/
def colL (f : Mx) (k j : Nat) : List UInt8 := (List.range j).map fun i => f i k
theorem colL_len (f : Mx) (k j : Nat) : (colL f k j).length = j := by simp [colL]
theorem colL_succ (f : Mx) (k j : Nat) : colL f k (j + 1) = colL f k j ++ [f j k] := by simp [colL, List.range_succ]
theorem colL_at (f : Mx) (k : Nat) {j i : Nat} (h : i < j) : (colL f k j).getD i 0 = f i k := map_getD _ j i h

set_option maxRecDepth 100000 in
set_option maxHeartbeats 2000000 in
theorem rcol_any (A : Option Addr) (n m c k : Nat) (ls : List (List UInt8)) (w : World) (hn : ls.length = n) (hrow : ∀ r ∈ ls, r.length = m) (hk : k < m) (h1 : n ≤ 1000) (hr : RdR w w.heap.size A ls) :
    Calls Try.prog 67 #[.slice A n c, .int .i64 (k : Int)] w fun e w' => ∃ X cp, e = .returned (.slice X n cp) ∧ n ≤ cp ∧ Rd w' w'.heap.size X (colL (entM ls) k n) ∧ Below w.heap.size w w' := by
  obtain ⟨i0, hi, hz0, hz1, hz2⟩ := info_parts info5
  have HN := Lib.hid hn
  have HROW := Lib.hid hrow
  clear hn hrow
  go_enter Try.func67, Try.ntmps67
  go_wp2_with fail
  go_loopw [5, 9] (fun v t wr => ∃ j : Nat, j ≤ n ∧ t = .int .i64 j ∧ Hid (wr.ownsRow w.heap.size 5 1 v j (Lib.byteCells (colL (entM ls) k j))) ∧ Below w.heap.size w wr) (fun _ t _ => n - (intOf t).toNat)
  case atStart => exact ⟨0, by omega, rfl, Lib.hid (World.ownsRow_nil _ _ _ _), Below.refl _ _⟩
  case round =>
    obtain ⟨j, hj, rfl, HO, hbel⟩ := hrel
    by_cases hlt : j < n
    · have hji : (j : Int) < (n : Int) := by omega
      have hjl : j < ls.length := by rw [HN.out]; exact hlt
      obtain ⟨b, off, A1, c1, rfl, hbs, hc, hlc, hcm, hrd⟩ := hr.at_ j hjl
      have hlen : ls[j].length = m := HROW.out _ (List.getElem_mem _)
      have hkl : k < ls[j].length := by rw [hlen]; exact hk
      obtain ⟨b2, off2, rfl, hb2, hc2⟩ := hrd.at_ k hkl
      rw [hlen] at hc
      have hc' := (hbel.cell (p := ⟨b, off + j, none⟩) hbs).trans hc
      have hc2' := (hbel.cell (p := ⟨b2, off2 + k, none⟩) hb2).trans hc2
      have hkm : (k : Int) < (m : Int) := by omega
      have HCS := Lib.hid (show colL (entM ls) k (j + 1) = colL (entM ls) k j ++ [ls[j][k]] by
        rw [colL_succ]
        simp [entM, List.getD_eq_getElem?_getD, hjl, hkl])
      generalize ls[j][k] = x at *
      have hle := hbel.size
      clear hc hc2 hrd hlen hkl hjl hlc
      go_wp2_with (at_builtin; refine wpList_append_rd rfl _ _ 22 rfl w.heap.size 5 i0 Try.underlying22 hi hz0 hz1 hz2 _ _ _ rfl (HO.out.alloc _) _ _ 1 1 [x] rfl rfl (Rd.one _ 5 x _ rfl) (by omega) (by simp; omega) ?_)
      intro v3 w3 hown3 hg3
      have hb3 : Below w.heap.size w w3 := (hbel.alloc hle _).grown hg3 (by simp; omega) (fun k hk => (HO.out.lt k hk).1)
      have HO3 := Lib.hid (show w3.ownsRow w.heap.size 5 1 v3 (j + 1) (Lib.byteCells (colL (entM ls) k (j + 1))) by rw [HCS.out, Lib.byteCells_append]; exact hown3)
      clear hown3 hg3 HO hbel hle hc' hc2' HCS
      go_wp2_with fail
      go_roundw
      case rel => exact ⟨j + 1, by omega, by go_num, HO3, hb3⟩
      case measure => simp [intOf]; omega
    · obtain rfl : j = n := by omega
      obtain ⟨A', c', rfl, hkc, _⟩ := own_caps HO.out
      have HR := Lib.hid (Rd.of_own HO.out)
      have hni : ¬ (j : Int) < (j : Int) := by omega
      clear HO
      go_wp2_with fail
      go_ret
      exact ⟨A', c', rfl, hkc, HR.out, hbel⟩

theorem dot_row {ls : List (List UInt8)} (b : Mx) {i : Nat} (k p : Nat) (hi : i < ls.length) : dotU ls[i] (colL b k p) (min p p) = mmN p (entM ls) b i k := by
  rw [Nat.min_self, dotU_sum]
  refine sumN_congr fun j hj => ?_
  rw [colL_at b k hj]
  simp [entM, List.getD_eq_getElem?_getD, hi]
set_option maxRecDepth 100000 in
set_option maxHeartbeats 8000000 in
theorem rprod_any (A B : Option Addr) (n p m c d : Nat) (ls ks : List (List UInt8)) (w : World) (hn : ls.length = n) (hrow : ∀ r ∈ ls, r.length = p) (hp : ks.length = p) (hrow2 : ∀ r ∈ ks, r.length = m) (h0 : 1 ≤ p) (h1 : n ≤ 1000) (h2 : p ≤ 1000) (h3 : m ≤ 1000) (hr : RdR w w.heap.size A ls) (hs : RdR w w.heap.size B ks) :
    Calls Try.prog 46 #[.slice A n c, .slice B p d] w fun e w' => ∃ X cp, e = .returned (.slice X n cp) ∧ n ≤ cp ∧ RdR w' w'.heap.size X (rowsL (mmN p (entM ls) (entM ks)) 0 m n) ∧ Below w.heap.size w w' := by
  obtain ⟨i0, hi, hz0, hz1, hz2⟩ := info_parts info5
  obtain ⟨i1, hi', hz0', hz1', hz2'⟩ := info_parts infoSlice
  have hp0 : 0 < ks.length := by omega
  obtain ⟨b0, off0, A0, c0, rfl, hbs0, hc0, hlc0, hcm0, hrd0⟩ := hs.at_ 0 hp0
  rw [show ks[0].length = m from hrow2 _ (List.getElem_mem _)] at hc0
  have HCOL := Lib.hid (fun k (hk : k < m) W (h : Below w.heap.size w W) => rcol_any (some ⟨b0, off0, none⟩) p m d k ks W hp hrow2 hk h2 ((hs.below h (Nat.le_refl _)).more h.size))
  have HN := Lib.hid hn
  have HROW := Lib.hid hrow
  have HC0 := Lib.hid hc0
  clear hn hrow hp hrow2 hs hp0 hlc0 hrd0 hc0
  obtain ⟨f, hf⟩ : ∃ f, mmN p (entM ls) (entM ks) = f := ⟨_, rfl⟩
  rw [hf]
  have HF := Lib.hid hf
  clear hf
  go_enter Try.func46, Try.ntmps46
  go_wp2_with fail
  go_loopw [5, 11] (fun v t wr => ∃ (i : Nat) (vs : List Value), i ≤ n ∧ t = .int .i64 i ∧ Hid (wr.ownsRow w.heap.size 22 1 v i vs) ∧ Hid (sliceOwn wr w.heap.size 5 vs (rowsL f 0 m i)) ∧ Below w.heap.size w wr) (fun _ t _ => n - (intOf t).toNat)
  case atStart => exact ⟨0, [], by omega, rfl, Lib.hid (World.ownsRow_nil _ _ _ _), Lib.hid ⟨rfl, fun i hi => by simp [rowsL] at hi⟩, Below.refl _ _⟩
  case round =>
    obtain ⟨i, vs, hin, rfl, HO, HS, hbel⟩ := hrel
    by_cases hlt : i < n
    · have hii : (i : Int) < (n : Int) := by omega
      have HSN := Lib.hid (rowsL_succ f 0 m i)
      have hle := hbel.size
      obtain ⟨wo, rfl⟩ : ∃ y : World, y = wr := ⟨_, rfl⟩
      have HB0 := Lib.hid hbel
      have hil : i < ls.length := by rw [HN.out]; exact hlt
      obtain ⟨b, off, A1, c1, rfl, hbs, hc, hlc, hcm, hrd⟩ := hr.at_ i hil
      rw [show ls[i].length = p from HROW.out _ (List.getElem_mem _)] at hc
      have HKEEP := Lib.hid (fun W (h : Below w.heap.size w W) => (⟨(h.cell (p := ⟨b, off + i, none⟩) hbs).trans hc, h⟩ : W.cell? ⟨b, off + i, none⟩ = some (.slice A1 p c1) ∧ Below w.heap.size w W))
      have HRA := Lib.hid (fun W (h : Below w.heap.size w W) => hrd.below h (Nat.le_refl _))
      have HDOT := Lib.hid (fun k X cp D W (hX : Rd W D X (colL (entM ks) k p)) (h : Below w.heap.size w W) => (show Calls Try.prog 66 #[.slice A1 p c1, .slice X p cp] W fun e w' => e = .returned (.int .u8 ((f i k).toNat : Int)) ∧ ∃ q, w' = W.drewN q by
        have := rdot_any A1 X p p c1 cp _ D ls[i] (colL (entM ks) k p) W (HROW.out _ (List.getElem_mem _)) (colL_len _ _ _) (by unfold maxLen; omega) (by unfold maxLen; omega) (hrd.below h (Nat.le_refl _)) hX
        rw [dot_row (entM ks) k p hil, HF.out] at this
        exact this))
      have hcc0 := (hbel.cell (p := ⟨b0, off0 + 0, none⟩) hbs0).trans HC0.out
      rw [Nat.add_zero] at hcc0
      have hpi : (0 : Int) < (p : Int) := by omega
      clear hbel hc hrd hlc
      go_wp2_with fail
      clear hcc0
      go_loopw [7, 18] (fun v t wq => ∃ k : Nat, k ≤ m ∧ t = .int .i64 k ∧ Hid (wq.ownsRow wo.heap.size 5 1 v k (Lib.byteCells (rowL f 0 k i))) ∧ Below wo.heap.size wo wq) (fun _ t _ => m - (intOf t).toNat)
      case atStart => exact ⟨0, by omega, rfl, Lib.hid (World.ownsRow_nil _ _ _ _), Below.refl _ _⟩
      case round =>
        obtain ⟨k, hk, rfl, HR, hbq⟩ := hrel
        by_cases hkm : k < m
        · have hki : (k : Int) < (m : Int) := by omega
          have hbw : Below w.heap.size w wr := HB0.out.trans (hbq.mono hle)
          have HS0 := Lib.hid (HKEEP.out wr hbw)
          have hlq := hbq.size
          go_wp2_with fail
          go_region_held3 (fun W => W.cell? ⟨b, off + i, none⟩ = some (.slice A1 p c1) ∧ Below w.heap.size w W)
            ((first | exact HKEEP.out _ ‹_› | exact HKEEP.out _ (Below.drew ‹_›) | exact HKEEP.out _ (below_drewN ‹_› _) | exact HKEEP.out _ (Below.alloc (by assumption) (by assumption) _) | exact HKEEP.out _ (Below.alloc (Below.drew (by assumption)) (by assumption) _)))
            ((first
              | (go_at_call 67
                 with_reducible refine (HCOL.out k hkm _ (by first | exact hbw | exact hbw.drew | exact below_drewN hbw _)).mono ?_
                 rintro e w4 ⟨X, xc, rfl, hxc, hX, hb4⟩
                 have hq4 : Below wr.heap.size wr w4 := by first | exact hb4 | exact ((Below.refl _ _).drew).trans hb4 | exact (below_drewN (Below.refl _ _) _).trans hb4
                 have hw4 : Below w.heap.size w w4 := hbw.trans (hq4.mono (Nat.le_trans hle hlq)))
              | (go_at_call 66
                 refine (HDOT.out k X xc _ _ hX (by first | exact hw4 | exact hw4.drew | exact below_drewN hw4 _)).mono ?_
                 rintro e w5 ⟨rfl, q, hq⟩
                 have hq5 : Below wr.heap.size wr w5 := by rw [hq]; exact below_drewN (by first | exact hq4 | exact hq4.drew | exact below_drewN hq4 _) _
                 have hw5 : Below w.heap.size w w5 := hbw.trans (hq5.mono (Nat.le_trans hle hlq))
                 have hs5 : w.heap.size ≤ w5.heap.size := hw5.size
                 clear hq)
              | (refine step_append_byte rfl _ _ 22 rfl wo.heap.size 5 i0 Try.underlying22 hi hz0 hz1 hz2 _ k (Lib.byteCells (rowL f 0 k i)) rfl (own_keep (own_keep HR.out (by first | exact hq5 | exact hq5.drew | exact below_drewN hq5 _)) ((Below.refl _ _).alloc (Nat.le_refl _) _)) _ ((f i k).toNat : Int) (heap_alloc_new _ _) rfl (by omega) (by have := hq5.size; simp; omega) ?_
                 intro v7 w7 hown7 hgr7
                 have hw7 : Below w.heap.size w w7 := Below.grown (by first | exact hw5.alloc hs5 _ | exact (hw5.drew).alloc hs5 _ | exact (below_drewN hw5 _).alloc hs5 _) hgr7 (by simp; omega) (fun k hk => Nat.le_trans hle (HR.out.lt k hk).1)
                 have hq7 : Below wo.heap.size wo w7 := Below.grown (by first | exact (hbq.trans (hq5.mono hlq)).alloc (Nat.le_trans hlq hq5.size) _ | exact ((hbq.trans (hq5.mono hlq)).drew).alloc (Nat.le_trans hlq hq5.size) _) hgr7 (by have := hq5.size; simp; omega) (fun k hk => (HR.out.lt k hk).1))))
          have HR3 := Lib.hid (show w7.ownsRow wo.heap.size 5 1 v7 (k + 1) (Lib.byteCells (rowL f 0 (k + 1) i)) by
            rw [show rowL f 0 (k + 1) i = rowL f 0 k i ++ [f i k] by simp [rowL, List.range_succ], Lib.byteCells_append]
            exact hown7)
          clear hown7 hgr7 HR hbq hlq HS0 hX hb4 hq4 hw4 hq5 hw5 hs5 hbw
          go_wp2_with fail
          go_roundw
          case rel => exact ⟨k + 1, by omega, by go_num, HR3, hq7⟩
          case measure => simp [intOf]; omega
        · obtain rfl : k = m := by omega
          obtain ⟨Ar, cr, rfl, hkc, hcm⟩ := own_caps HR.out
          have hlq := hbq.size
          have hsz : w.heap.size ≤ wr.heap.size := Nat.le_trans hle hlq
          clear HDOT HRA HKEEP
          go_wp2_with (at_builtin; refine wpList_append_one rfl _ _ 29 rfl w.heap.size 22 i1 Try.underlying29 hi' hz0' hz1' hz2' _ i vs rfl wr Ar k cr rfl (own_keep HO.out hbq) rfl (by omega) hsz ?_)
          intro v2 w2 hown2 hg2
          have hal : Below wr.heap.size wr (wr.alloc (.cells #[.slice Ar k cr] 22)) := (Below.refl _ _).alloc (Nat.le_refl _) _
          have HS2 := Lib.hid (HS.out.grow (hbq.trans (hal.mono hlq)) (own_keep (own_keep HO.out hbq) hal) hg2 (own_keep (own_base HR.out hle) hal) (rowL_len _ _ _ _) hkc hcm)
          rw [← HSN.out] at HS2
          have HO2 := Lib.hid hown2
          have hbel2 : Below w.heap.size w w2 := (HB0.out.trans ((hbq.trans (hal.mono hlq)).mono hle)).grown hg2 (by simp; omega) (fun k hk => (HO.out.lt k hk).1)
          clear hown2 hg2 hal hbq HO HS HR
          go_wp2_with fail
          go_roundw
          case rel => exact ⟨i + 1, _, by omega, by go_num, HO2, HS2, hbel2⟩
          case measure => simp [intOf]; omega
    · obtain rfl : i = n := by omega
      obtain ⟨A', c', rfl, hkc, _⟩ := own_caps HO.out
      have HR := Lib.hid (RdR.of_own HO.out HS.out.vals (Nat.le_refl _))
      have hni : ¬ (i : Int) < (i : Int) := by omega
      clear HO HS
      go_wp2_with fail
      go_ret
      exact ⟨A', c', rfl, hkc, HR.out, hbel⟩
end Go.Proofs.Ytdaofffkbnkljaa
