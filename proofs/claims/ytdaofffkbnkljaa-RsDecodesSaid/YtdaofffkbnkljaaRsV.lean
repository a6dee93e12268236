/- The document's own code: its matrix, a share's length, noughts behind. The document's own shares. The document's own decoding. What the program's codes answer, as predicates on values; the document's own code on values. -/
import Derived.Test.YtdaofffkbnkljaaRsM
import Derived.Test.YtdaofffkbnkljaaRMInv
import Derived.Test.YtdaofffkbnkljaaRMProd
import Derived.StillTailTactics
import Derived.IntWalk
import Derived.Test.YtdaofffkbnkljaaBlobs
import Derived.BigQuiet
import Derived.Test.YtdaofffkbnkljaaOwnB
namespace Go.Proofs.Ytdaofffkbnkljaa
open Go.RowKit

theorem RdR.take {w : World} {B : Nat} {A : Option Addr} {ls : List (List UInt8)} (h : RdR w B A ls) (k : Nat) : RdR w B A (ls.take k) := by
  rcases h with rfl | ⟨b, off, hA, hb, hc⟩
  · exact .inl (by simp)
  · refine .inr ⟨b, off, hA, hb, fun i hi => ?_⟩
    rw [List.length_take] at hi
    rw [List.getElem_take]
    exact hc i (by omega)
theorem rowsL_take (f : Mx) (o m : Nat) {n k : Nat} (h : k ≤ n) : (rowsL f o m n).take k = rowsL f o m k := by
  unfold rowsL
  rw [← List.map_take, List.take_range, Nat.min_eq_left h]
theorem vd_faithful {k : Nat} (hk : k ≤ 256) : Faithful k (entM (rowsL vdM 0 k k)) := by
  obtain ⟨r, hr⟩ := vd_inv hk
  exact (faithful_iff k _).2 ⟨r, hr.of_alike (rows_alike vdM k k).symm (fun _ _ _ _ => rfl)⟩
theorem gen_prod {k n : Nat} {G : Mx} {rs : List (List UInt8)} (hG : Gen k G) (hr : IsInv k (entM (rowsL vdM 0 k k)) (entM rs)) : rowsL (mmN k (entM (rowsL vdM 0 k n)) (entM rs)) 0 k n = rowsL G 0 k n := by
  have hv : IsInv k vdM (entM rs) := hr.of_alike (rows_alike vdM k k) (fun _ _ _ _ => rfl)
  refine rows_ext (rowsL_len _ _ _ _) (rowsL_len _ _ _ _) (rowsL_rows _ _ _ _) (rowsL_rows _ _ _ _) fun i j hi hj => ?_
  rw [rowsL_ent _ 0 k n hi hj, rowsL_ent _ 0 k n hi hj, Nat.zero_add, ← hG.of hv hj]
  exact mmN_congr (fun l hl => rows_alike vdM n k i l hi hl) (fun _ _ => rfl)

set_option maxRecDepth 100000 in
set_option maxHeartbeats 1000000 in
theorem rsmat_any (k n : Nat) {G : Mx} (w : World) (hG : Gen k G) (h1 : 1 ≤ k) (h2 : k ≤ n) (h3 : n ≤ 16) :
    Calls Try.prog 22 #[.int .i64 (k : Int), .int .i64 (n : Int)] w fun e w' => ∃ X cp, e = .returned (.slice X n cp) ∧ n ≤ cp ∧ RdR w' w'.heap.size X (rowsL G 0 k n) ∧ Below w.heap.size w w' := by
  have HV := Lib.hid (rvander_any n k w (by omega) h3 h1 (by omega))
  have hk0 : (0 : Int) ≤ (k : Int) := by omega
  go_enter Try.func22, Try.ntmps22
  go_wp2_with fail
  with_reducible refine (HV.out).mono ?_
  rintro e w1 ⟨X, cp, rfl, hc, hr, hb⟩
  have hkc : (k : Int) ≤ (cp : Int) := by omega
  have hr2 := hr.take k
  rw [rowsL_take vdM 0 k h2] at hr2
  have HI := Lib.hid (rminv_any X k cp (rowsL vdM 0 k k) w1 (rowsL_len _ _ _ _) (rowsL_rows _ _ _ _) h1 (by omega) hr2)
  have HR := Lib.hid hr
  have HB := Lib.hid hb
  clear hr hr2 hb HV
  go_wp2_with fail
  with_reducible refine (HI.out).mono ?_
  rintro e w2 ⟨⟨rs, hrl, hrr, hinv, Y, d, rfl, hd, hry⟩ | ⟨_, hf⟩, hb2⟩
  · have HP := Lib.hid (rprod_any X Y n k k cp d (rowsL vdM 0 k n) rs w2 (rowsL_len _ _ _ _) (rowsL_rows _ _ _ _) hrl hrr h1 (by omega) (by omega) (by omega) (HR.out.below hb2 (Nat.le_refl _) |>.more hb2.size) hry)
    rw [gen_prod hG hinv] at HP
    have HB2 := Lib.hid (HB.out.trans (hb2.mono HB.out.size))
    clear hry hinv hb2 HI HR HB hrl hrr
    go_wp2_with fail
    with_reducible refine (HP.out).mono ?_
    rintro e w3 ⟨Z, cz, rfl, hcz, hz, hb3⟩
    have HZ := Lib.hid hz
    have HB3 := Lib.hid (HB2.out.trans (hb3.mono HB2.out.size))
    clear hz hb3 HP HB2
    go_wp2_with fail
    go_ret
    exact ⟨Z, cz, rfl, hcz, HZ.out, HB3.out⟩
  · exact absurd (vd_faithful (by omega)) hf

/-- A share's length. -/
def lenI (size : Int) (k : Nat) : Int := if size < 1 then 0 else (size - 1) / (k : Int) + 1
theorem rslen_any (size : Int) (k : Nat) (w : World) (h0 : -9223372036854775808 ≤ size) (h1 : size ≤ 9223372036854775807) (hk : 1 ≤ k) (hk2 : k ≤ 1000) :
    Calls Try.prog 26 #[.int .i64 size, .int .i64 (k : Int)] w fun e w' => e = .returned (.int .i64 (lenI size k)) ∧ w = w' := by
  by_cases h : size < 1
  · have HL := Lib.hid (show lenI size k = 0 from if_pos h)
    go_enter Try.func26, Try.ntmps26
    go_wp2_with fail
    go_ret
    exact ⟨by rw [HL.out]; rfl, rfl⟩
  · have HL := Lib.hid (show lenI size k = (size - 1) / (k : Int) + 1 from if_neg h)
    have hk1 : (0 : Int) < (k : Int) := by omega
    have hkz : ¬ (k : Int) = 0 := by omega
    have hs : (0 : Int) ≤ size - 1 := by omega
    have hq0 : 0 ≤ (size - 1) / (k : Int) := Int.ediv_nonneg hs (by omega)
    have hq1 : (size - 1) / (k : Int) ≤ size - 1 := Int.ediv_le_self _ hs
    go_enter Try.func26, Try.ntmps26
    go_wp2_with fail
    go_ret
    exact ⟨by rw [HL.out]; rfl, rfl⟩

/-- How long a slice is. -/
def lenV : Value → Nat
  | .slice _ n _ => n
  | _ => 0
theorem shL_zero (b : List UInt8) : b ++ List.replicate 0 (0 : UInt8) = b := by simp
theorem pad_snoc (b : List UInt8) (j : Nat) : b ++ List.replicate (j + 1) (0 : UInt8) = b ++ List.replicate j 0 ++ [0] := by
  rw [List.append_assoc, List.replicate_succ', ← List.append_assoc]
set_option maxRecDepth 100000 in
set_option maxHeartbeats 1000000 in
theorem rspad_any (A : Option Addr) (n c k : Nat) (b : List UInt8) (w : World) (hn : b.length = n) (hn2 : n ≤ 100000) (hk : 1 ≤ k) (hk2 : k ≤ 1000) (hr : Rd w w.heap.size A b) :
    Calls Try.prog 29 #[.slice A n c, .int .i64 (k : Int)] w fun e w' => ∃ X cp, e = .returned (.slice X (shL b k).length cp) ∧ (shL b k).length ≤ cp ∧ Rd w' w'.heap.size X (shL b k) ∧ Below w.heap.size w w' := by
  obtain ⟨i0, hi, hz0, hz1, hz2⟩ := info_parts info5
  have HN := Lib.hid hn
  have hkz : ¬ (k : Int) = 0 := by omega
  have hkp : (0 : Int) < (k : Int) := by omega
  have hk1 : (1 : Int) ≤ (k : Int) := by omega
  clear hn
  obtain ⟨P, hP⟩ : ∃ P, shN n k = P := ⟨_, rfl⟩
  have HP := Lib.hid hP
  have hP1 : P < 1000 := by rw [← hP]; exact Nat.lt_of_lt_of_le (shN_lt n (by omega)) (by omega)
  have HPL := Lib.hid (show shL b k = b ++ List.replicate P 0 by unfold shL; rw [HN.out, hP])
  have HLL := Lib.hid (show (shL b k).length = n + P by rw [shL_len, HN.out, hP])
  have HM := Lib.hid (show (n + P) % k = 0 by rw [← hP]; exact shN_mod n (by omega))
  have HNM := Lib.hid (show ∀ j, j < P → (n + j) % k ≠ 0 from fun j hj => shN_not (by omega) (by rw [hP]; exact hj))
  clear hP
  go_enter Try.func29, Try.ntmps29
  go_wp2_with (at_builtin; refine wpList_append_rd rfl _ _ 22 rfl w.heap.size 5 i0 Try.underlying22 hi hz0 hz1 hz2 _ 0 [] rfl (World.ownsRow_nil _ _ _ _) w.heap.size A n c b rfl HN.out hr (by omega) (Nat.le_refl _) ?_)
  intro v1 w1 hown1 hg1
  have hb1 : Below w.heap.size w w1 := (Below.refl _ _).grown hg1 (Nat.le_refl _) (by simp [Value.ownBlock])
  have HO1 := Lib.hid (show w1.ownsRow w.heap.size 5 1 v1 (n + 0) (Lib.byteCells (b ++ List.replicate 0 0)) by rw [shL_zero, Nat.add_zero]; simpa using hown1)
  clear hown1 hg1 hr
  go_wp2_with fail
  go_loopw [5] (fun v wr => ∃ j : Nat, j ≤ P ∧ Hid (wr.ownsRow w.heap.size 5 1 v (n + j) (Lib.byteCells (b ++ List.replicate j 0))) ∧ Below w.heap.size w wr) (fun v _ => n + P - lenV v)
  case atStart => exact ⟨0, by omega, HO1, hb1⟩
  case round =>
    clear HO1 hb1
    obtain ⟨j, hj, HO, hbel⟩ := hrel
    obtain ⟨A1, c1, rfl, hc1, hcm1⟩ := own_caps HO.out
    have hle := hbel.size
    obtain ⟨m, hm⟩ : ∃ m, n + j = m := ⟨_, rfl⟩
    have hm2 : (m : Int) ≤ 200000 := by omega
    have hm0 : (0 : Int) ≤ (m : Int) := by omega
    rw [hm] at HO hc1 ⊢
    by_cases hlt : j < P
    · have hne : (((m : Int) % ((k : Nat) : Int)) != 0) = true := by
        have := HNM.out j hlt
        rw [hm] at this
        simp only [bne_iff_ne, ne_eq]
        omega
      have HSN := Lib.hid (pad_snoc b j)
      have HMJ := Lib.hid hm
      clear hm
      go_wp2_with (at_builtin; refine wpList_append_rd rfl _ _ 22 rfl w.heap.size 5 i0 Try.underlying22 hi hz0 hz1 hz2 _ _ _ rfl (HO.out.alloc _) _ _ 1 1 [0] rfl rfl (Rd.one wr 5 0 _ rfl) (by omega) (by simp; omega) ?_)
      intro v3 w3 hown3 hg3
      have hb3 : Below w.heap.size w w3 := (hbel.alloc hle _).grown hg3 (by simp; omega) (fun k hk => (HO.out.lt k hk).1)
      have HO3 := Lib.hid (show w3.ownsRow w.heap.size 5 1 v3 (n + (j + 1)) (Lib.byteCells (b ++ List.replicate (j + 1) 0)) by
        rw [HSN.out, Lib.byteCells_append, ← Nat.add_assoc, HMJ.out]
        exact hown3)
      obtain ⟨A3, c3, rfl, _⟩ := own_caps hown3
      clear hown3 hg3 HO hbel hle HSN hne
      go_wp2_with fail
      go_roundw
      case rel => exact ⟨j + 1, by omega, HO3, hb3⟩
      case measure => simp [lenV]; have := HMJ.out; omega
    · obtain rfl : j = P := by omega
      have hne : (((m : Int) % ((k : Nat) : Int)) != 0) = false := by
        have := HM.out
        rw [hm] at this
        simp only [bne_eq_false_iff_eq]
        omega
      have HR := Lib.hid (show Rd wr wr.heap.size A1 (shL b k) by rw [HPL.out]; exact Rd.of_own HO.out)
      have HZ := Lib.hid (show (shL b k).length = m from HLL.out.trans hm)
      clear HO hm
      go_wp2_with fail
      go_ret
      exact ⟨A1, c1, by rw [HZ.out]; rfl, by rw [HZ.out]; exact hc1, HR.out, hbel⟩
theorem shL_one (b : List UInt8) : shL b 1 = b := by
  unfold shL shN
  rw [Nat.mod_one]
  simp
set_option maxRecDepth 100000 in
set_option maxHeartbeats 1000000 in
theorem rspad_low (A : Option Addr) (n c : Nat) (kI : Int) (b : List UInt8) (w : World) (hn : b.length = n) (hn2 : n ≤ 100000) (hk : kI < 1) (hr : Rd w w.heap.size A b) :
    Calls Try.prog 29 #[.slice A n c, .int .i64 kI] w fun e w' => ∃ X cp, e = .returned (.slice X n cp) ∧ n ≤ cp ∧ Rd w' w'.heap.size X b ∧ Below w.heap.size w w' := by
  obtain ⟨i0, hi, hz0, hz1, hz2⟩ := info_parts info5
  have HN := Lib.hid hn
  have hk1 : ¬ (1 : Int) ≤ kI := by omega
  clear hn
  go_enter Try.func29, Try.ntmps29
  go_wp2_with (at_builtin; refine wpList_append_rd rfl _ _ 22 rfl w.heap.size 5 i0 Try.underlying22 hi hz0 hz1 hz2 _ 0 [] rfl (World.ownsRow_nil _ _ _ _) w.heap.size A n c b rfl HN.out hr (by omega) (Nat.le_refl _) ?_)
  intro v1 w1 hown1 hg1
  have hb1 : Below w.heap.size w w1 := (Below.refl _ _).grown hg1 (Nat.le_refl _) (by simp [Value.ownBlock])
  have hown2 : w1.ownsRow w.heap.size 5 1 v1 n (Lib.byteCells b) := by simpa using hown1
  obtain ⟨A1, c1, rfl, hc1, hcm1⟩ := own_caps hown2
  have HR := Lib.hid (Rd.of_own hown2)
  clear hown1 hown2 hg1 hr
  go_wp2_with fail
  go_loop [5] (fun v => v = .slice A1 n c1) (fun _ => 0)
  case atStart => rfl
  case round =>
    obtain rfl := hrel
    have hmo : (n : Int) % 1 = 0 := by omega
    go_wp2_with fail
    go_ret
    exact ⟨A1, c1, rfl, hc1, HR.out, hb1⟩
end Go.Proofs.Ytdaofffkbnkljaa
namespace Go.Proofs.Ytdaofffkbnkljaa
open Go.RowKit

/-- Of row i: j products of all pieces, one more of the first x bytes. -/
def parR (G : Mx) (p : List UInt8) (l i j x : Nat) : List UInt8 := (List.range l).map fun q => sumN (if q < x then j + 1 else j) fun m => mulU (G i m) (p.getD (m * l + q) 0)
theorem parR_len (G : Mx) (p : List UInt8) (l i j x : Nat) : (parR G p l i j x).length = l := by simp [parR]
theorem parR_at (G : Mx) (p : List UInt8) (l i j : Nat) {x : Nat} (hx : x < l) : (parR G p l i j x).getD x 0 = sumN j fun m => mulU (G i m) (p.getD (m * l + x) 0) := by
  unfold parR
  rw [map_getD _ l x hx, if_neg (by omega)]
theorem parR_step (G : Mx) (p : List UInt8) (l i j x : Nat) : (parR G p l i j x).set x ((sumN j fun m => mulU (G i m) (p.getD (m * l + x) 0)) ^^^ mulU (G i j) (p.getD (j * l + x) 0)) = parR G p l i j (x + 1) := by
  apply List.ext_getElem (by rw [List.length_set, parR_len, parR_len])
  intro q h1 h2
  rw [List.getElem_set]
  simp only [parR, List.getElem_map, List.getElem_range]
  by_cases h : x = q
  · subst h
    rw [if_pos rfl, if_pos (by omega), sumN]
  · rw [if_neg h]
    by_cases h3 : q < x
    · rw [if_pos h3, if_pos (by omega)]
    · rw [if_neg h3, if_neg (by omega)]
theorem parR_next (G : Mx) (p : List UInt8) (l i j : Nat) : parR G p l i j l = parR G p l i (j + 1) 0 := by
  unfold parR
  exact List.map_congr_left fun q hq => by rw [if_pos (List.mem_range.1 hq), if_neg (by omega)]
theorem parR_none (G : Mx) (p : List UInt8) (l i : Nat) : parR G p l i 0 0 = List.replicate l 0 := by
  apply List.ext_getElem (by simp [parR])
  intro q h1 h2
  simp [parR, sumN]
theorem parR_all (G : Mx) (p : List UInt8) (k l i : Nat) : parR G p l i k 0 = sumRow G p k l i := by
  unfold parR sumRow
  exact List.map_congr_left fun q _ => by rw [if_neg (by omega)]
theorem quo_nat {a k l : Nat} (h : a = k * l) (hk : 0 < k) : (a : Int) / (k : Int) = (l : Int) := by
  subst h
  rw [Int.natCast_mul, Int.mul_ediv_cancel_left _ (by omega)]
set_option maxRecDepth 100000 in
set_option maxHeartbeats 8000000 in
theorem rsenc_any (A : Option Addr) (z c k n : Nat) {G : Mx} (b : List UInt8) (w : World) (hz : b.length = z) (hz2 : z ≤ 1000) (hG : Gen k G) (h1 : 1 ≤ k) (h2 : k ≤ n) (h3 : n ≤ 16) (hr : Rd w w.heap.size A b) :
    Calls Try.prog 24 #[.slice A z c, .int .i64 (k : Int), .int .i64 (n : Int)] w fun e w' => ∃ X cp, e = .returned (.slice X n cp) ∧ n ≤ cp ∧ RdR w' w'.heap.size X (encL G b k n) ∧ Below w.heap.size w w' := by
  obtain ⟨i0, hi, hz0, hz1, hz2'⟩ := info_parts info5
  obtain ⟨i1, hi', hz0', hz1', hz2''⟩ := info_parts infoSlice
  have HPAD := Lib.hid (rspad_any A z c k b w hz (by omega) h1 (by omega) hr)
  have HMAT := Lib.hid (fun W => rsmat_any k n W hG h1 h2 h3)
  obtain ⟨l, hl⟩ : ∃ l, segN b k = l := ⟨_, rfl⟩
  have hmul := seg_mul b h1
  rw [hl] at hmul
  have hlz : l ≤ 2000 := by
    have h4 := shN_lt b.length h1
    have h5 := shL_len b k
    have h6 : l ≤ k * l := Nat.le_mul_of_pos_left l h1
    omega
  have HENC := Lib.hid (show encL G b k n = (List.range n).map (sumRow G (shL b k) k l) by unfold encL; rw [hl])
  rw [HENC.out]
  generalize shL b k = p at *
  obtain ⟨pl, hpl⟩ : ∃ pl, p.length = pl := ⟨_, rfl⟩
  have hquo : (pl : Int) / (k : Int) = (l : Int) := quo_nat (by rw [← hpl]; exact hmul) h1
  have HPL := Lib.hid hpl
  have HMUL := Lib.hid (show pl = k * l by rw [← hpl]; exact hmul)
  have hpl2 : pl ≤ 40000 := by
    have h6 : k * l ≤ 16 * 2000 := Nat.mul_le_mul (by omega) hlz
    have := HMUL.out
    omega
  rw [hpl] at HPAD
  have hmk := fun W => run_make (P := Try.prog) W 22 5 i0 (.int .u8 0) Try.underlying22 hi hz0 .i64 .i64 (l : Int) (l : Int) (by omega) (by omega) (by rw [hz2']; omega) (by omega)
  simp only [hz1, Nat.mul_one] at hmk
  have hk0 : (0 : Int) < (k : Int) := by omega
  have hkz : ¬ (k : Int) = 0 := by omega
  clear hz hl hmul hpl hr HENC hi hz0 hz1 hz2'
  go_enter Try.func24, Try.ntmps24
  go_wp2_with fail
  with_reducible refine (HPAD.out).mono ?_
  rintro e w1 ⟨X, cp, rfl, hcp, hrx, hb1⟩
  have HX := Lib.hid hrx
  have HB1 := Lib.hid hb1
  clear hrx hb1 HPAD
  go_wp2_with fail
  with_reducible refine (HMAT.out w1).mono ?_
  rintro e w2 ⟨M, cm, rfl, hcm, hrm, hb2⟩
  have HM := Lib.hid hrm
  have HX2 := Lib.hid ((HX.out.below hb2 (Nat.le_refl _)).more hb2.size)
  have HB2 := Lib.hid (HB1.out.trans (hb2.mono HB1.out.size))
  clear hrm hb2 HX HB1 HMAT hquo
  go_wp2_with fail
  go_loopw [10, 11] (fun v t wr => ∃ (i : Nat) (vs : List Value), i ≤ n ∧ t = .int .i64 i ∧ Hid (wr.ownsRow w2.heap.size 22 1 v i vs) ∧ Hid (sliceOwn wr w2.heap.size 5 vs ((List.range i).map (sumRow G p k l))) ∧ Below w2.heap.size w2 wr) (fun _ t _ => n - (intOf t).toNat)
  case atStart => exact ⟨0, [], by omega, rfl, Lib.hid (World.ownsRow_nil _ _ _ _), Lib.hid ⟨rfl, fun i h => by simp at h⟩, Below.refl _ _⟩
  case round =>
    obtain ⟨i, vs, hin, rfl, HO, HS, hbel⟩ := hrel
    by_cases hlt : i < n
    · have hii : (i : Int) < (n : Int) := by omega
      have hil : i < (rowsL G 0 k n).length := by rw [rowsL_len]; exact hlt
      obtain ⟨bm, om, A1, c1, rfl, hbs, hc, hlc, hcm1, hrd⟩ := HM.out.at_ i hil
      rw [show (rowsL G 0 k n)[i] = rowL G 0 k i by simp [rowsL]] at hrd hc hlc
      rw [rowL_len] at hc hlc
      have hle := hbel.size
      have HRW := Lib.hid (hrd.below hbel (Nat.le_refl _))
      have hcc := (hbel.cell (p := ⟨bm, om + i, none⟩) hbs).trans hc
      have HSN := Lib.hid (show (List.range (i + 1)).map (sumRow G p k l) = (List.range i).map (sumRow G p k l) ++ [sumRow G p k l i] by rw [List.range_succ, List.map_append]; rfl)
      have HX3 := Lib.hid (HX2.out.below hbel (Nat.le_refl _))
      clear hc hlc hrd hil
      obtain ⟨wo, rfl⟩ : ∃ y : World, y = wr := ⟨_, rfl⟩
      go_wp2_with fail
      have HG0 := Lib.hid (show Blk (wo.alloc (.cells (madeCells #[Value.int .u8 0] l) 5)) wo.heap.size (u8A (parR G p l i 0 0)) 5 by
        rw [parR_none, ← made_zeros]
        exact Blk.new _ _ _)
      have hq0 : Below wo.heap.size wo (wo.alloc (.cells (madeCells #[Value.int .u8 0] l) 5)) := (Below.refl _ _).alloc (Nat.le_refl _) _
      obtain ⟨g, hg⟩ : ∃ g, wo.heap.size = g := ⟨_, rfl⟩
      have HGE := Lib.hid hg
      generalize wo.alloc (.cells (madeCells #[Value.int .u8 0] l) 5) = w3 at *
      rw [hg] at HG0 hq0 hle ⊢
      have HWR := Lib.hid (show ∀ wq, Below g wo wq → Below wo.heap.size wo wq from fun wq h => by rw [HGE.out]; exact h)
      have HBO := Lib.hid hbel
      clear hg hbel
      go_loopw [13] (fun t wq => ∃ j : Nat, j ≤ k ∧ t = .int .i64 j ∧ Below g wo wq ∧ Hid (Blk wq g (u8A (parR G p l i j 0)) 5)) (fun t _ => k - (intOf t).toNat)
      case atStart => exact ⟨0, by omega, rfl, hq0, HG0⟩
      case round =>
        clear hq0 HG0
        obtain ⟨j, hj, rfl, hqj, HGJ⟩ := hrel
        by_cases hjk : j < k
        · have hji : (j : Int) < (k : Int) := by omega
          obtain ⟨wm, rfl⟩ : ∃ y : World, y = wr := ⟨_, rfl⟩
          have hjr : j < (rowL G 0 k i).length := by rw [rowL_len]; exact hjk
          obtain ⟨b2, o2, rfl, hb2, hcb⟩ := HRW.out.at_ j hjr
          rw [show (rowL G 0 k i)[j] = G i j by simp [rowL]] at hcb
          obtain ⟨gij, hgij⟩ : ∃ y, G i j = y := ⟨_, rfl⟩
          rw [hgij] at hcb
          have HGIJ := Lib.hid hgij
          obtain ⟨q, hq⟩ : ∃ q, j * l = q := ⟨_, rfl⟩
          have hqi : (j : Int) * (l : Int) = (q : Int) := by rw [← hq]; simp
          have HQ := Lib.hid hq
          have hql : q + l ≤ pl := by
            have := HMUL.out
            have h7 : (j + 1) * l ≤ k * l := Nat.mul_le_mul_right l hjk
            rw [Nat.add_mul, Nat.one_mul] at h7
            omega
          have HCM := Lib.hid (fun W (h : Below g wo W) => (⟨(h.cell (p := ⟨bm, om + i, none⟩) (Nat.lt_of_lt_of_le hbs hle)).trans hcc, (h.cell (p := ⟨b2, o2 + j, none⟩) (Nat.lt_of_lt_of_le hb2 hle)).trans hcb⟩ : W.cell? ⟨bm, om + i, none⟩ = some (.slice (some ⟨b2, o2, none⟩) k c1) ∧ W.cell? ⟨b2, o2 + j, none⟩ = some (.int .u8 (gij.toNat : Int))))
          clear hgij hq hcb
          go_wp2_with fail
          go_loopw [14] (fun t wq => ∃ x : Nat, x ≤ l ∧ t = .int .i64 x ∧ Below g wo wq ∧ Hid (Blk wq g (u8A (parR G p l i j x)) 5)) (fun t _ => l - (intOf t).toNat)
          case atStart => exact ⟨0, by omega, rfl, hqj, HGJ⟩
          case round =>
            clear hqj HGJ
            obtain ⟨x, hx, rfl, hqx, HGX⟩ := hrel
            by_cases hxl : x < l
            · have hxi : (x : Int) < (l : Int) := by omega
              have hpx : q + x < p.length := by rw [HPL.out]; omega
              obtain ⟨b3, o3, rfl, hb3, hc3⟩ := HX3.out.at_ (q + x) hpx
              have HPX := Lib.hid (show p[q + x] = p.getD (j * l + x) 0 by rw [HQ.out]; simp [List.getD_eq_getElem?_getD, hpx])
              obtain ⟨y, hy⟩ : ∃ y, q + x = y := ⟨_, rfl⟩
              have hyi : (q : Int) + (x : Int) = (y : Int) := by omega
              have hyp : (y : Int) < (pl : Int) := by omega
              have hc4 := (hqx.cell (p := ⟨b3, o3 + (q + x), none⟩) (Nat.lt_of_lt_of_le hb3 hle)).trans hc3
              rw [HPX.out] at hc4
              rw [hy] at hc4
              obtain ⟨hc1', hc2'⟩ := HCM.out wr hqx
              have hcs := HGX.out.byteAt (i := x) (by rw [parR_len]; exact hxl)
              rw [parR_at G p l i j hxl] at hcs
              have HMU := Lib.hid (fun W => (show Calls Try.prog 47 #[.int .u8 (gij.toNat : Int), .int .u8 ((p.getD (j * l + x) 0).toNat : Int)] W fun e w' => e = .returned (.int .u8 ((mulU gij (p.getD (j * l + x) 0)).toNat : Int)) ∧ w' = W from (rmul_any _ _ W).mono fun _ _ h => ⟨h.1, h.2.symm⟩))
              have HXR := Lib.hid (xor_byte8 (sumN j fun m => mulU (G i m) (p.getD (m * l + x) 0)) (mulU gij (p.getD (j * l + x) 0)))
              have HST := Lib.hid (show ∀ v : UInt8, v = (sumN j fun m => mulU (G i m) (p.getD (m * l + x) 0)) ^^^ mulU gij (p.getD (j * l + x) 0) → Blk (wr.drew.setCell ⟨g, x, none⟩ (.int .u8 (v.toNat : Int))) g (u8A (parR G p l i j (x + 1))) 5 from fun v hv => by
                have h8 := Blk.put (HGX.out.drewN 1) x (y := v) rfl
                rw [hv, ← HGIJ.out, parR_step] at h8
                rw [hv, ← HGIJ.out]
                exact h8)
              have hfz := HGX.out.frozen x
              generalize (sumN j fun m => mulU (G i m) (p.getD (m * l + x) 0)) = z1 at *
              generalize p.getD (j * l + x) 0 = z2 at *
              generalize mulU gij z2 = z3 at *
              clear hy hc3 hpx HPX
              have hw1 : IntKind.i64.wrap (q : Int) = (q : Int) := IntWalk.i64_in _ (by omega)
              have hw2 : IntKind.i64.wrap (y : Int) = (y : Int) := IntWalk.i64_in _ (by omega)
              go_wp2_with fail
              go_still_tail 22, (by kernel_rfl)
              still_call (HMU.out _)
              repeat still_step
              refine wpStill_nil ?_
              change wpList _ _ _ _ _ wr.drew
              have hfz2 : wr.drew.frozen? ⟨g, x, none⟩ = false := hfz
              have hcs2 : wr.drew.cell? ⟨g, x, none⟩ = some (.int .u8 (z1.toNat : Int)) := hcs
              have HQ2 := Lib.hid (fun v : Value => (hqx.drew.setCell (p := ⟨g, x, none⟩) (Nat.le_refl g) v))
              clear hw1 hw2 hc1' hc2' hc4 HMU hyi hqi HGX hqx hfz hcs
              generalize wr.drew = w5 at *
              go_wp2_with fail
              go_roundw
              case rel => exact ⟨x + 1, by omega, by go_num, HQ2.out _, Lib.hid (by rw [HXR.out]; exact HST.out _ rfl)⟩
              case measure => simp [intOf]; omega
            · obtain rfl : x = l := by omega
              have HGY := Lib.hid HGX.out
              rw [parR_next] at HGY
              have hnl : ¬ (x : Int) < (x : Int) := by omega
              clear HGX
              go_wp2_with fail
              go_roundw
              case rel => exact ⟨j + 1, by omega, by go_num, hqx, HGY⟩
              case measure => simp [intOf]; omega
        · obtain rfl : j = k := by omega
          have HGY := Lib.hid HGJ.out
          rw [parR_all] at HGY
          have hnk : ¬ (j : Int) < (j : Int) := by omega
          have hqs := hqj.size
          have hal : Below wr.heap.size wr (wr.alloc (.cells #[.slice (some ⟨g, 0, none⟩) l l] 22)) := (Below.refl _ _).alloc (Nat.le_refl _) _
          have hqo : Below wo.heap.size wo wr := HWR.out wr hqj
          have hgs : g ≤ wr.heap.size := by have := hqo.size; have := HGE.out; omega
          have HON := Lib.hid (own_keep HO.out hqo)
          have HRN := Lib.hid (own_of_blk (B := w2.heap.size) (HGY.out.below hal HGY.out.lt) hle (sumRow_len _ _ _ _ _) rfl (by unfold maxLen; omega))
          have HSG := Lib.hid (fun w5 (hg : (wr.alloc (.cells #[.slice (some ⟨g, 0, none⟩) l l] 22)).grownBy w5 _) => HS.out.grow (hqo.trans (hal.mono hqo.size)) (own_keep HON.out hal) hg HRN.out (sumRow_len G p j l i) (Nat.le_refl _) (by unfold maxLen; omega))
          clear HGY HGJ
          go_wp2_with (at_builtin; refine wpList_append_one rfl _ _ 29 rfl w2.heap.size 22 i1 Try.underlying29 hi' hz0' hz1' hz2'' _ i vs rfl wr (some ⟨g, 0, none⟩) l l rfl HON.out rfl (by omega) (by omega) ?_)
          intro v5 w5 hown5 hg5
          have HS5 := Lib.hid (HSG.out w5 hg5)
          rw [← HSN.out] at HS5
          have HO5 := Lib.hid hown5
          have hbel5 : Below w2.heap.size w2 w5 := ((HBO.out.trans (hqo.mono HBO.out.size)).trans (hal.mono (by omega))).grown hg5 (by simp; omega) (fun k hk => (HON.out.lt k hk).1)
          clear hown5 hg5 hal HSG HRN HON HO HS hqo hgs hqs HSN hcc
          go_wp2_with fail
          go_roundw
          case rel => exact ⟨i + 1, _, by omega, by go_num, HO5, HS5, hbel5⟩
          case measure => simp [intOf]; omega
    · obtain rfl : i = n := by omega
      obtain ⟨A', c', rfl, hkc, _⟩ := own_caps HO.out
      have HR := Lib.hid (RdR.of_own HO.out HS.out.vals (Nat.le_refl _))
      have hni : ¬ (i : Int) < (i : Int) := by omega
      have HBE := Lib.hid (HB2.out.trans (hbel.mono HB2.out.size))
      clear HO HS
      go_wp2_with fail
      go_ret
      exact ⟨A', c', rfl, hkc, HR.out, HBE.out⟩
end Go.Proofs.Ytdaofffkbnkljaa
namespace Go.Proofs.Ytdaofffkbnkljaa
open Go.RowKit

/-- What is answered of a decoding. -/
def DecEnd (W : World) (G : Mx) (k n : Nat) (bs : List (Int × List UInt8)) (e : Ending) (w' : World) : Prop :=
  ∃ v ok out, e = .returned (.tuple #[v, .bool ok]) ∧ DecR G k n bs ok out ∧ BV w' v out ∧ Below W.heap.size W w'
set_option maxRecDepth 100000 in
set_option maxHeartbeats 16000000 in
theorem rsdec_any (A : Option Addr) (z c k n : Nat) {G : Mx} (bs : List (Int × List UInt8)) (w : World) (hz : bs.length = z) (hdl : ∀ i, i < z → (daB bs i).length ≤ 1000) (hG : Gen k G) (h1 : 1 ≤ k) (h2 : k ≤ n) (h3 : n ≤ 16) (hr : RdBl w w.heap.size A bs) :
    Calls Try.prog 30 #[.slice A z c, .int .i64 (k : Int), .int .i64 (n : Int)] w (DecEnd w G k n bs) := by
  by_cases hzk : z = k
  · subst hzk
    obtain ⟨i0, hi, hz0, hz1, hz2⟩ := info_parts info5
    obtain ⟨i1, hi', hz0', hz1', hz2'⟩ := info_parts infoSlice
    have HMAT := Lib.hid (fun W => rsmat_any z n W hG h1 h2 h3)
    have HL := Lib.hid hz
    have HDL := Lib.hid hdl
    have hne : ((z : Int) != (z : Int)) = false := by simp
    obtain ⟨b, off, rfl⟩ := hr.some (by omega)
    obtain ⟨hbw, _, A0, ca0, hc0, _, _, _⟩ := hr.at_ (i := 0) (by omega)
    rw [Nat.zero_mul, Nat.add_zero] at hc0
    obtain ⟨L, hLL⟩ : ∃ L, (daB bs 0).length = L := ⟨_, rfl⟩
    rw [hLL] at hc0
    have HLL := Lib.hid hLL
    have hL1 : L ≤ 1000 := by have := hdl 0 (by omega); omega
    have hz0i : (0 : Int) < (z : Int) := by omega
    have hz0n : 0 < z := h1
    clear hz hdl hLL
    go_enter Try.func30, Try.ntmps30
    go_wp2_with fail
    with_reducible refine (HMAT.out w).mono ?_
    rintro e w2 ⟨M, cm, rfl, hcm, hrm, hb2⟩
    have HM := Lib.hid hrm
    have HB2 := Lib.hid hb2
    have HR2 := Lib.hid ((hr.below hb2 (Nat.le_refl _)).more hb2.size)
    have hcz := (hb2.cell (p := ⟨b, off + 1, none⟩) hbw).trans hc0
    have hbw2 : b < w2.heap.size := Nat.lt_of_lt_of_le hbw hb2.size
    obtain ⟨bm, om, hMM⟩ : ∃ bm om, M = some ⟨bm, om, none⟩ := by
      obtain ⟨bm, om, _, _, h, _⟩ := hrm.at_ 0 (by rw [rowsL_len]; omega)
      exact ⟨bm, om, h⟩
    subst hMM
    clear hrm hb2 hr hc0 HMAT hne
    go_wp2_with fail
    go_loopw [9, 28] (fun v t wr => ∃ (i : Nat) (vs : List Value), i ≤ z ∧ t = .int .i64 i ∧ Hid (wr.ownsRow w2.heap.size 22 1 v i vs) ∧ Hid (sliceVals w2 w2.heap.size vs ((List.range i).map fun a => rowL G 0 z (nuB bs a))) ∧ Hid (∀ a, a < i → 0 ≤ nuI bs a ∧ nuI bs a < n ∧ (daB bs a).length = L) ∧ Hid (∀ a d, a < i → d < a → nuI bs d ≠ nuI bs a) ∧ Below w2.heap.size w2 wr) (fun _ t _ => z - (intOf t).toNat)
    case atStart => exact ⟨0, [], by omega, rfl, Lib.hid (World.ownsRow_nil _ _ _ _), Lib.hid (sliceVals.nil _ _), Lib.hid (fun a h => by omega), Lib.hid (fun a d h => by omega), Below.refl _ _⟩
    case round =>
      obtain ⟨i, vs, hin, rfl, HO, HS, HC, HU, hbel⟩ := hrel
      by_cases hlt : i < z
      · have hii : (i : Int) < (z : Int) := by omega
        have hil : i < bs.length := by rw [HL.out]; exact hlt
        obtain ⟨_, hcn, Ai, ci, hcd, _, _, _⟩ := HR2.out.at_ hil
        have hcn2 := (hbel.cell (p := ⟨b, off + i * 2, none⟩) hbw2).trans hcn
        have hcd2 := (hbel.cell (p := ⟨b, off + i * 2 + 1, none⟩) hbw2).trans hcd
        have hcz2 := (hbel.cell (p := ⟨b, off + 1, none⟩) hbw2).trans hcz
        obtain ⟨nu, hnu⟩ : ∃ x, nuI bs i = x := ⟨_, rfl⟩
        obtain ⟨Li, hLi⟩ : ∃ x, (daB bs i).length = x := ⟨_, rfl⟩
        rw [hnu] at hcn2
        rw [hLi] at hcd2
        have HNU := Lib.hid hnu
        have HLI := Lib.hid hLi
        have HFAIL := Lib.hid (show ¬ (0 ≤ nu ∧ nu < (n : Int) ∧ Li = L) → DecR G z n bs false [] from fun h => .inl ⟨fun h8 => h (by
          have h9 := h8.2.1 i hlt
          rw [hnu, hLi, HLL.out] at h9
          exact h9), rfl, rfl⟩)
        have HBE := Lib.hid (HB2.out.trans (hbel.mono HB2.out.size))
        clear hcn hcd hnu hLi hil
        by_cases g1 : nu < 0
        · have HF := Lib.hid (HFAIL.out (by omega))
          have d1 : decide (nu < 0) = true := decide_eq_true g1
          clear HO HS HC HU hbel HFAIL g1
          go_wp2_with fail
          go_quiet (fail)
          go_wp2_with fail
          go_ret2
          exact ⟨_, false, [], rfl, HF.out, ⟨none, 0, rfl, Nat.le_refl _, .inl rfl⟩, below_drewN HBE.out _⟩
        · have d1 : decide (nu < 0) = false := decide_eq_false g1
          by_cases g2 : (n : Int) ≤ nu
          · have HF := Lib.hid (HFAIL.out (by omega))
            have d2 : decide ((n : Int) ≤ nu) = true := decide_eq_true g2
            clear HO HS HC HU hbel HFAIL g1 g2
            go_wp2_with fail
            go_quiet (fail)
            go_wp2_with fail
            go_ret2
            exact ⟨_, false, [], rfl, HF.out, ⟨none, 0, rfl, Nat.le_refl _, .inl rfl⟩, below_drewN HBE.out _⟩
          · have d2 : decide ((n : Int) ≤ nu) = false := decide_eq_false g2
            by_cases g3 : Li = L
            · have d3 : ((Li : Int) != (L : Int)) = false := by rw [g3]; simp
              obtain ⟨m, rfl⟩ : ∃ m : Nat, nu = (m : Int) := ⟨nu.toNat, by omega⟩
              have HC2 := Lib.hid (show ∀ a, a < i + 1 → 0 ≤ nuI bs a ∧ nuI bs a < n ∧ (daB bs a).length = L from fun a ha => by
                by_cases e : a = i
                · rw [e, HNU.out, HLI.out, g3]; exact ⟨by omega, by omega, rfl⟩
                · exact HC.out a (by omega))
              have hmn : m < n := by omega
              clear HC HFAIL g1 g2
              go_wp2_with fail
              go_quiet (fail)
              clear hcn2 hcd2 hcz2 d1 d2 d3
              have HO2 := Lib.hid (own_keep HO.out (below_drewN (Below.refl _ _) nq))
              have hbel2 := below_drewN hbel nq
              have HBE2 := Lib.hid (below_drewN HBE.out nq)
              clear HO hbel HBE
              obtain ⟨wo, hwo⟩ : ∃ y : World, y = wr.drewN nq := ⟨_, rfl⟩
              rw [← hwo] at HO2 hbel2 HBE2 ⊢
              clear hwo
              go_wp2_with fail
              go_loopw [11] (fun t wq => ∃ j q : Nat, j ≤ i ∧ t = .int .i64 j ∧ wq = wo.drewN q ∧ Hid (∀ d, d < j → nuI bs d ≠ (m : Int))) (fun t _ => i - (intOf t).toNat)
              case atStart => exact ⟨0, 0, by omega, rfl, rfl, Lib.hid (fun d hd => by omega)⟩
              case round =>
                obtain ⟨j, q, hji, rfl, rfl, HJ⟩ := hrel
                by_cases hjlt : j < i
                · have hjii : (j : Int) < (i : Int) := by omega
                  have hjz : (j : Int) < (z : Int) := by omega
                  obtain ⟨_, hcj, _⟩ := HR2.out.at_ (i := j) (by rw [HL.out]; omega)
                  obtain ⟨_, hci2, _⟩ := HR2.out.at_ (i := i) (by rw [HL.out]; omega)
                  have hcj2 := (hbel2.cell (p := ⟨b, off + j * 2, none⟩) hbw2).trans hcj
                  have hci3 := (hbel2.cell (p := ⟨b, off + i * 2, none⟩) hbw2).trans hci2
                  rw [HNU.out] at hci3
                  obtain ⟨e, he⟩ : ∃ e, nuI bs j = e := ⟨_, rfl⟩
                  rw [he] at hcj2
                  have HEE := Lib.hid he
                  clear hcj hci2 he
                  by_cases hem : e = (m : Int)
                  · have hbe : (e == (m : Int)) = true := by rw [hem]; exact beq_self_eq_true _
                    have HF := Lib.hid (show DecR G z n bs false [] from .inl ⟨fun h8 => h8.2.2 i j hlt hjlt (by rw [HEE.out, HNU.out]; exact hem), rfl, rfl⟩)
                    clear hem
                    go_wp2_with fail
                    go_quiet (fail)
                    go_wp2_with fail
                    go_ret2
                    exact ⟨_, false, [], rfl, HF.out, ⟨none, 0, rfl, Nat.le_refl _, .inl rfl⟩, below_drewN (below_drewN HBE2.out _) _⟩
                  · have hbe : (e == (m : Int)) = false := beq_eq_false_iff_ne.2 hem
                    have HJ2 := Lib.hid (show ∀ d, d < j + 1 → nuI bs d ≠ (m : Int) from fun d hd => by
                      by_cases e2 : d = j
                      · rw [e2, HEE.out]; exact hem
                      · exact HJ.out d (by omega))
                    clear hem HJ
                    go_wp2_with fail
                    go_quiet (fail)
                    go_wp2_with fail
                    go_roundw
                    case rel => exact ⟨j + 1, q + nq, by omega, by go_num, rfl, HJ2⟩
                    case measure => simp [intOf]; omega
                · obtain rfl : j = i := by omega
                  have hnj : ¬ (j : Int) < (j : Int) := by omega
                  have HU2 := Lib.hid (show ∀ a d, a < j + 1 → d < a → nuI bs d ≠ nuI bs a from fun a d ha hd => by
                    by_cases e : a = j
                    · rw [e, HNU.out]; exact HJ.out d (by omega)
                    · exact HU.out a d (by omega) hd)
                  obtain ⟨bm', om', Am, cam, hA, hbms, hcmm, hlcm, hcmx, hrdm⟩ := HM.out.at_ m (by rw [rowsL_len]; exact hmn)
                  obtain ⟨rfl, rfl⟩ : bm = bm' ∧ om = om' := by
                    injection hA with hA
                    injection hA with e1 e2
                    exact ⟨e1, e2⟩
                  rw [show (rowsL G 0 z n)[m]'(by rw [rowsL_len]; exact hmn) = rowL G 0 z m by simp [rowsL]] at hcmm hlcm hrdm
                  rw [rowL_len] at hcmm hlcm
                  have hcm2 := (hbel2.cell (p := ⟨bm, om + m, none⟩) hbms).trans hcmm
                  obtain ⟨_, hci2, _⟩ := HR2.out.at_ (i := j) (by rw [HL.out]; omega)
                  have hci3 := (hbel2.cell (p := ⟨b, off + j * 2, none⟩) hbw2).trans hci2
                  rw [HNU.out] at hci3
                  have hmi : (m : Int) < (n : Int) := by omega
                  have HSN := Lib.hid (show (List.range (j + 1)).map (fun a => rowL G 0 z (nuB bs a)) = (List.range j).map (fun a => rowL G 0 z (nuB bs a)) ++ [rowL G 0 z m] by
                    rw [List.range_succ, List.map_append, List.map_singleton]
                    congr 3
                    unfold nuB
                    rw [HNU.out, Int.toNat_natCast])
                  have HS2 := Lib.hid (HS.out.snoc (rowL_len G 0 z m) hlcm hcmx hrdm)
                  rw [← HSN.out] at HS2
                  have hbw3 := below_drewN hbel2 q
                  have hle : w2.heap.size ≤ wo.heap.size := hbw3.size
                  have HO3 := Lib.hid (own_keep HO2.out (below_drewN (Below.refl _ _) q))
                  clear hA hcmm hlcm hrdm hci2 HO2 HSN HS HU HJ
                  go_wp2_with (at_builtin; refine wpList_append_one rfl _ _ 29 rfl w2.heap.size 22 i1 Try.underlying29 hi' hz0' hz1' hz2' _ j vs rfl (wo.drewN q) Am z cam rfl HO3.out rfl (by omega) hle ?_)
                  intro v5 w5 hown5 hg5
                  have HO5 := Lib.hid hown5
                  have hbel5 : Below w2.heap.size w2 w5 := (hbw3.alloc hle _).grown hg5 (by simp; omega) (fun k hk => (HO3.out.lt k hk).1)
                  clear hown5 hg5 HO3 hbel2 hbw3 hle hcm2 hci3
                  go_wp2_with fail
                  go_roundw
                  case rel => exact ⟨j + 1, _, by omega, by go_num, HO5, HS2, HC2, HU2, hbel5⟩
                  case measure => simp [intOf]; omega
            · have d3 : ((Li : Int) != (L : Int)) = true := by simp only [bne_iff_ne, ne_eq]; omega
              have HF := Lib.hid (HFAIL.out (by omega))
              clear HO HS HC HU hbel HFAIL g1 g2 g3
              go_wp2_with fail
              go_quiet (fail)
              go_wp2_with fail
              go_ret2
              exact ⟨_, false, [], rfl, HF.out, ⟨none, 0, rfl, Nat.le_refl _, .inl rfl⟩, below_drewN HBE.out _⟩
      · obtain rfl : i = z := by omega
        obtain ⟨A', c', rfl, hkc, _⟩ := own_caps HO.out
        have HOK := Lib.hid (show decOK i n bs from ⟨HL.out, fun a ha => by
          obtain ⟨q1, q2, q3⟩ := HC.out a ha
          exact ⟨q1, q2, by rw [q3, HLL.out]⟩, fun a d ha hd => HU.out a d ha hd⟩)
        have hR : RdR wr wr.heap.size A' (rowsL (fun a j => G (nuB bs a) j) 0 i i) := RdR.of_own HO.out (HS.out.below hbel (Nat.le_refl _)) hbel.size
        have HINV := Lib.hid (rminv_any A' i c' (rowsL (fun a j => G (nuB bs a) j) 0 i i) wr (rowsL_len _ _ _ _) (rowsL_rows _ _ _ _) h1 (by omega) hR)
        have HFA := Lib.hid (show Faithful i (entM (rowsL (fun a j => G (nuB bs a) j) 0 i i)) by
          obtain ⟨r, hr⟩ := hG.pick (nuB bs) (fun a d ha hd e => HOK.out.unlike ha hd e) (fun a ha => by
            have h8 := HOK.out.2.1 a ha
            unfold nuB
            omega)
          exact (faithful_iff i _).2 ⟨r, hr.of_alike (rows_alike _ i i).symm (fun _ _ _ _ => rfl)⟩)
        have hni : ¬ (i : Int) < (i : Int) := by omega
        have HBE := Lib.hid (HB2.out.trans (hbel.mono HB2.out.size))
        have HRW := Lib.hid ((HR2.out.below hbel (Nat.le_refl _)).more hbel.size)
        have hcz2 := (hbel.cell (p := ⟨b, off + 1, none⟩) hbw2).trans hcz
        have hbw3 := Nat.lt_of_lt_of_le hbw2 hbel.size
        clear HO HS HC HU hR hbel HB2 HR2 HM hcz
        go_wp2_with fail
        with_reducible refine (HINV.out).mono ?_
        rintro e w4 ⟨⟨rs, hrl, hrr, hinv, Y, dy, rfl, hdy, hry⟩ | ⟨_, hnf⟩, hb4⟩
        · have HIV := Lib.hid (show IsInv i (fun a j => G (nuB bs a) j) (entM rs) from hinv.of_alike (rows_alike _ i i) (fun _ _ _ _ => rfl))
          have HRY := Lib.hid hry
          have HRL := Lib.hid hrl
          have HRR := Lib.hid hrr
          have HBE4 := Lib.hid (HBE.out.trans (hb4.mono HBE.out.size))
          have HR4 := Lib.hid ((HRW.out.below hb4 (Nat.le_refl _)).more hb4.size)
          have hcz4 := (hb4.cell (p := ⟨b, off + 1, none⟩) hbw3).trans hcz2
          have hbw4 := Nat.lt_of_lt_of_le hbw3 hb4.size
          obtain ⟨ro, hro⟩ : ∃ u : Nat → UInt8, u = fun q => sumN i fun a => mulU (entM rs (q / L) a) ((daB bs a).getD (q % L) 0) := ⟨_, rfl⟩
          have HD := Lib.hid (show DecR G i n bs true ((List.range (i * L)).map ro) from .inr ⟨HOK.out, rfl, entM rs, HIV.out, by rw [HLL.out, hro]; rfl⟩)
          have HRO := Lib.hid hro
          obtain ⟨by', oy, hYY⟩ : ∃ by' oy, Y = some ⟨by', oy, none⟩ := by
            obtain ⟨by', oy, _, _, h, _⟩ := hry.at_ 0 (by rw [hrl]; omega)
            exact ⟨by', oy, h⟩
          subst hYY
          have hiL : i * L ≤ 16 * 1000 := Nat.mul_le_mul (by omega) hL1
          clear hry hrl hrr hinv hb4 hro HINV HFA HRW HBE hcz2 hbw3 hni
          go_wp2_with fail
          go_loopw [14, 15] (fun v t wq => ∃ j : Nat, j ≤ i ∧ t = .int .i64 j ∧ Hid (wq.ownsRow w4.heap.size 5 1 v (j * L) (Lib.byteCells ((List.range (j * L)).map ro))) ∧ Below w4.heap.size w4 wq) (fun _ t _ => i - (intOf t).toNat)
          case atStart => exact ⟨0, by omega, rfl, Lib.hid (by rw [Nat.zero_mul]; exact World.ownsRow_nil _ _ _ _), Below.refl _ _⟩
          case round =>
            obtain ⟨j, hj, rfl, HO, hbel⟩ := hrel
            by_cases hjlt : j < i
            · have hji : (j : Int) < (i : Int) := by omega
              have hcz5 := (hbel.cell (p := ⟨b, off + 1, none⟩) hbw4).trans hcz4
              obtain ⟨by2, oy2, Aj, cj, hA, hbyy, hcyj, hlyj, _, hrdj⟩ := HRY.out.at_ j (by rw [HRL.out]; exact hjlt)
              obtain ⟨rfl, rfl⟩ : by' = by2 ∧ oy = oy2 := by
                injection hA with hA
                injection hA with e1 e2
                exact ⟨e1, e2⟩
              have hrjl : (rs[j]'(by rw [HRL.out]; exact hjlt)).length = i := HRR.out _ (List.getElem_mem _)
              rw [hrjl] at hcyj
              have hjL : j * L + L ≤ i * L := by
                have h7 : (j + 1) * L ≤ i * L := Nat.mul_le_mul_right L hjlt
                rwa [Nat.add_mul, Nat.one_mul] at h7
              clear hA hlyj
              go_wp2_with fail
              go_loopw [14, 105] (fun v t wq => ∃ x : Nat, x ≤ L ∧ t = .int .i64 x ∧ Hid (wq.ownsRow w4.heap.size 5 1 v (j * L + x) (Lib.byteCells ((List.range (j * L + x)).map ro))) ∧ Below w4.heap.size w4 wq) (fun _ t _ => L - (intOf t).toNat)
              case atStart => exact ⟨0, by omega, rfl, HO, hbel⟩
              case round =>
                clear HO hbel
                obtain ⟨x, hx, rfl, HO, hbel⟩ := hrel
                by_cases hxL : x < L
                · have hxi : (x : Int) < (L : Int) := by omega
                  obtain ⟨wo, rfl⟩ : ∃ y : World, y = wr := ⟨_, rfl⟩
                  have hcyj2 := (hbel.cell (p := ⟨by', oy + j, none⟩) hbyy).trans hcyj
                  have hjx : (j * L + x) < i * L := by omega
                  have HUX := Lib.hid (show ro (j * L + x) = sumN i fun a => mulU (entM rs j a) ((daB bs a).getD x 0) by
                    rw [HRO.out]
                    have e1 : (j * L + x) / L = j := by rw [Nat.add_comm, Nat.mul_comm, Nat.add_mul_div_left _ _ (by omega), Nat.div_eq_of_lt hxL, Nat.zero_add]
                    have e2 : (j * L + x) % L = x := by rw [Nat.add_comm, Nat.mul_comm, Nat.add_mul_mod_self_left, Nat.mod_eq_of_lt hxL]
                    simp only [e1, e2])
                  obtain ⟨su, hsu⟩ : ∃ su : Nat → UInt8, su = fun m => sumN m fun a => mulU (entM rs j a) ((daB bs a).getD x 0) := ⟨_, rfl⟩
                  have HSU := Lib.hid (show ∀ a, su a ^^^ mulU (entM rs j a) ((daB bs a).getD x 0) = su (a + 1) from fun a => by rw [hsu]; rfl)
                  have HS0 := Lib.hid (show su 0 = 0 by rw [hsu]; rfl)
                  have HSE := Lib.hid (show ro (j * L + x) = su i by rw [HUX.out, hsu])
                  clear hsu HUX
                  go_wp2_with fail
                  go_loopw [17, 110] (fun s t wq => ∃ a q : Nat, a ≤ i ∧ t = .int .i64 a ∧ s = .int .u8 ((su a).toNat : Int) ∧ wq = wo.drewN q) (fun _ t _ => i - (intOf t).toNat)
                  case atStart => exact ⟨0, 0, by omega, rfl, by rw [HS0.out]; rfl, rfl⟩
                  case round =>
                    obtain ⟨a, q, ha, rfl, rfl, rfl⟩ := hrel
                    by_cases hai : a < i
                    · have haii : (a : Int) < (i : Int) := by omega
                      obtain ⟨_, _, Aa, ca, hcda, _, _, hrda⟩ := HR4.out.at_ (i := a) (by rw [HOK.out.1]; exact hai)
                      have hla : (daB bs a).length = L := by rw [(HOK.out.2.1 a hai).2.2, HLL.out]
                      rw [hla] at hcda
                      have hcda2 := (hbel.cell (p := ⟨b, off + a * 2 + 1, none⟩) hbw4).trans hcda
                      obtain ⟨b5, o5, rfl, hb5, hc5⟩ := hrda.at_ x (by rw [hla]; exact hxL)
                      have hc6 := (hbel.cell (p := ⟨b5, o5 + x, none⟩) hb5).trans hc5
                      obtain ⟨b7, o7, rfl, hb7, hc7⟩ := hrdj.at_ a (by rw [hrjl]; exact hai)
                      have hc8 := (hbel.cell (p := ⟨b7, o7 + a, none⟩) hb7).trans hc7
                      have e1 : (daB bs a)[x]'(by rw [hla]; exact hxL) = (daB bs a).getD x 0 := by simp [List.getD_eq_getElem?_getD, show x < (daB bs a).length by rw [hla]; exact hxL]
                      have e2 : (rs[j]'(by rw [HRL.out]; exact hjlt))[a]'(by rw [hrjl]; exact hai) = entM rs j a := by
                        simp [entM, List.getD_eq_getElem?_getD, show j < rs.length by rw [HRL.out]; exact hjlt, show a < (rs[j]'(by rw [HRL.out]; exact hjlt)).length by rw [hrjl]; exact hai]
                      rw [e1] at hc6
                      rw [e2] at hc8
                      have HSA := Lib.hid (HSU.out a)
                      have HMU := Lib.hid (fun W => rmul_any (entM rs j a) ((daB bs a).getD x 0) W)
                      have HXR := Lib.hid (xor_byte8 (su a) (mulU (entM rs j a) ((daB bs a).getD x 0)))
                      generalize mulU (entM rs j a) ((daB bs a).getD x 0) = pr at *
                      generalize entM rs j a = f1 at *
                      generalize (daB bs a).getD x 0 = f2 at *
                      generalize su a = s1 at *
                      clear hcda hrda hla hc5 hc7 e1 e2
                      go_wp2_with fail
                      go_quiet ((go_at_call 47; (with_reducible refine (HMU.out _).mono ?_; exact fun e w'' h => ⟨h.1, _, h.2.symm⟩)))
                      go_wp2_with fail
                      go_roundw
                      case rel => exact ⟨a + 1, q + nq, by omega, by go_num, by rw [HXR.out, HSA.out], rfl⟩
                      case measure => simp [intOf]; omega
                    · obtain rfl : a = i := by omega
                      have hna : ¬ (a : Int) < (a : Int) := by omega
                      have hbq := below_drewN hbel q
                      have hle : w4.heap.size ≤ wo.heap.size := hbel.size
                      have HO2 := Lib.hid (own_keep HO.out (below_drewN (Below.refl _ _) q))
                      have HSN := Lib.hid (show (List.range (j * L + (x + 1))).map ro = (List.range (j * L + x)).map ro ++ [su a] by
                        rw [← Nat.add_assoc, List.range_succ, List.map_append, List.map_singleton, HSE.out])
                      generalize su a = s1 at *
                      clear HO hcyj2
                      go_wp2_with (at_builtin; refine wpList_append_rd rfl _ _ 22 rfl w4.heap.size 5 i0 Try.underlying22 hi hz0 hz1 hz2 _ _ _ rfl (HO2.out.alloc _) _ _ 1 1 [s1] rfl rfl (Rd.one _ 5 s1 _ rfl) (by omega) (by simp; omega) ?_)
                      intro v7 w7 hown7 hg7
                      have hb7 : Below w4.heap.size w4 w7 := (hbq.alloc hle _).grown hg7 (by simp; omega) (fun k hk => (HO2.out.lt k hk).1)
                      have HO7 := Lib.hid (show w7.ownsRow w4.heap.size 5 1 v7 (j * L + (x + 1)) (Lib.byteCells ((List.range (j * L + (x + 1))).map ro)) by rw [HSN.out, Lib.byteCells_append, ← Nat.add_assoc]; exact hown7)
                      clear hown7 hg7 HO2 hbq hle HSN hbel
                      go_wp2_with fail
                      go_roundw
                      case rel => exact ⟨x + 1, by omega, by go_num, HO7, hb7⟩
                      case measure => simp [intOf]; omega
                · obtain rfl : x = L := by omega
                  have HO2 := Lib.hid (show wr.ownsRow w4.heap.size 5 1 _ ((j + 1) * x) (Lib.byteCells ((List.range ((j + 1) * x)).map ro)) by rw [Nat.add_mul, Nat.one_mul]; exact HO.out)
                  have hnx : ¬ (x : Int) < (x : Int) := by omega
                  clear HO
                  go_wp2_with fail
                  go_roundw
                  case rel => exact ⟨j + 1, by omega, by go_num, HO2, hbel⟩
                  case measure => simp [intOf]; omega
            · obtain rfl : j = i := by omega
              obtain ⟨A', c', rfl, hkc, _⟩ := own_caps HO.out
              have HV := Lib.hid (show BV wr (.slice A' (j * L) c') ((List.range (j * L)).map ro) from ⟨A', c', by rw [List.length_map, List.length_range], by rw [List.length_map, List.length_range]; exact hkc, Rd.of_own HO.out⟩)
              have HBB := Lib.hid (HBE4.out.trans (hbel.mono HBE4.out.size))
              have hnj : ¬ (j : Int) < (j : Int) := by omega
              clear HO hbel
              go_wp2_with fail
              go_ret2
              exact ⟨_, true, _, rfl, HD.out, HV.out, HBB.out⟩
        · exact absurd HFA.out hnf
  · have HD := Lib.hid (show DecR G k n bs false [] from .inl ⟨fun h => hzk (by rw [← hz]; exact h.1), rfl, rfl⟩)
    have hne : ((z : Int) != (k : Int)) = true := by simp only [bne_iff_ne, ne_eq]; omega
    clear hzk hz hdl hr
    go_enter Try.func30, Try.ntmps30
    go_wp2_with fail
    go_ret2
    exact ⟨_, false, [], rfl, HD.out, ⟨none, 0, rfl, Nat.le_refl _, .inl rfl⟩, Below.refl _ _⟩
end Go.Proofs.Ytdaofffkbnkljaa
namespace Go.Proofs.Ytdaofffkbnkljaa
open Go.RowKit

/-- The value is rows of one's own (from block B on), each of bytes of its own, the spare ones too. -/
def MO (w : World) (B : Nat) (v : Value) (ls : List (List UInt8)) : Prop :=
  ∃ vs, w.ownsRow B 22 1 v ls.length vs ∧ vs.length = ls.length ∧ ∀ i (h : i < ls.length), ∃ A c, vs[i]? = some (.slice A ls[i].length c) ∧ c ≤ maxLen ∧ ls[i].length ≤ c ∧ OwnB w B 5 (.slice A ls[i].length c) ls[i].length ls[i]
theorem MO.mv {w : World} {B : Nat} {v : Value} {ls : List (List UInt8)} (h : MO w B v ls) : MV w v ls := by
  obtain ⟨vs, h1, h2, h3⟩ := h
  obtain ⟨A, c, rfl, hc, _⟩ := own_caps h1
  refine ⟨A, c, rfl, hc, RdR.of_own h1 (B := w.heap.size) ⟨h2, fun i hi => ?_⟩ (Nat.le_refl _)⟩
  obtain ⟨A', c', q1, q2, q3, q4⟩ := h3 i hi
  exact ⟨A', c', q1, q3, q2, q4.rd⟩
/-- What a decoding and its error may be. -/
def DecP (G : Mx) (k n : Nat) (bs : List (Int × List UInt8)) (er : Int) (out : List UInt8) : Prop :=
  (¬ decOK k n bs ∧ er = 1 ∧ out = []) ∨ (decOK k n bs ∧ er = 0 ∧ ∃ r, IsInv k (fun i j => G (nuB bs i) j) r ∧ out = decL r (daB bs) k (daB bs 0).length)
def PDecEnd (W : World) (G : Mx) (k n : Nat) (bs : List (Int × List UInt8)) (e : Ending) (w' : World) : Prop :=
  ∃ v er out, e = .returned (.tuple #[v, .int .i64 er]) ∧ DecP G k n bs er out ∧ BV w' v out ∧ Below W.heap.size W w'
theorem mrsmat {k n : Nat} {G : Mx} (w : World) (hG : Gen k G) (h1 : 1 ≤ k) (h2 : k ≤ n) (h3 : n ≤ 16) :
    Calls Try.prog 22 #[.int .i64 (k : Int), .int .i64 (n : Int)] w fun e w' => ∃ x, e = .returned x ∧ MV w' x (rowsL G 0 k n) ∧ Below w.heap.size w w' :=
  (rsmat_any k n w hG h1 h2 h3).mono fun _ _ ⟨_, _, he, hc, hR, hb⟩ => ⟨_, he, MV.mk (rowsL_len _ _ _ _) hc hR, hb⟩
theorem mrsenc {k n : Nat} {G : Mx} {w : World} {y : Value} {b : List UInt8} (hG : Gen k G) (h1 : 1 ≤ k) (h2 : k ≤ n) (h3 : n ≤ 16) (hy : BV w y b) (hb : b.length ≤ 1000) :
    Calls Try.prog 24 #[y, .int .i64 (k : Int), .int .i64 (n : Int)] w fun e w' => ∃ x, e = .returned x ∧ MV w' x (encL G b k n) ∧ Below w.heap.size w w' := by
  obtain ⟨X, c, rfl, _, hX⟩ := hy
  exact (rsenc_any X _ c k n b w rfl hb hG h1 h2 h3 hX).mono fun _ _ ⟨_, _, he, hc, hR, hb⟩ => ⟨_, he, MV.mk (encL_len _ _ _ _) hc hR, hb⟩
theorem mrspad {w : World} {y : Value} {b : List UInt8} (k : Int) (hy : BV w y b) (hb : b.length ≤ 1000) (hk : k ≤ 1000) :
    Calls Try.prog 29 #[y, .int .i64 k] w fun e w' => ∃ x, e = .returned x ∧ BV w' x (shL b (max k 1).toNat) ∧ Below w.heap.size w w' := by
  obtain ⟨X, c, rfl, _, hX⟩ := hy
  by_cases h : k < 1
  · rw [show (max k 1).toNat = 1 by omega, shL_one]
    exact (rspad_low X _ c k b w rfl (by omega) h hX).mono fun _ _ ⟨_, _, he, hc, hR, hb⟩ => ⟨_, he, ⟨_, _, rfl, hc, hR⟩, hb⟩
  · obtain ⟨m, rfl⟩ : ∃ m : Nat, k = (m : Int) := ⟨k.toNat, by omega⟩
    rw [show (max (m : Int) 1).toNat = m by omega]
    exact (rspad_any X _ c m b w rfl (by omega) (by omega) (by omega) hX).mono fun _ _ ⟨_, _, he, hc, hR, hb⟩ => ⟨_, he, ⟨_, _, rfl, hc, hR⟩, hb⟩
theorem mrsdec {k n : Nat} {G : Mx} {w : World} {y : Value} {bs : List (Int × List UInt8)} (hG : Gen k G) (h1 : 1 ≤ k) (h2 : k ≤ n) (h3 : n ≤ 16) (hy : BlV w y bs) (hb : ∀ i, i < bs.length → (daB bs i).length ≤ 1000) :
    Calls Try.prog 30 #[y, .int .i64 (k : Int), .int .i64 (n : Int)] w (DecEnd w G k n bs) := by
  obtain ⟨X, c, rfl, _, hX⟩ := hy
  exact rsdec_any X _ c k n bs w rfl hb hG h1 h2 h3 hX
end Go.Proofs.Ytdaofffkbnkljaa
