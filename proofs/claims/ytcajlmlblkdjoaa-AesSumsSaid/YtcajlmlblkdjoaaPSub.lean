/- The program's list of the powers of 3 in AES's field. The program's table of the substitution is the document's. -/
import Derived.Test.YtcajlmlblkdjoaaPSteps
import Derived.Test.YtcajlmlblkdjoaaAesT
namespace Go.Proofs.Ytcajlmlblkdjoaa
open Go.RowKit

theorem pzero255 (w : World) : (zeroValue 58).run Try.prog w = .ok (.agg (u8A (List.replicate 255 0))) w := by kernel_rfl
set_option maxRecDepth 100000 in
set_option maxHeartbeats 4000000 in
theorem powers_any (w : World) :
    Calls Try.prog 31 #[] w fun e w' => e = .returned (.agg (u8A (powT 255))) ∧ Below w.heap.size w w' := by
  have hz := fun W => pzero255 W
  obtain ⟨Z, hZ⟩ : ∃ Z, u8A (List.replicate 255 0) = Z := ⟨_, rfl⟩
  rw [hZ] at hz
  have hzz : Z.size = 255 := by rw [← hZ, u8A_size]; exact List.length_replicate ..
  have HZ := Lib.hid hZ
  have HZZ := Lib.hid hzz
  clear hZ hzz
  go_enter Try.func31, Try.ntmps31
  go_wp2_with fail
  obtain ⟨g1, g2, hbel⟩ := alloc2 w Z Z 58 58
  generalize World.alloc (World.alloc w _) _ = w1 at *
  obtain ⟨rb, hrb⟩ : ∃ z, w.heap.size = z := ⟨_, rfl⟩
  rw [hrb] at g1 g2 hbel ⊢
  obtain ⟨tb, htb⟩ : ∃ z, rb + 1 = z := ⟨_, rfl⟩
  rw [htb] at g2 ⊢
  have hrt : rb < tb := by omega
  have HW := Lib.hid hrb
  have G1 := Lib.hid (show Blk w1 tb (u8A (padB 255 (powT 0))) 58 by rw [← HZ.out] at g2; exact g2)
  have G2 := Lib.hid (show ∃ rs, Blk w1 rb rs 58 ∧ rs.size = 255 from ⟨_, g1, HZZ.out⟩)
  clear g1 g2 hrb htb hz
  go_loopw [2, 4] (fun x t wr => ∃ n : Nat, n ≤ 255 ∧ t = .int .i64 n ∧ x = .int .u8 ((powU n).toNat : Int) ∧ Below rb w wr ∧ Hid (Blk wr tb (u8A (padB 255 (powT n))) 58) ∧ Hid (∃ rs, Blk wr rb rs 58 ∧ rs.size = 255)) (fun _ t _ => 255 - (intOf t).toNat)
  case atStart => exact ⟨0, by omega, rfl, rfl, hbel, G1, G2⟩
  case round =>
    clear hbel G1 G2
    obtain ⟨n, hn, rfl, rfl, hbel, G1, G2⟩ := hrel
    by_cases hlt : n < 255
    · have hni : (n : Int) < 255 := by omega
      have HP := Lib.hid (powT_succ n)
      have HPL := Lib.hid (powT_len n)
      have HPU := Lib.hid (show powU (n + 1) = powU n ^^^ twU (powU n) from rfl)
      have hf := G1.out.frozen n
      obtain ⟨o, ho⟩ : ∃ old, wr.cell? ⟨tb, n, none⟩ = some old := ⟨_, G1.out.byteAt (i := n) (by rw [padB_len (by rw [powT_len]; omega)]; omega)⟩
      generalize powU n = x at *
      go_wp2_with fail
      refine (double_any x _).mono ?_
      rintro e w2 ⟨rfl, rfl⟩
      have hst : Below rb w (wr.setCell ⟨tb, n, none⟩ (.int .u8 (x.toNat : Int))) ∧ Blk (wr.setCell ⟨tb, n, none⟩ (.int .u8 (x.toNat : Int))) tb (u8A (padB 255 (powT (n + 1)))) 58 ∧ ∃ rs, Blk (wr.setCell ⟨tb, n, none⟩ (.int .u8 (x.toNat : Int))) rb rs 58 ∧ rs.size = 255 := by
        refine ⟨hbel.setCell (by simp; omega) _, ?_, ?_⟩
        · rw [HP.out]
          exact G1.out.byte HPL.out (by omega) rfl
        · obtain ⟨rs, h, hz⟩ := G2.out
          exact ⟨rs, h.other (by simp; omega) _, hz⟩
      generalize wr.setCell ⟨tb, n, none⟩ (.int .u8 (x.toNat : Int)) = w3 at hst ⊢
      obtain ⟨hbel3, g1, g2⟩ := hst
      have K1 := Lib.hid g1
      have K2 := Lib.hid g2
      clear g1 g2 G1 G2 hbel hf ho
      go_wp2_with fail
      go_roundw
      case rel => exact ⟨n + 1, by omega, by go_num, by rw [HPU.out, xor_byte8], hbel3, K1, K2⟩
      case measure => simp [intOf]; omega
    · obtain rfl : n = 255 := by omega
      have hge : ¬ ((255 : Nat) : Int) < 255 := by omega
      have hfull : Blk wr tb (u8A (powT 255)) 58 := by
        have := G1.out
        rwa [padB_full (powT_len 255)] at this
      obtain ⟨rs, hrs, hrz⟩ := G2.out
      have hfz : (u8A (powT 255)).size = 255 := by rw [u8A_size, powT_len]
      have hone := u8A_one (powT 255)
      obtain ⟨fin, hfe⟩ : ∃ z, u8A (powT 255) = z := ⟨_, rfl⟩
      rw [hfe] at hfull hfz hone
      have HFE := Lib.hid hfe
      have HFZ := Lib.hid hfz
      have HONE := Lib.hid hone
      have HRZ := Lib.hid hrz
      clear hfe hfz hone hrz G1 G2
      go_wp2_with (first
        | (with_reducible refine wpList_load_blk rfl 58 (.tmp 1) rfl tb rfl 58 fin _ hfull Try.underlying58 rfl (by rw [HFZ.out]; kernel_rfl) ?_)
        | (with_reducible refine wpList_store_blk rfl 58 (.tmp 0) (.tmp 15) rfl rb fin rfl rfl 58 rs hrs (by rw [HFZ.out]; kernel_rfl) (by rw [HFZ.out, HRZ.out]) HONE.out ?_))
      refine bodyPost_ret (v := .agg fin) (results_cell_row (p := 0) (ty := 58) (by kernel_rfl) _ _ rb 58 _ (0, 0) _ rfl (hrs.row fin) Try.underlying58 rfl (by rw [HFZ.out]; kernel_rfl)) rfl ⟨by rw [HFE.out], ?_⟩
      rw [HW.out]
      exact below_row hbel (by have := hfull.lt; omega) (by omega) _
end Go.Proofs.Ytcajlmlblkdjoaa
namespace Go.Proofs.Ytcajlmlblkdjoaa
open Go.RowKit

/-- The table behind n powers. -/
def subT : Nat → List UInt8
  | 0 => (List.replicate 256 0).set 0 (affU 0 5)
  | n + 1 => (subT n).set (powU n).toNat (affU ((powT 255).getD ((255 - n) % 255) 0) 5)
theorem subT_len (n : Nat) : (subT n).length = 256 := by
  induction n with
  | zero => exact (List.length_set ..).trans (List.length_replicate ..)
  | succ n ih => exact (List.length_set ..).trans ih
def subGo : Nat → Nat → List UInt8 → List UInt8
  | 0, _, t => t
  | f + 1, n, t => subGo f (n + 1) (t.set (powV.getD n 0).toNat (affU (powV.getD ((255 - n) % 255) 0) 5))
theorem powU_at {n : Nat} (h : n < 255) : powU n = powV.getD n 0 := by
  rw [← powT_eq]
  exact (map_getD powU 255 n h).symm
theorem subGo_eq (f : Nat) : ∀ n, n + f = 255 → subGo f n (subT n) = subT 255 := by
  induction f with
  | zero => intro n hn; obtain rfl : n = 255 := by omega
            rfl
  | succ f ih =>
    intro n hn
    rw [subGo, ← powU_at (by omega), ← powT_eq]
    exact ih (n + 1) (by omega)
set_option maxRecDepth 100000 in
theorem subV_eq : subGo 255 0 ((List.replicate 256 0).set 0 (affU 0 5)) = boxV := by kernel_rfl
theorem subT_all : subT 255 = boxL := by
  rw [boxL_eq, ← subV_eq]
  exact (subGo_eq 255 0 rfl).symm
theorem pzero256 (w : World) : (zeroValue 43).run Try.prog w = .ok (.agg (u8A (List.replicate 256 0))) w := by kernel_rfl

set_option maxRecDepth 100000 in
set_option maxHeartbeats 4000000 in
theorem subTable_any (w : World) :
    Calls Try.prog 23 #[] w fun e w' => e = .returned (.agg (u8A boxL)) ∧ Below w.heap.size w w' := by
  have hz := fun W => pzero256 W
  obtain ⟨Z, hZ⟩ : ∃ Z, u8A (List.replicate 256 0) = Z := ⟨_, rfl⟩
  rw [hZ] at hz
  have hzz : Z.size = 256 := by rw [← hZ, u8A_size]; exact List.length_replicate ..
  have hzp := fun W => pzero255 W
  obtain ⟨Y, hY⟩ : ∃ Z, u8A (List.replicate 255 0) = Z := ⟨_, rfl⟩
  rw [hY] at hzp
  have hyz : Y.size = 255 := by rw [← hY, u8A_size]; exact List.length_replicate ..
  have HPW := Lib.hid (fun W => powers_any W)
  have hpz : (u8A (powT 255)).size = 255 := by rw [u8A_size, powT_len]
  have hpo := u8A_one (powT 255)
  have hpi : ∀ i, i < 255 → (u8A (powT 255))[i]? = some (.int .u8 ((powU i).toNat : Int)) := fun i hi => by
    rw [u8A_at (by rw [powT_len]; exact hi)]
    rw [show (powT 255).getD i 0 = powU i from map_getD powU 255 i hi]
  obtain ⟨pA, hpe⟩ : ∃ K, u8A (powT 255) = K := ⟨_, rfl⟩
  rw [hpe] at hpz hpo hpi HPW
  have HPE := Lib.hid hpe
  have HPZ := Lib.hid hpz
  have HPO := Lib.hid hpo
  have HPI := Lib.hid hpi
  have HZ := Lib.hid hZ
  have HZZ := Lib.hid hzz
  have HYZ := Lib.hid hyz
  clear hZ hzz hY hyz hpe hpz hpo hpi
  go_enter Try.func23, Try.ntmps23
  go_wp2_with fail
  refine (HPW.out _).mono ?_
  rintro e w1 ⟨rfl, hb1⟩
  have hb2 : Below w.heap.size w w1 := ((Below.refl _ _).alloc (Nat.le_refl _) _).trans (hb1.mono (by simp))
  have hr1 : Blk w1 w.heap.size Z 43 := (Blk.new w Z 43).below hb1 (by simp)
  clear hb1
  obtain ⟨z0, hz0⟩ : ∃ z : UInt8, (0 : UInt8) = z := ⟨_, rfl⟩
  have HX0 := Lib.hid (fun W => (show Calls Try.prog 32 #[.int .u8 0] W fun e w' => e = .returned (.int .u8 ((affU z0 5).toNat : Int)) ∧ W = w' by
    have := mixBits_any 0 W
    rw [hz0] at this
    subst hz0
    exact this))
  have HS0 := Lib.hid (show subT 0 = (List.replicate 256 0).set 0 (affU z0 5) by rw [← hz0]; rfl)
  clear hz0
  go_wp2_with (first
    | (with_reducible refine wpList_store_blkTo rfl 58 (.tmp 1) (.tmp 5) rfl rfl w1.heap.size pA rfl rfl 58 Y (Blk.new w1 _ _) (by rw [HPZ.out]; kernel_rfl) (by rw [HYZ.out, HPZ.out]) HPO.out ?_
       generalize hw2 : World.setRow _ _ _ = w2))
  refine (HX0.out _).mono ?_
  rintro e w' ⟨rfl, rfl⟩
  have hrr := hr1.lt
  have hst : Below w.heap.size w (w2.alloc (.cells Z 43)) ∧ Blk (w2.alloc (.cells Z 43)) w.heap.size Z 43 ∧ Blk (w2.alloc (.cells Z 43)) w1.heap.size pA 58 ∧ Blk (w2.alloc (.cells Z 43)) w2.heap.size Z 43 ∧ w1.heap.size < w2.heap.size := by
    obtain ⟨s1, s2⟩ := store_new (W := w) hw2 hb2
    refine ⟨s2.alloc s2.size _, ?_, s1.alloc _, Blk.new w2 _ _, ?_⟩
    · rw [← hw2]
      exact ((hr1.alloc _).rowOther (by omega) _).alloc _
    · exact s1.lt
  clear hw2 hr1 hb2 HX0
  generalize w2.alloc (.cells Z 43) = w3 at *
  obtain ⟨hbel, g1, g2, g3, hpt⟩ := hst
  obtain ⟨rb, hrb⟩ : ∃ z, w.heap.size = z := ⟨_, rfl⟩
  obtain ⟨pb, hpb⟩ : ∃ z, w1.heap.size = z := ⟨_, rfl⟩
  obtain ⟨tb, htb⟩ : ∃ z, w2.heap.size = z := ⟨_, rfl⟩
  rw [hrb, hpb] at hrr
  rw [hrb] at hbel g1
  rw [hpb] at g2 hpt
  rw [htb] at g3 hpt
  rw [hrb, hpb, htb]
  have HW := Lib.hid hrb
  have hg3 : Blk w3 tb (u8A (List.replicate 256 0)) 43 := by rw [HZ.out]; exact g3
  obtain ⟨o, ho⟩ : ∃ old, w3.cell? ⟨tb, 0, none⟩ = some old := ⟨_, hg3.byteAt (i := 0) (by rw [List.length_replicate]; decide)⟩
  have hf := hg3.frozen 0
  have G1 := Lib.hid (show ∃ rs, Blk w3 rb rs 43 ∧ rs.size = 256 from ⟨_, g1, HZZ.out⟩)
  have G2 := Lib.hid g2
  have G3 := Lib.hid hg3
  clear g1 g2 g3 hg3 hrb hpb htb hz hzp
  go_wp2_with (with_reducible refine wpList_load_blk rfl 58 (.tmp 1) rfl pb rfl 58 pA _ (G2.out.other (by simp; omega) _) Try.underlying58 rfl (by rw [HPZ.out]; kernel_rfl) ?_)
  have hst : Below rb w (w3.setCell ⟨tb, 0, none⟩ (.int .u8 ((affU z0 5).toNat : Int))) ∧ Blk (w3.setCell ⟨tb, 0, none⟩ (.int .u8 ((affU z0 5).toNat : Int))) tb (u8A (subT 0)) 43 ∧ Blk (w3.setCell ⟨tb, 0, none⟩ (.int .u8 ((affU z0 5).toNat : Int))) pb pA 58 ∧ ∃ rs, Blk (w3.setCell ⟨tb, 0, none⟩ (.int .u8 ((affU z0 5).toNat : Int))) rb rs 43 ∧ rs.size = 256 := by
    refine ⟨hbel.setCell (by simp; omega) _, ?_, G2.out.other (by simp; omega) _, ?_⟩
    · rw [HS0.out]
      exact G3.out.put 0 rfl
    · obtain ⟨rs, h, hz⟩ := G1.out
      exact ⟨rs, h.other (by simp; omega) _, hz⟩
  generalize w3.setCell ⟨tb, 0, none⟩ (.int .u8 ((affU z0 5).toNat : Int)) = w4 at hst ⊢
  obtain ⟨hbel4, g1, g2, g3⟩ := hst
  have K1 := Lib.hid g1
  have K2 := Lib.hid g2
  have K3 := Lib.hid g3
  clear g1 g2 g3 G1 G2 G3 hbel ho hf HS0
  go_loopw [9] (fun t wr => ∃ i : Nat, i ≤ 255 ∧ t = .int .i64 i ∧ Below rb w wr ∧ Hid (Blk wr tb (u8A (subT i)) 43) ∧ Hid (Blk wr pb pA 58) ∧ Hid (∃ rs, Blk wr rb rs 43 ∧ rs.size = 256)) (fun t _ => 255 - (intOf t).toNat)
  case atStart => exact ⟨0, by omega, rfl, hbel4, K1, K2, K3⟩
  case round =>
    clear hbel4 K1 K2 K3
    obtain ⟨i, hi, rfl, hbel, G1, G2, G3⟩ := hrel
    by_cases hlt : i < 255
    · have hii : (i : Int) < 255 := by omega
      have hie := fun W => run_index_byte Try.underlying58 W pA i hlt (HPI.out i hlt)
      have hy := (powU i).toNat_lt
      have hyi : ((powU i).toNat : Int) < 256 := by omega
      obtain ⟨j, hj⟩ : ∃ j, (255 - i) % 255 = j := ⟨_, rfl⟩
      have hjl : j < 255 := by omega
      have j0 : (0 : Int) ≤ (255 - (i : Int)) % 255 := by omega
      have j1 : (255 - (i : Int)) % 255 < 255 := by omega
      have j2 : (-(i : Int) % 255).toNat = j := by omega
      have j3 : ((255 - (i : Int)) % 255).toNat = j := by omega
      have cp := (G2.out.cell j).trans (HPI.out j hjl)
      have hf := G1.out.frozen (powU i).toNat
      obtain ⟨o, ho⟩ : ∃ old, wr.cell? ⟨tb, (powU i).toNat, none⟩ = some old := ⟨_, G1.out.byteAt (i := (powU i).toNat) (by rw [subT_len]; exact hy)⟩
      have HST := Lib.hid (show subT (i + 1) = (subT i).set (powU i).toNat (affU (powU j) 5) by
        rw [← hj, ← show (powT 255).getD ((255 - i) % 255) 0 = powU ((255 - i) % 255) from map_getD powU 255 _ (by omega)]
        rfl)
      generalize powU i = x at *
      generalize powU j = y at *
      clear hj
      go_wp2_with fail
      refine (mixBits_any y _).mono ?_
      rintro e w' ⟨rfl, rfl⟩
      go_wp2_with fail
      go_roundw
      case rel =>
        refine ⟨i + 1, by omega, by go_num, hbel.setCell (by simp; omega) _, Lib.hid ?_, Lib.hid (G2.out.other (by simp; omega) _), Lib.hid ?_⟩
        · rw [HST.out]
          exact G1.out.put _ rfl
        · obtain ⟨rs, h, hz⟩ := G3.out
          exact ⟨rs, h.other (by simp; omega) _, hz⟩
      case measure => simp [intOf]; omega
    · obtain rfl : i = 255 := by omega
      have hge : ¬ ((255 : Nat) : Int) < 255 := by omega
      have hfull : Blk wr tb (u8A boxL) 43 := by
        have := G1.out
        rwa [subT_all] at this
      obtain ⟨rs, hrs, hrz⟩ := G3.out
      have hfz : (u8A boxL).size = 256 := by rw [u8A_size, boxL_len]
      have hone := u8A_one boxL
      obtain ⟨fin, hfe⟩ : ∃ z, u8A boxL = z := ⟨_, rfl⟩
      rw [hfe] at hfull hfz hone
      have HFE := Lib.hid hfe
      have HFZ := Lib.hid hfz
      have HONE := Lib.hid hone
      have HRZ := Lib.hid hrz
      clear hfe hfz hone hrz G1 G2 G3
      go_wp2_with (first
        | (with_reducible refine wpList_load_blk rfl 43 (.tmp 2) rfl tb rfl 43 fin _ hfull Try.underlying43 rfl (by rw [HFZ.out]; kernel_rfl) ?_)
        | (with_reducible refine wpList_store_blk rfl 43 (.tmp 0) (.tmp 22) rfl rb fin rfl rfl 43 rs hrs (by rw [HFZ.out]; kernel_rfl) (by rw [HFZ.out, HRZ.out]) HONE.out ?_))
      refine bodyPost_ret (v := .agg fin) (results_cell_row (p := 0) (ty := 43) (by kernel_rfl) _ _ rb 43 _ (0, 0) _ rfl (hrs.row fin) Try.underlying43 rfl (by rw [HFZ.out]; kernel_rfl)) rfl ⟨by rw [HFE.out], ?_⟩
      rw [HW.out]
      exact below_row hbel (by have := hfull.lt; omega) (by omega) _
end Go.Proofs.Ytcajlmlblkdjoaa
