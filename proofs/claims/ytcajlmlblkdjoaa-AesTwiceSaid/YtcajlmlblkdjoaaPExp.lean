/- The program's changed word of a round key. The program's round keys are the document's. -/
import Derived.Test.YtcajlmlblkdjoaaPSteps
import Derived.Test.YtcajlmlblkdjoaaAesB
namespace Go.Proofs.Ytcajlmlblkdjoaa
open Go.RowKit

theorem pzero4 (w : World) : (zeroValue 61).run Try.prog w = .ok (.agg (u8A (List.replicate 4 0))) w := by kernel_rfl
def wordL (p : List UInt8) : List UInt8 := (List.range 4).map fun n => sU (p.getD (12 + (n + 1) % 4) 0)
theorem wordL_len (p : List UInt8) : (wordL p).length = 4 := by simp [wordL]
theorem wordL_at (p : List UInt8) {n : Nat} (h : n < 4) : (wordL p).getD n 0 = sU (p.getD (12 + (n + 1) % 4) 0) := map_getD _ 4 n h
theorem wordL_kT0 (p : List UInt8) (c : UInt8) : (wordL p).set 0 ((wordL p).getD 0 0 ^^^ c) = kT0 p c := rfl

set_option maxRecDepth 100000 in
set_option maxHeartbeats 4000000 in
theorem changed_any (p : List UInt8) (sb : Nat) (c : UInt8) (w : World) (hx : p.length = 16) (hs : Blk w sb (u8A boxL) 43) :
    Calls Try.prog 33 #[.agg (u8A p), .pointer (some ⟨sb, 0, none⟩), .int .u8 (c.toNat : Int)] w fun e w' => e = .returned (.agg (u8A (kT0 p c))) ∧ Below w.heap.size w w' := by
  have hz := fun W => pzero4 W
  obtain ⟨Z, hZ⟩ : ∃ Z, u8A (List.replicate 4 0) = Z := ⟨_, rfl⟩
  rw [hZ] at hz
  have hzz : Z.size = 4 := by rw [← hZ, u8A_size]; exact List.length_replicate ..
  have hsw := hs.lt
  have HS := Lib.hid hs
  have HX := Lib.hid hx
  obtain ⟨xA, hxe⟩ : ∃ K, u8A p = K := ⟨_, rfl⟩
  rw [hxe]
  have HZ := Lib.hid hZ
  have HZZ := Lib.hid hzz
  have HXE := Lib.hid hxe
  clear hx hxe hZ hzz hs
  go_enter Try.func33, Try.ntmps33
  go_wp2_with fail
  obtain ⟨g1, g2, g3, hbel⟩ := alloc3 w xA Z Z 48 61 61
  have g4 := HS.out.below hbel hsw
  generalize World.alloc (World.alloc (World.alloc w _) _) _ = w1 at *
  obtain ⟨xb, hxb⟩ : ∃ z, w.heap.size = z := ⟨_, rfl⟩
  rw [hxb] at g1 g2 g3 hbel hsw ⊢
  obtain ⟨rb, hrb⟩ : ∃ z, xb + 1 = z := ⟨_, rfl⟩
  rw [hrb] at g2 g3 ⊢
  obtain ⟨tb, htb⟩ : ∃ z, rb + 1 = z := ⟨_, rfl⟩
  rw [htb] at g3 ⊢
  have hxr : xb < rb := by omega
  have hrt : rb < tb := by omega
  have HW := Lib.hid hxb
  have z16 : (List.replicate 4 (0 : UInt8)).length = 4 := List.length_replicate ..
  have HZL := Lib.hid z16
  have G1 := Lib.hid (show Blk w1 xb (u8A p) 48 by rw [HXE.out]; exact g1)
  have G2 := Lib.hid (show Blk w1 tb (u8A (part (wordL p) (List.replicate 4 0) 0)) 61 by rw [part_zero, HZ.out]; exact g3)
  have G3 := Lib.hid (show ∃ rs, Blk w1 rb rs 61 ∧ rs.size = 4 from ⟨_, g2, HZZ.out⟩)
  have G4 := Lib.hid g4
  clear g1 g2 g3 g4 hxb hrb htb hz z16 HS
  go_loopw [9] (fun t wq => ∃ i : Nat, i ≤ 4 ∧ t = .int .i64 i ∧ Below xb w wq ∧ Hid (Blk wq xb (u8A p) 48) ∧ Hid (Blk wq tb (u8A (part (wordL p) (List.replicate 4 0) i)) 61) ∧ Hid (∃ rs, Blk wq rb rs 61 ∧ rs.size = 4) ∧ Hid (Blk wq sb (u8A boxL) 43)) (fun t _ => 4 - (intOf t).toNat)
  case atStart => exact ⟨0, by omega, rfl, hbel, G1, G2, G3, G4⟩
  case round =>
    clear hbel G1 G2 G3 G4
    obtain ⟨i, hi, rfl, hbel, G1, G2, G3, G4⟩ := hrel
    by_cases hlt : i < 4
    · have hii : (i : Int) < 4 := by omega
      obtain ⟨m, hm⟩ : ∃ m, 12 + (i + 1) % 4 = m := ⟨_, rfl⟩
      have m3 : 12 + ((i : Int) + 1) % 4 = (m : Int) := by omega
      have hml : m < 16 := by omega
      have cx := G1.out.byteAt (i := m) (by rw [HX.out]; exact hml)
      have hy := (p.getD m 0).toNat_lt
      have hyi : ((p.getD m 0).toNat : Int) < 256 := by omega
      have cs := G4.out.byteAt (i := (p.getD m 0).toNat) (by rw [boxL_len]; exact hy)
      have hf := G2.out.frozen i
      obtain ⟨o, ho⟩ : ∃ old, wr.cell? ⟨tb, i, none⟩ = some old := ⟨_, G2.out.byteAt (i := i) (by rw [part_len (wordL_len p) HZL.out (by omega)]; exact hlt)⟩
      have HV := Lib.hid (show boxL.getD (p.getD m 0).toNat 0 = (wordL p).getD i 0 by rw [wordL_at p hlt, hm]; rfl)
      have HPS := Lib.hid (part_set (wordL_len p) HZL.out hlt)
      generalize boxL.getD (p.getD m 0).toNat 0 = b0 at *
      generalize p.getD m 0 = a0 at *
      have w1 : IntKind.i64.wrap ((i : Int) + 1) = (i : Int) + 1 := IntWalk.i64_in _ (by omega)
      clear hm
      go_wp2_with fail
      refine wp_region_noPanic ?_
      go_region
      refine NoPanic.normal ?_
      clear w1
      go_wp2_with fail
      go_roundw
      case rel =>
        refine ⟨i + 1, by omega, by go_num, (hbel.setCell (by simp; omega) _).drew, Lib.hid (G1.out.other (by simp; omega) _), Lib.hid ?_, Lib.hid ?_, Lib.hid (G4.out.other (by simp; omega) _)⟩
        · rw [← HPS.out, ← HV.out]
          exact G2.out.put _ rfl
        · obtain ⟨rs, h, hz⟩ := G3.out
          exact ⟨rs, h.other (by simp; omega) _, hz⟩
      case measure => simp [intOf]; omega
    · obtain rfl : i = 4 := by omega
      have hge : ¬ ((4 : Nat) : Int) < 4 := by omega
      have hwl : Blk wr tb (u8A (wordL p)) 61 := by
        have := G2.out
        rwa [part_full (wordL_len p) HZL.out] at this
      have c0 := hwl.byteAt (i := 0) (by rw [wordL_len]; decide)
      have hf := hwl.frozen 0
      have HV := Lib.hid (xor_byte8 ((wordL p).getD 0 0) c)
      have HK := Lib.hid (wordL_kT0 p c)
      have HWL := Lib.hid hwl
      generalize (wordL p).getD 0 0 = a0 at *
      obtain ⟨rs, hrs, hrz⟩ := G3.out
      have hfz : (u8A (kT0 p c)).size = 4 := by rw [u8A_size]; rfl
      have hone := u8A_one (kT0 p c)
      have HST := Lib.hid (show ∀ w2, wr.setCell ⟨tb, 0, none⟩ (.int .u8 (bits .xor .u8 (a0.toNat : Int) (c.toNat : Int))) = w2 → Blk w2 tb (u8A (kT0 p c)) 61 ∧ Blk w2 rb rs 61 ∧ Below xb w w2 by
        rintro w2 rfl
        refine ⟨?_, hrs.other (by simp; omega) _, hbel.setCell (by simp; omega) _⟩
        rw [← HK.out]
        exact HWL.out.put 0 HV.out)
      obtain ⟨fin, hfe⟩ : ∃ z, u8A (kT0 p c) = z := ⟨_, rfl⟩
      rw [hfe] at hfz hone HST
      have HFE := Lib.hid hfe
      have HFZ := Lib.hid hfz
      have HONE := Lib.hid hone
      have HRZ := Lib.hid hrz
      clear hfe hfz hone hrz G1 G2 G3 G4 hwl hrs
      go_wp2_with (first
        | (with_reducible refine wpList_load_blk rfl 61 (.tmp 7) rfl tb rfl 61 fin _ (HST.out _ rfl).1 Try.underlying61 rfl (by rw [HFZ.out]; kernel_rfl) ?_)
        | (with_reducible refine wpList_store_blk rfl 61 (.tmp 6) (.tmp 30) rfl rb fin rfl rfl 61 rs (HST.out _ rfl).2.1 (by rw [HFZ.out]; kernel_rfl) (by rw [HFZ.out, HRZ.out]) HONE.out ?_))
      obtain ⟨h1, h2, h3⟩ := HST.out _ rfl
      refine bodyPost_ret (v := .agg fin) (results_cell_row (p := 6) (ty := 61) (by kernel_rfl) _ _ rb 61 _ (0, 0) _ rfl (h2.row fin) Try.underlying61 rfl (by rw [HFZ.out]; kernel_rfl)) rfl ⟨by rw [HFE.out], ?_⟩
      rw [HW.out]
      exact below_row h3 (by have := h1.lt; omega) (by omega) _
end Go.Proofs.Ytcajlmlblkdjoaa
namespace Go.Proofs.Ytcajlmlblkdjoaa
open Go.RowKit

theorem pzero176 (w : World) : (zeroValue 45).run Try.prog w = .ok (.agg (u8A (List.replicate 176 0))) w := by kernel_rfl
/-- The next round key, its first bytes by the changed word, the others by those before. -/
def eL (p t : List UInt8) : Nat → List UInt8
  | 0 => []
  | i + 1 => eL p t i ++ [p.getD i 0 ^^^ (if i < 4 then t.getD i 0 else (eL p t i).getD (i - 4) 0)]
theorem eL_len (p t : List UInt8) (i : Nat) : (eL p t i).length = i := by
  induction i with
  | zero => rfl
  | succ i ih => rw [eL, List.length_append, ih]; rfl
theorem eL_kO (p : List UInt8) (a b c d : UInt8) : eL p [a, b, c, d] 16 = kO p [a, b, c, d] 16 := by simp [kO, kT, eL]
theorem eL_all (p : List UInt8) (c : UInt8) : eL p (kT0 p c) 16 = kO p (kT0 p c) 16 := eL_kO p _ _ _ _
theorem kT0_len (p : List UInt8) (c : UInt8) : (kT0 p c).length = 4 := rfl
theorem padB_at {k : Nat} {l : List UInt8} {i : Nat} (h : i < l.length) : (padB k l).getD i 0 = l.getD i 0 := by
  unfold padB
  rw [List.getD_eq_getElem?_getD, List.getD_eq_getElem?_getD, List.getElem?_append_left h]
theorem append_at {l m : List UInt8} {n i : Nat} (h : l.length = n) : (l ++ m).getD (n + i) 0 = m.getD i 0 := by
  rw [List.getD_eq_getElem?_getD, List.getD_eq_getElem?_getD, List.getElem?_append_right (by omega), show n + i - l.length = i by omega]

set_option maxRecDepth 100000 in
set_option maxHeartbeats 4000000 in
theorem expand_any (sb : Nat) (k : List UInt8) (w : World) (hk : k.length = 16) (hs : Blk w sb (u8A boxL) 43) :
    Calls Try.prog 24 #[.agg (u8A k), .pointer (some ⟨sb, 0, none⟩)] w fun e w' => e = .returned (.agg (u8A (keysTo k 11))) ∧ Below w.heap.size w w' := by
  have hz := fun W => pzero176 W
  obtain ⟨Z, hZ⟩ : ∃ Z, u8A (List.replicate 176 0) = Z := ⟨_, rfl⟩
  rw [hZ] at hz
  have hz16 := fun W => pzero4 W
  obtain ⟨Z4, hZ4⟩ : ∃ Z, u8A (List.replicate 4 0) = Z := ⟨_, rfl⟩
  rw [hZ4] at hz16
  have HZ4Z := Lib.hid (show Z4.size = 4 by rw [← hZ4, u8A_size]; rfl)
  clear hZ4
  have HZ := Lib.hid hZ
  have HK := Lib.hid hk
  have HS := Lib.hid hs
  have hkz : (u8A k).size = 16 := by rw [u8A_size, hk]
  have hko := u8A_one k
  have hkd : u8A k = (Lib.byteCells k).toArray := rfl
  obtain ⟨kA, hke⟩ : ∃ K, u8A k = K := ⟨_, rfl⟩
  rw [hke] at hkz hko hkd ⊢
  have HKZ := Lib.hid hkz
  have HKO := Lib.hid hko
  have HKD := Lib.hid hkd
  have hsr : sb < w.heap.size := hs.lt
  have HZ4 := Lib.hid hz16
  clear hZ hk hs hkz hko hkd hke hz16
  have hb3 : Blk (((w.alloc (.cells kA 23)).alloc (.cells Z 45)).alloc (.cells Z 45)) (w.heap.size + 1 + 1) (u8A (padB 176 (keysTo k 0))) 45 := by
    rw [show padB 176 (keysTo k 0) = List.replicate 176 0 from rfl, HZ.out]
    exact (alloc3 w kA Z Z _ _ _).2.2.1
  have hth : (((w.alloc (.cells kA 23)).alloc (.cells Z 45)).alloc (.cells Z 45)).there (w.heap.size + 1 + 1) 0 kA.size := hb3.there 0 kA.size (by rw [HKZ.out, padB_len (by simp [keysTo])]; omega)
  have HB3 := Lib.hid hb3
  have HTH := Lib.hid hth
  clear hb3 hth
  go_enter Try.func24, Try.ntmps24
  go_wp2_with (first
    | (with_reducible refine wpList_load_blk rfl 23 (.tmp 2) rfl w.heap.size rfl 23 kA _ (((Blk.new w _ _).alloc _).alloc _) Try.underlying23 rfl (by rw [HKZ.out]; kernel_rfl) ?_)
    | (with_reducible refine wpList_store_mid rfl 22 (.tmp 13) (.tmp 12) rfl (w.heap.size + 1 + 1) 0 kA rfl rfl HTH.out (by rw [HKZ.out]; kernel_rfl) HKO.out ?_
       generalize hw1 : World.setCells _ _ _ _ = w1))
  obtain ⟨r, hr⟩ : ∃ y, w.heap.size = y := ⟨_, rfl⟩
  obtain ⟨rr, hrr⟩ : ∃ y, r + 1 = y := ⟨_, rfl⟩
  obtain ⟨ob, hob⟩ : ∃ y, rr + 1 = y := ⟨_, rfl⟩
  have hst : Below r w w1 ∧ Blk w1 ob (u8A (padB 176 (keysTo k 1))) 45 ∧ (∃ rs, Blk w1 rr rs 45 ∧ rs.size = 176) ∧ w1.heap.size = ob + 1 := by
    have h3 := HB3.out
    obtain ⟨_, a2, _, a4⟩ := alloc3 w kA Z Z 23 45 45
    simp only [hr, hrr, hob] at h3 hw1 a2 a4
    rw [← hw1]
    refine ⟨below_cells (by omega) _ _ a4, ?_, ?_, ?_⟩
    · have h4 := h3.row_ (n := 0) (m := k) rfl (by rw [HK.out]; omega)
      rw [show keysTo k 1 = keysTo k 0 ++ k from rfl, show kA.toList = Lib.byteCells k by rw [HKD.out]]
      exact h4
    · exact ⟨Z, Blk.otherCells (by omega) _ _ a2, by rw [← HZ.out, u8A_size]; exact List.length_replicate ..⟩
    · rw [cells_size]
      simp only [World.size_alloc, hr, hrr, hob]
  obtain ⟨hbel, hob1, hrs1, hsz1⟩ := hst
  have HRR := Lib.hid hr
  have HO1 := Lib.hid hob1
  have HR1 := Lib.hid hrs1
  have HS1 := Lib.hid (show Blk w1 sb (u8A boxL) 43 from HS.out.below hbel (by rw [← hr]; exact hsr))
  have hsb : sb < r := by rw [← hr]; exact hsr
  have hro : r < rr := by omega
  have hrob : rr < ob := by omega
  have hszr : ob + 1 ≤ w1.heap.size := by omega
  rw [hr, hrr, hob]
  clear hob1 hrs1 HB3 HTH HKZ HKO HKD hz HZ hw1 hr hrr hob HS hsr hsz1
  go_loopw [6, 7] (fun c t wr => ∃ q : Nat, q ≤ 10 ∧ t = .int .i64 ((q : Int) + 1) ∧ c = .int .u8 ((conU q).toNat : Int) ∧ Below r w wr ∧ Hid (Blk wr ob (u8A (padB 176 (keysTo k (q + 1)))) 45) ∧ Hid (∃ rs, Blk wr rr rs 45 ∧ rs.size = 176) ∧ Hid (Blk wr sb (u8A boxL) 43) ∧ ob + 1 ≤ wr.heap.size) (fun _ t _ => 11 - (intOf t).toNat)
  case atStart => exact ⟨0, by omega, rfl, rfl, hbel, HO1, HR1, HS1, hszr⟩
  case round =>
    clear hbel HO1 HR1 HS1 hszr
    obtain ⟨q, hq, rfl, rfl, hbel, HO, HR, HS, hsz⟩ := hrel
    by_cases hlt : q < 10
    · have hqi : (q : Int) + 1 ≤ 10 := by omega
      have hq11 : (q : Int) < 11 := by omega
      have hq12 : (q : Int) + 1 < 11 := by omega
      have hrng := HO.out.range (q * 16) 16
      rw [show ((padB 176 (keysTo k (q + 1))).drop (q * 16)).take 16 = rk k q by
        rw [Nat.mul_comm]
        unfold padB
        rw [List.drop_append_of_le_length (by rw [keysTo_len HK.out]; omega), keysTo_last HK.out, List.take_append_of_le_length (by rw [rk_len HK.out]; exact Nat.le_refl _), List.take_of_length_le (by rw [rk_len HK.out]; exact Nat.le_refl _)]] at hrng
      have HRK := Lib.hid (rk_len HK.out q)
      have HRN := Lib.hid (show rk k (q + 1) = eL (rk k q) (kT0 (rk k q) (conU q)) 16 by rw [eL_all]; rfl)
      have HCN := Lib.hid (show conU (q + 1) = twU (conU q) from rfl)
      have HKN := Lib.hid (show keysTo k (q + 1 + 1) = keysTo k (q + 1) ++ rk k (q + 1) from rfl)
      have HKL := Lib.hid (keysTo_len HK.out (q + 1))
      have HRG := Lib.hid hrng
      generalize rk k q = p at *
      generalize conU q = c at *
      have hsp : (Lib.byteCells p).toArray.size = 16 := by rw [List.size_toArray, Lib.byteCells_length, HRK.out]
      have hop : (Lib.byteCells p).toArray.all (·.oneCell') = true := u8A_one p
      have hip : (Try.prog.info? 22).map (·.size) = some (Lib.byteCells p).length := by rw [Lib.byteCells_length, HRK.out]; kernel_rfl
      have HSP := Lib.hid hsp
      have HOP := Lib.hid hop
      have HIP := Lib.hid hip
      have hzw := hbel.size
      clear hrng hsp hop hip
      go_wp2_with (first
        | (with_reducible refine wpList_load_mid rfl 22 (.tmp 20) rfl ob (q * 16) rfl (Lib.byteCells p) _ HRG.out Try.underlying22 rfl HIP.out ?_)
        | (with_reducible refine wpList_store_blkTo rfl 22 (.tmp 8) (.tmp 21) rfl rfl wr.heap.size (Lib.byteCells p).toArray rfl rfl 22 _ (Blk.new wr _ _) (by rw [HSP.out]; kernel_rfl) (by rw [HSP.out]; kernel_rfl) HOP.out ?_
           generalize hw2 : World.setRow _ _ _ = w2)
        | (with_reducible refine wpList_load_blk rfl 22 (.tmp 8) rfl wr.heap.size rfl 22 (Lib.byteCells p).toArray _ (by rw [← hw2]; exact (Blk.new wr _ _).row _) Try.underlying22 rfl (by rw [HSP.out]; kernel_rfl) ?_))
      obtain ⟨pb, hpb⟩ : ∃ y, wr.heap.size = y := ⟨_, rfl⟩
      have hst : Below r w w2 ∧ Blk w2 ob (u8A (padB 176 (keysTo k (q + 1)))) 45 ∧ (∃ rs, Blk w2 rr rs 45 ∧ rs.size = 176) ∧ Blk w2 sb (u8A boxL) 43 ∧ Blk w2 pb (u8A p) 22 ∧ w2.heap.size = pb + 1 := by
        rw [← hw2, ← hpb]
        refine ⟨below_row (hbel.alloc (by omega) _) (by simp; omega) (by omega) _, (HO.out.alloc _).rowOther (by omega) _, ?_, (HS.out.alloc _).rowOther (by omega) _, (Blk.new wr _ _).row _, by simp⟩
        obtain ⟨rs, h, hz⟩ := HR.out
        exact ⟨rs, (h.alloc _).rowOther (by omega) _, hz⟩
      obtain ⟨hbel2, g1, g2, g3, g4, hsz2⟩ := hst
      rw [hpb]
      have hpo : ob + 1 ≤ pb := by omega
      refine (show Calls Try.prog 33 #[.agg (Lib.byteCells p).toArray, .pointer (some ⟨sb, 0, none⟩), .int .u8 (c.toNat : Int)] w2 _ from (changed_any p sb c w2 HRK.out g3)).mono ?_
      rintro e w3 ⟨rfl, hb3⟩
      have hl1 := g1.lt
      have hl3 := g3.lt
      have hl4 := g4.lt
      have K1 := Lib.hid (g1.below hb3 hl1)
      have K2 := Lib.hid (show ∃ rs, Blk w3 rr rs 45 ∧ rs.size = 176 by obtain ⟨rs, h, hz⟩ := g2; exact ⟨rs, h.below hb3 h.lt, hz⟩)
      have K3 := Lib.hid (g3.below hb3 hl3)
      have K4 := Lib.hid (g4.below hb3 hl4)
      have hbel3 : Below r w w3 := hbel2.trans (hb3.mono (by omega))
      have hs3 := hb3.size
      have hsz3 : pb + 1 ≤ w3.heap.size := by omega
      clear hw2 hpb g1 g2 g3 g4 HO HR HS hbel hsz hzw hb3 hl1 hl3 hl4 hs3 hsz2 hbel2 HRG
      have htz : (u8A (kT0 p c)).size = 4 := by rw [u8A_size, kT0_len]
      have hto := u8A_one (kT0 p c)
      have HT4 := Lib.hid (kT0_len p c)
      obtain ⟨t0, ht0⟩ : ∃ z, kT0 p c = z := ⟨_, rfl⟩
      rw [ht0] at HT4 HRN htz hto ⊢
      obtain ⟨tA, htA⟩ : ∃ z, u8A t0 = z := ⟨_, rfl⟩
      rw [htA] at htz hto ⊢
      have HTA := Lib.hid htA
      have HTZ := Lib.hid htz
      have HTO := Lib.hid hto
      have hz4 := HZ4.out
      clear ht0 htA htz hto
      go_wp2_with (first
        | (with_reducible refine wpList_store_blkTo rfl 61 (.tmp 9) (.tmp 25) rfl rfl w3.heap.size tA rfl rfl 61 Z4 (Blk.new w3 _ _) (by rw [HTZ.out]; kernel_rfl) (by rw [HZ4Z.out, HTZ.out]) HTO.out ?_
           generalize hw4 : World.setRow _ _ _ = w4))
      obtain ⟨tb, htb⟩ : ∃ y, w3.heap.size = y := ⟨_, rfl⟩
      have hst : Below r w w4 ∧ Blk w4 ob (u8A (padB 176 (keysTo k (q + 1) ++ eL p t0 0))) 45 ∧ (∃ rs, Blk w4 rr rs 45 ∧ rs.size = 176) ∧ Blk w4 sb (u8A boxL) 43 ∧ Blk w4 pb (u8A p) 22 ∧ Blk w4 tb (u8A t0) 61 := by
        rw [show keysTo k (q + 1) ++ eL p t0 0 = keysTo k (q + 1) from List.append_nil _, HTA.out, ← hw4, ← htb]
        refine ⟨below_row (hbel3.alloc (by omega) _) (by simp; omega) (by omega) _, (K1.out.alloc _).rowOther (by omega) _, ?_, (K3.out.alloc _).rowOther (by omega) _, (K4.out.alloc _).rowOther (by omega) _, (Blk.new w3 _ _).row _⟩
        obtain ⟨rs, h, hz⟩ := K2.out
        exact ⟨rs, (h.alloc _).rowOther (by omega) _, hz⟩
      obtain ⟨hbel4, g1, g2, g3, g4, g5⟩ := hst
      rw [htb]
      have hpt : pb + 1 ≤ tb := by omega
      have G1 := Lib.hid g1
      have G2 := Lib.hid g2
      have G3 := Lib.hid g3
      have G4 := Lib.hid g4
      have G5 := Lib.hid g5
      clear hw4 htb g1 g2 g3 g4 g5 K1 K2 K3 K4 hbel3 hsz3 hz4 HTA HTZ HTO HSP HOP HIP
      go_loopw [26] (fun t wq => ∃ i : Nat, i ≤ 4 ∧ t = .int .i64 i ∧ Below r w wq ∧ Hid (Blk wq ob (u8A (padB 176 (keysTo k (q + 1) ++ eL p t0 i))) 45) ∧ Hid (∃ rs, Blk wq rr rs 45 ∧ rs.size = 176) ∧ Hid (Blk wq sb (u8A boxL) 43) ∧ Hid (Blk wq pb (u8A p) 22) ∧ Hid (Blk wq tb (u8A t0) 61)) (fun t _ => 4 - (intOf t).toNat)
      case atStart => exact ⟨0, by omega, rfl, hbel4, G1, G2, G3, G4, G5⟩
      case round =>
        clear hbel4 G1 G2 G3 G4 G5
        obtain ⟨i, hi, rfl, hbel, HO, HR, HS, HP, HT⟩ := hrel
        by_cases hi4 : i < 4
        · have hii : (i : Int) < 4 := by omega
          have hii2 : (i : Int) < 16 := by omega
          have q1n : ((q : Int) + 1).toNat = q + 1 := by omega
          have cp := HP.out.byteAt (i := i) (by rw [HRK.out]; omega)
          have ct := HT.out.byteAt (i := i) (by rw [HT4.out]; omega)
          have HE := Lib.hid (show eL p t0 (i + 1) = eL p t0 i ++ [p.getD i 0 ^^^ t0.getD i 0] by rw [eL, if_pos hi4])
          have HX := Lib.hid (xor_byte8 (p.getD i 0) (t0.getD i 0))
          have hlen : (keysTo k (q + 1) ++ eL p t0 i).length = (q + 1) * 16 + i := by rw [List.length_append, HKL.out, eL_len]; omega
          have hfo := HO.out.frozen ((q + 1) * 16 + i)
          obtain ⟨o, ho⟩ : ∃ old, wr.cell? ⟨ob, (q + 1) * 16 + i, none⟩ = some old := ⟨_, HO.out.byteAt (i := (q + 1) * 16 + i) (by rw [padB_len (by rw [hlen]; omega)]; omega)⟩
          have HLEN := Lib.hid hlen
          generalize p.getD i 0 = a0 at *
          generalize t0.getD i 0 = b0 at *
          clear hlen
          go_wp2_with fail
          refine wp_region_noPanic ?_
          go_region
          refine NoPanic.normal ?_
          go_wp2_with fail
          go_roundw
          case rel =>
            refine ⟨i + 1, by omega, by go_num, (hbel.setCell (by simp; omega) _).drew, Lib.hid ?_, Lib.hid ?_, Lib.hid (HS.out.other (by simp; omega) _), Lib.hid (HP.out.other (by simp; omega) _), Lib.hid (HT.out.other (by simp; omega) _)⟩
            · rw [HE.out, ← List.append_assoc]
              exact HO.out.byte HLEN.out (by omega) HX.out
            · obtain ⟨rs, h, hz⟩ := HR.out
              exact ⟨rs, h.other (by simp; omega) _, hz⟩
          case measure => simp [intOf]; omega
        · obtain rfl : i = 4 := by omega
          have hge : ¬ ((4 : Nat) : Int) < 4 := by omega
          clear hi hi4
          go_wp2_with fail
          go_loopw [11] (fun t wq => ∃ i : Nat, 4 ≤ i ∧ i ≤ 16 ∧ t = .int .i64 i ∧ Below r w wq ∧ Hid (Blk wq ob (u8A (padB 176 (keysTo k (q + 1) ++ eL p t0 i))) 45) ∧ Hid (∃ rs, Blk wq rr rs 45 ∧ rs.size = 176) ∧ Hid (Blk wq sb (u8A boxL) 43) ∧ Hid (Blk wq pb (u8A p) 22)) (fun t _ => 16 - (intOf t).toNat)
          case atStart => exact ⟨4, by omega, by omega, rfl, hbel, HO, HR, HS, HP⟩
          case round =>
            clear hbel HO HR HS HP HT
            obtain ⟨i, hi4, hi, rfl, hbel, HO, HR, HS, HP⟩ := hrel
            by_cases hi16 : i < 16
            · have hii : (i : Int) < 16 := by omega
              have q1n : ((q : Int) + 1).toNat = q + 1 := by omega
              have s0 : (0 : Int) ≤ (i : Int) - 4 := by omega
              have s1 : (i : Int) - 4 < 16 := by omega
              have s2 : ((i : Int) - 4).toNat = i - 4 := by omega
              have s3 : IntKind.i64.wrap ((i : Int) - 4) = (i : Int) - 4 := IntWalk.i64_in _ (by omega)
              have cp := HP.out.byteAt (i := i) (by rw [HRK.out]; omega)
              have hlen : (keysTo k (q + 1) ++ eL p t0 i).length = (q + 1) * 16 + i := by rw [List.length_append, HKL.out, eL_len]; omega
              have ct := HO.out.byteAt (i := (q + 1) * 16 + (i - 4)) (by rw [padB_len (by rw [hlen]; omega)]; omega)
              rw [padB_at (by rw [hlen]; omega), append_at (by rw [HKL.out]; omega)] at ct
              have HE := Lib.hid (show eL p t0 (i + 1) = eL p t0 i ++ [p.getD i 0 ^^^ (eL p t0 i).getD (i - 4) 0] by rw [eL, if_neg (by omega)])
              have HX := Lib.hid (xor_byte8 (p.getD i 0) ((eL p t0 i).getD (i - 4) 0))
              have hfo := HO.out.frozen ((q + 1) * 16 + i)
              obtain ⟨o, ho⟩ : ∃ old, wr.cell? ⟨ob, (q + 1) * 16 + i, none⟩ = some old := ⟨_, HO.out.byteAt (i := (q + 1) * 16 + i) (by rw [padB_len (by rw [hlen]; omega)]; omega)⟩
              have HLEN := Lib.hid hlen
              generalize p.getD i 0 = a0 at *
              generalize (eL p t0 i).getD (i - 4) 0 = b0 at *
              clear hlen
              go_wp2_with fail
              refine wp_region_noPanic ?_
              go_region
              refine NoPanic.normal ?_
              clear s3
              go_wp2_with fail
              go_roundw
              case rel =>
                refine ⟨i + 1, by omega, by omega, by go_num, (hbel.setCell (by simp; omega) _).drew, Lib.hid ?_, Lib.hid ?_, Lib.hid (HS.out.other (by simp; omega) _), Lib.hid (HP.out.other (by simp; omega) _)⟩
                · rw [HE.out, ← List.append_assoc]
                  exact HO.out.byte HLEN.out (by omega) HX.out
                · obtain ⟨rs, h, hz⟩ := HR.out
                  exact ⟨rs, h.other (by simp; omega) _, hz⟩
              case measure => simp [intOf]; omega
            · obtain rfl : i = 16 := by omega
              have hge16 : ¬ ((16 : Nat) : Int) < 16 := by omega
              have HO16 := Lib.hid (show Blk wr ob (u8A (padB 176 (keysTo k (q + 1 + 1)))) 45 by rw [HKN.out, HRN.out]; exact HO.out)
              have hszr : ob + 1 ≤ wr.heap.size := by have := HO.out.lt; omega
              clear HO hi hi16 hi4
              go_wp2_with fail
              refine (double_any c _).mono ?_
              rintro e w' ⟨rfl, rfl⟩
              go_wp2_with fail
              go_roundw
              case rel => exact ⟨q + 1, by omega, by go_num, by rw [HCN.out], hbel, HO16, HR, HS, hszr⟩
              case measure => simp [intOf]; omega
    · obtain rfl : q = 10 := by omega
      have hge : ¬ ((10 : Nat) : Int) + 1 ≤ 10 := by omega
      have hfull : Blk wr ob (u8A (keysTo k 11)) 45 := by
        have := HO.out
        rwa [padB_full (keysTo_len HK.out 11)] at this
      obtain ⟨rs, hrs, hrz⟩ := HR.out
      have hfz : (u8A (keysTo k 11)).size = 176 := by rw [u8A_size, keysTo_len HK.out]
      have hone := u8A_one (keysTo k 11)
      obtain ⟨fin, hfe⟩ : ∃ x, u8A (keysTo k 11) = x := ⟨_, rfl⟩
      rw [hfe] at hfull hfz hone
      have HFE := Lib.hid hfe
      have HFZ := Lib.hid hfz
      have HONE := Lib.hid hone
      have HRZ := Lib.hid hrz
      clear hfe hfz hone hrz HO HR HS hq hlt
      go_wp2_with (first
        | (with_reducible refine wpList_load_blk rfl 45 (.tmp 5) rfl ob rfl 45 fin _ hfull Try.underlying45 rfl (by rw [HFZ.out]; kernel_rfl) ?_)
        | (with_reducible refine wpList_store_blk rfl 45 (.tmp 4) (.tmp 61) rfl rr fin rfl rfl 45 rs hrs (by rw [HFZ.out]; kernel_rfl) (by rw [HFZ.out, HRZ.out]) HONE.out ?_))
      refine bodyPost_ret (v := .agg fin) (results_cell_row (p := 4) (ty := 45) (by kernel_rfl) _ _ rr 45 _ (0, 0) _ rfl (hrs.row fin) Try.underlying45 rfl (by rw [HFZ.out]; kernel_rfl)) rfl ⟨by rw [HFE.out], ?_⟩
      rw [HRR.out]
      exact below_row hbel (by have := hbel.size; have := HRR.out; omega) (by omega) _
end Go.Proofs.Ytcajlmlblkdjoaa
