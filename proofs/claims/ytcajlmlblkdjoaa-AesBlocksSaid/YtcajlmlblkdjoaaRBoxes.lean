/- The document's twice, and its table of the substitution. The document's table of the substitution. -/
import Derived.Test.YtcajlmlblkdjoaaAesB
import Derived.Test.YtcajlmlblkdjoaaU8
import Derived.BigQuiet
import Derived.RegionTactic
namespace Go.Proofs.Ytcajlmlblkdjoaa
open Go.RowKit

theorem retU8 {a b : Int} (h : a = b) : Ending.returned (.int .u8 a) = .returned (.int .u8 b) := by rw [h]
set_option maxHeartbeats 400000 in
theorem rtwice_any (x : UInt8) (w : World) :
    Calls Try.prog 39 #[.int .u8 (x.toNat : Int)] w fun e w' => e = .returned (.int .u8 ((twU x).toNat : Int)) ∧ w = w' := by
  have hx := x.toNat_lt
  obtain ⟨h1, h2⟩ := twU_val x
  have H1 := Lib.hid h1
  have H2 := Lib.hid h2
  clear h1 h2
  by_cases h : 128 ≤ x.toNat
  · have hi : (128 : Int) ≤ (x.toNat : Int) := by omega
    go_enter Try.func39, Try.ntmps39
    go_wp2_with fail
    go_ret
    exact ⟨retU8 (H1.out h), rfl⟩
  · have hi : ¬ (128 : Int) ≤ (x.toNat : Int) := by omega
    go_enter Try.func39, Try.ntmps39
    go_wp2_with fail
    go_ret
    exact ⟨retU8 (by have := H2.out (by omega); omega), rfl⟩
end Go.Proofs.Ytcajlmlblkdjoaa
namespace Go.Proofs.Ytcajlmlblkdjoaa
open Go.RowKit

theorem zero256 (w : World) : (zeroValue 42).run Try.prog w = .ok (.agg (u8A (List.replicate 256 0))) w := by kernel_rfl

set_option maxRecDepth 100000 in
set_option maxHeartbeats 4000000 in
theorem rboxes_any (w : World) :
    Calls Try.prog 27 #[] w fun e w' => e = .returned (.agg (u8A boxL)) ∧ Below w.heap.size w w' := by
  have hz := fun W => zero256 W
  obtain ⟨Z, hZ⟩ : ∃ Z, u8A (List.replicate 256 0) = Z := ⟨_, rfl⟩
  rw [hZ] at hz
  have HZ := Lib.hid hZ
  clear hZ
  go_enter Try.func27, Try.ntmps27
  go_wp2_with fail
  generalize hw1 : World.alloc (World.alloc (World.alloc (World.alloc w _) _) _) _ = w1
  obtain ⟨r, hr⟩ : ∃ y, w.heap.size = y := ⟨_, rfl⟩
  obtain ⟨er, her⟩ : ∃ y, r + 1 = y := ⟨_, rfl⟩
  obtain ⟨lr, hlr⟩ : ∃ y, er + 1 = y := ⟨_, rfl⟩
  obtain ⟨ur, hur⟩ : ∃ y, lr + 1 = y := ⟨_, rfl⟩
  have hblk : Blk w1 r Z 42 ∧ Blk w1 er Z 42 ∧ Blk w1 lr Z 42 ∧ Blk w1 ur Z 42 ∧ Below r w w1 := by
    have a1 := Blk.new w Z 42
    have a2 := Blk.new (w.alloc (.cells Z 42)) Z 42
    have a3 := Blk.new ((w.alloc (.cells Z 42)).alloc (.cells Z 42)) Z 42
    have a4 := Blk.new (((w.alloc (.cells Z 42)).alloc (.cells Z 42)).alloc (.cells Z 42)) Z 42
    simp only [World.size_alloc, hr, her, hlr, hur] at a1 a2 a3 a4
    rw [← hw1]
    refine ⟨((a1.alloc _).alloc _).alloc _, (a2.alloc _).alloc _, a3.alloc _, a4, ?_⟩
    rw [← hr]
    exact ((((Below.refl _ _).alloc (Nat.le_refl _) _).alloc (by simp) _).alloc (by simp; omega) _).alloc (by simp; omega) _
  rw [← HZ.out] at hblk
  obtain ⟨hbr, hbe, hbl, hbu, hbel⟩ := hblk
  have HE1 := Lib.hid (show Blk w1 er (u8A (padB 256 (powT 0))) 42 from hbe)
  have HL1 := Lib.hid (show Blk w1 lr (u8A (logT 0)) 42 from hbl)
  have HU1 := Lib.hid (show Blk w1 ur (u8A (padB 256 (boxTo 0))) 42 from hbu)
  have HR1 := Lib.hid (show ∃ rs, Blk w1 r rs 42 ∧ rs.size = 256 from ⟨_, hbr, by rw [u8A_size]; exact List.length_replicate ..⟩)
  rw [hr, her, hlr, hur]
  have hre : r < er := by omega
  have hel : er < lr := by omega
  have hlu : lr < ur := by omega
  have HRR := Lib.hid hr
  clear hr her hlr hur hw1 hbr hbe hbl hbu hz HZ
  go_loopw [4, 5] (fun x t wr => ∃ n : Nat, n ≤ 255 ∧ t = .int .i64 n ∧ x = .int .u8 ((powU n).toNat : Int) ∧ Below r w wr ∧ Hid (Blk wr er (u8A (padB 256 (powT n))) 42) ∧ Hid (Blk wr lr (u8A (logT n)) 42) ∧ Hid (Blk wr ur (u8A (padB 256 (boxTo 0))) 42) ∧ Hid (∃ rs, Blk wr r rs 42 ∧ rs.size = 256)) (fun _ t _ => 255 - (intOf t).toNat)
  case atStart => exact ⟨0, by omega, rfl, rfl, hbel, HE1, HL1, HU1, HR1⟩
  case round =>
    clear hbel HE1 HL1 HU1 HR1
    obtain ⟨n, hn, rfl, rfl, hbel, HE, HL, HU, HR⟩ := hrel
    by_cases hlt : n < 255
    · have hni : (n : Int) < 255 := by omega
      have hx := (powU n).toNat_lt
      have HP := Lib.hid (powT_succ n)
      have HPL := Lib.hid (powT_len n)
      have HLG := Lib.hid (show logT (n + 1) = (logT n).set (powU n).toNat (UInt8.ofNat n) from rfl)
      have HPU := Lib.hid (show powU (n + 1) = powU n ^^^ twU (powU n) from rfl)
      have hf1 := HE.out.frozen n
      have hf2 := HL.out.frozen (powU n).toNat
      obtain ⟨o1, ho1⟩ : ∃ old, wr.cell? ⟨er, n, none⟩ = some old := by
        obtain ⟨o, p⟩ := u8A_get (bs := padB 256 (powT n)) (i := n) (by rw [padB_len (by rw [powT_len]; omega)]; omega)
        exact ⟨o, (HE.out.cell n).trans p⟩
      obtain ⟨o2, ho2⟩ : ∃ old, wr.cell? ⟨lr, (powU n).toNat, none⟩ = some old := by
        obtain ⟨o, p⟩ := u8A_get (bs := logT n) (i := (powU n).toNat) (by rw [logT_len]; exact hx)
        exact ⟨o, (HL.out.cell _).trans p⟩
      generalize powU n = x at *
      have hxi : (x.toNat : Int) < 256 := by omega
      go_wp2_with fail
      refine (rtwice_any x _).mono ?_
      rintro e w2 ⟨rfl, rfl⟩
      have hst : Below r w ((wr.setCell ⟨er, n, none⟩ (.int .u8 (x.toNat : Int))).setCell ⟨lr, x.toNat, none⟩ (.int .u8 (n : Int))) ∧ Blk ((wr.setCell ⟨er, n, none⟩ (.int .u8 (x.toNat : Int))).setCell ⟨lr, x.toNat, none⟩ (.int .u8 (n : Int))) er (u8A (padB 256 (powT (n + 1)))) 42 ∧ Blk ((wr.setCell ⟨er, n, none⟩ (.int .u8 (x.toNat : Int))).setCell ⟨lr, x.toNat, none⟩ (.int .u8 (n : Int))) lr (u8A (logT (n + 1))) 42 ∧ Blk ((wr.setCell ⟨er, n, none⟩ (.int .u8 (x.toNat : Int))).setCell ⟨lr, x.toNat, none⟩ (.int .u8 (n : Int))) ur (u8A (padB 256 (boxTo 0))) 42 ∧ ∃ rs, Blk ((wr.setCell ⟨er, n, none⟩ (.int .u8 (x.toNat : Int))).setCell ⟨lr, x.toNat, none⟩ (.int .u8 (n : Int))) r rs 42 ∧ rs.size = 256 := by
        refine ⟨(hbel.setCell (by simp; omega) _).setCell (by simp; omega) _, ?_, ?_, (HU.out.other (by simp; omega) _).other (by simp; omega) _, ?_⟩
        · rw [HP.out]
          exact (HE.out.byte HPL.out (by omega) rfl).other (by simp; omega) _
        · rw [HLG.out]
          exact (HL.out.other (by simp; omega) _).put _ (by rw [UInt8.toNat_ofNat']; omega)
        · obtain ⟨rs, h, hz⟩ := HR.out
          exact ⟨rs, (h.other (by simp; omega) _).other (by simp; omega) _, hz⟩
      generalize (wr.setCell ⟨er, n, none⟩ (.int .u8 (x.toNat : Int))).setCell ⟨lr, x.toNat, none⟩ (.int .u8 (n : Int)) = w3 at hst ⊢
      obtain ⟨h1, h2, h3, h4, h5⟩ := hst
      have G2 := Lib.hid h2
      have G3 := Lib.hid h3
      have G4 := Lib.hid h4
      have G5 := Lib.hid h5
      clear hf1 hf2 ho1 ho2 h2 h3 h4 h5 HE HL HU HR hbel
      go_wp2_with fail
      go_roundw
      case rel => exact ⟨n + 1, by omega, by go_num, by rw [HPU.out, xor_byte8], h1, G2, G3, G4, G5⟩
      case measure => simp [intOf]; omega
    · obtain rfl : n = 255 := by omega
      clear hn hlt
      go_wp2_with fail
      go_loopw [25] (fun t wr => ∃ a : Nat, a ≤ 256 ∧ t = .int .i64 a ∧ Below r w wr ∧ Hid (Blk wr er (u8A (padB 256 (powT 255))) 42) ∧ Hid (Blk wr lr (u8A (logT 255)) 42) ∧ Hid (Blk wr ur (u8A (padB 256 (boxTo a))) 42) ∧ Hid (∃ rs, Blk wr r rs 42 ∧ rs.size = 256)) (fun t _ => 256 - (intOf t).toNat)
      case atStart => exact ⟨0, by omega, rfl, hbel, HE, HL, HU, HR⟩
      case round =>
        clear hbel HE HL HU HR
        obtain ⟨a, ha, rfl, hbel, HE, HL, HU, HR⟩ := hrel
        by_cases hlt : a < 256
        · have hai : (a : Int) < 256 := by omega
          by_cases ha0 : a = 0
          · have hap : ¬ (0 : Int) < (a : Int) := by omega
            have HBX := Lib.hid (show boxU a = affU 0 5 by subst ha0; rfl)
            clear ha0
            go_wp2_with fail
            rw [show (Value.int IntKind.u8 0) = Value.int IntKind.u8 (((0 : UInt8).toNat : Nat) : Int) from rfl]
            have hxl := (0 : UInt8).toNat_lt
            obtain ⟨x, hx0⟩ : ∃ x : UInt8, 0 = x := ⟨_, rfl⟩
            rw [hx0] at HBX hxl ⊢
            clear hx0
            obtain ⟨wo, rfl⟩ : ∃ y : World, y = wr := ⟨_, rfl⟩
            go_loopw [8, 9] (fun s t wq => ∃ k : Nat, k ≤ 5 ∧ t = .int .i64 k ∧ s = .int .u8 ((affU x k).toNat : Int) ∧ wq = wo) (fun _ t _ => 5 - (intOf t).toNat)
            case atStart => exact ⟨0, by omega, rfl, rfl, rfl⟩
            case round =>
              obtain ⟨k, hk, rfl, rfl, rfl⟩ := hrel
              by_cases hk5 : k < 5
              · have hki : (k : Int) < 5 := by omega
                have hk8 : (0 : Int) ≤ 8 - (k : Int) := by omega
                have hkt : (8 - (k : Int)).toNat = 8 - k := by omega
                have HV := Lib.hid (affU_val x k (affU x k))
                have HA := Lib.hid (show affU x (k + 1) = affU x k ^^^ UInt8.ofNat (x.toNat * 2 ^ k % 256 ||| x.toNat / 2 ^ (8 - k)) from rfl)
                have hs := (affU x k).toNat_lt
                generalize affU x k = s at *
                go_wp2_with fail
                go_roundw
                case rel => exact ⟨k + 1, by omega, by go_num, by rw [HA.out, ← HV.out], trivial⟩
                case measure => simp [intOf]; omega
              · obtain rfl : k = 5 := by omega
                have hk5i : ¬ ((5 : Nat) : Int) < 5 := by omega
                have hf := HU.out.frozen a
                obtain ⟨o, ho⟩ : ∃ old, wr.cell? ⟨ur, a, none⟩ = some old := by
                  obtain ⟨o, p⟩ := u8A_get (bs := padB 256 (boxTo a)) (i := a) (by rw [padB_len (by rw [boxTo_len]; omega)]; omega)
                  exact ⟨o, (HU.out.cell a).trans p⟩
                have HBS := Lib.hid (show boxTo (a + 1) = boxTo a ++ [affU x 5] by rw [boxTo_succ, HBX.out])
                have HBL := Lib.hid (boxTo_len a)
                have hs := (affU x 5).toNat_lt
                generalize affU x 5 = s at *
                clear hk
                go_wp2_with fail
                go_roundw
                case rel =>
                  first
                    | refine ⟨a + 1, by omega, by go_num, hbel.setCell (by simp; omega) _, Lib.hid (HE.out.other (by simp; omega) _), Lib.hid (HL.out.other (by simp; omega) _), Lib.hid ?_, Lib.hid ?_⟩
                    | ((repeat apply Exists.intro); refine ⟨⟨a + 1, by omega, by go_num, hbel.setCell (by simp; omega) _, Lib.hid (HE.out.other (by simp; omega) _), Lib.hid (HL.out.other (by simp; omega) _), Lib.hid ?_, Lib.hid ?_⟩, by (repeat' apply And.intro) <;> rfl⟩)
                  · rw [HBS.out]
                    exact HU.out.byte HBL.out (by omega) rfl
                  · obtain ⟨rs, h, hz⟩ := HR.out
                    exact ⟨rs, h.other (by simp; omega) _, hz⟩
                case measure => simp [intOf]; omega
          · have hap : (0 : Int) < (a : Int) := by omega
            have hcl := (HL.out.cell a).trans (u8A_at (bs := logT 255) (i := a) (by rw [logT_len]; omega))
            have hiv : invU a = (powT 255).getD ((255 - ((logT 255).getD a 0).toNat) % 255) 0 := by unfold invU; rw [if_pos (by omega)]
            have hy := ((logT 255).getD a 0).toNat_lt
            generalize (logT 255).getD a 0 = y at *
            obtain ⟨j, hj⟩ : ∃ j, (255 - y.toNat) % 255 = j := ⟨_, rfl⟩
            rw [hj] at hiv
            have hj255 : j < 255 := by omega
            have hoff : (-(y.toNat : Int) % 255).toNat = j := by omega
            have hlo : (0 : Int) ≤ (255 - (y.toNat : Int)) % 255 := by omega
            have hhi : (255 - (y.toNat : Int)) % 255 < 256 := by omega
            have hce := (HE.out.cell j).trans (u8A_at (bs := padB 256 (powT 255)) (i := j) (by rw [padB_len (by rw [powT_len]; omega)]; omega))
            have hpd : (padB 256 (powT 255)).getD j 0 = invU a := by
              rw [hiv]
              unfold padB
              rw [List.getD_eq_getElem?_getD, List.getD_eq_getElem?_getD, List.getElem?_append_left (by rw [powT_len]; exact hj255)]
            rw [hpd] at hce
            have hxl := (invU a).toNat_lt
            have HBX := Lib.hid (show boxU a = affU (invU a) 5 from rfl)
            generalize invU a = x at *
            clear hj hiv hpd
            go_wp2_with fail
            obtain ⟨wo, rfl⟩ : ∃ y : World, y = wr := ⟨_, rfl⟩
            go_loopw [8, 9] (fun s t wq => ∃ k : Nat, k ≤ 5 ∧ t = .int .i64 k ∧ s = .int .u8 ((affU x k).toNat : Int) ∧ wq = wo) (fun _ t _ => 5 - (intOf t).toNat)
            case atStart => exact ⟨0, by omega, rfl, rfl, rfl⟩
            case round =>
              obtain ⟨k, hk, rfl, rfl, rfl⟩ := hrel
              by_cases hk5 : k < 5
              · have hki : (k : Int) < 5 := by omega
                have hk8 : (0 : Int) ≤ 8 - (k : Int) := by omega
                have hkt : (8 - (k : Int)).toNat = 8 - k := by omega
                have HV := Lib.hid (affU_val x k (affU x k))
                have HA := Lib.hid (show affU x (k + 1) = affU x k ^^^ UInt8.ofNat (x.toNat * 2 ^ k % 256 ||| x.toNat / 2 ^ (8 - k)) from rfl)
                have hs := (affU x k).toNat_lt
                generalize affU x k = s at *
                go_wp2_with fail
                go_roundw
                case rel => exact ⟨k + 1, by omega, by go_num, by rw [HA.out, ← HV.out], trivial⟩
                case measure => simp [intOf]; omega
              · obtain rfl : k = 5 := by omega
                have hk5i : ¬ ((5 : Nat) : Int) < 5 := by omega
                have hf := HU.out.frozen a
                obtain ⟨o, ho⟩ : ∃ old, wr.cell? ⟨ur, a, none⟩ = some old := by
                  obtain ⟨o, p⟩ := u8A_get (bs := padB 256 (boxTo a)) (i := a) (by rw [padB_len (by rw [boxTo_len]; omega)]; omega)
                  exact ⟨o, (HU.out.cell a).trans p⟩
                have HBS := Lib.hid (show boxTo (a + 1) = boxTo a ++ [affU x 5] by rw [boxTo_succ, HBX.out])
                have HBL := Lib.hid (boxTo_len a)
                have hs := (affU x 5).toNat_lt
                generalize affU x 5 = s at *
                clear hk
                go_wp2_with fail
                go_roundw
                case rel =>
                  first
                    | refine ⟨a + 1, by omega, by go_num, hbel.setCell (by simp; omega) _, Lib.hid (HE.out.other (by simp; omega) _), Lib.hid (HL.out.other (by simp; omega) _), Lib.hid ?_, Lib.hid ?_⟩
                    | ((repeat apply Exists.intro); refine ⟨⟨a + 1, by omega, by go_num, hbel.setCell (by simp; omega) _, Lib.hid (HE.out.other (by simp; omega) _), Lib.hid (HL.out.other (by simp; omega) _), Lib.hid ?_, Lib.hid ?_⟩, by (repeat' apply And.intro) <;> rfl⟩)
                  · rw [HBS.out]
                    exact HU.out.byte HBL.out (by omega) rfl
                  · obtain ⟨rs, h, hz⟩ := HR.out
                    exact ⟨rs, h.other (by simp; omega) _, hz⟩
                case measure => simp [intOf]; omega
        · obtain rfl : a = 256 := by omega
          have hge : ¬ ((256 : Nat) : Int) < 256 := by omega
          have hfull : Blk wr ur (u8A boxL) 42 := by
            have := HU.out
            rwa [padB_full (boxTo_len 256)] at this
          obtain ⟨rs, hrs, hrz⟩ := HR.out
          have hsz : (u8A boxL).size = 256 := by rw [u8A_size, boxL_len]
          have hone := u8A_one boxL
          obtain ⟨fin, hfe⟩ : ∃ x, u8A boxL = x := ⟨_, rfl⟩
          rw [hfe] at hfull hsz hone
          have HFE := Lib.hid hfe
          have HZ2 := Lib.hid hsz
          have HONE := Lib.hid hone
          have HRZ := Lib.hid hrz
          clear hfe hsz hone hrz HE HL HU HR ha hlt
          go_wp2_with (first
            | (with_reducible refine wpList_load_blk rfl 42 (.tmp 3) rfl ur rfl 42 fin _ hfull Try.underlying42 rfl (by rw [HZ2.out]; kernel_rfl) ?_)
            | (with_reducible refine wpList_store_blk rfl 42 (.tmp 0) (.tmp 58) rfl r fin rfl rfl 42 rs hrs (by rw [HZ2.out]; kernel_rfl) (by rw [HZ2.out, HRZ.out]) HONE.out ?_))
          refine bodyPost_ret (v := .agg fin) (results_cell_row (p := 0) (ty := 42) (by kernel_rfl) _ _ r 42 _ (0, 0) _ rfl (hrs.row fin) Try.underlying42 rfl (by rw [HZ2.out]; kernel_rfl)) rfl ⟨by rw [HFE.out], ?_⟩
          rw [HRR.out]
          exact below_row hbel (by have := hbel.size; have := HRR.out; omega) (Nat.le_refl _) _
end Go.Proofs.Ytcajlmlblkdjoaa
