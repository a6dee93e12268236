/- The document's twice, and its table of the substitution. The document's table of the substitution. The document's round keys. A piece of a function's code, taken out of the translation by its number, so that a theorem can speak of it without its text. One byte of a mixed column: the document's region, by itself. -/
import Derived.Test.YtobealijkbnojaaDoorAesB
import Derived.Test.YtobealijkbnojaaDoorU8
import Derived.BigQuiet
import Derived.RegionTactic
import Derived.BigRegion
import Derived.Deep.RegionHeld3
import Derived.StillTailTactics
import Derived.Test.YtobealijkbnojaaDoorProg
import Derived.IntWalk
namespace Go.Proofs.YtobealijkbnojaaDoor
open Go.RowKit

theorem retU8 {a b : Int} (h : a = b) : Ending.returned (.int .u8 a) = .returned (.int .u8 b) := by rw [h]
set_option maxHeartbeats 400000 in
theorem rtwice_any (x : UInt8) (w : World) :
    Calls Tryd.prog 121 #[.int .u8 (x.toNat : Int)] w fun e w' => e = .returned (.int .u8 ((twU x).toNat : Int)) ∧ w = w' := by
  have hx := x.toNat_lt
  obtain ⟨h1, h2⟩ := twU_val x
  have H1 := Lib.hid h1
  have H2 := Lib.hid h2
  clear h1 h2
  by_cases h : 128 ≤ x.toNat
  · have hi : (128 : Int) ≤ (x.toNat : Int) := by omega
    go_enter Tryd.func121, Tryd.ntmps121
    go_wp2_with fail
    go_ret
    exact ⟨retU8 (H1.out h), rfl⟩
  · have hi : ¬ (128 : Int) ≤ (x.toNat : Int) := by omega
    go_enter Tryd.func121, Tryd.ntmps121
    go_wp2_with fail
    go_ret
    exact ⟨retU8 (by have := H2.out (by omega); omega), rfl⟩
end Go.Proofs.YtobealijkbnojaaDoor
namespace Go.Proofs.YtobealijkbnojaaDoor
open Go.RowKit

theorem zero256 (w : World) : (zeroValue 123).run Tryd.prog w = .ok (.agg (u8A (List.replicate 256 0))) w := by kernel_rfl

set_option maxRecDepth 100000 in
set_option maxHeartbeats 4000000 in
theorem rboxes_any (w : World) :
    Calls Tryd.prog 99 #[] w fun e w' => e = .returned (.agg (u8A boxL)) ∧ Below w.heap.size w w' := by
  have hz := fun W => zero256 W
  obtain ⟨Z, hZ⟩ : ∃ Z, u8A (List.replicate 256 0) = Z := ⟨_, rfl⟩
  rw [hZ] at hz
  have HZ := Lib.hid hZ
  clear hZ
  go_enter Tryd.func99, Tryd.ntmps99
  go_wp2_with fail
  generalize hw1 : World.alloc (World.alloc (World.alloc (World.alloc w _) _) _) _ = w1
  obtain ⟨r, hr⟩ : ∃ y, w.heap.size = y := ⟨_, rfl⟩
  obtain ⟨er, her⟩ : ∃ y, r + 1 = y := ⟨_, rfl⟩
  obtain ⟨lr, hlr⟩ : ∃ y, er + 1 = y := ⟨_, rfl⟩
  obtain ⟨ur, hur⟩ : ∃ y, lr + 1 = y := ⟨_, rfl⟩
  have hblk : Blk w1 r Z 123 ∧ Blk w1 er Z 123 ∧ Blk w1 lr Z 123 ∧ Blk w1 ur Z 123 ∧ Below r w w1 := by
    have a1 := Blk.new w Z 123
    have a2 := Blk.new (w.alloc (.cells Z 123)) Z 123
    have a3 := Blk.new ((w.alloc (.cells Z 123)).alloc (.cells Z 123)) Z 123
    have a4 := Blk.new (((w.alloc (.cells Z 123)).alloc (.cells Z 123)).alloc (.cells Z 123)) Z 123
    simp only [World.size_alloc, hr, her, hlr, hur] at a1 a2 a3 a4
    rw [← hw1]
    refine ⟨((a1.alloc _).alloc _).alloc _, (a2.alloc _).alloc _, a3.alloc _, a4, ?_⟩
    rw [← hr]
    exact ((((Below.refl _ _).alloc (Nat.le_refl _) _).alloc (by simp) _).alloc (by simp; omega) _).alloc (by simp; omega) _
  rw [← HZ.out] at hblk
  obtain ⟨hbr, hbe, hbl, hbu, hbel⟩ := hblk
  have HE1 := Lib.hid (show Blk w1 er (u8A (padB 256 (powT 0))) 123 from hbe)
  have HL1 := Lib.hid (show Blk w1 lr (u8A (logT 0)) 123 from hbl)
  have HU1 := Lib.hid (show Blk w1 ur (u8A (padB 256 (boxTo 0))) 123 from hbu)
  have HR1 := Lib.hid (show ∃ rs, Blk w1 r rs 123 ∧ rs.size = 256 from ⟨_, hbr, by rw [u8A_size]; exact List.length_replicate ..⟩)
  rw [hr, her, hlr, hur]
  have hre : r < er := by omega
  have hel : er < lr := by omega
  have hlu : lr < ur := by omega
  have HRR := Lib.hid hr
  clear hr her hlr hur hw1 hbr hbe hbl hbu hz HZ
  go_loopw [4, 5] (fun x t wr => ∃ n : Nat, n ≤ 255 ∧ t = .int .i64 n ∧ x = .int .u8 ((powU n).toNat : Int) ∧ Below r w wr ∧ Hid (Blk wr er (u8A (padB 256 (powT n))) 123) ∧ Hid (Blk wr lr (u8A (logT n)) 123) ∧ Hid (Blk wr ur (u8A (padB 256 (boxTo 0))) 123) ∧ Hid (∃ rs, Blk wr r rs 123 ∧ rs.size = 256)) (fun _ t _ => 255 - (intOf t).toNat)
  case atStart => exact ⟨0, by omega, rfl, rfl, hbel, HE1, HL1, HU1, HR1⟩
  case round =>
    clear hbel HE1 HL1 HU1 HR1
    obtain ⟨n, hn, rfl, rfl, hbel, HE, HL, HU, HR⟩ := hrel
    by_cases hlt : n < 255
    · have hni : (n : Int) < 255 := by omega
      have hx := (powU n).toNat_lt
      have HP := Lib.hid (powT_succ n)
      have HPL := Lib.hid (powT_len n)
      have HLG := Lib.hid (show logT (n + 1) = (logT n).set (powU n).toNat (UInt8.ofNat n) from rfl)
      have HPU := Lib.hid (show powU (n + 1) = powU n ^^^ twU (powU n) from rfl)
      have hf1 := HE.out.frozen n
      have hf2 := HL.out.frozen (powU n).toNat
      obtain ⟨o1, ho1⟩ : ∃ old, wr.cell? ⟨er, n, none⟩ = some old := by
        obtain ⟨o, p⟩ := u8A_get (bs := padB 256 (powT n)) (i := n) (by rw [padB_len (by rw [powT_len]; omega)]; omega)
        exact ⟨o, (HE.out.cell n).trans p⟩
      obtain ⟨o2, ho2⟩ : ∃ old, wr.cell? ⟨lr, (powU n).toNat, none⟩ = some old := by
        obtain ⟨o, p⟩ := u8A_get (bs := logT n) (i := (powU n).toNat) (by rw [logT_len]; exact hx)
        exact ⟨o, (HL.out.cell _).trans p⟩
      generalize powU n = x at *
      have hxi : (x.toNat : Int) < 256 := by omega
      go_wp2_with fail
      refine (rtwice_any x _).mono ?_
      rintro e w2 ⟨rfl, rfl⟩
      have hst : Below r w ((wr.setCell ⟨er, n, none⟩ (.int .u8 (x.toNat : Int))).setCell ⟨lr, x.toNat, none⟩ (.int .u8 (n : Int))) ∧ Blk ((wr.setCell ⟨er, n, none⟩ (.int .u8 (x.toNat : Int))).setCell ⟨lr, x.toNat, none⟩ (.int .u8 (n : Int))) er (u8A (padB 256 (powT (n + 1)))) 123 ∧ Blk ((wr.setCell ⟨er, n, none⟩ (.int .u8 (x.toNat : Int))).setCell ⟨lr, x.toNat, none⟩ (.int .u8 (n : Int))) lr (u8A (logT (n + 1))) 123 ∧ Blk ((wr.setCell ⟨er, n, none⟩ (.int .u8 (x.toNat : Int))).setCell ⟨lr, x.toNat, none⟩ (.int .u8 (n : Int))) ur (u8A (padB 256 (boxTo 0))) 123 ∧ ∃ rs, Blk ((wr.setCell ⟨er, n, none⟩ (.int .u8 (x.toNat : Int))).setCell ⟨lr, x.toNat, none⟩ (.int .u8 (n : Int))) r rs 123 ∧ rs.size = 256 := by
        refine ⟨(hbel.setCell (by simp; omega) _).setCell (by simp; omega) _, ?_, ?_, (HU.out.other (by simp; omega) _).other (by simp; omega) _, ?_⟩
        · rw [HP.out]
          exact (HE.out.byte HPL.out (by omega) rfl).other (by simp; omega) _
        · rw [HLG.out]
          exact (HL.out.other (by simp; omega) _).put _ (by rw [UInt8.toNat_ofNat']; omega)
        · obtain ⟨rs, h, hz⟩ := HR.out
          exact ⟨rs, (h.other (by simp; omega) _).other (by simp; omega) _, hz⟩
      generalize (wr.setCell ⟨er, n, none⟩ (.int .u8 (x.toNat : Int))).setCell ⟨lr, x.toNat, none⟩ (.int .u8 (n : Int)) = w3 at hst ⊢
      obtain ⟨h1, h2, h3, h4, h5⟩ := hst
      have G2 := Lib.hid h2
      have G3 := Lib.hid h3
      have G4 := Lib.hid h4
      have G5 := Lib.hid h5
      clear hf1 hf2 ho1 ho2 h2 h3 h4 h5 HE HL HU HR hbel
      go_wp2_with fail
      go_roundw
      case rel => exact ⟨n + 1, by omega, by go_num, by rw [HPU.out, xor_byte8], h1, G2, G3, G4, G5⟩
      case measure => simp [intOf]; omega
    · obtain rfl : n = 255 := by omega
      clear hn hlt
      go_wp2_with fail
      go_loopw [25] (fun t wr => ∃ a : Nat, a ≤ 256 ∧ t = .int .i64 a ∧ Below r w wr ∧ Hid (Blk wr er (u8A (padB 256 (powT 255))) 123) ∧ Hid (Blk wr lr (u8A (logT 255)) 123) ∧ Hid (Blk wr ur (u8A (padB 256 (boxTo a))) 123) ∧ Hid (∃ rs, Blk wr r rs 123 ∧ rs.size = 256)) (fun t _ => 256 - (intOf t).toNat)
      case atStart => exact ⟨0, by omega, rfl, hbel, HE, HL, HU, HR⟩
      case round =>
        clear hbel HE HL HU HR
        obtain ⟨a, ha, rfl, hbel, HE, HL, HU, HR⟩ := hrel
        by_cases hlt : a < 256
        · have hai : (a : Int) < 256 := by omega
          by_cases ha0 : a = 0
          · have hap : ¬ (0 : Int) < (a : Int) := by omega
            have HBX := Lib.hid (show boxU a = affU 0 5 by subst ha0; rfl)
            clear ha0
            go_wp2_with fail
            rw [show (Value.int IntKind.u8 0) = Value.int IntKind.u8 (((0 : UInt8).toNat : Nat) : Int) from rfl]
            have hxl := (0 : UInt8).toNat_lt
            obtain ⟨x, hx0⟩ : ∃ x : UInt8, 0 = x := ⟨_, rfl⟩
            rw [hx0] at HBX hxl ⊢
            clear hx0
            obtain ⟨wo, rfl⟩ : ∃ y : World, y = wr := ⟨_, rfl⟩
            go_loopw [8, 9] (fun s t wq => ∃ k : Nat, k ≤ 5 ∧ t = .int .i64 k ∧ s = .int .u8 ((affU x k).toNat : Int) ∧ wq = wo) (fun _ t _ => 5 - (intOf t).toNat)
            case atStart => exact ⟨0, by omega, rfl, rfl, rfl⟩
            case round =>
              obtain ⟨k, hk, rfl, rfl, rfl⟩ := hrel
              by_cases hk5 : k < 5
              · have hki : (k : Int) < 5 := by omega
                have hk8 : (0 : Int) ≤ 8 - (k : Int) := by omega
                have hkt : (8 - (k : Int)).toNat = 8 - k := by omega
                have HV := Lib.hid (affU_val x k (affU x k))
                have HA := Lib.hid (show affU x (k + 1) = affU x k ^^^ UInt8.ofNat (x.toNat * 2 ^ k % 256 ||| x.toNat / 2 ^ (8 - k)) from rfl)
                have hs := (affU x k).toNat_lt
                generalize affU x k = s at *
                go_wp2_with fail
                go_roundw
                case rel => exact ⟨k + 1, by omega, by go_num, by rw [HA.out, ← HV.out], trivial⟩
                case measure => simp [intOf]; omega
              · obtain rfl : k = 5 := by omega
                have hk5i : ¬ ((5 : Nat) : Int) < 5 := by omega
                have hf := HU.out.frozen a
                obtain ⟨o, ho⟩ : ∃ old, wr.cell? ⟨ur, a, none⟩ = some old := by
                  obtain ⟨o, p⟩ := u8A_get (bs := padB 256 (boxTo a)) (i := a) (by rw [padB_len (by rw [boxTo_len]; omega)]; omega)
                  exact ⟨o, (HU.out.cell a).trans p⟩
                have HBS := Lib.hid (show boxTo (a + 1) = boxTo a ++ [affU x 5] by rw [boxTo_succ, HBX.out])
                have HBL := Lib.hid (boxTo_len a)
                have hs := (affU x 5).toNat_lt
                generalize affU x 5 = s at *
                clear hk
                go_wp2_with fail
                go_roundw
                case rel =>
                  first
                    | refine ⟨a + 1, by omega, by go_num, hbel.setCell (by simp; omega) _, Lib.hid (HE.out.other (by simp; omega) _), Lib.hid (HL.out.other (by simp; omega) _), Lib.hid ?_, Lib.hid ?_⟩
                    | ((repeat apply Exists.intro); refine ⟨⟨a + 1, by omega, by go_num, hbel.setCell (by simp; omega) _, Lib.hid (HE.out.other (by simp; omega) _), Lib.hid (HL.out.other (by simp; omega) _), Lib.hid ?_, Lib.hid ?_⟩, by (repeat' apply And.intro) <;> rfl⟩)
                  · rw [HBS.out]
                    exact HU.out.byte HBL.out (by omega) rfl
                  · obtain ⟨rs, h, hz⟩ := HR.out
                    exact ⟨rs, h.other (by simp; omega) _, hz⟩
                case measure => simp [intOf]; omega
          · have hap : (0 : Int) < (a : Int) := by omega
            have hcl := (HL.out.cell a).trans (u8A_at (bs := logT 255) (i := a) (by rw [logT_len]; omega))
            have hiv : invU a = (powT 255).getD ((255 - ((logT 255).getD a 0).toNat) % 255) 0 := by unfold invU; rw [if_pos (by omega)]
            have hy := ((logT 255).getD a 0).toNat_lt
            generalize (logT 255).getD a 0 = y at *
            obtain ⟨j, hj⟩ : ∃ j, (255 - y.toNat) % 255 = j := ⟨_, rfl⟩
            rw [hj] at hiv
            have hj255 : j < 255 := by omega
            have hoff : (-(y.toNat : Int) % 255).toNat = j := by omega
            have hlo : (0 : Int) ≤ (255 - (y.toNat : Int)) % 255 := by omega
            have hhi : (255 - (y.toNat : Int)) % 255 < 256 := by omega
            have hce := (HE.out.cell j).trans (u8A_at (bs := padB 256 (powT 255)) (i := j) (by rw [padB_len (by rw [powT_len]; omega)]; omega))
            have hpd : (padB 256 (powT 255)).getD j 0 = invU a := by
              rw [hiv]
              unfold padB
              rw [List.getD_eq_getElem?_getD, List.getD_eq_getElem?_getD, List.getElem?_append_left (by rw [powT_len]; exact hj255)]
            rw [hpd] at hce
            have hxl := (invU a).toNat_lt
            have HBX := Lib.hid (show boxU a = affU (invU a) 5 from rfl)
            generalize invU a = x at *
            clear hj hiv hpd
            go_wp2_with fail
            obtain ⟨wo, rfl⟩ : ∃ y : World, y = wr := ⟨_, rfl⟩
            go_loopw [8, 9] (fun s t wq => ∃ k : Nat, k ≤ 5 ∧ t = .int .i64 k ∧ s = .int .u8 ((affU x k).toNat : Int) ∧ wq = wo) (fun _ t _ => 5 - (intOf t).toNat)
            case atStart => exact ⟨0, by omega, rfl, rfl, rfl⟩
            case round =>
              obtain ⟨k, hk, rfl, rfl, rfl⟩ := hrel
              by_cases hk5 : k < 5
              · have hki : (k : Int) < 5 := by omega
                have hk8 : (0 : Int) ≤ 8 - (k : Int) := by omega
                have hkt : (8 - (k : Int)).toNat = 8 - k := by omega
                have HV := Lib.hid (affU_val x k (affU x k))
                have HA := Lib.hid (show affU x (k + 1) = affU x k ^^^ UInt8.ofNat (x.toNat * 2 ^ k % 256 ||| x.toNat / 2 ^ (8 - k)) from rfl)
                have hs := (affU x k).toNat_lt
                generalize affU x k = s at *
                go_wp2_with fail
                go_roundw
                case rel => exact ⟨k + 1, by omega, by go_num, by rw [HA.out, ← HV.out], trivial⟩
                case measure => simp [intOf]; omega
              · obtain rfl : k = 5 := by omega
                have hk5i : ¬ ((5 : Nat) : Int) < 5 := by omega
                have hf := HU.out.frozen a
                obtain ⟨o, ho⟩ : ∃ old, wr.cell? ⟨ur, a, none⟩ = some old := by
                  obtain ⟨o, p⟩ := u8A_get (bs := padB 256 (boxTo a)) (i := a) (by rw [padB_len (by rw [boxTo_len]; omega)]; omega)
                  exact ⟨o, (HU.out.cell a).trans p⟩
                have HBS := Lib.hid (show boxTo (a + 1) = boxTo a ++ [affU x 5] by rw [boxTo_succ, HBX.out])
                have HBL := Lib.hid (boxTo_len a)
                have hs := (affU x 5).toNat_lt
                generalize affU x 5 = s at *
                clear hk
                go_wp2_with fail
                go_roundw
                case rel =>
                  first
                    | refine ⟨a + 1, by omega, by go_num, hbel.setCell (by simp; omega) _, Lib.hid (HE.out.other (by simp; omega) _), Lib.hid (HL.out.other (by simp; omega) _), Lib.hid ?_, Lib.hid ?_⟩
                    | ((repeat apply Exists.intro); refine ⟨⟨a + 1, by omega, by go_num, hbel.setCell (by simp; omega) _, Lib.hid (HE.out.other (by simp; omega) _), Lib.hid (HL.out.other (by simp; omega) _), Lib.hid ?_, Lib.hid ?_⟩, by (repeat' apply And.intro) <;> rfl⟩)
                  · rw [HBS.out]
                    exact HU.out.byte HBL.out (by omega) rfl
                  · obtain ⟨rs, h, hz⟩ := HR.out
                    exact ⟨rs, h.other (by simp; omega) _, hz⟩
                case measure => simp [intOf]; omega
        · obtain rfl : a = 256 := by omega
          have hge : ¬ ((256 : Nat) : Int) < 256 := by omega
          have hfull : Blk wr ur (u8A boxL) 123 := by
            have := HU.out
            rwa [padB_full (boxTo_len 256)] at this
          obtain ⟨rs, hrs, hrz⟩ := HR.out
          have hsz : (u8A boxL).size = 256 := by rw [u8A_size, boxL_len]
          have hone := u8A_one boxL
          obtain ⟨fin, hfe⟩ : ∃ x, u8A boxL = x := ⟨_, rfl⟩
          rw [hfe] at hfull hsz hone
          have HFE := Lib.hid hfe
          have HZ2 := Lib.hid hsz
          have HONE := Lib.hid hone
          have HRZ := Lib.hid hrz
          clear hfe hsz hone hrz HE HL HU HR ha hlt
          go_wp2_with (first
            | (with_reducible refine wpList_load_blk rfl 123 (.tmp 3) rfl ur rfl 123 fin _ hfull Tryd.underlying123 rfl (by rw [HZ2.out]; kernel_rfl) ?_)
            | (with_reducible refine wpList_store_blk rfl 123 (.tmp 0) (.tmp 58) rfl r fin rfl rfl 123 rs hrs (by rw [HZ2.out]; kernel_rfl) (by rw [HZ2.out, HRZ.out]) HONE.out ?_))
          refine bodyPost_ret (v := .agg fin) (results_cell_row (p := 0) (ty := 123) (by kernel_rfl) _ _ r 123 _ (0, 0) _ rfl (hrs.row fin) Tryd.underlying123 rfl (by rw [HZ2.out]; kernel_rfl)) rfl ⟨by rw [HFE.out], ?_⟩
          rw [HRR.out]
          exact below_row hbel (by have := hbel.size; have := HRR.out; omega) (Nat.le_refl _) _
end Go.Proofs.YtobealijkbnojaaDoor
namespace Go.Proofs.YtobealijkbnojaaDoor
open Go.RowKit

theorem zero176 (w : World) : (zeroValue 125).run Tryd.prog w = .ok (.agg (u8A (List.replicate 176 0))) w := by kernel_rfl

set_option maxRecDepth 100000 in
set_option maxHeartbeats 4000000 in
theorem rexpand_any (sb : Nat) (k : List UInt8) (w : World) (hk : k.length = 16) (hs : Blk w sb (u8A boxL) 123) :
    Calls Tryd.prog 100 #[.pointer (some ⟨sb, 0, none⟩), .agg (u8A k)] w fun e w' => e = .returned (.agg (u8A (keysTo k 11))) ∧ Below w.heap.size w w' := by
  have hz := fun W => zero176 W
  obtain ⟨Z, hZ⟩ : ∃ Z, u8A (List.replicate 176 0) = Z := ⟨_, rfl⟩
  rw [hZ] at hz
  have HZ := Lib.hid hZ
  have HK := Lib.hid hk
  have HS := Lib.hid hs
  have hkz : (u8A k).size = 16 := by rw [u8A_size, hk]
  have hko := u8A_one k
  have hkd : u8A k = (Lib.byteCells k).toArray := rfl
  have hkb : u8A k = u8A (padB 16 k) := by rw [padB_full hk]
  obtain ⟨kA, hke⟩ : ∃ K, u8A k = K := ⟨_, rfl⟩
  rw [hke] at hkz hko hkd ⊢
  have HKE := Lib.hid hke
  have HKZ := Lib.hid hkz
  have HKO := Lib.hid hko
  have HKD := Lib.hid hkd
  clear hZ hk hs hkz hko hkd hkb hke
  have hb3 : Blk (((w.alloc (.cells kA 23)).alloc (.cells Z 125)).alloc (.cells Z 125)) (w.heap.size + 1 + 1) (u8A (padB 176 (keysTo k 0))) 125 := by
    have := Blk.new ((w.alloc (.cells kA 23)).alloc (.cells Z 125)) Z 125
    simp only [World.size_alloc] at this
    rw [show padB 176 (keysTo k 0) = List.replicate 176 0 from rfl, HZ.out]
    exact this
  have hth : (((w.alloc (.cells kA 23)).alloc (.cells Z 125)).alloc (.cells Z 125)).there (w.heap.size + 1 + 1) 0 kA.size := hb3.there 0 kA.size (by rw [HKZ.out, padB_len (by simp [keysTo])]; omega)
  have HB3 := Lib.hid hb3
  have HTH := Lib.hid hth
  clear hb3 hth
  go_enter Tryd.func100, Tryd.ntmps100
  go_wp2_with (first
    | (with_reducible refine wpList_load_blk rfl 23 (.tmp 3) rfl w.heap.size rfl 23 kA _ (((Blk.new w _ _).alloc _).alloc _) Tryd.underlying23 rfl (by rw [HKZ.out]; kernel_rfl) ?_)
    | (with_reducible refine wpList_store_mid rfl 22 (.tmp 12) (.tmp 11) rfl (w.heap.size + 1 + 1) 0 kA rfl rfl HTH.out (by rw [HKZ.out]; kernel_rfl) HKO.out ?_
       generalize hw1 : World.setCells _ _ _ _ = w1))
  obtain ⟨r, hr⟩ : ∃ y, w.heap.size = y := ⟨_, rfl⟩
  obtain ⟨rr, hrr⟩ : ∃ y, r + 1 = y := ⟨_, rfl⟩
  obtain ⟨ob, hob⟩ : ∃ y, rr + 1 = y := ⟨_, rfl⟩
  have hst : Below r w w1 ∧ Blk w1 ob (u8A (padB 176 (keysTo k 1))) 125 ∧ (∃ rs, Blk w1 rr rs 125 ∧ rs.size = 176) ∧ w1.heap.size = ob + 1 := by
    have h3 := HB3.out
    simp only [hr, hrr, hob] at h3 hw1
    rw [← hw1]
    refine ⟨below_cells (by omega) _ _ ?_, ?_, ?_, ?_⟩
    · rw [← hr]
      exact (((Below.refl _ _).alloc (Nat.le_refl _) _).alloc (by simp) _).alloc (by simp; omega) _
    · have h4 := h3.row_ (n := 0) (m := k) rfl (by rw [HK.out]; omega)
      rw [show keysTo k 1 = keysTo k 0 ++ k from rfl, show kA.toList = Lib.byteCells k by rw [HKD.out]]
      exact h4
    · have a2 := Blk.new (w.alloc (.cells kA 23)) Z 125
      simp only [World.size_alloc, hr, hrr] at a2
      refine ⟨Z, Blk.otherCells (by omega) _ _ (a2.alloc _), by rw [← HZ.out, u8A_size]; exact List.length_replicate ..⟩
    · rw [cells_size]
      simp only [World.size_alloc, hr, hrr, hob]
  obtain ⟨hbel, hob1, hrs1, hsz1⟩ := hst
  have HRR := Lib.hid hr
  have HO1 := Lib.hid hob1
  have HR1 := Lib.hid hrs1
  have HS1 := Lib.hid (show Blk w1 sb (u8A boxL) 123 from HS.out.below hbel (by rw [← hr]; exact HS.out.lt))
  have hsb : sb < r := by rw [← hr]; exact HS.out.lt
  have hro : r < rr := by omega
  have hrob : rr < ob := by omega
  rw [hr, hrr, hob]
  clear hob1 hrs1 HB3 HTH HKZ HKO HKD HKE hz HZ hw1 hr hrr hob HS
  go_loopw [6, 7] (fun c t wr => ∃ q : Nat, q ≤ 10 ∧ t = .int .i64 ((q : Int) + 1) ∧ c = .int .u8 ((conU q).toNat : Int) ∧ Below r w wr ∧ Hid (Blk wr ob (u8A (padB 176 (keysTo k (q + 1)))) 125) ∧ Hid (∃ rs, Blk wr rr rs 125 ∧ rs.size = 176) ∧ Hid (Blk wr sb (u8A boxL) 123) ∧ ob + 1 ≤ wr.heap.size) (fun _ t _ => 11 - (intOf t).toNat)
  case atStart => exact ⟨0, by omega, rfl, rfl, hbel, HO1, HR1, HS1, by omega⟩
  case round =>
    clear hbel HO1 HR1 HS1 hsz1
    obtain ⟨q, hq, rfl, rfl, hbel, HO, HR, HS, hsz⟩ := hrel
    by_cases hlt : q < 10
    · have hqi : (q : Int) + 1 < 11 := by omega
      have hq11 : (q : Int) < 11 := by omega
      have hrng := HO.out.range (q * 16) 16
      rw [show ((padB 176 (keysTo k (q + 1))).drop (q * 16)).take 16 = rk k q by
        rw [Nat.mul_comm]
        unfold padB
        rw [List.drop_append_of_le_length (by rw [keysTo_len HK.out]; omega), keysTo_last HK.out, List.take_append_of_le_length (by rw [rk_len HK.out]; exact Nat.le_refl _), List.take_of_length_le (by rw [rk_len HK.out]; exact Nat.le_refl _)]] at hrng
      have HRK := Lib.hid (rk_len HK.out q)
      have HRN := Lib.hid (show rk k (q + 1) = kO (rk k q) (kT0 (rk k q) (conU q)) 16 from rfl)
      have HCN := Lib.hid (show conU (q + 1) = twU (conU q) from rfl)
      have HKN := Lib.hid (show keysTo k (q + 1 + 1) = keysTo k (q + 1) ++ rk k (q + 1) from rfl)
      have HKL := Lib.hid (keysTo_len HK.out (q + 1))
      have HRG := Lib.hid hrng
      generalize rk k q = p at *
      generalize conU q = c at *
      have hsp : (Lib.byteCells p).toArray.size = 16 := by rw [List.size_toArray, Lib.byteCells_length, HRK.out]
      have hop : (Lib.byteCells p).toArray.all (·.oneCell') = true := u8A_one p
      have hip : (Tryd.prog.info? 22).map (·.size) = some (Lib.byteCells p).length := by rw [Lib.byteCells_length, HRK.out]; kernel_rfl
      have HSP := Lib.hid hsp
      have HOP := Lib.hid hop
      have HIP := Lib.hid hip
      have hzw := hbel.size
      clear hrng hsp hop hip
      go_wp2_with (first
        | (with_reducible refine wpList_load_mid rfl 22 (.tmp 19) rfl ob (q * 16) rfl (Lib.byteCells p) _ HRG.out Tryd.underlying22 rfl HIP.out ?_)
        | (with_reducible refine wpList_store_blkTo rfl 22 (.tmp 8) (.tmp 20) rfl rfl wr.heap.size (Lib.byteCells p).toArray rfl rfl 22 _ (Blk.new wr _ _) (by rw [HSP.out]; kernel_rfl) (by rw [HSP.out]; kernel_rfl) HOP.out ?_
           generalize hw2 : World.setRow _ _ _ = w2))
      obtain ⟨pb, hpb⟩ : ∃ y, wr.heap.size = y := ⟨_, rfl⟩
      have hst : Below r w w2 ∧ Blk w2 ob (u8A (padB 176 (keysTo k (q + 1)))) 125 ∧ (∃ rs, Blk w2 rr rs 125 ∧ rs.size = 176) ∧ Blk w2 sb (u8A boxL) 123 ∧ Blk w2 pb (u8A p) 22 ∧ w2.heap.size = pb + 1 := by
        rw [← hw2, ← hpb]
        refine ⟨below_row (hbel.alloc (by omega) _) (by simp; omega) (by omega) _, (HO.out.alloc _).rowOther (by omega) _, ?_, (HS.out.alloc _).rowOther (by omega) _, (Blk.new wr _ _).row _, by simp⟩
        obtain ⟨rs, h, hz⟩ := HR.out
        exact ⟨rs, (h.alloc _).rowOther (by omega) _, hz⟩
      obtain ⟨hbel2, g1, g2, g3, g4, hsz2⟩ := hst
      have G1 := Lib.hid g1
      have G2 := Lib.hid g2
      have G3 := Lib.hid g3
      have G4 := Lib.hid g4
      rw [hpb]
      have hpo : ob + 1 ≤ pb := by omega
      clear hw2 hpb g1 g2 HO HR HS hbel hsz hzw
      have c12 := g4.byteAt (i := 12) (by rw [HRK.out]; decide)
      have c13 := g4.byteAt (i := 13) (by rw [HRK.out]; decide)
      have c14 := g4.byteAt (i := 14) (by rw [HRK.out]; decide)
      have c15 := g4.byteAt (i := 15) (by rw [HRK.out]; decide)
      have x12 := (p.getD 12 0).toNat_lt
      have x13 := (p.getD 13 0).toNat_lt
      have x14 := (p.getD 14 0).toNat_lt
      have x15 := (p.getD 15 0).toNat_lt
      have s12 := g3.byteAt (i := (p.getD 12 0).toNat) (by rw [boxL_len]; exact x12)
      have s13 := g3.byteAt (i := (p.getD 13 0).toNat) (by rw [boxL_len]; exact x13)
      have s14 := g3.byteAt (i := (p.getD 14 0).toNat) (by rw [boxL_len]; exact x14)
      have s15 := g3.byteAt (i := (p.getD 15 0).toNat) (by rw [boxL_len]; exact x15)
      have HT0 := Lib.hid (show kT0 p c = [boxL.getD (p.getD 13 0).toNat 0 ^^^ c, boxL.getD (p.getD 14 0).toNat 0, boxL.getD (p.getD 15 0).toNat 0, boxL.getD (p.getD 12 0).toNat 0] from rfl)
      have HXC := Lib.hid (xor_byte8 (boxL.getD (p.getD 13 0).toNat 0) c)
      generalize boxL.getD (p.getD 12 0).toNat 0 = y12 at *
      generalize boxL.getD (p.getD 13 0).toNat 0 = y13 at *
      generalize boxL.getD (p.getD 14 0).toNat 0 = y14 at *
      generalize boxL.getD (p.getD 15 0).toNat 0 = y15 at *
      generalize p.getD 12 0 = z12 at *
      generalize p.getD 13 0 = z13 at *
      generalize p.getD 14 0 = z14 at *
      generalize p.getD 15 0 = z15 at *
      have i12 : (z12.toNat : Int) < 256 := by omega
      have i13 : (z13.toNat : Int) < 256 := by omega
      have i14 : (z14.toNat : Int) < 256 := by omega
      have i15 : (z15.toNat : Int) < 256 := by omega
      have hlp := g4.lt
      have hls := g3.lt
      have hb22 : Below w2.heap.size w2 w2 := Below.refl _ _
      have HKEEP := Lib.hid (fun (W : World) (h : Below w2.heap.size w2 W) => (⟨(h.cell (p := ⟨pb, 12, none⟩) hlp).trans c12, (h.cell (p := ⟨pb, 13, none⟩) hlp).trans c13, (h.cell (p := ⟨pb, 14, none⟩) hlp).trans c14, (h.cell (p := ⟨pb, 15, none⟩) hlp).trans c15, (h.cell (p := ⟨sb, z12.toNat, none⟩) hls).trans s12, (h.cell (p := ⟨sb, z13.toNat, none⟩) hls).trans s13, (h.cell (p := ⟨sb, z14.toNat, none⟩) hls).trans s14, (h.cell (p := ⟨sb, z15.toNat, none⟩) hls).trans s15, h⟩ : W.cell? ⟨pb, 12, none⟩ = some (.int .u8 (z12.toNat : Int)) ∧ W.cell? ⟨pb, 13, none⟩ = some (.int .u8 (z13.toNat : Int)) ∧ W.cell? ⟨pb, 14, none⟩ = some (.int .u8 (z14.toNat : Int)) ∧ W.cell? ⟨pb, 15, none⟩ = some (.int .u8 (z15.toNat : Int)) ∧ W.cell? ⟨sb, z12.toNat, none⟩ = some (.int .u8 (y12.toNat : Int)) ∧ W.cell? ⟨sb, z13.toNat, none⟩ = some (.int .u8 (y13.toNat : Int)) ∧ W.cell? ⟨sb, z14.toNat, none⟩ = some (.int .u8 (y14.toNat : Int)) ∧ W.cell? ⟨sb, z15.toNat, none⟩ = some (.int .u8 (y15.toNat : Int)) ∧ Below w2.heap.size w2 W))
      clear g3 g4 c12 c13 c14 c15 s12 s13 s14 s15
      go_wp2_with fail
      go_region_held3 (fun W => W.cell? ⟨pb, 12, none⟩ = some (.int .u8 (z12.toNat : Int)) ∧ W.cell? ⟨pb, 13, none⟩ = some (.int .u8 (z13.toNat : Int)) ∧ W.cell? ⟨pb, 14, none⟩ = some (.int .u8 (z14.toNat : Int)) ∧ W.cell? ⟨pb, 15, none⟩ = some (.int .u8 (z15.toNat : Int)) ∧ W.cell? ⟨sb, z12.toNat, none⟩ = some (.int .u8 (y12.toNat : Int)) ∧ W.cell? ⟨sb, z13.toNat, none⟩ = some (.int .u8 (y13.toNat : Int)) ∧ W.cell? ⟨sb, z14.toNat, none⟩ = some (.int .u8 (y14.toNat : Int)) ∧ W.cell? ⟨sb, z15.toNat, none⟩ = some (.int .u8 (y15.toNat : Int)) ∧ Below w2.heap.size w2 W)
        ((first | exact HKEEP.out _ hb22.drew | exact HKEEP.out _ (hb22.alloc (Nat.le_refl _) _) | exact HKEEP.out _ (hb22.alloc (Nat.le_refl _) _).drew | exact HKEEP.out _ (hb22.drew.alloc (Nat.le_refl _) _)))
        (fail)
      have hst3 : Below r w ((w2.alloc (.cells #[.int .u8 (bits .xor .u8 (y13.toNat : Int) (c.toNat : Int)), .int .u8 (y14.toNat : Int), .int .u8 (y15.toNat : Int), .int .u8 (y12.toNat : Int)] 150)).drew) ∧ Below w2.heap.size w2 ((w2.alloc (.cells #[.int .u8 (bits .xor .u8 (y13.toNat : Int) (c.toNat : Int)), .int .u8 (y14.toNat : Int), .int .u8 (y15.toNat : Int), .int .u8 (y12.toNat : Int)] 150)).drew) ∧ Blk ((w2.alloc (.cells #[.int .u8 (bits .xor .u8 (y13.toNat : Int) (c.toNat : Int)), .int .u8 (y14.toNat : Int), .int .u8 (y15.toNat : Int), .int .u8 (y12.toNat : Int)] 150)).drew) w2.heap.size (u8A (kT0 p c)) 150 := by
        refine ⟨(hbel2.alloc (by rw [hsz2]; omega) _).drew, (hb22.alloc (Nat.le_refl _) _).drew, ?_⟩
        have := Blk.new w2 #[.int .u8 (bits .xor .u8 (y13.toNat : Int) (c.toNat : Int)), .int .u8 (y14.toNat : Int), .int .u8 (y15.toNat : Int), .int .u8 (y12.toNat : Int)] 150
        rw [HT0.out]
        rw [HXC.out] at this ⊢
        exact this
      generalize (w2.alloc (.cells #[.int .u8 (bits .xor .u8 (y13.toNat : Int) (c.toNat : Int)), .int .u8 (y14.toNat : Int), .int .u8 (y15.toNat : Int), .int .u8 (y12.toNat : Int)] 150)).drew = w3 at hst3 ⊢
      obtain ⟨hbel3, hb23, g5⟩ := hst3
      have hlb := G1.out.lt
      have G6 := Lib.hid (G1.out.below hb23 hlb)
      have G7 := Lib.hid (show ∃ rs, Blk w3 rr rs 125 ∧ rs.size = 176 by obtain ⟨rs, h, hz⟩ := G2.out; exact ⟨rs, h.below hb23 h.lt, hz⟩)
      have G8 := Lib.hid (G3.out.below hb23 hls)
      have G9 := Lib.hid (G4.out.below hb23 hlp)
      obtain ⟨tb, htb⟩ : ∃ y, pb + 1 = y := ⟨_, rfl⟩
      rw [hsz2, htb] at g5
      rw [htb]
      have hpt : pb < tb := by omega
      have G10 := Lib.hid g5
      have hsz3 : tb < w3.heap.size := g5.lt
      clear hbel2 hb23 g5 hb22 HKEEP G1 G2 G3 G4 htb hsz2 hlp hls hlb HT0 HXC
      clear x12 x13 x14 x15 i12 i13 i14 i15
      go_wp2_with fail
      refine (rtwice_any c _).mono ?_
      rintro e w' ⟨rfl, rfl⟩
      have HT4 := Lib.hid (show (kT0 p c).length = 4 from rfl)
      generalize kT0 p c = t0 at *
      go_wp2_with fail
      go_loopw [10] (fun t wq => ∃ i : Nat, i ≤ 16 ∧ t = .int .i64 i ∧ Below r w wq ∧ Hid (Blk wq ob (u8A (padB 176 (keysTo k (q + 1) ++ kO p t0 i))) 125) ∧ Hid (∃ rs, Blk wq rr rs 125 ∧ rs.size = 176) ∧ Hid (Blk wq sb (u8A boxL) 123) ∧ Hid (Blk wq pb (u8A p) 22) ∧ Hid (Blk wq tb (u8A (kT p t0 i)) 150)) (fun t _ => 16 - (intOf t).toNat)
      case atStart => exact ⟨0, by omega, rfl, hbel3, Lib.hid (by simpa [kO] using G6.out), G7, G8, G9, G10⟩
      case round =>
        clear hbel3 G6 G7 G8 G9 G10
        obtain ⟨i, hi, rfl, hbel, HO, HR, HS, HP, HT⟩ := hrel
        by_cases hlt16 : i < 16
        · have hii : (i : Int) < 16 := by omega
          have i4 : (i : Int) % 4 < 4 := by omega
          have i40 : (0 : Int) ≤ (i : Int) % 4 := by omega
          have i4n : ((i : Int) % 4).toNat = i % 4 := by omega
          have q1 : (0 : Int) ≤ (q : Int) + 1 := by omega
          have q1n : ((q : Int) + 1).toNat = q + 1 := by omega
          have cp := HP.out.byteAt (i := i) (by rw [HRK.out]; exact hlt16)
          have ct := HT.out.byteAt (i := i % 4) (by rw [kT_len, HT4.out]; omega)
          have HKT := Lib.hid (show kT p t0 (i + 1) = (kT p t0 i).set (i % 4) (p.getD i 0 ^^^ (kT p t0 i).getD (i % 4) 0) from rfl)
          have HKO2 := Lib.hid (show kO p t0 (i + 1) = kO p t0 i ++ [p.getD i 0 ^^^ (kT p t0 i).getD (i % 4) 0] from rfl)
          have HX := Lib.hid (xor_byte8 (p.getD i 0) ((kT p t0 i).getD (i % 4) 0))
          have hft := HT.out.frozen (i % 4)
          have hfo := HO.out.frozen ((q + 1) * 16 + i)
          obtain ⟨o, ho⟩ : ∃ old, wr.cell? ⟨ob, (q + 1) * 16 + i, none⟩ = some old := by
            obtain ⟨o, p⟩ := u8A_get (bs := padB 176 (keysTo k (q + 1) ++ kO p t0 i)) (i := (q + 1) * 16 + i) (by rw [padB_len (by rw [List.length_append, HKL.out, kO_len]; omega)]; omega)
            exact ⟨o, (HO.out.cell _).trans p⟩
          generalize p.getD i 0 = a0 at *
          generalize (kT p t0 i).getD (i % 4) 0 = b0 at *
          go_wp2_with fail
          refine wp_region_noPanic ?_
          go_region
          refine NoPanic.normal ?_
          have hlen : (keysTo k (q + 1) ++ kO p t0 i).length = (q + 1) * 16 + i := by rw [List.length_append, HKL.out, kO_len]; omega
          have hst4 : Below r w (wr.setCell ⟨ob, (q + 1) * 16 + i, none⟩ (.int .u8 (bits .xor .u8 (a0.toNat : Int) (b0.toNat : Int)))).drew ∧ Blk (wr.setCell ⟨ob, (q + 1) * 16 + i, none⟩ (.int .u8 (bits .xor .u8 (a0.toNat : Int) (b0.toNat : Int)))).drew ob (u8A (padB 176 (keysTo k (q + 1) ++ kO p t0 (i + 1)))) 125 ∧ (∃ rs, Blk (wr.setCell ⟨ob, (q + 1) * 16 + i, none⟩ (.int .u8 (bits .xor .u8 (a0.toNat : Int) (b0.toNat : Int)))).drew rr rs 125 ∧ rs.size = 176) ∧ Blk (wr.setCell ⟨ob, (q + 1) * 16 + i, none⟩ (.int .u8 (bits .xor .u8 (a0.toNat : Int) (b0.toNat : Int)))).drew sb (u8A boxL) 123 ∧ Blk (wr.setCell ⟨ob, (q + 1) * 16 + i, none⟩ (.int .u8 (bits .xor .u8 (a0.toNat : Int) (b0.toNat : Int)))).drew pb (u8A p) 22 ∧ Blk (wr.setCell ⟨ob, (q + 1) * 16 + i, none⟩ (.int .u8 (bits .xor .u8 (a0.toNat : Int) (b0.toNat : Int)))).drew tb (u8A (kT p t0 i)) 150 := by
            refine ⟨(hbel.setCell (by simp; omega) _).drew, ?_, ?_, HS.out.other (by simp; omega) _, HP.out.other (by simp; omega) _, HT.out.other (by simp; omega) _⟩
            · rw [HKO2.out, ← List.append_assoc]
              exact HO.out.byte hlen (by omega) HX.out
            · obtain ⟨rs, h, hz⟩ := HR.out
              exact ⟨rs, h.other (by simp; omega) _, hz⟩
          generalize (wr.setCell ⟨ob, (q + 1) * 16 + i, none⟩ (.int .u8 (bits .xor .u8 (a0.toNat : Int) (b0.toNat : Int)))).drew = w4 at hst4 ⊢
          obtain ⟨hbel4, g1, g2, g3, g4, g5⟩ := hst4
          have c4 : w4.cell? ⟨ob, (q + 1) * 16 + i, none⟩ = some (.int .u8 ((a0 ^^^ b0).toNat : Int)) := by
            rw [g1.byteAt (i := (q + 1) * 16 + i) (by rw [padB_len (by rw [List.length_append, HKL.out, kO_len]; omega)]; omega), HKO2.out, ← List.append_assoc, ← hlen]
            unfold padB
            simp [List.getD_eq_getElem?_getD]
          have G1 := Lib.hid g1
          have G2 := Lib.hid g2
          have G3 := Lib.hid g3
          have G4 := Lib.hid g4
          have G5 := Lib.hid g5
          have c5 := g5.frozen (i % 4)
          obtain ⟨o5, ho5⟩ : ∃ old, w4.cell? ⟨tb, i % 4, none⟩ = some old := ⟨_, g5.byteAt (i := i % 4) (by rw [kT_len, HT4.out]; omega)⟩
          have HV := Lib.hid (show kT p t0 (i + 1) = (kT p t0 i).set (i % 4) (a0 ^^^ b0) from HKT.out)
          generalize a0 ^^^ b0 = v at *
          clear g1 g2 g3 g4 g5 HO HR HS HP HT hbel hft hfo ho cp ct HX HKO2 HKT hlen
          have o176 : ((q : Int) + 1) < 11 := by omega
          go_wp2_with fail
          go_roundw
          case rel =>
            refine ⟨i + 1, by omega, by go_num, hbel4.setCell (by simp; omega) _, Lib.hid (G1.out.other (by simp; omega) _), Lib.hid ?_, Lib.hid (G3.out.other (by simp; omega) _), Lib.hid (G4.out.other (by simp; omega) _), Lib.hid ?_⟩
            · obtain ⟨rs, h, hz⟩ := G2.out
              exact ⟨rs, h.other (by simp; omega) _, hz⟩
            · rw [HV.out]
              exact G5.out.put _ rfl
          case measure => simp [intOf]; omega
        · obtain rfl : i = 16 := by omega
          have hge : ¬ ((16 : Nat) : Int) < 16 := by omega
          have HO16 := Lib.hid (show Blk wr ob (u8A (padB 176 (keysTo k (q + 1 + 1)))) 125 by rw [HKN.out, HRN.out]; exact HO.out)
          have HCQ := HCN.out
          have hszr : ob + 1 ≤ wr.heap.size := by have := HO.out.lt; omega
          clear HO HKN HRN HCN
          go_wp2_with fail
          go_roundw
          case rel => exact ⟨q + 1, by omega, by go_num, by rw [HCQ], hbel, HO16, HR, HS, hszr⟩
          case measure => simp [intOf]; omega
    · obtain rfl : q = 10 := by omega
      have hge : ¬ ((10 : Nat) : Int) + 1 < 11 := by omega
      have hfull : Blk wr ob (u8A (keysTo k 11)) 125 := by
        have := HO.out
        rwa [padB_full (keysTo_len HK.out 11)] at this
      obtain ⟨rs, hrs, hrz⟩ := HR.out
      have hsz11 : (u8A (keysTo k 11)).size = 176 := by rw [u8A_size, keysTo_len HK.out]
      have hone := u8A_one (keysTo k 11)
      obtain ⟨fin, hfe⟩ : ∃ x, u8A (keysTo k 11) = x := ⟨_, rfl⟩
      rw [hfe] at hfull hsz11 hone
      have HFE := Lib.hid hfe
      have HZ2 := Lib.hid hsz11
      have HONE := Lib.hid hone
      have HRZ := Lib.hid hrz
      clear hfe hsz11 hone hrz HO HR HS hq hlt
      go_wp2_with (first
        | (with_reducible refine wpList_load_blk rfl 125 (.tmp 5) rfl ob rfl 125 fin _ hfull Tryd.underlying125 rfl (by rw [HZ2.out]; kernel_rfl) ?_)
        | (with_reducible refine wpList_store_blk rfl 125 (.tmp 4) (.tmp 74) rfl rr fin rfl rfl 125 rs hrs (by rw [HZ2.out]; kernel_rfl) (by rw [HZ2.out, HRZ.out]) HONE.out ?_))
      refine bodyPost_ret (v := .agg fin) (results_cell_row (p := 4) (ty := 125) (by kernel_rfl) _ _ rr 125 _ (0, 0) _ rfl (hrs.row fin) Tryd.underlying125 rfl (by rw [HZ2.out]; kernel_rfl)) rfl ⟨by rw [HFE.out], ?_⟩
      rw [HRR.out]
      exact below_row hbel (by have := hbel.size; have := HRR.out; omega) (by omega) _
end Go.Proofs.YtobealijkbnojaaDoor
namespace Go.Proofs.YtobealijkbnojaaDoor
def regionOf (k : Nat) : Code → Option Code
  | .region id ops b => bif Nat.beq id k then some (.region id ops b) else none
  | .seq a b => match regionOf k a with
    | some c => some c
    | none => regionOf k b
  | .block _ c => regionOf k c
  | .loop c => regionOf k c
  | .scope c => regionOf k c
  | .cond _ a b => match regionOf k a with
    | some c => some c
    | none => regionOf k b
  | _ => none
end Go.Proofs.YtobealijkbnojaaDoor
namespace Go.Proofs.YtobealijkbnojaaDoor
open Go.RowKit

set_option maxRecDepth 100000 in
noncomputable def mixReg : Code := (Tryd.f101.body.bind (regionOf 26)).getD .skip
set_option maxRecDepth 1000000 in
set_option maxHeartbeats 20000000 in
theorem mix_reg {c0 c1 c2 c3 c4 c5 c6 c7 c8 c9 c11 c12 c16 c17 c18 c19 c20 c21 c22 c23 c24 c25 c26 c27 c28 c29 c30 c31 c32 c33 c34 c35 c36 c37 c38 c39 c40 c41 c42 c43 c44 c45 c46 c47 c48 c49 c50 c51 c52 c53 c54 c55 c56 c57 c58 c59 c60 c61 c62 c63 c64 c65 c66 c67 c68 c69 c70 c71 c72 c73 c74 c75 c76 c77 c78 c79 c80 c81 c82 c83 c84 c85 c86 c87 c88 c89 c90 c91 c92 c93 c94 c95 c96 c97 c98 c99 c100 c101 c102 c103 c104 c105 c106 c107 c108 c109 c110 c111 c112 c113 c114 c115 c116 c117 c118 c119 c120 c121 c122 c123 c124 c125 c126 c127 c128 c129 c130 c131 c132 c133 c134 c135 c136 c137 c138 c139 c140 c141 c142 c143 c144 : Value} {yb tb c i : Nat} {y0 : List UInt8} {wr : World} {Q : Exit → Act → World → Prop} (hlt4 : c < 4) (hi4 : i < 4) (hyt : yb < tb) (HY0 : Hid (y0.length = 16)) (HY : Hid (Blk wr yb (u8A (part (mixU y0) y0 (4 * c + i))) 22)) (HT : Hid (Blk wr tb (u8A (colU y0 c)) 150))
    (hQ : ∀ (u93 u94 u95 u96 u97 u98 u99 u100 u101 u102 u103 u104 u105 u106 u107 u108 u109 u110 u111 u112 u113 u114 u115 u116 u117 u118 u119 u120 u121 u122 u123 u124 u125 u126 : Value), Q .normal ⟨List.toArray (c0 :: c1 :: c2 :: c3 :: c4 :: c5 :: c6 :: c7 :: c8 :: c9 :: .pointer (some ⟨yb, 0, none⟩) :: c11 :: c12 :: .int .i64 (c : Int) :: .pointer (some ⟨tb, 0, none⟩) :: .int .i64 (i : Int) :: c16 :: c17 :: c18 :: c19 :: c20 :: c21 :: c22 :: c23 :: c24 :: c25 :: c26 :: c27 :: c28 :: c29 :: c30 :: c31 :: c32 :: c33 :: c34 :: c35 :: c36 :: c37 :: c38 :: c39 :: c40 :: c41 :: c42 :: c43 :: c44 :: c45 :: c46 :: c47 :: c48 :: c49 :: c50 :: c51 :: c52 :: c53 :: c54 :: c55 :: c56 :: c57 :: c58 :: c59 :: c60 :: c61 :: c62 :: c63 :: c64 :: c65 :: c66 :: c67 :: c68 :: c69 :: c70 :: c71 :: c72 :: c73 :: c74 :: c75 :: c76 :: c77 :: c78 :: c79 :: c80 :: c81 :: c82 :: c83 :: c84 :: c85 :: c86 :: c87 :: c88 :: c89 :: c90 :: c91 :: c92 :: u93 :: u94 :: u95 :: u96 :: u97 :: u98 :: u99 :: u100 :: u101 :: u102 :: u103 :: u104 :: u105 :: u106 :: u107 :: u108 :: u109 :: u110 :: u111 :: u112 :: u113 :: u114 :: u115 :: u116 :: u117 :: u118 :: u119 :: u120 :: u121 :: u122 :: u123 :: u124 :: u125 :: u126 :: c127 :: c128 :: c129 :: c130 :: c131 :: c132 :: c133 :: c134 :: c135 :: c136 :: c137 :: c138 :: c139 :: c140 :: c141 :: c142 :: c143 :: c144 :: []), []⟩ ((wr.setCell ⟨yb, 4 * c + i, none⟩ (.int .u8 (((mixU y0).getD (4 * c + i) 0).toNat : Int))).drew)) :
    Code.wp Tryd.prog mixReg Q ⟨List.toArray (c0 :: c1 :: c2 :: c3 :: c4 :: c5 :: c6 :: c7 :: c8 :: c9 :: .pointer (some ⟨yb, 0, none⟩) :: c11 :: c12 :: .int .i64 (c : Int) :: .pointer (some ⟨tb, 0, none⟩) :: .int .i64 (i : Int) :: c16 :: c17 :: c18 :: c19 :: c20 :: c21 :: c22 :: c23 :: c24 :: c25 :: c26 :: c27 :: c28 :: c29 :: c30 :: c31 :: c32 :: c33 :: c34 :: c35 :: c36 :: c37 :: c38 :: c39 :: c40 :: c41 :: c42 :: c43 :: c44 :: c45 :: c46 :: c47 :: c48 :: c49 :: c50 :: c51 :: c52 :: c53 :: c54 :: c55 :: c56 :: c57 :: c58 :: c59 :: c60 :: c61 :: c62 :: c63 :: c64 :: c65 :: c66 :: c67 :: c68 :: c69 :: c70 :: c71 :: c72 :: c73 :: c74 :: c75 :: c76 :: c77 :: c78 :: c79 :: c80 :: c81 :: c82 :: c83 :: c84 :: c85 :: c86 :: c87 :: c88 :: c89 :: c90 :: c91 :: c92 :: c93 :: c94 :: c95 :: c96 :: c97 :: c98 :: c99 :: c100 :: c101 :: c102 :: c103 :: c104 :: c105 :: c106 :: c107 :: c108 :: c109 :: c110 :: c111 :: c112 :: c113 :: c114 :: c115 :: c116 :: c117 :: c118 :: c119 :: c120 :: c121 :: c122 :: c123 :: c124 :: c125 :: c126 :: c127 :: c128 :: c129 :: c130 :: c131 :: c132 :: c133 :: c134 :: c135 :: c136 :: c137 :: c138 :: c139 :: c140 :: c141 :: c142 :: c143 :: c144 :: []), []⟩ wr := by
  have hii : (i : Int) < 4 := by omega
  obtain ⟨n, hn⟩ : ∃ n, 4 * c + i = n := ⟨_, rfl⟩
  have n0 : (0 : Int) ≤ 4 * (c : Int) + (i : Int) := by omega
  have n1 : 4 * (c : Int) + (i : Int) < 16 := by omega
  have n2 : (4 * (c : Int) + (i : Int)).toNat = n := by omega
  have hn16 : n < 16 := by omega
  rw [hn] at HY hQ
  have HMX := Lib.hid (show (mixU y0).getD n 0 = mixAt (colU y0 c) i by rw [mixU_at y0 hn16, show n / 4 = c by omega, show n % 4 = i by omega])
  obtain ⟨j1, hj1⟩ : ∃ j, (i + 1) % 4 = j := ⟨_, rfl⟩
  obtain ⟨j2, hj2⟩ : ∃ j, (i + 2) % 4 = j := ⟨_, rfl⟩
  obtain ⟨j3, hj3⟩ : ∃ j, (i + 3) % 4 = j := ⟨_, rfl⟩
  have l4 : (colU y0 c).length = 4 := rfl
  have a0 := HT.out.byteAt (i := i) (by rw [l4]; exact hi4)
  have a1 := HT.out.byteAt (i := j1) (by rw [l4]; omega)
  have a2 := HT.out.byteAt (i := j2) (by rw [l4]; omega)
  have a3 := HT.out.byteAt (i := j3) (by rw [l4]; omega)
  have HMA := Lib.hid (show mixAt (colU y0 c) i = twU ((colU y0 c).getD i 0) ^^^ twU ((colU y0 c).getD j1 0) ^^^ (colU y0 c).getD j1 0 ^^^ (colU y0 c).getD j2 0 ^^^ (colU y0 c).getD j3 0 by unfold mixAt; rw [hj1, hj2, hj3])
  have hf := HY.out.frozen n
  obtain ⟨o, ho⟩ : ∃ old, wr.cell? ⟨yb, n, none⟩ = some old := ⟨_, HY.out.byteAt (i := n) (by rw [part_len (mixU_len y0) HY0.out (by omega)]; exact hn16)⟩
  have r1 : ((i : Int) + 1).tmod 4 = ((i : Int) + 1) % 4 := Int.tmod_eq_emod_of_nonneg (by omega)
  have r2 : ((i : Int) + 2).tmod 4 = ((i : Int) + 2) % 4 := Int.tmod_eq_emod_of_nonneg (by omega)
  have r3 : ((i : Int) + 3).tmod 4 = ((i : Int) + 3) % 4 := Int.tmod_eq_emod_of_nonneg (by omega)
  have p1 : (0 : Int) ≤ ((i : Int) + 1) % 4 := by omega
  have p2 : (0 : Int) ≤ ((i : Int) + 2) % 4 := by omega
  have p3 : (0 : Int) ≤ ((i : Int) + 3) % 4 := by omega
  have s1 : ((i : Int) + 1) % 4 < 4 := by omega
  have s2 : ((i : Int) + 2) % 4 < 4 := by omega
  have s3 : ((i : Int) + 3) % 4 < 4 := by omega
  have u1 : (((i : Int) + 1) % 4).toNat = j1 := by omega
  have u2 : (((i : Int) + 2) % 4).toNat = j2 := by omega
  have u3 : (((i : Int) + 3) % 4).toNat = j3 := by omega
  have HKS := Lib.hid (fun (v : Value) => (⟨((HT.out.other (p := ⟨yb, n, none⟩) (by simp; omega) v).cell i).trans ((HT.out.cell i).symm.trans a0), ((HT.out.other (p := ⟨yb, n, none⟩) (by simp; omega) v).cell j1).trans ((HT.out.cell j1).symm.trans a1), ((HT.out.other (p := ⟨yb, n, none⟩) (by simp; omega) v).cell j2).trans ((HT.out.cell j2).symm.trans a2), ((HT.out.other (p := ⟨yb, n, none⟩) (by simp; omega) v).cell j3).trans ((HT.out.cell j3).symm.trans a3)⟩ : (wr.setCell ⟨yb, n, none⟩ v).cell? ⟨tb, i, none⟩ = some (.int .u8 (((colU y0 c).getD i 0).toNat : Int)) ∧ (wr.setCell ⟨yb, n, none⟩ v).cell? ⟨tb, j1, none⟩ = some (.int .u8 (((colU y0 c).getD j1 0).toNat : Int)) ∧ (wr.setCell ⟨yb, n, none⟩ v).cell? ⟨tb, j2, none⟩ = some (.int .u8 (((colU y0 c).getD j2 0).toNat : Int)) ∧ (wr.setCell ⟨yb, n, none⟩ v).cell? ⟨tb, j3, none⟩ = some (.int .u8 (((colU y0 c).getD j3 0).toNat : Int))))
  have HKD := Lib.hid (⟨a0, a1, a2, a3⟩ : wr.cell? ⟨tb, i, none⟩ = some (.int .u8 (((colU y0 c).getD i 0).toNat : Int)) ∧ wr.cell? ⟨tb, j1, none⟩ = some (.int .u8 (((colU y0 c).getD j1 0).toNat : Int)) ∧ wr.cell? ⟨tb, j2, none⟩ = some (.int .u8 (((colU y0 c).getD j2 0).toNat : Int)) ∧ wr.cell? ⟨tb, j3, none⟩ = some (.int .u8 (((colU y0 c).getD j3 0).toNat : Int)))
  generalize (colU y0 c).getD i 0 = b0 at *
  generalize (colU y0 c).getD j1 0 = b1 at *
  generalize (colU y0 c).getD j2 0 = b2 at *
  generalize (colU y0 c).getD j3 0 = b3 at *
  have HV := Lib.hid (xor5_val (twU b0) (twU b1) b1 b2 b3)
  have k0 : IntKind.i64.wrap (4 * (c : Int)) = 4 * (c : Int) := IntWalk.i64_in _ (by omega)
  have kn : IntKind.i64.wrap (4 * (c : Int) + (i : Int)) = 4 * (c : Int) + (i : Int) := IntWalk.i64_in _ (by omega)
  have k1 : IntKind.i64.wrap ((i : Int) + 1) = (i : Int) + 1 := IntWalk.i64_in _ (by omega)
  have k2 : IntKind.i64.wrap ((i : Int) + 2) = (i : Int) + 2 := IntWalk.i64_in _ (by omega)
  have k3 : IntKind.i64.wrap ((i : Int) + 3) = (i : Int) + 3 := IntWalk.i64_in _ (by omega)
  have HQ := Lib.hid hQ
  clear hn hj1 hj2 hj3 l4 a0 a1 a2 a3 hQ
  conv => arg 2; whnf
  refine wp_region_noPanic ?_
  go_region_held3 (fun W => W.cell? ⟨tb, i, none⟩ = some (.int .u8 (b0.toNat : Int)) ∧ W.cell? ⟨tb, j1, none⟩ = some (.int .u8 (b1.toNat : Int)) ∧ W.cell? ⟨tb, j2, none⟩ = some (.int .u8 (b2.toNat : Int)) ∧ W.cell? ⟨tb, j3, none⟩ = some (.int .u8 (b3.toNat : Int)))
    ((first | assumption | exact HKD.out | exact HKS.out _))
    ((first | (go_at_call 121; (with_reducible refine (rtwice_any _ _).mono ?_); rintro e w' ⟨rfl, rfl⟩)))
  refine NoPanic.normal ?_
  have h := HQ.out
  rw [HMX.out, HMA.out, ← HV.out] at h
  exact h _ _ _ _ _ _ _ _ _ _ _ _ _ _ _ _ _ _ _ _ _ _ _ _ _ _ _ _ _ _ _ _ _ _
end Go.Proofs.YtobealijkbnojaaDoor
