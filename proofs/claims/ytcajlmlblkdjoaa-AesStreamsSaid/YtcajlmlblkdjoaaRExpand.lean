/- The document's round keys. -/
import Derived.Test.YtcajlmlblkdjoaaRBoxes
import Derived.Test.YtcajlmlblkdjoaaAesB
import Derived.RegionTactic
import Derived.BigRegion
import Derived.Deep.RegionHeld3
import Derived.StillTailTactics
namespace Go.Proofs.Ytcajlmlblkdjoaa
open Go.RowKit

theorem zero176 (w : World) : (zeroValue 30).run Try.prog w = .ok (.agg (u8A (List.replicate 176 0))) w := by kernel_rfl

set_option maxRecDepth 100000 in
set_option maxHeartbeats 4000000 in
theorem rexpand_any (sb : Nat) (k : List UInt8) (w : World) (hk : k.length = 16) (hs : Blk w sb (u8A boxL) 42) :
    Calls Try.prog 28 #[.pointer (some ⟨sb, 0, none⟩), .agg (u8A k)] w fun e w' => e = .returned (.agg (u8A (keysTo k 11))) ∧ Below w.heap.size w w' := by
  have hz := fun W => zero176 W
  obtain ⟨Z, hZ⟩ : ∃ Z, u8A (List.replicate 176 0) = Z := ⟨_, rfl⟩
  rw [hZ] at hz
  have HZ := Lib.hid hZ
  have HK := Lib.hid hk
  have HS := Lib.hid hs
  have hkz : (u8A k).size = 16 := by rw [u8A_size, hk]
  have hko := u8A_one k
  have hkd : u8A k = (Lib.byteCells k).toArray := rfl
  have hkb : u8A k = u8A (padB 16 k) := by rw [padB_full hk]
  obtain ⟨kA, hke⟩ : ∃ K, u8A k = K := ⟨_, rfl⟩
  rw [hke] at hkz hko hkd ⊢
  have HKE := Lib.hid hke
  have HKZ := Lib.hid hkz
  have HKO := Lib.hid hko
  have HKD := Lib.hid hkd
  clear hZ hk hs hkz hko hkd hkb hke
  have hb3 : Blk (((w.alloc (.cells kA 23)).alloc (.cells Z 30)).alloc (.cells Z 30)) (w.heap.size + 1 + 1) (u8A (padB 176 (keysTo k 0))) 30 := by
    have := Blk.new ((w.alloc (.cells kA 23)).alloc (.cells Z 30)) Z 30
    simp only [World.size_alloc] at this
    rw [show padB 176 (keysTo k 0) = List.replicate 176 0 from rfl, HZ.out]
    exact this
  have hth : (((w.alloc (.cells kA 23)).alloc (.cells Z 30)).alloc (.cells Z 30)).there (w.heap.size + 1 + 1) 0 kA.size := hb3.there 0 kA.size (by rw [HKZ.out, padB_len (by simp [keysTo])]; omega)
  have HB3 := Lib.hid hb3
  have HTH := Lib.hid hth
  clear hb3 hth
  go_enter Try.func28, Try.ntmps28
  go_wp2_with (first
    | (with_reducible refine wpList_load_blk rfl 23 (.tmp 3) rfl w.heap.size rfl 23 kA _ (((Blk.new w _ _).alloc _).alloc _) Try.underlying23 rfl (by rw [HKZ.out]; kernel_rfl) ?_)
    | (with_reducible refine wpList_store_mid rfl 22 (.tmp 12) (.tmp 11) rfl (w.heap.size + 1 + 1) 0 kA rfl rfl HTH.out (by rw [HKZ.out]; kernel_rfl) HKO.out ?_
       generalize hw1 : World.setCells _ _ _ _ = w1))
  obtain ⟨r, hr⟩ : ∃ y, w.heap.size = y := ⟨_, rfl⟩
  obtain ⟨rr, hrr⟩ : ∃ y, r + 1 = y := ⟨_, rfl⟩
  obtain ⟨ob, hob⟩ : ∃ y, rr + 1 = y := ⟨_, rfl⟩
  have hst : Below r w w1 ∧ Blk w1 ob (u8A (padB 176 (keysTo k 1))) 30 ∧ (∃ rs, Blk w1 rr rs 30 ∧ rs.size = 176) ∧ w1.heap.size = ob + 1 := by
    have h3 := HB3.out
    simp only [hr, hrr, hob] at h3 hw1
    rw [← hw1]
    refine ⟨below_cells (by omega) _ _ ?_, ?_, ?_, ?_⟩
    · rw [← hr]
      exact (((Below.refl _ _).alloc (Nat.le_refl _) _).alloc (by simp) _).alloc (by simp; omega) _
    · have h4 := h3.row_ (n := 0) (m := k) rfl (by rw [HK.out]; omega)
      rw [show keysTo k 1 = keysTo k 0 ++ k from rfl, show kA.toList = Lib.byteCells k by rw [HKD.out]]
      exact h4
    · have a2 := Blk.new (w.alloc (.cells kA 23)) Z 30
      simp only [World.size_alloc, hr, hrr] at a2
      refine ⟨Z, Blk.otherCells (by omega) _ _ (a2.alloc _), by rw [← HZ.out, u8A_size]; exact List.length_replicate ..⟩
    · rw [cells_size]
      simp only [World.size_alloc, hr, hrr, hob]
  obtain ⟨hbel, hob1, hrs1, hsz1⟩ := hst
  have HRR := Lib.hid hr
  have HO1 := Lib.hid hob1
  have HR1 := Lib.hid hrs1
  have HS1 := Lib.hid (show Blk w1 sb (u8A boxL) 42 from HS.out.below hbel (by rw [← hr]; exact HS.out.lt))
  have hsb : sb < r := by rw [← hr]; exact HS.out.lt
  have hro : r < rr := by omega
  have hrob : rr < ob := by omega
  rw [hr, hrr, hob]
  clear hob1 hrs1 HB3 HTH HKZ HKO HKD HKE hz HZ hw1 hr hrr hob HS
  go_loopw [6, 7] (fun c t wr => ∃ q : Nat, q ≤ 10 ∧ t = .int .i64 ((q : Int) + 1) ∧ c = .int .u8 ((conU q).toNat : Int) ∧ Below r w wr ∧ Hid (Blk wr ob (u8A (padB 176 (keysTo k (q + 1)))) 30) ∧ Hid (∃ rs, Blk wr rr rs 30 ∧ rs.size = 176) ∧ Hid (Blk wr sb (u8A boxL) 42) ∧ ob + 1 ≤ wr.heap.size) (fun _ t _ => 11 - (intOf t).toNat)
  case atStart => exact ⟨0, by omega, rfl, rfl, hbel, HO1, HR1, HS1, by omega⟩
  case round =>
    clear hbel HO1 HR1 HS1 hsz1
    obtain ⟨q, hq, rfl, rfl, hbel, HO, HR, HS, hsz⟩ := hrel
    by_cases hlt : q < 10
    · have hqi : (q : Int) + 1 < 11 := by omega
      have hq11 : (q : Int) < 11 := by omega
      have hrng := HO.out.range (q * 16) 16
      rw [show ((padB 176 (keysTo k (q + 1))).drop (q * 16)).take 16 = rk k q by
        rw [Nat.mul_comm]
        unfold padB
        rw [List.drop_append_of_le_length (by rw [keysTo_len HK.out]; omega), keysTo_last HK.out, List.take_append_of_le_length (by rw [rk_len HK.out]; exact Nat.le_refl _), List.take_of_length_le (by rw [rk_len HK.out]; exact Nat.le_refl _)]] at hrng
      have HRK := Lib.hid (rk_len HK.out q)
      have HRN := Lib.hid (show rk k (q + 1) = kO (rk k q) (kT0 (rk k q) (conU q)) 16 from rfl)
      have HCN := Lib.hid (show conU (q + 1) = twU (conU q) from rfl)
      have HKN := Lib.hid (show keysTo k (q + 1 + 1) = keysTo k (q + 1) ++ rk k (q + 1) from rfl)
      have HKL := Lib.hid (keysTo_len HK.out (q + 1))
      have HRG := Lib.hid hrng
      generalize rk k q = p at *
      generalize conU q = c at *
      have hsp : (Lib.byteCells p).toArray.size = 16 := by rw [List.size_toArray, Lib.byteCells_length, HRK.out]
      have hop : (Lib.byteCells p).toArray.all (·.oneCell') = true := u8A_one p
      have hip : (Try.prog.info? 22).map (·.size) = some (Lib.byteCells p).length := by rw [Lib.byteCells_length, HRK.out]; kernel_rfl
      have HSP := Lib.hid hsp
      have HOP := Lib.hid hop
      have HIP := Lib.hid hip
      have hzw := hbel.size
      clear hrng hsp hop hip
      go_wp2_with (first
        | (with_reducible refine wpList_load_mid rfl 22 (.tmp 19) rfl ob (q * 16) rfl (Lib.byteCells p) _ HRG.out Try.underlying22 rfl HIP.out ?_)
        | (with_reducible refine wpList_store_blkTo rfl 22 (.tmp 8) (.tmp 20) rfl rfl wr.heap.size (Lib.byteCells p).toArray rfl rfl 22 _ (Blk.new wr _ _) (by rw [HSP.out]; kernel_rfl) (by rw [HSP.out]; kernel_rfl) HOP.out ?_
           generalize hw2 : World.setRow _ _ _ = w2))
      obtain ⟨pb, hpb⟩ : ∃ y, wr.heap.size = y := ⟨_, rfl⟩
      have hst : Below r w w2 ∧ Blk w2 ob (u8A (padB 176 (keysTo k (q + 1)))) 30 ∧ (∃ rs, Blk w2 rr rs 30 ∧ rs.size = 176) ∧ Blk w2 sb (u8A boxL) 42 ∧ Blk w2 pb (u8A p) 22 ∧ w2.heap.size = pb + 1 := by
        rw [← hw2, ← hpb]
        refine ⟨below_row (hbel.alloc (by omega) _) (by simp; omega) (by omega) _, (HO.out.alloc _).rowOther (by omega) _, ?_, (HS.out.alloc _).rowOther (by omega) _, (Blk.new wr _ _).row _, by simp⟩
        obtain ⟨rs, h, hz⟩ := HR.out
        exact ⟨rs, (h.alloc _).rowOther (by omega) _, hz⟩
      obtain ⟨hbel2, g1, g2, g3, g4, hsz2⟩ := hst
      have G1 := Lib.hid g1
      have G2 := Lib.hid g2
      have G3 := Lib.hid g3
      have G4 := Lib.hid g4
      rw [hpb]
      have hpo : ob + 1 ≤ pb := by omega
      clear hw2 hpb g1 g2 HO HR HS hbel hsz hzw
      have c12 := g4.byteAt (i := 12) (by rw [HRK.out]; decide)
      have c13 := g4.byteAt (i := 13) (by rw [HRK.out]; decide)
      have c14 := g4.byteAt (i := 14) (by rw [HRK.out]; decide)
      have c15 := g4.byteAt (i := 15) (by rw [HRK.out]; decide)
      have x12 := (p.getD 12 0).toNat_lt
      have x13 := (p.getD 13 0).toNat_lt
      have x14 := (p.getD 14 0).toNat_lt
      have x15 := (p.getD 15 0).toNat_lt
      have s12 := g3.byteAt (i := (p.getD 12 0).toNat) (by rw [boxL_len]; exact x12)
      have s13 := g3.byteAt (i := (p.getD 13 0).toNat) (by rw [boxL_len]; exact x13)
      have s14 := g3.byteAt (i := (p.getD 14 0).toNat) (by rw [boxL_len]; exact x14)
      have s15 := g3.byteAt (i := (p.getD 15 0).toNat) (by rw [boxL_len]; exact x15)
      have HT0 := Lib.hid (show kT0 p c = [boxL.getD (p.getD 13 0).toNat 0 ^^^ c, boxL.getD (p.getD 14 0).toNat 0, boxL.getD (p.getD 15 0).toNat 0, boxL.getD (p.getD 12 0).toNat 0] from rfl)
      have HXC := Lib.hid (xor_byte8 (boxL.getD (p.getD 13 0).toNat 0) c)
      generalize boxL.getD (p.getD 12 0).toNat 0 = y12 at *
      generalize boxL.getD (p.getD 13 0).toNat 0 = y13 at *
      generalize boxL.getD (p.getD 14 0).toNat 0 = y14 at *
      generalize boxL.getD (p.getD 15 0).toNat 0 = y15 at *
      generalize p.getD 12 0 = z12 at *
      generalize p.getD 13 0 = z13 at *
      generalize p.getD 14 0 = z14 at *
      generalize p.getD 15 0 = z15 at *
      have i12 : (z12.toNat : Int) < 256 := by omega
      have i13 : (z13.toNat : Int) < 256 := by omega
      have i14 : (z14.toNat : Int) < 256 := by omega
      have i15 : (z15.toNat : Int) < 256 := by omega
      have hlp := g4.lt
      have hls := g3.lt
      have hb22 : Below w2.heap.size w2 w2 := Below.refl _ _
      have HKEEP := Lib.hid (fun (W : World) (h : Below w2.heap.size w2 W) => (⟨(h.cell (p := ⟨pb, 12, none⟩) hlp).trans c12, (h.cell (p := ⟨pb, 13, none⟩) hlp).trans c13, (h.cell (p := ⟨pb, 14, none⟩) hlp).trans c14, (h.cell (p := ⟨pb, 15, none⟩) hlp).trans c15, (h.cell (p := ⟨sb, z12.toNat, none⟩) hls).trans s12, (h.cell (p := ⟨sb, z13.toNat, none⟩) hls).trans s13, (h.cell (p := ⟨sb, z14.toNat, none⟩) hls).trans s14, (h.cell (p := ⟨sb, z15.toNat, none⟩) hls).trans s15, h⟩ : W.cell? ⟨pb, 12, none⟩ = some (.int .u8 (z12.toNat : Int)) ∧ W.cell? ⟨pb, 13, none⟩ = some (.int .u8 (z13.toNat : Int)) ∧ W.cell? ⟨pb, 14, none⟩ = some (.int .u8 (z14.toNat : Int)) ∧ W.cell? ⟨pb, 15, none⟩ = some (.int .u8 (z15.toNat : Int)) ∧ W.cell? ⟨sb, z12.toNat, none⟩ = some (.int .u8 (y12.toNat : Int)) ∧ W.cell? ⟨sb, z13.toNat, none⟩ = some (.int .u8 (y13.toNat : Int)) ∧ W.cell? ⟨sb, z14.toNat, none⟩ = some (.int .u8 (y14.toNat : Int)) ∧ W.cell? ⟨sb, z15.toNat, none⟩ = some (.int .u8 (y15.toNat : Int)) ∧ Below w2.heap.size w2 W))
      clear g3 g4 c12 c13 c14 c15 s12 s13 s14 s15
      go_wp2_with fail
      go_region_held3 (fun W => W.cell? ⟨pb, 12, none⟩ = some (.int .u8 (z12.toNat : Int)) ∧ W.cell? ⟨pb, 13, none⟩ = some (.int .u8 (z13.toNat : Int)) ∧ W.cell? ⟨pb, 14, none⟩ = some (.int .u8 (z14.toNat : Int)) ∧ W.cell? ⟨pb, 15, none⟩ = some (.int .u8 (z15.toNat : Int)) ∧ W.cell? ⟨sb, z12.toNat, none⟩ = some (.int .u8 (y12.toNat : Int)) ∧ W.cell? ⟨sb, z13.toNat, none⟩ = some (.int .u8 (y13.toNat : Int)) ∧ W.cell? ⟨sb, z14.toNat, none⟩ = some (.int .u8 (y14.toNat : Int)) ∧ W.cell? ⟨sb, z15.toNat, none⟩ = some (.int .u8 (y15.toNat : Int)) ∧ Below w2.heap.size w2 W)
        ((first | exact HKEEP.out _ hb22.drew | exact HKEEP.out _ (hb22.alloc (Nat.le_refl _) _) | exact HKEEP.out _ (hb22.alloc (Nat.le_refl _) _).drew | exact HKEEP.out _ (hb22.drew.alloc (Nat.le_refl _) _)))
        (fail)
      have hst3 : Below r w ((w2.alloc (.cells #[.int .u8 (bits .xor .u8 (y13.toNat : Int) (c.toNat : Int)), .int .u8 (y14.toNat : Int), .int .u8 (y15.toNat : Int), .int .u8 (y12.toNat : Int)] 61)).drew) ∧ Below w2.heap.size w2 ((w2.alloc (.cells #[.int .u8 (bits .xor .u8 (y13.toNat : Int) (c.toNat : Int)), .int .u8 (y14.toNat : Int), .int .u8 (y15.toNat : Int), .int .u8 (y12.toNat : Int)] 61)).drew) ∧ Blk ((w2.alloc (.cells #[.int .u8 (bits .xor .u8 (y13.toNat : Int) (c.toNat : Int)), .int .u8 (y14.toNat : Int), .int .u8 (y15.toNat : Int), .int .u8 (y12.toNat : Int)] 61)).drew) w2.heap.size (u8A (kT0 p c)) 61 := by
        refine ⟨(hbel2.alloc (by rw [hsz2]; omega) _).drew, (hb22.alloc (Nat.le_refl _) _).drew, ?_⟩
        have := Blk.new w2 #[.int .u8 (bits .xor .u8 (y13.toNat : Int) (c.toNat : Int)), .int .u8 (y14.toNat : Int), .int .u8 (y15.toNat : Int), .int .u8 (y12.toNat : Int)] 61
        rw [HT0.out]
        rw [HXC.out] at this ⊢
        exact this
      generalize (w2.alloc (.cells #[.int .u8 (bits .xor .u8 (y13.toNat : Int) (c.toNat : Int)), .int .u8 (y14.toNat : Int), .int .u8 (y15.toNat : Int), .int .u8 (y12.toNat : Int)] 61)).drew = w3 at hst3 ⊢
      obtain ⟨hbel3, hb23, g5⟩ := hst3
      have hlb := G1.out.lt
      have G6 := Lib.hid (G1.out.below hb23 hlb)
      have G7 := Lib.hid (show ∃ rs, Blk w3 rr rs 30 ∧ rs.size = 176 by obtain ⟨rs, h, hz⟩ := G2.out; exact ⟨rs, h.below hb23 h.lt, hz⟩)
      have G8 := Lib.hid (G3.out.below hb23 hls)
      have G9 := Lib.hid (G4.out.below hb23 hlp)
      obtain ⟨tb, htb⟩ : ∃ y, pb + 1 = y := ⟨_, rfl⟩
      rw [hsz2, htb] at g5
      rw [htb]
      have hpt : pb < tb := by omega
      have G10 := Lib.hid g5
      have hsz3 : tb < w3.heap.size := g5.lt
      clear hbel2 hb23 g5 hb22 HKEEP G1 G2 G3 G4 htb hsz2 hlp hls hlb HT0 HXC
      clear x12 x13 x14 x15 i12 i13 i14 i15
      go_wp2_with fail
      refine (rtwice_any c _).mono ?_
      rintro e w' ⟨rfl, rfl⟩
      have HT4 := Lib.hid (show (kT0 p c).length = 4 from rfl)
      generalize kT0 p c = t0 at *
      go_wp2_with fail
      go_loopw [10] (fun t wq => ∃ i : Nat, i ≤ 16 ∧ t = .int .i64 i ∧ Below r w wq ∧ Hid (Blk wq ob (u8A (padB 176 (keysTo k (q + 1) ++ kO p t0 i))) 30) ∧ Hid (∃ rs, Blk wq rr rs 30 ∧ rs.size = 176) ∧ Hid (Blk wq sb (u8A boxL) 42) ∧ Hid (Blk wq pb (u8A p) 22) ∧ Hid (Blk wq tb (u8A (kT p t0 i)) 61)) (fun t _ => 16 - (intOf t).toNat)
      case atStart => exact ⟨0, by omega, rfl, hbel3, Lib.hid (by simpa [kO] using G6.out), G7, G8, G9, G10⟩
      case round =>
        clear hbel3 G6 G7 G8 G9 G10
        obtain ⟨i, hi, rfl, hbel, HO, HR, HS, HP, HT⟩ := hrel
        by_cases hlt16 : i < 16
        · have hii : (i : Int) < 16 := by omega
          have i4 : (i : Int) % 4 < 4 := by omega
          have i40 : (0 : Int) ≤ (i : Int) % 4 := by omega
          have i4n : ((i : Int) % 4).toNat = i % 4 := by omega
          have q1 : (0 : Int) ≤ (q : Int) + 1 := by omega
          have q1n : ((q : Int) + 1).toNat = q + 1 := by omega
          have cp := HP.out.byteAt (i := i) (by rw [HRK.out]; exact hlt16)
          have ct := HT.out.byteAt (i := i % 4) (by rw [kT_len, HT4.out]; omega)
          have HKT := Lib.hid (show kT p t0 (i + 1) = (kT p t0 i).set (i % 4) (p.getD i 0 ^^^ (kT p t0 i).getD (i % 4) 0) from rfl)
          have HKO2 := Lib.hid (show kO p t0 (i + 1) = kO p t0 i ++ [p.getD i 0 ^^^ (kT p t0 i).getD (i % 4) 0] from rfl)
          have HX := Lib.hid (xor_byte8 (p.getD i 0) ((kT p t0 i).getD (i % 4) 0))
          have hft := HT.out.frozen (i % 4)
          have hfo := HO.out.frozen ((q + 1) * 16 + i)
          obtain ⟨o, ho⟩ : ∃ old, wr.cell? ⟨ob, (q + 1) * 16 + i, none⟩ = some old := by
            obtain ⟨o, p⟩ := u8A_get (bs := padB 176 (keysTo k (q + 1) ++ kO p t0 i)) (i := (q + 1) * 16 + i) (by rw [padB_len (by rw [List.length_append, HKL.out, kO_len]; omega)]; omega)
            exact ⟨o, (HO.out.cell _).trans p⟩
          generalize p.getD i 0 = a0 at *
          generalize (kT p t0 i).getD (i % 4) 0 = b0 at *
          go_wp2_with fail
          refine wp_region_noPanic ?_
          go_region
          refine NoPanic.normal ?_
          have hlen : (keysTo k (q + 1) ++ kO p t0 i).length = (q + 1) * 16 + i := by rw [List.length_append, HKL.out, kO_len]; omega
          have hst4 : Below r w (wr.setCell ⟨ob, (q + 1) * 16 + i, none⟩ (.int .u8 (bits .xor .u8 (a0.toNat : Int) (b0.toNat : Int)))).drew ∧ Blk (wr.setCell ⟨ob, (q + 1) * 16 + i, none⟩ (.int .u8 (bits .xor .u8 (a0.toNat : Int) (b0.toNat : Int)))).drew ob (u8A (padB 176 (keysTo k (q + 1) ++ kO p t0 (i + 1)))) 30 ∧ (∃ rs, Blk (wr.setCell ⟨ob, (q + 1) * 16 + i, none⟩ (.int .u8 (bits .xor .u8 (a0.toNat : Int) (b0.toNat : Int)))).drew rr rs 30 ∧ rs.size = 176) ∧ Blk (wr.setCell ⟨ob, (q + 1) * 16 + i, none⟩ (.int .u8 (bits .xor .u8 (a0.toNat : Int) (b0.toNat : Int)))).drew sb (u8A boxL) 42 ∧ Blk (wr.setCell ⟨ob, (q + 1) * 16 + i, none⟩ (.int .u8 (bits .xor .u8 (a0.toNat : Int) (b0.toNat : Int)))).drew pb (u8A p) 22 ∧ Blk (wr.setCell ⟨ob, (q + 1) * 16 + i, none⟩ (.int .u8 (bits .xor .u8 (a0.toNat : Int) (b0.toNat : Int)))).drew tb (u8A (kT p t0 i)) 61 := by
            refine ⟨(hbel.setCell (by simp; omega) _).drew, ?_, ?_, HS.out.other (by simp; omega) _, HP.out.other (by simp; omega) _, HT.out.other (by simp; omega) _⟩
            · rw [HKO2.out, ← List.append_assoc]
              exact HO.out.byte hlen (by omega) HX.out
            · obtain ⟨rs, h, hz⟩ := HR.out
              exact ⟨rs, h.other (by simp; omega) _, hz⟩
          generalize (wr.setCell ⟨ob, (q + 1) * 16 + i, none⟩ (.int .u8 (bits .xor .u8 (a0.toNat : Int) (b0.toNat : Int)))).drew = w4 at hst4 ⊢
          obtain ⟨hbel4, g1, g2, g3, g4, g5⟩ := hst4
          have c4 : w4.cell? ⟨ob, (q + 1) * 16 + i, none⟩ = some (.int .u8 ((a0 ^^^ b0).toNat : Int)) := by
            rw [g1.byteAt (i := (q + 1) * 16 + i) (by rw [padB_len (by rw [List.length_append, HKL.out, kO_len]; omega)]; omega), HKO2.out, ← List.append_assoc, ← hlen]
            unfold padB
            simp [List.getD_eq_getElem?_getD]
          have G1 := Lib.hid g1
          have G2 := Lib.hid g2
          have G3 := Lib.hid g3
          have G4 := Lib.hid g4
          have G5 := Lib.hid g5
          have c5 := g5.frozen (i % 4)
          obtain ⟨o5, ho5⟩ : ∃ old, w4.cell? ⟨tb, i % 4, none⟩ = some old := ⟨_, g5.byteAt (i := i % 4) (by rw [kT_len, HT4.out]; omega)⟩
          have HV := Lib.hid (show kT p t0 (i + 1) = (kT p t0 i).set (i % 4) (a0 ^^^ b0) from HKT.out)
          generalize a0 ^^^ b0 = v at *
          clear g1 g2 g3 g4 g5 HO HR HS HP HT hbel hft hfo ho cp ct HX HKO2 HKT hlen
          have o176 : ((q : Int) + 1) < 11 := by omega
          go_wp2_with fail
          go_roundw
          case rel =>
            refine ⟨i + 1, by omega, by go_num, hbel4.setCell (by simp; omega) _, Lib.hid (G1.out.other (by simp; omega) _), Lib.hid ?_, Lib.hid (G3.out.other (by simp; omega) _), Lib.hid (G4.out.other (by simp; omega) _), Lib.hid ?_⟩
            · obtain ⟨rs, h, hz⟩ := G2.out
              exact ⟨rs, h.other (by simp; omega) _, hz⟩
            · rw [HV.out]
              exact G5.out.put _ rfl
          case measure => simp [intOf]; omega
        · obtain rfl : i = 16 := by omega
          have hge : ¬ ((16 : Nat) : Int) < 16 := by omega
          have HO16 := Lib.hid (show Blk wr ob (u8A (padB 176 (keysTo k (q + 1 + 1)))) 30 by rw [HKN.out, HRN.out]; exact HO.out)
          have HCQ := HCN.out
          have hszr : ob + 1 ≤ wr.heap.size := by have := HO.out.lt; omega
          clear HO HKN HRN HCN
          go_wp2_with fail
          go_roundw
          case rel => exact ⟨q + 1, by omega, by go_num, by rw [HCQ], hbel, HO16, HR, HS, hszr⟩
          case measure => simp [intOf]; omega
    · obtain rfl : q = 10 := by omega
      have hge : ¬ ((10 : Nat) : Int) + 1 < 11 := by omega
      have hfull : Blk wr ob (u8A (keysTo k 11)) 30 := by
        have := HO.out
        rwa [padB_full (keysTo_len HK.out 11)] at this
      obtain ⟨rs, hrs, hrz⟩ := HR.out
      have hsz11 : (u8A (keysTo k 11)).size = 176 := by rw [u8A_size, keysTo_len HK.out]
      have hone := u8A_one (keysTo k 11)
      obtain ⟨fin, hfe⟩ : ∃ x, u8A (keysTo k 11) = x := ⟨_, rfl⟩
      rw [hfe] at hfull hsz11 hone
      have HFE := Lib.hid hfe
      have HZ2 := Lib.hid hsz11
      have HONE := Lib.hid hone
      have HRZ := Lib.hid hrz
      clear hfe hsz11 hone hrz HO HR HS hq hlt
      go_wp2_with (first
        | (with_reducible refine wpList_load_blk rfl 30 (.tmp 5) rfl ob rfl 30 fin _ hfull Try.underlying30 rfl (by rw [HZ2.out]; kernel_rfl) ?_)
        | (with_reducible refine wpList_store_blk rfl 30 (.tmp 4) (.tmp 74) rfl rr fin rfl rfl 30 rs hrs (by rw [HZ2.out]; kernel_rfl) (by rw [HZ2.out, HRZ.out]) HONE.out ?_))
      refine bodyPost_ret (v := .agg fin) (results_cell_row (p := 4) (ty := 30) (by kernel_rfl) _ _ rr 30 _ (0, 0) _ rfl (hrs.row fin) Try.underlying30 rfl (by rw [HZ2.out]; kernel_rfl)) rfl ⟨by rw [HFE.out], ?_⟩
      rw [HRR.out]
      exact below_row hbel (by have := hbel.size; have := HRR.out; omega) (by omega) _
end Go.Proofs.Ytcajlmlblkdjoaa
