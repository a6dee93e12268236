/- What the program's small functions of the field hand back. The program's tables of the field: the powers of x, the logs. The program's field, as New makes it: its cells, its methods log, invert, each. The methods of the program's field: product, inverse, quotient, power, sum of products. The program's sum of products. -/
import Derived.Test.YtdaofffkbnkljaaGfM
import Derived.Test.YtdaofffkbnkljaaU8
import Derived.BigQuiet
import Derived.RegionTactic
import Derived.Test.YtdaofffkbnkljaaMem
namespace Go.Proofs.Ytdaofffkbnkljaa
open Go.RowKit

theorem retB {a b : Int} (h : a = b) : Ending.returned (.int .u8 a) = .returned (.int .u8 b) := by rw [h]
theorem pos8' {a : UInt8} (h : a ≠ 0) : (0 : Int) < (a.toNat : Int) := Int.ofNat_lt.2 (Nat.pos_of_ne_zero fun h0 => h (UInt8.toNat_inj.1 h0))
theorem retN {a b : Int} (h : a = b) : Ending.returned (.int .i64 a) = .returned (.int .i64 b) := by rw [h]
set_option maxRecDepth 100000 in
theorem dN_alt : ((List.range 256).all fun a => Nat.beq (Nat.xor (a * 2 % 256) (a / 128 * 29)) (dN a)) = true := by kernel_rfl
theorem dbl_val (x : UInt8) : bits .xor .u8 ((x.toNat : Int) * 2 % 256) ((x.toNat : Int) / 128 * 29) = ((dblU x).toNat : Int) := by
  have hx := x.toNat_lt
  rw [show (x.toNat : Int) * 2 % 256 = ((x.toNat * 2 % 256 : Nat) : Int) by omega, show (x.toNat : Int) / 128 * 29 = ((x.toNat / 128 * 29 : Nat) : Int) by omega, xor_u8 _ _ (by omega) (by omega), dblU_nat]
  exact congrArg Nat.cast (Nat.eq_of_beq_eq_true (List.all_eq_true.1 dN_alt x.toNat (List.mem_range.2 hx)))
set_option maxHeartbeats 400000 in
theorem double_any (x : UInt8) (w : World) :
    Calls Try.prog 78 #[.int .u8 (x.toNat : Int)] w fun e w' => e = .returned (.int .u8 ((dblU x).toNat : Int)) ∧ w = w' := by
  have hx := x.toNat_lt
  go_enter Try.func78, Try.ntmps78
  go_wp2_with fail
  go_ret
  exact ⟨retB (dbl_val x), rfl⟩

theorem add_any (a b : UInt8) (w : World) :
    Calls Try.prog 79 #[.int .u8 (a.toNat : Int), .int .u8 (b.toNat : Int)] w fun e w' => e = .returned (.int .u8 ((a ^^^ b).toNat : Int)) ∧ w = w' := by
  have ha := a.toNat_lt
  have hb := b.toNat_lt
  go_enter Try.func79, Try.ntmps79
  go_wp2_with fail
  go_ret
  exact ⟨retB (xor_byte8 a b), rfl⟩

/-! ### The product, digit by digit -/
def bitU (a b : UInt8) : UInt8 := UInt8.ofNat (a.toNat * (b.toNat % 2))
def hlfU (b : UInt8) : UInt8 := UInt8.ofNat (b.toNat / 2)
theorem hlfU_nat (b : UInt8) : (hlfU b).toNat = b.toNat / 2 := by
  have := b.toNat_lt
  unfold hlfU
  rw [UInt8.toNat_ofNat']; omega
theorem bitU_nat (a b : UInt8) : (bitU a b).toNat = a.toNat * (b.toNat % 2) := by
  have := a.toNat_lt
  unfold bitU
  rw [UInt8.toNat_ofNat']
  rcases Nat.mod_two_eq_zero_or_one b.toNat with h | h <;> rw [h] <;> omega
set_option maxRecDepth 100000 in
theorem halves_all : ((List.range 256).all fun b => Nat.beq (Nat.xor (b % 2) (dN (b / 2))) b) = true := by kernel_rfl
theorem halves (b : UInt8) : UInt8.ofNat (b.toNat % 2) ^^^ dblU (hlfU b) = b := by
  apply UInt8.toNat_inj.1
  have hb := b.toNat_lt
  rw [UInt8.toNat_xor, UInt8.toNat_ofNat', dblU_nat, hlfU_nat, show b.toNat % 2 % 2 ^ 8 = b.toNat % 2 by omega]
  exact Nat.eq_of_beq_eq_true (List.all_eq_true.1 halves_all b.toNat (List.mem_range.2 hb))
theorem mulU_step (a b : UInt8) : mulU a b = bitU a b ^^^ mulU (dblU a) (hlfU b) := by
  conv => lhs; rw [← halves b]
  rw [mulU_xor, mulU_dbl']
  congr 1
  unfold bitU
  rcases Nat.mod_two_eq_zero_or_one b.toNat with h | h <;> rw [h]
  · rw [Nat.mul_zero]; exact mulU_zero a
  · rw [Nat.mul_one, UInt8.ofNat_toNat]; exact mulU_one a

theorem and_one8 (b : UInt8) : bits .and .u8 (b.toNat : Int) 1 = ((b.toNat % 2 : Nat) : Int) := by
  have hb := b.toNat_lt
  show IntKind.u8.wrap ((BitVec.ofInt 8 (b.toNat : Int) &&& BitVec.ofInt 8 ((1 : Nat) : Int)).toNat : Int) = _
  rw [BitVec.toNat_and, BitVec.ofInt_natCast, BitVec.ofInt_natCast, BitVec.toNat_ofNat, BitVec.toNat_ofNat, Nat.mod_eq_of_lt (show b.toNat < 2 ^ 8 from hb), show 1 % 2 ^ 8 = 1 from rfl, Nat.and_one_is_mod]
  show ((b.toNat % 2 : Nat) : Int) % 256 = _
  omega
theorem bit_val (a b : UInt8) : (a.toNat : Int) * bits .and .u8 (b.toNat : Int) 1 % 256 = ((bitU a b).toNat : Int) := by
  have ha := a.toNat_lt
  rw [and_one8, bitU_nat]
  rcases Nat.mod_two_eq_zero_or_one b.toNat with h | h <;> rw [h] <;> simp
  omega
end Go.Proofs.Ytdaofffkbnkljaa
namespace Go.Proofs.Ytdaofffkbnkljaa
open Go.RowKit

theorem zero510 (w : World) : (zeroValue 84).run Try.prog w = .ok (.agg (u8A (List.replicate 510 0))) w := by kernel_rfl
theorem zero510r (w : World) : (zeroValue 85).run Try.prog w = .ok (.agg (u8A (List.replicate 510 0))) w := by kernel_rfl
theorem zero256t (w : World) : (zeroValue 87).run Try.prog w = .ok (.agg (u8A (List.replicate 256 0))) w := by kernel_rfl

theorem two_new (w : World) (A B : Array Value) (S T : TypeId) : Blk ((w.alloc (.cells A S)).alloc (.cells B T)) w.heap.size A S ∧ Blk ((w.alloc (.cells A S)).alloc (.cells B T)) (w.heap.size + 1) B T ∧ Below w.heap.size w ((w.alloc (.cells A S)).alloc (.cells B T)) := by
  have a2 := Blk.new (w.alloc (.cells A S)) B T
  simp only [World.size_alloc] at a2
  exact ⟨(Blk.new w A S).alloc _, a2, ((Below.refl _ _).alloc (Nat.le_refl _) _).alloc (by simp) _⟩

set_option maxRecDepth 100000 in
set_option maxHeartbeats 4000000 in
theorem prow_any (w : World) :
    Calls Try.prog 57 #[] w fun e w' => e = .returned (.agg (u8A (xpT 510))) ∧ Below w.heap.size w w' := by
  have hz := fun W => zero510r W
  obtain ⟨Z, hZ⟩ : ∃ Z, u8A (List.replicate 510 0) = Z := ⟨_, rfl⟩
  have hzz : Z.size = 510 := by rw [← hZ, u8A_size]; exact List.length_replicate ..
  rw [hZ] at hz
  have HZ := Lib.hid hZ
  have HZZ := Lib.hid hzz
  clear hZ hzz
  go_enter Try.func57, Try.ntmps57
  go_wp2_with fail
  obtain ⟨g1, g2, hbel⟩ := two_new w Z Z 85 85
  generalize World.alloc (World.alloc w _) _ = w1 at *
  obtain ⟨rb, hrb⟩ : ∃ z, w.heap.size = z := ⟨_, rfl⟩
  rw [hrb] at g1 g2 hbel ⊢
  obtain ⟨tb, htb⟩ : ∃ z, rb + 1 = z := ⟨_, rfl⟩
  rw [htb] at g2 ⊢
  have hrt : rb < tb := by omega
  have HW := Lib.hid hrb
  have G1 := Lib.hid (show ∃ rs, Blk w1 rb rs 85 ∧ rs.size = 510 from ⟨_, g1, HZZ.out⟩)
  have G2 := Lib.hid (show Blk w1 tb (u8A (padB 510 (xpT 0))) 85 by rw [show padB 510 (xpT 0) = List.replicate 510 0 from rfl, HZ.out]; exact g2)
  clear g1 g2 hrb htb hz
  go_loopw [2, 4] (fun x t wr => ∃ n : Nat, n ≤ 510 ∧ t = .int .i64 n ∧ x = .int .u8 ((xpU n).toNat : Int) ∧ Below rb w wr ∧ Hid (∃ rs, Blk wr rb rs 85 ∧ rs.size = 510) ∧ Hid (Blk wr tb (u8A (padB 510 (xpT n))) 85)) (fun _ t _ => 510 - (intOf t).toNat)
  case atStart => exact ⟨0, by omega, rfl, rfl, hbel, G1, G2⟩
  case round =>
    clear hbel G1 G2
    obtain ⟨n, hn, rfl, rfl, hbel, G1, G2⟩ := hrel
    by_cases hlt : n < 510
    · have hni : (n : Int) < 510 := by omega
      have hx := (xpU n).toNat_lt
      have HP := Lib.hid (xpT_succ n)
      have HPL := Lib.hid (xpT_len n)
      have HPU := Lib.hid (xpU_succ n)
      have hf1 := G2.out.frozen n
      obtain ⟨o1, ho1⟩ : ∃ old, wr.cell? ⟨tb, n, none⟩ = some old := by
        obtain ⟨o, p⟩ := u8A_get (bs := padB 510 (xpT n)) (i := n) (by rw [padB_len (by rw [xpT_len]; omega)]; omega)
        exact ⟨o, (G2.out.cell n).trans p⟩
      generalize xpU n = x at *
      go_wp2_with fail
      have hst : Below rb w (wr.setCell ⟨tb, n, none⟩ (.int .u8 (x.toNat : Int))) ∧ Blk (wr.setCell ⟨tb, n, none⟩ (.int .u8 (x.toNat : Int))) tb (u8A (padB 510 (xpT (n + 1)))) 85 ∧ ∃ rs, Blk (wr.setCell ⟨tb, n, none⟩ (.int .u8 (x.toNat : Int))) rb rs 85 ∧ rs.size = 510 := by
        refine ⟨hbel.setCell (by simp; omega) _, ?_, ?_⟩
        · rw [HP.out]
          exact G2.out.byte HPL.out (by omega) rfl
        · obtain ⟨rs, h, hz⟩ := G1.out
          exact ⟨rs, h.other (by simp; omega) _, hz⟩
      generalize wr.setCell ⟨tb, n, none⟩ (.int .u8 (x.toNat : Int)) = w3 at hst ⊢
      obtain ⟨h1, h2, h3⟩ := hst
      have K2 := Lib.hid h2
      have K3 := Lib.hid h3
      clear hf1 ho1 h2 h3 G1 G2 hbel
      refine (double_any x w3).mono ?_
      rintro e w4 ⟨rfl, rfl⟩
      go_wp2_with fail
      go_roundw
      case rel => exact ⟨n + 1, by omega, by go_num, by rw [HPU.out], h1, K3, K2⟩
      case measure => simp [intOf]; omega
    · obtain rfl : n = 510 := by omega
      clear hn hlt
      obtain ⟨fin, hfe⟩ : ∃ x, u8A (xpT 510) = x := ⟨_, rfl⟩
      have hsz : fin.size = 510 := by rw [← hfe, u8A_size, xpT_len]
      have hone := u8A_one (xpT 510)
      rw [hfe] at hone
      have hfull : Blk wr tb fin 85 := by
        rw [← hfe]
        exact by have := G2.out; rwa [padB_full (xpT_len 510)] at this
      obtain ⟨rs, hrs, hrz⟩ := G1.out
      have HFE := Lib.hid hfe
      have HS2 := Lib.hid hsz
      have HONE := Lib.hid hone
      have HRZ := Lib.hid hrz
      clear hfe hsz hone hrz G1 G2
      go_wp2_with (first
        | (with_reducible refine wpList_load_blk rfl 85 (.tmp 1) rfl tb rfl 85 fin _ hfull Try.underlying85 rfl (by rw [HS2.out]; kernel_rfl) ?_)
        | (with_reducible refine wpList_store_blk rfl 85 (.tmp 0) (.tmp 13) rfl rb fin rfl rfl 85 rs hrs (by rw [HS2.out]; kernel_rfl) (by rw [HS2.out, HRZ.out]) HONE.out ?_))
      refine bodyPost_ret (v := .agg fin) (results_cell_row (p := 0) (ty := 85) (by kernel_rfl) _ _ rb 85 _ (0, 0) _ rfl (hrs.row fin) Try.underlying85 rfl (by rw [HS2.out]; kernel_rfl)) rfl ⟨by rw [HFE.out], ?_⟩
      rw [HW.out]
      exact below_row hbel (by have := hbel.size; have := HW.out; omega) (Nat.le_refl _) _

set_option maxRecDepth 100000 in
set_option maxHeartbeats 4000000 in
theorem plog_any (g : Nat) (w : World) (hg : g < w.heap.size) (hp : ∀ n, n < 510 → w.cell? ⟨g, n, none⟩ = some (.int .u8 ((xpU n).toNat : Int))) :
    Calls Try.prog 58 #[.pointer (some ⟨g, 0, none⟩)] w fun e w' => e = .returned (.agg (u8A (lgT 255))) ∧ Below w.heap.size w w' := by
  have hz := fun W => zero256t W
  have HPC := Lib.hid hp
  clear hp
  obtain ⟨Z, hZ⟩ : ∃ Z, u8A (List.replicate 256 0) = Z := ⟨_, rfl⟩
  have hzz : Z.size = 256 := by rw [← hZ, u8A_size]; exact List.length_replicate ..
  rw [hZ] at hz
  have HZ := Lib.hid hZ
  have HZZ := Lib.hid hzz
  clear hZ hzz
  go_enter Try.func58, Try.ntmps58
  go_wp2_with fail
  obtain ⟨g1, g2, hbel⟩ := two_new w Z Z 87 87
  generalize World.alloc (World.alloc w _) _ = w1 at *
  obtain ⟨rb, hrb⟩ : ∃ z, w.heap.size = z := ⟨_, rfl⟩
  rw [hrb] at g1 g2 hbel hg ⊢
  obtain ⟨tb, htb⟩ : ∃ z, rb + 1 = z := ⟨_, rfl⟩
  rw [htb] at g2 ⊢
  have hrt : rb < tb := by omega
  have HW := Lib.hid hrb
  have G1 := Lib.hid (show ∃ rs, Blk w1 rb rs 87 ∧ rs.size = 256 from ⟨_, g1, HZZ.out⟩)
  have G2 := Lib.hid (show Blk w1 tb (u8A (lgT 0)) 87 by rw [show lgT 0 = List.replicate 256 0 from rfl, HZ.out]; exact g2)
  clear g1 g2 hrb htb hz
  go_loopw [5] (fun t wr => ∃ n : Nat, n ≤ 255 ∧ t = .int .i64 n ∧ Below rb w wr ∧ Hid (∃ rs, Blk wr rb rs 87 ∧ rs.size = 256) ∧ Hid (Blk wr tb (u8A (lgT n)) 87)) (fun t _ => 255 - (intOf t).toNat)
  case atStart => exact ⟨0, by omega, rfl, hbel, G1, G2⟩
  case round =>
    clear hbel G1 G2
    obtain ⟨n, hn, rfl, hbel, G1, G2⟩ := hrel
    by_cases hlt : n < 255
    · have hni : (n : Int) < 255 := by omega
      have hni2 : (n : Int) < 510 := by omega
      have hx := (xpU n).toNat_lt
      have HLG := Lib.hid (show lgT (n + 1) = (lgT n).set (xpU n).toNat (UInt8.ofNat n) from rfl)
      have hc := (hbel.cell (p := ⟨g, n, none⟩) hg).trans (HPC.out n (by omega))
      have hf1 := G2.out.frozen (xpU n).toNat
      obtain ⟨o1, ho1⟩ : ∃ old, wr.cell? ⟨tb, (xpU n).toNat, none⟩ = some old := by
        obtain ⟨o, p⟩ := u8A_get (bs := lgT n) (i := (xpU n).toNat) (by rw [lgT_len]; exact hx)
        exact ⟨o, (G2.out.cell _).trans p⟩
      generalize xpU n = x at *
      have hxi : (x.toNat : Int) < 256 := by omega
      go_wp2_with fail
      have hst : Below rb w (wr.setCell ⟨tb, x.toNat, none⟩ (.int .u8 (n : Int))) ∧ Blk (wr.setCell ⟨tb, x.toNat, none⟩ (.int .u8 (n : Int))) tb (u8A (lgT (n + 1))) 87 ∧ ∃ rs, Blk (wr.setCell ⟨tb, x.toNat, none⟩ (.int .u8 (n : Int))) rb rs 87 ∧ rs.size = 256 := by
        refine ⟨hbel.setCell (by simp; omega) _, ?_, ?_⟩
        · rw [HLG.out]
          exact G2.out.put _ (by rw [UInt8.toNat_ofNat']; omega)
        · obtain ⟨rs, h, hz⟩ := G1.out
          exact ⟨rs, h.other (by simp; omega) _, hz⟩
      generalize wr.setCell ⟨tb, x.toNat, none⟩ (.int .u8 (n : Int)) = w3 at hst ⊢
      obtain ⟨h1, h2, h3⟩ := hst
      have K2 := Lib.hid h2
      have K3 := Lib.hid h3
      clear hf1 ho1 h2 h3 G1 G2 hbel
      try go_wp2_with fail
      go_roundw
      case rel => exact ⟨n + 1, by omega, by go_num, h1, K3, K2⟩
      case measure => simp [intOf]; omega
    · obtain rfl : n = 255 := by omega
      clear hn hlt
      obtain ⟨fin, hfe⟩ : ∃ x, u8A (lgT 255) = x := ⟨_, rfl⟩
      have hsz : fin.size = 256 := by rw [← hfe, u8A_size, lgT_len]
      have hone := u8A_one (lgT 255)
      rw [hfe] at hone
      have hfull : Blk wr tb fin 87 := by
        rw [← hfe]
        exact G2.out
      obtain ⟨rs, hrs, hrz⟩ := G1.out
      have HFE := Lib.hid hfe
      have HS2 := Lib.hid hsz
      have HONE := Lib.hid hone
      have HRZ := Lib.hid hrz
      clear hfe hsz hone hrz G1 G2
      go_wp2_with (first
        | (with_reducible refine wpList_load_blk rfl 87 (.tmp 3) rfl tb rfl 87 fin _ hfull Try.underlying87 rfl (by rw [HS2.out]; kernel_rfl) ?_)
        | (with_reducible refine wpList_store_blk rfl 87 (.tmp 2) (.tmp 17) rfl rb fin rfl rfl 87 rs hrs (by rw [HS2.out]; kernel_rfl) (by rw [HS2.out, HRZ.out]) HONE.out ?_))
      refine bodyPost_ret (v := .agg fin) (results_cell_row (p := 2) (ty := 87) (by kernel_rfl) _ _ rb 87 _ (0, 0) _ rfl (hrs.row fin) Try.underlying87 rfl (by rw [HS2.out]; kernel_rfl)) rfl ⟨by rw [HFE.out], ?_⟩
      rw [HW.out]
      exact below_row hbel (by have := hbel.size; have := HW.out; omega) (Nat.le_refl _) _
end Go.Proofs.Ytdaofffkbnkljaa
namespace Go.Proofs.Ytdaofffkbnkljaa
open Go.RowKit

/-- The cells of a field: the powers, the logs, the inverses. -/
def fdL (z : List UInt8) : List UInt8 := xpT 510 ++ (lgT 255 ++ z)
def ivT : List UInt8 := (List.range 256).map fun n => ivU (UInt8.ofNat n)
theorem fdL_len (z : List UInt8) : (fdL z).length = 766 + z.length := by
  unfold fdL
  rw [List.length_append, List.length_append, xpT_len, lgT_len]; omega
theorem fdL_pow {z : List UInt8} {n : Nat} (h : n < 510) : (fdL z).getD n 0 = xpU n := by
  unfold fdL
  rw [List.getD_eq_getElem?_getD, List.getElem?_append_left (by rw [xpT_len]; exact h), ← List.getD_eq_getElem?_getD]
  exact xpT_at h
theorem fdL_log {z : List UInt8} (a : UInt8) : (fdL z).getD (510 + a.toNat) 0 = (lgT 255).getD a.toNat 0 := by
  unfold fdL
  rw [List.getD_eq_getElem?_getD, List.getElem?_append_right (by rw [xpT_len]; omega), xpT_len, show 510 + a.toNat - 510 = a.toNat by omega, List.getElem?_append_left (by rw [lgT_len]; exact a.toNat_lt), ← List.getD_eq_getElem?_getD]
theorem fdL_inv {z : List UInt8} (n : Nat) : (fdL z).getD (766 + n) 0 = z.getD n 0 := by
  unfold fdL
  rw [List.getD_eq_getElem?_getD, List.getElem?_append_right (by rw [xpT_len]; omega), xpT_len, List.getElem?_append_right (by rw [lgT_len]; omega), lgT_len, show 766 + n - 510 - 256 = n by omega, ← List.getD_eq_getElem?_getD]
theorem ivT_at (a : UInt8) : ivT.getD a.toNat 0 = ivU a := by
  rw [ivT, map_getD _ 256 a.toNat a.toNat_lt, UInt8.ofNat_toNat]
theorem ivT_len : ivT.length = 256 := by simp [ivT]

/-- At g there is a field; its inverses are z so far. -/
def FdZ (w : World) (g : Nat) (z : List UInt8) : Prop := z.length = 256 ∧ Blk w g (u8A (fdL z)) 89
theorem FdZ.pow {w : World} {g : Nat} {z : List UInt8} (h : FdZ w g z) {n : Nat} (hn : n < 510) : w.cell? ⟨g, n, none⟩ = some (.int .u8 ((xpU n).toNat : Int)) := by
  rw [h.2.byteAt (i := n) (by rw [fdL_len, h.1]; omega), fdL_pow hn]
theorem FdZ.log {w : World} {g : Nat} {z : List UInt8} (h : FdZ w g z) (a : UInt8) : w.cell? ⟨g, 510 + a.toNat, none⟩ = some (.int .u8 (lgN a : Int)) := by
  have := a.toNat_lt
  rw [h.2.byteAt (i := 510 + a.toNat) (by rw [fdL_len, h.1]; omega), fdL_log]; rfl
theorem FdZ.inv {w : World} {g : Nat} {z : List UInt8} (h : FdZ w g z) {n : Nat} (hn : n < 256) : w.cell? ⟨g, 766 + n, none⟩ = some (.int .u8 ((z.getD n 0).toNat : Int)) := by
  rw [h.2.byteAt (i := 766 + n) (by rw [fdL_len, h.1]; omega), fdL_inv]
theorem FdZ.drewN {w : World} {g : Nat} {z : List UInt8} (h : FdZ w g z) (q : Nat) : FdZ (w.drewN q) g z := ⟨h.1, h.2.drewN q⟩
theorem FdZ.lt {w : World} {g : Nat} {z : List UInt8} (h : FdZ w g z) : g < w.heap.size := h.2.lt
theorem FdZ.below {w w' : World} {B g : Nat} {z : List UInt8} (h : FdZ w g z) (hb : Below B w w') (hg : g < B) : FdZ w' g z := ⟨h.1, h.2.below hb hg⟩
theorem lgN_lt (a : UInt8) : lgN a < 256 := ((lgT 255).getD a.toNat 0).toNat_lt

theorem log_any (g : Nat) (z : List UInt8) (a : UInt8) (w : World) (h : FdZ w g z) :
    Calls Try.prog 69 #[.pointer (some ⟨g, 0, none⟩), .int .u8 (a.toNat : Int)] w fun e w' => e = .returned (.int .i64 (lgN a : Int)) ∧ w = w' := by
  have ha := a.toNat_lt
  have hai : (a.toNat : Int) < 256 := by omega
  have hc := h.log a
  have hl := lgN_lt a
  generalize lgN a = n at *
  go_enter Try.func69, Try.ntmps69
  go_wp2_with fail
  go_ret
  exact ⟨rfl, rfl⟩

set_option maxRecDepth 100000 in
theorem invert_any (g : Nat) (z : List UInt8) (a : UInt8) (w : World) (h : FdZ w g z) :
    Calls Try.prog 60 #[.pointer (some ⟨g, 0, none⟩), .int .u8 (a.toNat : Int)] w fun e w' => e = .returned (.int .u8 ((ivU a).toNat : Int)) ∧ ∃ q, w' = w.drewN q := by
  by_cases h0 : a = 0
  · subst h0
    have hz : ((0 : UInt8).toNat : Int) = 0 := rfl
    go_enter Try.func60, Try.ntmps60
    go_wp2_with fail
    go_ret
    exact ⟨rfl, 0, rfl⟩
  · have ha := pos8' h0
    have hc := h.pow (n := 255 - lgN a) (by omega)
    have hl := (xp_lg h0).2
    have HL := Lib.hid (fun q => log_any g z a (w.drewN q) (h.drewN q))
    have HV := Lib.hid (show xpU (255 - lgN a) = ivU a by unfold ivU; rw [if_neg h0])
    rw [HV.out] at hc
    clear h0
    generalize lgN a = n at *
    have e1 : (255 : Int) - (n : Int) = ((255 - n : Nat) : Int) := by omega
    have i1 : ((255 - n : Nat) : Int) < 510 := by omega
    generalize 255 - n = m at *
    go_enter Try.func60, Try.ntmps60
    go_wp2_with fail
    go_quiet ((go_at_call 69; exact (HL.out _).mono fun e w'' h => ⟨h.1, _, h.2.symm⟩))
    go_wp2_with fail
    go_ret
    exact ⟨rfl, _, rfl⟩

def ivTo (n : Nat) : List UInt8 := (List.range n).map fun n => ivU (UInt8.ofNat n)
theorem ivTo_len (n : Nat) : (ivTo n).length = n := by simp [ivTo]
theorem ivTo_succ (n : Nat) : ivTo (n + 1) = ivTo n ++ [ivU (UInt8.ofNat n)] := by simp [ivTo, List.range_succ]
set_option maxRecDepth 100000 in
set_option maxHeartbeats 4000000 in
theorem each_any (g : Nat) (z : List UInt8) (w : World) (h : FdZ w g z) :
    Calls Try.prog 59 #[.pointer (some ⟨g, 0, none⟩), .func (.func 60) #[] #[]] w fun e w' => e = .returned (.agg (u8A ivT)) ∧ Below w.heap.size w w' := by
  have hz := fun W => zero256t W
  have hg := h.lt
  have HF := Lib.hid h
  clear h
  obtain ⟨Z, hZ⟩ : ∃ Z, u8A (List.replicate 256 0) = Z := ⟨_, rfl⟩
  have hzz : Z.size = 256 := by rw [← hZ, u8A_size]; exact List.length_replicate ..
  rw [hZ] at hz
  have HZ := Lib.hid hZ
  have HZZ := Lib.hid hzz
  clear hZ hzz
  go_enter Try.func59, Try.ntmps59
  go_wp2_with fail
  obtain ⟨g1, g2, hbel⟩ := two_new w Z Z 87 87
  generalize World.alloc (World.alloc w _) _ = w1 at *
  obtain ⟨rb, hrb⟩ : ∃ z, w.heap.size = z := ⟨_, rfl⟩
  rw [hrb] at g1 g2 hbel hg ⊢
  obtain ⟨tb, htb⟩ : ∃ z, rb + 1 = z := ⟨_, rfl⟩
  rw [htb] at g2 ⊢
  have hrt : rb < tb := by omega
  have HW := Lib.hid hrb
  have G1 := Lib.hid (show ∃ rs, Blk w1 rb rs 87 ∧ rs.size = 256 from ⟨_, g1, HZZ.out⟩)
  have G2 := Lib.hid (show Blk w1 tb (u8A (padB 256 (ivTo 0))) 87 by rw [show padB 256 (ivTo 0) = List.replicate 256 0 from rfl, HZ.out]; exact g2)
  clear g1 g2 hrb htb hz
  go_loopw [7] (fun t wr => ∃ n : Nat, n ≤ 256 ∧ t = .int .i64 n ∧ Below rb w wr ∧ Hid (∃ rs, Blk wr rb rs 87 ∧ rs.size = 256) ∧ Hid (Blk wr tb (u8A (padB 256 (ivTo n))) 87)) (fun t _ => 256 - (intOf t).toNat)
  case atStart => exact ⟨0, by omega, rfl, hbel, G1, G2⟩
  case round =>
    clear hbel G1 G2
    obtain ⟨n, hn, rfl, hbel, G1, G2⟩ := hrel
    by_cases hlt : n < 256
    · have hni : (n : Int) < 256 := by omega
      have HP := Lib.hid (ivTo_succ n)
      have HPL := Lib.hid (ivTo_len n)
      have HI := Lib.hid (show Calls Try.prog 60 #[.pointer (some ⟨g, 0, none⟩), .int .u8 (n : Int)] wr fun e w' => e = .returned (.int .u8 ((ivU (UInt8.ofNat n)).toNat : Int)) ∧ ∃ q, w' = wr.drewN q by
        have := invert_any g z (UInt8.ofNat n) wr (HF.out.below hbel hg)
        rwa [show ((UInt8.ofNat n).toNat : Int) = (n : Int) by rw [UInt8.toNat_ofNat', Nat.mod_eq_of_lt hlt]] at this)
      generalize ivU (UInt8.ofNat n) = x at *
      have hx := x.toNat_lt
      have hf1 := G2.out.frozen n
      obtain ⟨o1, ho1⟩ : ∃ old, wr.cell? ⟨tb, n, none⟩ = some old := by
        obtain ⟨o, p⟩ := u8A_get (bs := padB 256 (ivTo n)) (i := n) (by rw [padB_len (by rw [ivTo_len]; omega)]; omega)
        exact ⟨o, (G2.out.cell n).trans p⟩
      go_wp2_with fail
      refine (HI.out).mono ?_
      rintro e w2 ⟨rfl, q, hq⟩
      have hst : Below rb w w2 ∧ w2.frozen? ⟨tb, n, none⟩ = false ∧ w2.cell? ⟨tb, n, none⟩ = some o1 ∧ Blk w2 tb (u8A (padB 256 (ivTo n))) 87 ∧ ∃ rs, Blk w2 rb rs 87 ∧ rs.size = 256 := by
        subst hq
        exact ⟨below_drewN hbel q, hf1, ho1, G2.out.drewN q, G1.out⟩
      clear hf1 ho1 hq hbel G1 G2 HI
      obtain ⟨hbel, hf1, ho1, g2, g1⟩ := hst
      have G1 := Lib.hid g1
      have G2 := Lib.hid g2
      clear g1 g2
      go_wp2_with fail
      have hst : Below rb w (w2.setCell ⟨tb, n, none⟩ (.int .u8 (x.toNat : Int))) ∧ Blk (w2.setCell ⟨tb, n, none⟩ (.int .u8 (x.toNat : Int))) tb (u8A (padB 256 (ivTo (n + 1)))) 87 ∧ ∃ rs, Blk (w2.setCell ⟨tb, n, none⟩ (.int .u8 (x.toNat : Int))) rb rs 87 ∧ rs.size = 256 := by
        refine ⟨hbel.setCell (by simp; omega) _, ?_, ?_⟩
        · rw [HP.out]
          exact G2.out.byte HPL.out (by omega) rfl
        · obtain ⟨rs, h, hz⟩ := G1.out
          exact ⟨rs, h.other (by simp; omega) _, hz⟩
      generalize w2.setCell ⟨tb, n, none⟩ (.int .u8 (x.toNat : Int)) = w3 at hst ⊢
      obtain ⟨h1, h2, h3⟩ := hst
      have K2 := Lib.hid h2
      have K3 := Lib.hid h3
      clear hf1 ho1 h2 h3 G1 G2 hbel
      try go_wp2_with fail
      go_roundw
      case rel => exact ⟨n + 1, by omega, by go_num, h1, K3, K2⟩
      case measure => simp [intOf]; omega
    · obtain rfl : n = 256 := by omega
      clear hn hlt
      obtain ⟨fin, hfe⟩ : ∃ x, u8A ivT = x := ⟨_, rfl⟩
      have hsz : fin.size = 256 := by rw [← hfe, u8A_size, ivT_len]
      have hone := u8A_one ivT
      rw [hfe] at hone
      have hfull : Blk wr tb fin 87 := by
        rw [← hfe]
        exact by have := G2.out; rwa [padB_full (ivTo_len 256)] at this
      obtain ⟨rs, hrs, hrz⟩ := G1.out
      have HFE := Lib.hid hfe
      have HS2 := Lib.hid hsz
      have HONE := Lib.hid hone
      have HRZ := Lib.hid hrz
      clear hfe hsz hone hrz G1 G2
      go_wp2_with (first
        | (with_reducible refine wpList_load_blk rfl 87 (.tmp 5) rfl tb rfl 87 fin _ hfull Try.underlying87 rfl (by rw [HS2.out]; kernel_rfl) ?_)
        | (with_reducible refine wpList_store_blk rfl 87 (.tmp 4) (.tmp 18) rfl rb fin rfl rfl 87 rs hrs (by rw [HS2.out]; kernel_rfl) (by rw [HS2.out, HRZ.out]) HONE.out ?_))
      refine bodyPost_ret (v := .agg fin) (results_cell_row (p := 4) (ty := 87) (by kernel_rfl) _ _ rb 87 _ (0, 0) _ rfl (hrs.row fin) Try.underlying87 rfl (by rw [HS2.out]; kernel_rfl)) rfl ⟨by rw [HFE.out], ?_⟩
      rw [HW.out]
      exact below_row hbel (by have := hbel.size; have := HW.out; omega) (Nat.le_refl _) _

theorem zeroField (w : World) : (zeroValue 89).run Try.prog w = .ok (.agg (u8A (List.replicate 1022 0))) w := by kernel_rfl
def fd1 : List UInt8 := xpT 510 ++ List.replicate 512 0
theorem fd1_len : fd1.length = 1022 := by unfold fd1; rw [List.length_append, xpT_len, List.length_replicate]
theorem fd1_at {n : Nat} (h : n < 510) : fd1.getD n 0 = xpU n := by
  unfold fd1
  rw [List.getD_eq_getElem?_getD, List.getElem?_append_left (by rw [xpT_len]; exact h), ← List.getD_eq_getElem?_getD]
  exact xpT_at h
theorem fd1_eq : (List.replicate 1022 (0 : UInt8)).take 0 ++ xpT 510 ++ (List.replicate 1022 0).drop (0 + (xpT 510).length) = fd1 := by
  have h : 1022 - (0 + 510) = 512 := by decide
  unfold fd1
  rw [List.take_zero, List.nil_append, xpT_len, List.drop_replicate, h]
theorem fd2_eq : fd1.take 510 ++ lgT 255 ++ fd1.drop (510 + (lgT 255).length) = fdL (List.replicate 256 0) := by
  unfold fd1 fdL
  rw [lgT_len, List.take_left' (xpT_len 510), List.drop_append, xpT_len, List.drop_of_length_le (by rw [xpT_len]; omega), List.nil_append, List.drop_replicate, List.append_assoc]
theorem fd3_eq (z y : List UInt8) (hz : z.length = 256) (hy : y.length = 256) : (fdL z).take 766 ++ y ++ (fdL z).drop (766 + y.length) = fdL y := by
  unfold fdL
  rw [← List.append_assoc, List.take_left' (by rw [List.length_append, xpT_len, lgT_len]), List.drop_of_length_le (by rw [List.length_append, List.length_append, xpT_len, lgT_len]; omega), List.append_nil, List.append_assoc]
theorem byteCells_toList (l : List UInt8) : (u8A l).toList = Lib.byteCells l := by simp [u8A]
set_option maxRecDepth 100000 in
set_option maxHeartbeats 4000000 in
theorem fnew_any (w : World) :
    Calls Try.prog 34 #[] w fun e w' => ∃ g, e = .returned (.pointer (some ⟨g, 0, none⟩)) ∧ w.heap.size ≤ g ∧ FdZ w' g ivT ∧ Below w.heap.size w w' := by
  have hz := fun W => zeroField W
  obtain ⟨Z, hZ⟩ : ∃ Z, u8A (List.replicate 1022 0) = Z := ⟨_, rfl⟩
  rw [hZ] at hz
  have HZ := Lib.hid hZ
  clear hZ
  obtain ⟨R1, hR1⟩ : ∃ R, u8A (xpT 510) = R := ⟨_, rfl⟩
  obtain ⟨R2, hR2⟩ : ∃ R, u8A (lgT 255) = R := ⟨_, rfl⟩
  obtain ⟨R3, hR3⟩ : ∃ R, u8A ivT = R := ⟨_, rfl⟩
  have s1 : R1.size = 510 := by rw [← hR1, u8A_size, xpT_len]
  have s2 : R2.size = 256 := by rw [← hR2, u8A_size, lgT_len]
  have s3 : R3.size = 256 := by rw [← hR3, u8A_size, ivT_len]
  have o1 : R1.all (·.oneCell') = true := by rw [← hR1]; exact u8A_one _
  have o2 : R2.all (·.oneCell') = true := by rw [← hR2]; exact u8A_one _
  have o3 : R3.all (·.oneCell') = true := by rw [← hR3]; exact u8A_one _
  have l1 : R1.toList = Lib.byteCells (xpT 510) := by rw [← hR1, byteCells_toList]
  have l2 : R2.toList = Lib.byteCells (lgT 255) := by rw [← hR2, byteCells_toList]
  have l3 : R3.toList = Lib.byteCells ivT := by rw [← hR3, byteCells_toList]
  have C1 := Lib.hid (fun W => prow_any W)
  have C2 := Lib.hid (fun g W => plog_any g W)
  have C3 := Lib.hid (fun g z W => each_any g z W)
  rw [hR1] at C1
  rw [hR2] at C2
  rw [hR3] at C3
  have S1 := Lib.hid s1
  have S2 := Lib.hid s2
  have S3 := Lib.hid s3
  have O1 := Lib.hid o1
  have O2 := Lib.hid o2
  have O3 := Lib.hid o3
  have L1 := Lib.hid l1
  have L2 := Lib.hid l2
  have L3 := Lib.hid l3
  clear hR1 hR2 hR3 s1 s2 s3 o1 o2 o3 l1 l2 l3
  go_enter Try.func34, Try.ntmps34
  go_wp2_with fail
  have G := Lib.hid (show Blk (w.alloc (.cells Z 89)) w.heap.size (u8A (List.replicate 1022 0)) 89 by rw [HZ.out]; exact Blk.new _ _ _)
  have hbel : Below w.heap.size w (w.alloc (.cells Z 89)) := (Below.refl _ _).alloc (Nat.le_refl _) _
  generalize w.alloc (.cells Z 89) = w1 at *
  obtain ⟨g, hg⟩ : ∃ z, w.heap.size = z := ⟨_, rfl⟩
  rw [hg] at G hbel ⊢
  have HG := Lib.hid hg
  clear hg hz
  refine (C1.out w1).mono ?_
  rintro e w2 ⟨rfl, hb2⟩
  have G2 := Lib.hid (G.out.below hb2 G.out.lt)
  have hbel2 := hbel.trans (hb2.mono (by have := G.out.lt; omega))
  clear hb2 hbel G C1
  have HT := Lib.hid (show w2.there g 0 R1.size by rw [S1.out]; exact G2.out.there 0 510 (by rw [List.length_replicate]; omega))
  go_wp2_with (with_reducible refine wpList_store_mid rfl 85 (.tmp 6) (.tmp 4) rfl g 0 R1 rfl rfl HT.out (by rw [S1.out]; kernel_rfl) O1.out ?_)
  have G3 := Lib.hid (show Blk (w2.setCells g 0 R1.toList) g (u8A fd1) 89 by
    rw [L1.out, ← fd1_eq]
    exact Blk.putAll (xpT 510) 0 G2.out (by rw [List.length_replicate, xpT_len]; omega))
  have hbel3 := below_cells (Nat.le_refl g) R1.toList 0 hbel2
  generalize w2.setCells g 0 R1.toList = w3 at *
  clear HT G2 hbel2
  refine (C2.out g w3 G3.out.lt (fun n hn => by rw [G3.out.byteAt (by rw [fd1_len]; omega), fd1_at hn])).mono ?_
  rintro e w4 ⟨rfl, hb4⟩
  have G4 := Lib.hid (G3.out.below hb4 G3.out.lt)
  have hbel4 := hbel3.trans (hb4.mono (by have := G3.out.lt; omega))
  clear hb4 hbel3 G3 C2
  have HT := Lib.hid (show w4.there g 510 R2.size by rw [S2.out]; exact G4.out.there 510 256 (by rw [fd1_len]; omega))
  go_wp2_with (with_reducible refine wpList_store_mid rfl 87 (.tmp 13) (.tmp 11) rfl g 510 R2 rfl rfl HT.out (by rw [S2.out]; kernel_rfl) O2.out ?_)
  have G5 := Lib.hid (show Blk (w4.setCells g 510 R2.toList) g (u8A (fdL (List.replicate 256 0))) 89 by
    rw [L2.out, ← fd2_eq]
    exact Blk.putAll (lgT 255) 510 G4.out (by rw [fd1_len, lgT_len]; omega))
  have hbel5 := below_cells (Nat.le_refl g) R2.toList 510 hbel4
  generalize w4.setCells g 510 R2.toList = w5 at *
  clear HT G4 hbel4
  have hz256 : (List.replicate 256 (0 : UInt8)).length = 256 := List.length_replicate ..
  have HZ6 := Lib.hid hz256
  clear hz256
  refine (C3.out g _ w5 ⟨HZ6.out, G5.out⟩).mono ?_
  rintro e w6 ⟨rfl, hb6⟩
  have G6 := Lib.hid (G5.out.below hb6 G5.out.lt)
  have hbel6 := hbel5.trans (hb6.mono (by have := G5.out.lt; omega))
  clear hb6 hbel5 G5 C3
  have HT := Lib.hid (show w6.there g 766 R3.size by rw [S3.out]; exact G6.out.there 766 256 (by rw [fdL_len, HZ6.out]; exact Nat.le_refl _))
  go_wp2_with (with_reducible refine wpList_store_mid rfl 87 (.tmp 18) (.tmp 16) rfl g 766 R3 rfl rfl HT.out (by rw [S3.out]; kernel_rfl) O3.out ?_)
  have G7 := Lib.hid (show Blk (w6.setCells g 766 R3.toList) g (u8A (fdL ivT)) 89 by
    rw [L3.out, ← fd3_eq _ ivT HZ6.out ivT_len]
    exact Blk.putAll ivT 766 G6.out (by rw [fdL_len, HZ6.out, ivT_len]; exact Nat.le_refl _))
  have hbel7 := below_cells (Nat.le_refl g) R3.toList 766 hbel6
  generalize w6.setCells g 766 R3.toList = w7 at *
  clear HT G6 hbel6
  go_wp2_with fail
  go_ret
  exact ⟨g, rfl, by rw [HG.out]; exact Nat.le_refl _, ⟨ivT_len, G7.out⟩, by rw [HG.out]; exact hbel7⟩
end Go.Proofs.Ytdaofffkbnkljaa
namespace Go.Proofs.Ytdaofffkbnkljaa
open Go.RowKit

/-- At g there is a field, its tables made. -/
def FdAt (w : World) (g : Nat) : Prop := FdZ w g ivT
theorem FdAt.drewN {w : World} {g : Nat} (h : FdAt w g) (q : Nat) : FdAt (w.drewN q) g := FdZ.drewN h q
theorem FdAt.below {w w' : World} {B g : Nat} (h : FdAt w g) (hb : Below B w w') (hg : g < B) : FdAt w' g := FdZ.below h hb hg
theorem FdAt.lt {w : World} {g : Nat} (h : FdAt w g) : g < w.heap.size := FdZ.lt h

set_option maxRecDepth 100000 in
set_option maxHeartbeats 1000000 in
theorem fmul_any (g : Nat) (a b : UInt8) (w : World) (h : FdAt w g) :
    Calls Try.prog 70 #[.pointer (some ⟨g, 0, none⟩), .int .u8 (a.toNat : Int), .int .u8 (b.toNat : Int)] w fun e w' => e = .returned (.int .u8 ((mulU a b).toNat : Int)) ∧ ∃ q, w' = w.drewN q := by
  by_cases h0 : a = 0
  · subst h0
    have hz : ((0 : UInt8).toNat : Int) = 0 := rfl
    have HM := Lib.hid (mulU_zero' b)
    go_enter Try.func70, Try.ntmps70
    go_wp2_with fail
    go_ret
    exact ⟨retB (by rw [HM.out]; rfl), 0, rfl⟩
  · by_cases h1 : b = 0
    · subst h1
      have ha := pos8' h0
      have hz : ((0 : UInt8).toNat : Int) = 0 := rfl
      have hae : ((a.toNat : Int) == 0) = false := beq_eq_false_iff_ne.2 (by omega)
      have HM := Lib.hid (mulU_zero a)
      clear h0
      go_enter Try.func70, Try.ntmps70
      go_wp2_with fail
      go_ret
      exact ⟨retB (by rw [HM.out]; rfl), 0, rfl⟩
    · have ha := pos8' h0
      have hb := pos8' h1
      have hae : ((a.toNat : Int) == 0) = false := beq_eq_false_iff_ne.2 (by omega)
      have hbe : ((b.toNat : Int) == 0) = false := beq_eq_false_iff_ne.2 (by omega)
      have hl := (xp_lg h0).2
      have hl2 := (xp_lg h1).2
      have hc := FdZ.pow h (n := lgN a + lgN b) (by omega)
      have HL := Lib.hid (fun q => log_any g ivT a (w.drewN q) (h.drewN q))
      have HL2 := Lib.hid (fun q => log_any g ivT b (w.drewN q) (h.drewN q))
      have HV := Lib.hid (show xpU (lgN a + lgN b) = mulU a b by unfold mulU; rw [if_neg (by simp [h0, h1])])
      rw [HV.out] at hc
      clear h0 h1 HV
      generalize mulU a b = c at *
      generalize lgN a = n at *
      generalize lgN b = m at *
      obtain ⟨k, hk⟩ : ∃ k, n + m = k := ⟨_, rfl⟩
      rw [hk] at hc
      have e1 : (n : Int) + (m : Int) = (k : Int) := by omega
      have i1 : (k : Int) < 510 := by omega
      clear hk
      go_enter Try.func70, Try.ntmps70
      go_wp2_with fail
      go_quiet ((go_at_call 69; first | (with_reducible refine (HL.out _).mono ?_; exact fun e w'' h => ⟨h.1, _, h.2.symm⟩) | (with_reducible refine (HL2.out _).mono ?_; exact fun e w'' h => ⟨h.1, _, h.2.symm⟩)))
      go_wp2_with fail
      go_ret
      exact ⟨rfl, _, rfl⟩

theorem finv_any (g : Nat) (a : UInt8) (w : World) (h : FdAt w g) :
    Calls Try.prog 71 #[.pointer (some ⟨g, 0, none⟩), .int .u8 (a.toNat : Int)] w fun e w' => e = .returned (.int .u8 ((ivU a).toNat : Int)) ∧ w = w' := by
  have ha := a.toNat_lt
  have hai : (a.toNat : Int) < 256 := by omega
  have hc := FdZ.inv h (n := a.toNat) ha
  rw [ivT_at] at hc
  generalize ivU a = x at *
  go_enter Try.func71, Try.ntmps71
  go_wp2_with fail
  go_ret
  exact ⟨rfl, rfl⟩

/-- The error of a quotient. -/
def divE (b : UInt8) : Int := if b = 0 then 1 else 0
theorem divE_zero : divE 0 = 1 := rfl
theorem divE_else {b : UInt8} (h : b ≠ 0) : divE b = 0 := if_neg h

/-! ### Powers -/
def fpU (a : UInt8) (n : Int) : UInt8 := pwU a n.toNat
theorem fpU_none (a : UInt8) {n : Int} (h : n ≤ 0) : fpU a n = 1 := by unfold fpU; rw [show n.toNat = 0 by omega]; rfl
theorem fpU_zero {n : Int} (h : 0 < n) : fpU 0 n = 0 := pwU_zero (by omega)
theorem fpU_pos {a : UInt8} {n : Int} (h : a ≠ 0) : fpU a n = xpU (lgN a * n.toNat) := by
  unfold fpU
  conv => lhs; rw [← (xp_lg h).1, pwU_xp]
theorem fpU_mod {a : UInt8} {n : Int} (h : a ≠ 0) : xpU (lgN a * (n.toNat % 255) % 255) = fpU a n := by
  rw [fpU_pos h]
  exact xpU_congr (by rw [Nat.mod_mod, Nat.mul_mod, Nat.mod_mod, ← Nat.mul_mod])
set_option maxRecDepth 100000 in
set_option maxHeartbeats 1000000 in
theorem fpow_any (g : Nat) (a : UInt8) (n : Int) (w : World) (hn : -9223372036854775808 ≤ n ∧ n < 9223372036854775808) (h : FdAt w g) :
    Calls Try.prog 49 #[.pointer (some ⟨g, 0, none⟩), .int .u8 (a.toNat : Int), .int .i64 n] w fun e w' => e = .returned (.int .u8 ((fpU a n).toNat : Int)) ∧ ∃ q, w' = w.drewN q := by
  obtain ⟨hn0, hn1⟩ := hn
  by_cases hb : n ≤ 0
  · have HP := Lib.hid (fpU_none a hb)
    go_enter Try.func49, Try.ntmps49
    go_wp2_with fail
    go_ret
    exact ⟨retB (by rw [HP.out]; rfl), 0, rfl⟩
  · by_cases h0 : a = 0
    · subst h0
      have hz : ((0 : UInt8).toNat : Int) = 0 := rfl
      have HP := Lib.hid (fpU_zero (show 0 < n by omega))
      go_enter Try.func49, Try.ntmps49
      go_wp2_with fail
      go_ret
      exact ⟨retB (by rw [HP.out]; rfl), 0, rfl⟩
    · have ha := pos8' h0
      have hae : ((a.toNat : Int) == 0) = false := beq_eq_false_iff_ne.2 (by omega)
      have hl := (xp_lg h0).2
      have HL := Lib.hid (fun q => log_any g ivT a (w.drewN q) (h.drewN q))
      have hc := FdZ.pow h (n := lgN a * (n.toNat % 255) % 255) (by omega)
      have HV := Lib.hid (fpU_mod (n := n) h0)
      rw [HV.out] at hc
      clear h0 HV
      generalize fpU a n = c at *
      obtain ⟨r, hr⟩ : ∃ r, n.toNat % 255 = r := ⟨_, rfl⟩
      have e1 : n % 255 = (r : Int) := by omega
      have hrl : r < 255 := by omega
      rw [hr] at hc
      clear hr
      generalize lgN a = m at *
      obtain ⟨p, hp⟩ : ∃ p, m * r = p := ⟨_, rfl⟩
      have e2 : (m : Int) * (r : Int) = (p : Int) := by rw [← hp]; simp
      have hpl : p < 65536 := by rw [← hp]; exact Nat.lt_of_le_of_lt (Nat.mul_le_mul (show m ≤ 255 by omega) (show r ≤ 255 by omega)) (by decide)
      rw [hp] at hc
      obtain ⟨k, hk⟩ : ∃ k, p % 255 = k := ⟨_, rfl⟩
      have e3 : (p : Int) % 255 = (k : Int) := by omega
      have i1 : (k : Int) < 510 := by omega
      rw [hk] at hc
      clear hp hk
      go_enter Try.func49, Try.ntmps49
      go_wp2_with fail
      go_quiet ((go_at_call 69; (with_reducible refine (HL.out _).mono ?_; exact fun e w'' h => ⟨h.1, _, h.2.symm⟩)))
      go_wp2_with fail
      go_ret
      exact ⟨rfl, _, rfl⟩
end Go.Proofs.Ytdaofffkbnkljaa
namespace Go.Proofs.Ytdaofffkbnkljaa
open Go.RowKit

set_option maxRecDepth 100000 in
set_option maxHeartbeats 1000000 in
theorem sumOf_any (g : Nat) (A B : Option Addr) (n m c d C D : Nat) (l k : List UInt8) (w : World) (hn : l.length = n) (hm : k.length = m) (h1 : n ≤ maxLen) (_h2 : m ≤ maxLen) (ha : Rd w C A l) (hb : Rd w D B k) (hg : FdAt w g) :
    Calls Try.prog 76 #[.func (.func 70) #[.pointer (some ⟨g, 0, none⟩)] #[], .slice A n c, .slice B m d] w fun e w' => e = .returned (.int .u8 ((dotU l k (min n m)).toNat : Int)) ∧ ∃ q, w' = w.drewN q := by
  unfold maxLen at h1
  have HN := Lib.hid hn
  have HM := Lib.hid hm
  have HF := Lib.hid hg
  obtain ⟨o, ho⟩ : ∃ o, min n m = o := ⟨_, rfl⟩
  rw [ho]
  have h3 : o ≤ n := by omega
  have h4 : o ≤ m := by omega
  have e1 : min (n : Int) (m : Int) = (o : Int) := by omega
  have e2 : (if m < n then (m : Int) else (n : Int)) = (o : Int) := by split <;> omega
  have e3 : (if m < n then Value.int .i64 (m : Int) else Value.int .i64 (n : Int)) = Value.int .i64 (o : Int) := by split <;> (congr 1; omega)
  clear hn hm ho hg
  go_enter Try.func76, Try.ntmps76
  go_wp2_with fail
  go_loopw [7, 14] (fun s t wr => ∃ j q : Nat, j ≤ o ∧ t = .int .i64 j ∧ s = .int .u8 ((dotU l k j).toNat : Int) ∧ wr = w.drewN q) (fun _ t _ => o - (intOf t).toNat)
  case atStart => exact ⟨0, 0, Nat.zero_le _, rfl, rfl, rfl⟩
  case round =>
    obtain ⟨j, q, hj, rfl, rfl, rfl⟩ := hrel
    by_cases hlt : j < o
    · have hl1 : j < l.length := by rw [HN.out]; omega
      have hk1 : j < k.length := by rw [HM.out]; omega
      obtain ⟨b, off, rfl, _, hc⟩ := ha.at_ j hl1
      obtain ⟨b', off', rfl, _, hc'⟩ := hb.at_ j hk1
      have hi0 : (j : Int) < (o : Int) := by omega
      have hi1 : (j : Int) < (n : Int) := by omega
      have hi2 : (j : Int) < (m : Int) := by omega
      have HS := Lib.hid (show dotU l k j ^^^ mulU l[j] k[j] = dotU l k (j + 1) by
        rw [dotU, List.getD_eq_getElem?_getD, List.getD_eq_getElem?_getD, List.getElem?_eq_getElem hl1, List.getElem?_eq_getElem hk1]; rfl)
      generalize dotU l k j = s at *
      generalize l[j] = x at *
      generalize k[j] = y at *
      have HL := Lib.hid (fun r => fmul_any g x y (w.drewN r) (HF.out.drewN r))
      have HA := Lib.hid (fun r => add_any s (mulU x y) (w.drewN r))
      generalize mulU x y = p at *
      clear hl1 hk1
      go_wp2_with fail
      go_quiet (first
        | (go_at_call 70; (with_reducible refine (HL.out _).mono ?_; rintro e w'' ⟨rfl, r, rfl⟩; exact ⟨rfl, _, by rw [World.drewN_drewN, Nat.add_assoc]⟩))
        | (go_at_call 79; (with_reducible refine (HA.out _).mono ?_; exact fun e w'' h => ⟨h.1, _, h.2.symm⟩)))
      go_wp2_with fail
      go_roundw
      case rel => exact ⟨j + 1, _, by omega, by go_num, by rw [HS.out], rfl⟩
      case measure => simp [intOf]; omega
    · obtain rfl : o = j := by omega
      go_wp2_with fail
      go_ret
      exact ⟨rfl, _, rfl⟩

set_option maxRecDepth 100000 in
set_option maxHeartbeats 1000000 in
theorem fdot_any (g : Nat) (A B : Option Addr) (n m c d C D : Nat) (l k : List UInt8) (w : World) (hn : l.length = n) (hm : k.length = m) (h1 : n ≤ maxLen) (h2 : m ≤ maxLen) (ha : Rd w C A l) (hb : Rd w D B k) (hg : FdAt w g) :
    Calls Try.prog 54 #[.pointer (some ⟨g, 0, none⟩), .slice A n c, .slice B m d] w fun e w' => e = .returned (.int .u8 ((dotU l k (min n m)).toNat : Int)) ∧ ∃ q, w' = w.drewN q := by
  have HC := Lib.hid (sumOf_any g A B n m c d C D l k w hn hm h1 h2 ha hb hg)
  clear hn hm h1 h2 ha hb hg
  generalize dotU l k (min n m) = s at *
  go_enter Try.func54, Try.ntmps54
  go_wp2_with fail
  refine (HC.out).mono ?_
  rintro e w1 ⟨rfl, q, rfl⟩
  go_wp2_with fail
  go_ret
  exact ⟨rfl, q, rfl⟩
end Go.Proofs.Ytdaofffkbnkljaa
