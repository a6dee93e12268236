/- The document's example of chapter 6. -/
import Derived.Test.YtdaofffkbnkljaaPRs
import Derived.Test.YtdaofffkbnkljaaMvEq
import Derived.Test.YtdaofffkbnkljaaKeep
import Derived.Lib.SlBytesConst
namespace Go.Proofs.Ytdaofffkbnkljaa
open Go.RowKit

theorem gen_one {G : Mx} (hG : Gen 1 G) (i : Nat) : G i 0 = 1 := by
  obtain ⟨r, h1, h2⟩ := hG
  have e : ∀ i, mmN 1 vdM r i 0 = r 0 0 := fun i => by
    show (0 : UInt8) ^^^ mulU (pwU (UInt8.ofNat i) 0) (r 0 0) = r 0 0
    rw [UInt8.zero_xor]
    show mulU 1 (r 0 0) = r 0 0
    rw [mulU_comm, mulU_one]
  have h3 := h1.1 0 0 (by omega) (by omega)
  rw [h2 i 0 (by omega), e i, ← e 0, h3, unitM_same]
theorem shL_k1 (b : List UInt8) : shL b 1 = b := shL_one b
theorem enc_one {G : Mx} (hG : Gen 1 G) (b : List UInt8) (n : Nat) {i : Nat} (hi : i < n) : (encL G b 1 n).getD i [] = b := by
  rw [encL_at G b 1 hi, shL_k1]
  have hs : segN b 1 = b.length := by unfold segN; rw [shL_k1, Nat.div_one]
  rw [hs]
  refine list_ext8 (by rw [sumRow_len]) fun q hq => ?_
  rw [sumRow_len] at hq
  rw [sumRow_at G b 1 i hq]
  show (0 : UInt8) ^^^ mulU (G i 0) (b.getD (0 * b.length + q) 0) = b.getD q 0
  rw [gen_one hG i, UInt8.zero_xor, mulU_comm, mulU_one, Nat.zero_mul, Nat.zero_add]
set_option maxRecDepth 100000 in
set_option maxHeartbeats 2000000 in
theorem wakes6_any (w : World) : Calls Try.prog 17 #[] w fun e w' => e = .returned (.bool true) ∧ Below w.heap.size w w' := by
  obtain ⟨G, hG⟩ := gen_is (k := 1) (by omega)
  have HN := Lib.hid (show Calls Try.prog 13 #[.int .i64 1, .int .i64 3] w fun e w' => ∃ g, e = .returned (.tuple #[.pointer (some ⟨g, 0, none⟩), .int .i64 0]) ∧ CodeAt w' g 1 3 ∧ Below w.heap.size w w' from cnew_yes 1 3 w (by omega) (by omega) (by omega))
  have HG := Lib.hid hG
  have kc := fun (w : World) (C : Array Value) (n c : Nat) => Lib.run_convert_bytes_const (P := Try.prog) w 22 5 C n c Try.underlying22 Try.underlying5
  clear hG
  go_enter Try.func17, Try.ntmps17
  go_wp2_with fail
  with_reducible refine (HN.out).mono ?_
  rintro e w1 ⟨g, rfl, hc, hb⟩
  have HC := Lib.hid hc
  have HB := Lib.hid hb
  clear hc hb HN
  go_wp2_with fail
  have hal : Below w1.heap.size w1 (w1.alloc (.cells #[.int .u8 97, .int .u8 98, .int .u8 99] 5 (3, 4))) := (Below.refl _ _).alloc (Nat.le_refl _) _
  have HV := Lib.hid (show BV (w1.alloc (.cells #[.int .u8 97, .int .u8 98, .int .u8 99] 5 (3, 4))) (.slice (some ⟨w1.heap.size, 0, none⟩) 3 3) [97, 98, 99] from BV.of rfl (Nat.le_refl _) (.inr ⟨w1.heap.size, 0, rfl, by simp, fun i hi => by
    have hk := cell_of_row (w1.alloc (.cells #[.int .u8 97, .int .u8 98, .int .u8 99] 5 (3, 4))) w1.heap.size i #[.int .u8 97, .int .u8 98, .int .u8 99] 5 (3, 4) (heap_alloc_new w1 _)
    rw [Nat.zero_add, hk]
    match i, hi with
    | 0, _ => rfl
    | 1, _ => rfl
    | 2, _ => rfl⟩))
  have HC2 := Lib.hid (HC.out.on hal)
  have HB2 := Lib.hid (HB.out.trans (hal.mono HB.out.size))
  generalize w1.alloc (.cells #[.int .u8 97, .int .u8 98, .int .u8 99] 5 (3, 4)) = w2 at *
  generalize w1.heap.size = a1 at *
  clear HC hal HB kc
  with_reducible refine (cenc_any HG.out HC2.out HV.out (by decide)).mono ?_
  rintro e w3 ⟨x, rfl, hm, hb⟩
  have hmv := hm.mv
  obtain ⟨X, c, rfl, hc⟩ := hmv.form (encL_len G [97, 98, 99] 1 3)
  obtain ⟨b, off, A1, c1, rfl, hbs, hcx, _, _, hrd⟩ := hmv.rowAt (i := 2) (by omega)
  rw [enc_one HG.out [97, 98, 99] 3 (by omega)] at hcx hrd
  have hcv := run_string_rd (P := Try.prog) (w := w3) 22 9 5 Try.underlying22 Try.underlying5 Try.underlying9 w3.heap.size A1 3 c1 [97, 98, 99] rfl hrd
  have hcx : w3.cell? ⟨b, off + 2, none⟩ = some (.slice A1 3 c1) := hcx
  have HB3 := Lib.hid (HB2.out.trans (hb.mono HB2.out.size))
  clear hm hmv hb hrd HC2 HV HB2
  go_wp2_with fail
  go_ret
  exact ⟨rfl, HB3.out⟩
end Go.Proofs.Ytdaofffkbnkljaa
