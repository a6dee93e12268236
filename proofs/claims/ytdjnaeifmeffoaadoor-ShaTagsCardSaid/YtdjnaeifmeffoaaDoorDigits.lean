/- Digits of the document are the number's decimal digits. -/
import Derived.Test.YtdjnaeifmeffoaaDoorAppend
import Derived.Test.YtdjnaeifmeffoaaDoorNet
import Derived.Deep.RegionWith
namespace Go.Proofs.YtdjnaeifmeffoaaDoor
open Go.RowKit

theorem dig_small {u : Nat} (h : u < 10) : Lib.decDigits u = [UInt8.ofNat (48 + u)] := by rw [Lib.decDigits, dif_pos h]
theorem dig_big {u : Nat} (h : ¬ u < 10) : Lib.decDigits u = Lib.decDigits (u / 10) ++ [UInt8.ofNat (48 + u % 10)] := by rw [Lib.decDigits, dif_neg h]
theorem dig_byte {d : Nat} (h : d < 10) : (48 + (d : Int)) = ((UInt8.ofNat (48 + d)).toNat : Int) := by
  rw [UInt8.toNat_ofNat', Nat.mod_eq_of_lt (by omega)]; omega

theorem bcell {W w1 : World} (hb : Below W.heap.size W w1) : ∀ b o, b < W.heap.size → w1.cell? ⟨b, o, none⟩ = W.cell? ⟨b, o, none⟩ :=
  fun b o h => hb.cell (p := ⟨b, o, none⟩) h

/-- One digit's byte as a string, wherever it lies. -/
theorem run_digit {d : Nat} (h : d < 10) (W : World) (g : Nat) (hc : W.cell? ⟨g, 0, none⟩ = some (.int .u8 (48 + (d : Int)))) :
    (convert 22 9 (.slice (some ⟨g, 0, none⟩) 1 1)).run Tryd.prog W = .ok (.string ⟨[UInt8.ofNat (48 + d)].toArray⟩) W := by
  refine run_string_rd (P := Tryd.prog) 22 9 5 Tryd.underlying22 Tryd.underlying5 Tryd.underlying9 (g + 1) _ 1 1 [UInt8.ofNat (48 + d)] rfl (.inr ⟨g, 0, rfl, by omega, fun i hi => ?_⟩)
  obtain rfl : i = 0 := by simpa using hi
  rw [hc, dig_byte h]
  rfl

set_option maxHeartbeats 200000 in
theorem digits_any (k : Nat) : ∀ (u : Nat) (w : World), u < k → u ≤ 1000000000 →
    Calls Tryd.prog 34 #[.int .i64 (u : Int)] w fun e w' => e = .returned (.string ⟨(Lib.decDigits u).toArray⟩) ∧ Below w.heap.size w w' := by
  induction k with
  | zero =>
    intro u w hk hu
    omega
  | succ k ih =>
    intro u w hk hu
    by_cases h10 : u < 10
    · have hcv := run_digit h10
      rw [dig_small h10]
      generalize UInt8.ofNat (48 + u) = y at hcv ⊢
      have HS : Below w.heap.size w (w.alloc (.cells #[.int .u8 (48 + (u : Int))] 5)) := (Below.refl _ _).alloc (Nat.le_refl _) _
      go_enter Tryd.func34, Tryd.ntmps34
      go_wp2_with fail
      go_ret
      exact ⟨rfl, HS⟩
    · have hd : u % 10 < 10 := Nat.mod_lt _ (by omega)
      have hcv := run_digit hd
      have ec : ((u % 10 : Nat) : Int) = (u : Int) % 10 := by omega
      rw [ec] at hcv
      have hlen : (Lib.decDigits (u / 10)).length ≤ 20 := decDigits_len _ (by simp; omega)
      have ih1 := fun W => ih (u / 10) W (by omega) (by omega)
      have eq : ((u / 10 : Nat) : Int) = (u : Int) / 10 := by omega
      rw [eq] at ih1
      rw [dig_big h10]
      generalize Lib.decDigits (u / 10) = D at *
      generalize UInt8.ofNat (48 + u % 10) = y at *
      have IH := Lib.hid ih1
      clear ih ih1 eq ec
      go_enter Tryd.func34, Tryd.ntmps34
      go_wp2_with fail
      have hw0 : (u : Int).tmod 10 = (u : Int) % 10 := Int.tmod_eq_emod_of_nonneg (by omega)
      have hw1 : IntKind.i64.wrap ((u : Int) / 10) = (u : Int) / 10 := by rw [IntKind.wrap_i64]; omega
      have hw2 : IntKind.i64.wrap (48 + (u : Int) % 10) = 48 + (u : Int) % 10 := by rw [IntKind.wrap_i64]; omega
      have hw3 : IntKind.u8.wrap (48 + (u : Int) % 10) = 48 + (u : Int) % 10 := by simp only [IntKind.wrap, IntKind.bits, IntKind.signed]; simp; omega
      clear h10 hk hd hu
      go_region_with (go_at_call 34; refine (IH.out _).mono ?_; rintro e w1 ⟨rfl, hb1⟩; have hc1 := bcell hb1)
      all_goals
        clear hcv hc1 hw0 hw1 hw2 hw3
        have hcat : (⟨D.toArray⟩ : ByteArray) ++ ⟨#[y]⟩ = ⟨(D ++ [y]).toArray⟩ := by rw [ByteArray.mk_append_mk]
        go_wp2
        go_ret
        refine ⟨?_, ?_⟩
        · rw [← hcat]; rfl
        · first
            | exact (((Below.refl _ _).drew).trans (hb1.mono (Nat.le_refl _))).alloc (((Below.refl w.heap.size w).drew.trans (hb1.mono (Nat.le_refl _))).size) _
            | exact (((Below.refl _ _).alloc (Nat.le_refl _) _).drew).trans (hb1.mono (by simp))
end Go.Proofs.YtdjnaeifmeffoaaDoor
