/- ShaBreaks: what is a break: two unlike strings of one hash, and nothing else. For all bytes. -/
import Derived.Test.YtdjnaeifmeffoaaLaw
import Derived.Test.YtdjnaeifmeffoaaOpen
import Derived.Test.YtdjnaeifmeffoaaKeep
import Derived.Test.YtdjnaeifmeffoaaCopyB
import Derived.Test.YtdjnaeifmeffoaaBreakR
namespace Go.Proofs.Ytdjnaeifmeffoaa.shaBreaks
open Go.ChangeShapes Go.WideShapes Go.ChangeAt Go.RowKit

set_option maxRecDepth 100000 in
set_option maxHeartbeats 4000000 in
theorem walk (A B : Option Addr) (n m c d : Nat) (al bl : List UInt8) (w : World) (hal : al.length = n) (hbl : bl.length = m) (hc : n ≤ c) (hd : m ≤ d) (ha : Rd w w.heap.size A al) (hb : Rd w w.heap.size B bl) :
    Calls Try.prog 7 #[.slice A n c, .slice B m d] w fun e w' => e = .returned (.bool true) ∧ Below w.heap.size w w' := by
  have HACUT := Lib.hid (fun W => cut_any A n c 100 W hc)
  have HBCUT := Lib.hid (fun W => cut_any B m d 100 W hd)
  have hka : (al.take 100).length = min n 100 := by rw [List.length_take, hal, Nat.min_comm]
  have hkb : (bl.take 100).length = min m 100 := by rw [List.length_take, hbl, Nat.min_comm]
  have h1 : min n 100 ≤ 100 := Nat.min_le_right _ _
  have h2 : min m 100 ≤ 100 := Nat.min_le_right _ _
  have hca : min n 100 ≤ c := Nat.le_trans (Nat.min_le_left _ _) hc
  have hcb : min m 100 ≤ d := Nat.le_trans (Nat.min_le_left _ _) hd
  have har := ha.take 100
  have hbr := hb.take 100
  generalize al.take 100 = a at *
  generalize bl.take 100 = b at *
  generalize min n 100 = p at *
  generalize min m 100 = q at *
  have HAL := Lib.hid hka
  have HBL := Lib.hid hkb
  have HAR := Lib.hid har
  have HBR := Lib.hid hbr
  clear ha hb har hbr hka hkb hal hbl
  go_enter Try.func7, Try.ntmps7
  go_wp2_with fail
  refine (HACUT.out _).mono ?_
  rintro e w' ⟨rfl, rfl⟩
  go_wp2_with fail
  refine (HBCUT.out _).mono ?_
  rintro e w' ⟨rfl, rfl⟩
  clear HACUT HBCUT
  go_wp2_with fail
  refine (breakS A B p q c d a b _ HAL.out HBL.out hca hcb (by omega) (by omega) HAR.out HBR.out).mono ?_
  obtain ⟨r, hr⟩ : ∃ r, (!(a == b) && decide (shaL a = shaL b)) = r := ⟨_, rfl⟩
  rw [hr]
  have HRR := Lib.hid hr
  clear hr
  rintro e w1 ⟨rfl, hb1⟩
  have HA1 := Lib.hid (HAR.out.on hb1)
  have HB1 := Lib.hid (HBR.out.on hb1)
  clear HAR HBR
  go_wp2_with fail
  refine (breakR A B p q c d a b _ HAL.out HBL.out (by omega) (by omega) HA1.out HB1.out).mono ?_
  rw [HRR.out]
  rintro e w2 ⟨rfl, hb2⟩
  have hb02 := Below.then hb1 hb2
  have HA2 := Lib.hid (HA1.out.on hb2)
  clear HA1 HB1 HRR hb1 hb2
  go_wp2_with fail
  refine (copyB_any A p c _ a _ HAL.out (by omega) HA2.out).mono ?_
  rintro e w3 ⟨A3, c3, rfl, hc3, hown3, hb3⟩
  have hb03 := Below.then hb02 hb3
  have HX3 := Lib.hid (Rd.of_own hown3.own)
  have HA3 := Lib.hid (HA2.out.on hb3)
  clear hown3 HA2 hb02 hb3
  go_wp2_with fail
  refine (breakS A A3 p p c c3 a a _ HAL.out HAL.out hca hc3 (by omega) (by omega) HA3.out HX3.out).mono ?_
  rw [show (!(a == a) && decide (shaL a = shaL a)) = false by simp]
  rintro e w4 ⟨rfl, hb4⟩
  have hb04 := Below.then hb03 hb4
  clear HA3 HX3 hb03 hb4
  go_wp2_with fail
  refine (wakes2_any _).mono ?_
  rintro e w5 ⟨rfl, hb5⟩
  have hb05 := Below.then hb04 hb5
  clear hb5 hb04
  go_wp2_with fail
  go_ret
  exact ⟨rfl, hb05⟩

theorem contract (H : Type) (enc : TypeId × Value → H) (W : World) (base : Nat) (args : Array Value) (ds gs : List (DataW H)) (before : List MemPlace)
    (hval : ∀ (j : Nat) t v, Try.f7.params[j]? = some t → args[j]? = some v → Value.okWide Try.prog W .any base t v)
    (hW : DataW.Whole enc Try.prog Try.f7.params.toList Rows.shaBreaksSpec.vars false W args.toList ds gs before) :
    Calls Try.prog 7 args W fun e W' => ∃ v, e = .returned v ∧ Rows.shaBreaksSpec.post enc Try.prog Try.f7 false true false false W args v W' := by
  have hW' := hW
  obtain ⟨p, q, hA0, hV, rfl, hfz, hnd⟩ := hW
  have hA : DataW.TrodAll enc Try.prog W 0 (fun _ => true) true Try.f7.params.toList args.toList ds p := hA0
  rw [Try.params7] at hA hval
  obtain ⟨v0, v1, d0, d1, p0, p1, rfl, rfl, rfl, h0, h1⟩ := trodAll_two hA
  obtain ⟨rfl, rfl⟩ := trodVars_none hV
  obtain ⟨A0, m0, c0, l0, rfl, hl0, hc0, hm0, hr0⟩ := open_bytes (hval 0 22 v0 rfl rfl) h0
  obtain ⟨A1, m1, c1, l1, rfl, hl1, hc1, hm1, hr1⟩ := open_bytes (hval 1 22 v1 rfl rfl) h1
  clear hA0
  refine (walk A0 A1 m0 m1 c0 c1 l0 l1 W hl0 hl1 hc0 hc1 hr0 hr1).mono fun e W' ⟨he, hb⟩ => ?_
  exact ⟨_, he, law_post hW' rfl (by kernel_rfl) rfl (by kernel_rfl) hb⟩

set_option maxRecDepth 100000 in
theorem lifted (os : Os) (started : os.Started) (H : Type) (enc : TypeId × Value → H) :
    ReturnsInHanded {} Try.checked os 7 .any (Rows.shaBreaksSpec.pre6 enc Try.prog Try.f7 Rows.shaBreaksRow.domain false) (Rows.shaBreaksSpec.post enc Try.prog Try.f7 false true false false) := by
  refine returnsInHanded_of_change (C := Try.checked) own started (by kernel_rfl) Try.func7
    (ChangeSpec.witness6 (enc := enc) (C := Try.checked) false ⟨#[], #[.slice none 0 0, .slice none 0 0], []⟩ 8 (by kernel_rfl) (by kernel_rfl) (by kernel_rfl) (by kernel_rfl)) ?_
  intro W base args ds gs before hval0 hW _ _
  have hval : ∀ (j : Nat) t v, Try.f7.params[j]? = some t → args[j]? = some v → Value.okWide Try.prog W .any base t v := hval0
  exact contract H enc W base args ds gs before hval hW

/-- The statement. -/
theorem card : Rows.ShaBreaksSaid :=
  OpenClaim.holds_of_wide 7 Try.f7 rfl rfl rfl rfl rfl rfl rfl ⟨rfl, rfl, rfl, rfl, rfl⟩ rfl rfl rfl rfl rfl (by kernel_rfl) Try.func7 (by kernel_rfl)
    (of_decide_eq_true (by kernel_rfl)) (by unfold Func.isWrapper; first | (rw [if_pos (by decide +kernel)]; kernel_rfl) | (rw [if_neg (by decide +kernel)]; exact ⟨rfl, rfl⟩))
    (fun os started H enc _ => lifted os started H enc)
end Go.Proofs.Ytdjnaeifmeffoaa.shaBreaks
