/- ShaSums: the program's SHA-256 of any bytes is the document's; what is handed in stays as it was. For all bytes. -/
import Derived.Test.YtdjnaeifmeffoaaLaw
import Derived.Test.YtdjnaeifmeffoaaOpen
import Derived.Test.YtdjnaeifmeffoaaKeep
import Derived.Test.YtdjnaeifmeffoaaIntact
import Derived.Test.YtdjnaeifmeffoaaHashEq
import Derived.Test.YtdjnaeifmeffoaaRSum
namespace Go.Proofs.Ytdjnaeifmeffoaa.shaSums
open Go.ChangeShapes Go.WideShapes Go.ChangeAt Go.RowKit

set_option maxRecDepth 100000 in
set_option maxHeartbeats 4000000 in
theorem walk (A : Option Addr) (n c : Nat) (bl : List UInt8) (w : World) (hbl : bl.length = n) (hc : n ≤ c) (hb : Rd w w.heap.size A bl) :
    Calls Try.prog 4 #[.slice A n c] w fun e w' => e = .returned (.bool true) ∧ Below w.heap.size w w' := by
  have HBCUT := Lib.hid (fun W => cut_any A n c 400 W hc)
  have hkb : (bl.take 400).length = min n 400 := by rw [List.length_take, hbl, Nat.min_comm]
  have hb3 : min n 400 ≤ 400 := Nat.min_le_right _ _
  have hbc : min n 400 ≤ c := Nat.le_trans (Nat.min_le_left _ _) hc
  have hbr := hb.take 400
  generalize bl.take 400 = b at *
  generalize min n 400 = p at *
  have HBL := Lib.hid hkb
  have HBR := Lib.hid hbr
  clear hb hbr hkb hbl
  go_enter Try.func4, Try.ntmps4
  go_wp2_with fail
  refine (HBCUT.out _).mono ?_
  rintro e w' ⟨rfl, rfl⟩
  clear HBCUT
  go_wp2_with fail
  refine (lend_any A p c b _ HBL.out (by omega) HBR.out).mono ?_
  rintro e w1 ⟨A1, rfl, hx1, hb1⟩
  have HX1 := Lib.hid hx1
  have hxr := hx1.take p
  rw [List.take_append_of_le_length (by rw [HBL.out]; exact Nat.le_refl _), List.take_of_length_le (by rw [HBL.out]; exact Nat.le_refl _)] at hxr
  have HXR := Lib.hid hxr
  have HB1 := Lib.hid (HBR.out.on hb1)
  clear hx1 hxr
  go_wp2_with fail
  refine (sum_any A1 p (p + 3) b _ HBL.out (by omega) (by omega) HXR.out).mono ?_
  rintro e w2 ⟨rfl, hb2⟩
  have hb02 := Below.then hb1 hb2
  have HB2 := Lib.hid (HB1.out.on hb2)
  have HX2 := Lib.hid (HX1.out.on hb2)
  clear HXR HB1 HX1 hb1 hb2
  have heq := fun W => run_hash_same W b
  obtain ⟨fin, hfe⟩ : ∃ x, u8A (shaL b) = x := ⟨_, rfl⟩
  rw [hfe] at heq ⊢
  have HFE := Lib.hid hfe
  clear hfe
  go_wp2_with fail
  refine (rsum_any A p c b _ HBL.out (by omega) HB2.out).mono ?_
  rintro e w3 ⟨rfl, hb3⟩
  rw [HFE.out]
  have hb03 := Below.then hb02 hb3
  have HB3 := Lib.hid (HB2.out.on hb3)
  have HX3 := Lib.hid (HX2.out.on hb3)
  clear HB2 HX2 hb02 hb3
  go_wp2_with fail
  refine (intact_any A1 A p c _ _ b _ HBL.out (by omega) HX3.out HB3.out).mono ?_
  rintro e w4 ⟨rfl, q, rfl⟩
  have hb04 := below_drewN hb03 q
  clear HB3 HX3 hb03
  go_wp2_with fail
  refine (wakes2_any _).mono ?_
  rintro e w5 ⟨rfl, hb5⟩
  have hb05 := Below.then hb04 hb5
  clear hb5 hb04 heq
  go_wp2_with fail
  go_ret
  exact ⟨rfl, hb05⟩

theorem contract (H : Type) (enc : TypeId × Value → H) (W : World) (base : Nat) (args : Array Value) (ds gs : List (DataW H)) (before : List MemPlace)
    (hval : ∀ (j : Nat) t v, Try.f4.params[j]? = some t → args[j]? = some v → Value.okWide Try.prog W .any base t v)
    (hW : DataW.Whole enc Try.prog Try.f4.params.toList Rows.shaSumsSpec.vars false W args.toList ds gs before) :
    Calls Try.prog 4 args W fun e W' => ∃ v, e = .returned v ∧ Rows.shaSumsSpec.post enc Try.prog Try.f4 false true false false W args v W' := by
  have hW' := hW
  obtain ⟨p, q, hA0, hV, rfl, hfz, hnd⟩ := hW
  have hA : DataW.TrodAll enc Try.prog W 0 (fun _ => true) true Try.f4.params.toList args.toList ds p := hA0
  rw [Try.params4] at hA hval
  obtain ⟨v0, d0, rfl, rfl, h0⟩ := trodAll_one hA
  obtain ⟨rfl, rfl⟩ := trodVars_none hV
  obtain ⟨A0, m0, c0, l0, rfl, hl0, hc0, hm0, hr0⟩ := open_bytes (hval 0 22 v0 rfl rfl) h0
  clear hA0
  refine (walk A0 m0 c0 l0 W hl0 hc0 hr0).mono fun e W' ⟨he, hb⟩ => ?_
  exact ⟨_, he, law_post hW' rfl (by kernel_rfl) rfl (by kernel_rfl) hb⟩

set_option maxRecDepth 100000 in
theorem lifted (os : Os) (started : os.Started) (H : Type) (enc : TypeId × Value → H) :
    ReturnsInHanded {} Try.checked os 4 .any (Rows.shaSumsSpec.pre6 enc Try.prog Try.f4 Rows.shaSumsRow.domain false) (Rows.shaSumsSpec.post enc Try.prog Try.f4 false true false false) := by
  refine returnsInHanded_of_change (C := Try.checked) own started (by kernel_rfl) Try.func4
    (ChangeSpec.witness6 (enc := enc) (C := Try.checked) false ⟨#[], #[.slice none 0 0], []⟩ 8 (by kernel_rfl) (by kernel_rfl) (by kernel_rfl) (by kernel_rfl)) ?_
  intro W base args ds gs before hval0 hW _ _
  have hval : ∀ (j : Nat) t v, Try.f4.params[j]? = some t → args[j]? = some v → Value.okWide Try.prog W .any base t v := hval0
  exact contract H enc W base args ds gs before hval hW

/-- The statement. -/
theorem card : Rows.ShaSumsSaid :=
  OpenClaim.holds_of_wide 4 Try.f4 rfl rfl rfl rfl rfl rfl rfl ⟨rfl, rfl, rfl, rfl, rfl⟩ rfl rfl rfl rfl rfl (by kernel_rfl) Try.func4 (by kernel_rfl)
    (of_decide_eq_true (by kernel_rfl)) (by unfold Func.isWrapper; first | (rw [if_pos (by decide +kernel)]; kernel_rfl) | (rw [if_neg (by decide +kernel)]; exact ⟨rfl, rfl⟩))
    (fun os started H enc _ => lifted os started H enc)
end Go.Proofs.Ytdjnaeifmeffoaa.shaSums
