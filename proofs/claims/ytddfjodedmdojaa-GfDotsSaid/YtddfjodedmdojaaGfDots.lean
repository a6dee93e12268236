/- GfDots: the sum of products, as far as both go, is the document's. For all bytes. -/
import Derived.Test.YtddfjodedmdojaaLaw
import Derived.Test.YtddfjodedmdojaaOpen
import Derived.Test.YtddfjodedmdojaaKeep
import Derived.Test.YtddfjodedmdojaaGfW
namespace Go.Proofs.Ytddfjodedmdojaa.gfDots
open Go.ChangeShapes Go.WideShapes Go.ChangeAt Go.RowKit

set_option maxRecDepth 100000 in
set_option maxHeartbeats 4000000 in
theorem walk (A B : Option Addr) (n m c d : Nat) (l k : List UInt8) (w : World) (hl : l.length = n) (hk : k.length = m) (hc : n ≤ c) (hd : m ≤ d) (ha : Rd w w.heap.size A l) (hb : Rd w w.heap.size B k) :
    Calls Try.prog 6 #[.slice A n c, .slice B m d] w fun e w' => e = .returned (.bool true) ∧ Below w.heap.size w w' := by
  have HCA := Lib.hid (show ∀ W, Calls Try.prog 11 #[.slice A n c, .int .i64 60] W fun e w' => e = .returned (.slice A (min n 60) c) ∧ W = w' from fun W => cut_any A n c 60 W hc)
  have HCB := Lib.hid (show ∀ W, Calls Try.prog 11 #[.slice B m d, .int .i64 60] W fun e w' => e = .returned (.slice B (min m 60) d) ∧ W = w' from fun W => cut_any B m d 60 W hd)
  have HA := Lib.hid (ha.take 60)
  have HB := Lib.hid (hb.take 60)
  have hl' : (l.take 60).length = min n 60 := by rw [List.length_take, hl, Nat.min_comm]
  have hk' : (k.take 60).length = min m 60 := by rw [List.length_take, hk, Nat.min_comm]
  have hlm : min n 60 ≤ maxLen := Nat.le_trans (Nat.min_le_right _ _) (by decide)
  have hkm : min m 60 ≤ maxLen := Nat.le_trans (Nat.min_le_right _ _) (by decide)
  generalize l.take 60 = x at *
  generalize k.take 60 = y at *
  generalize min n 60 = s at *
  generalize min m 60 = t at *
  have HL := Lib.hid hl'
  have HK := Lib.hid hk'
  have HLM := Lib.hid hlm
  have HKM := Lib.hid hkm
  clear hl hk hc hd ha hb hl' hk' hlm hkm
  go_enter Try.func6, Try.ntmps6
  go_wp2_with fail
  with_reducible refine (HCA.out w).mono ?_
  rintro e w1 ⟨rfl, rfl⟩
  go_wp2_with fail
  with_reducible refine (HCB.out w).mono ?_
  rintro e w1 ⟨rfl, rfl⟩
  go_wp2_with fail
  with_reducible refine (lnew w).mono ?_
  rintro e w1 ⟨g, rfl, f1⟩
  have HD := Lib.hid (ldot f1 A B s t c d w.heap.size w.heap.size x y HL.out HK.out HLM.out HKM.out (HA.out.below f1.2 (Nat.le_refl _)) (HB.out.below f1.2 (Nat.le_refl _)))
  have HR := Lib.hid (fun q => rdot_any A B s t c d w.heap.size w.heap.size x y (w1.drewN q) HL.out HK.out HLM.out HKM.out ((HA.out.below f1.2 (Nat.le_refl _)).drewN q) ((HB.out.below f1.2 (Nat.le_refl _)).drewN q))
  generalize dotU x y (min s t) = p at *
  clear HCA HCB HA HB HL HK HLM HKM
  go_wp2_with fail
  with_reducible refine (HD.out).mono ?_
  rintro e w2 ⟨rfl, q, rfl⟩
  go_wp2_with fail
  with_reducible refine (HR.out q).mono ?_
  rintro e w2 ⟨rfl, r, rfl⟩
  have hf := below_drewN (below_drewN f1.2 q) r
  generalize (w1.drewN q).drewN r = w2 at *
  go_wp2_with fail
  with_reducible refine (wakes4_any w2).mono ?_
  rintro e w3 ⟨rfl, rfl⟩
  go_wp2_with fail
  go_ret
  exact ⟨rfl, hf⟩

theorem contract (H : Type) (enc : TypeId × Value → H) (W : World) (base : Nat) (args : Array Value) (ds gs : List (DataW H)) (before : List MemPlace)
    (hval : ∀ (j : Nat) t v, Try.f6.params[j]? = some t → args[j]? = some v → Value.okWide Try.prog W .any base t v)
    (hW : DataW.Whole enc Try.prog Try.f6.params.toList Rows.gfDotsSpec.vars false W args.toList ds gs before) :
    Calls Try.prog 6 args W fun e W' => ∃ v, e = .returned v ∧ Rows.gfDotsSpec.post enc Try.prog Try.f6 false true false false W args v W' := by
  have hW' := hW
  obtain ⟨p, q, hA0, hV, rfl, hfz, hnd⟩ := hW
  have hA : DataW.TrodAll enc Try.prog W 0 (fun _ => true) true Try.f6.params.toList args.toList ds p := hA0
  rw [Try.params6] at hA hval
  obtain ⟨v0, v1, d0, d1, p0, p1, rfl, rfl, rfl, h0, h1⟩ := trodAll_two hA
  obtain ⟨rfl, rfl⟩ := trodVars_none hV
  obtain ⟨A0, m0, c0, l0, rfl, hl0, hc0, hm0, hr0⟩ := open_bytes (hval 0 22 v0 rfl rfl) h0
  obtain ⟨A1, m1, c1, l1, rfl, hl1, hc1, hm1, hr1⟩ := open_bytes (hval 1 22 v1 rfl rfl) h1
  clear hA0
  refine (walk A0 A1 m0 m1 c0 c1 l0 l1 W hl0 hl1 hc0 hc1 hr0 hr1).mono fun e W' ⟨he, hb⟩ => ?_
  exact ⟨_, he, law_post hW' rfl (by kernel_rfl) rfl (by kernel_rfl) hb⟩

set_option maxRecDepth 100000 in
theorem lifted (os : Os) (started : os.Started) (H : Type) (enc : TypeId × Value → H) :
    ReturnsInHanded {} Try.checked os 6 .any (Rows.gfDotsSpec.pre6 enc Try.prog Try.f6 Rows.gfDotsRow.domain false) (Rows.gfDotsSpec.post enc Try.prog Try.f6 false true false false) := by
  refine returnsInHanded_of_change (C := Try.checked) own started (by kernel_rfl) Try.func6
    (ChangeSpec.witness6 (enc := enc) (C := Try.checked) false ⟨#[], #[.slice none 0 0, .slice none 0 0], []⟩ 8 (by kernel_rfl) (by kernel_rfl) (by kernel_rfl) (by kernel_rfl)) ?_
  intro W base args ds gs before hval0 hW _ _
  have hval : ∀ (j : Nat) t v, Try.f6.params[j]? = some t → args[j]? = some v → Value.okWide Try.prog W .any base t v := hval0
  exact contract H enc W base args ds gs before hval hW

/-- The statement. -/
theorem card : Rows.GfDotsSaid :=
  OpenClaim.holds_of_wide 6 Try.f6 rfl rfl rfl rfl rfl rfl rfl ⟨rfl, rfl, rfl, rfl, rfl⟩ rfl rfl rfl rfl rfl (by kernel_rfl) Try.func6 (by kernel_rfl)
    (of_decide_eq_true (by kernel_rfl)) (by unfold Func.isWrapper; first | (rw [if_pos (by decide +kernel)]; kernel_rfl) | (rw [if_neg (by decide +kernel)]; exact ⟨rfl, rfl⟩))
    (fun os started H enc _ => lifted os started H enc)
end Go.Proofs.Ytddfjodedmdojaa.gfDots
