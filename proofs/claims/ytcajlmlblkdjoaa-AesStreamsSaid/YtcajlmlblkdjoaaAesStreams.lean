/- AesStreams: any bytes with a key's stream, from any place on, are what the document's stream tells; what is handed in stays as it was. For all keys, places and bytes. -/
import Derived.Test.YtcajlmlblkdjoaaLaw
import Derived.Test.YtcajlmlblkdjoaaOpenA
import Derived.Test.YtcajlmlblkdjoaaKeep
import Derived.Test.YtcajlmlblkdjoaaIntact
import Derived.Test.YtcajlmlblkdjoaaCopyB
import Derived.Test.YtcajlmlblkdjoaaSame
import Derived.Test.YtcajlmlblkdjoaaPStream
import Derived.Test.YtcajlmlblkdjoaaRStream
import Derived.Test.YtcajlmlblkdjoaaWakes3
namespace Go.Proofs.Ytcajlmlblkdjoaa.aesStreams
open Go.ChangeShapes Go.WideShapes Go.ChangeAt Go.RowKit

set_option maxRecDepth 100000 in
set_option maxHeartbeats 4000000 in
theorem walk (k : List UInt8) (at_ : Int) (A : Option Addr) (n c : Nat) (bl : List UInt8) (w : World) (hk : k.length = 16) (hbl : bl.length = n) (hc : n ≤ c) (hb : Rd w w.heap.size A bl) :
    Calls Try.prog 5 #[.agg (u8A k), .int .i64 at_, .slice A n c] w fun e w' => e = .returned (.bool true) ∧ Below w.heap.size w w' := by
  have HBCUT := Lib.hid (fun W => cut_any A n c 200 W hc)
  have hkb : (bl.take 200).length = min n 200 := by rw [List.length_take, hbl, Nat.min_comm]
  have hb3 : min n 200 ≤ 200 := Nat.min_le_right _ _
  have hbc : min n 200 ≤ c := Nat.le_trans (Nat.min_le_left _ _) hc
  have hbr := hb.take 200
  generalize bl.take 200 = b at *
  generalize min n 200 = p at *
  have HBL := Lib.hid hkb
  have HPS := Lib.hid (fun A m d (l : List UInt8) W => pStream_any k at_ A m d l W hk)
  have HRS := Lib.hid (fun A m d (l : List UInt8) W => rStream_any k at_ A m d l W hk)
  have hkz : (u8A k).size = 16 := by rw [u8A_size, hk]
  obtain ⟨kA, hke⟩ : ∃ K, u8A k = K := ⟨_, rfl⟩
  rw [hke] at hkz HPS HRS ⊢
  have HKZ := Lib.hid hkz
  have HBR := Lib.hid (hbr.on ((Below.refl _ _).alloc (Nat.le_refl _) (.cells kA 23)))
  clear hb hbr hkb hbl hk hkz hke
  go_enter Try.func5, Try.ntmps5
  go_wp2_with fail
  have hst : Blk (w.alloc (.cells kA 23)) w.heap.size kA 23 ∧ Below w.heap.size w (w.alloc (.cells kA 23)) := ⟨Blk.new w _ _, (Below.refl _ _).alloc (Nat.le_refl _) _⟩
  generalize w.alloc (.cells kA 23) = w0 at *
  obtain ⟨g0, hb0⟩ := hst
  have G0 := Lib.hid g0
  clear g0
  refine (HBCUT.out _).mono ?_
  rintro e w' ⟨rfl, rfl⟩
  clear HBCUT
  go_wp2_with fail
  with_reducible refine (lend_any A p c b _ HBL.out (by omega) HBR.out).mono ?_
  rintro e w1 ⟨A1, rfl, hx1, hb1⟩
  have HX1 := Lib.hid hx1
  have hxr := hx1.take p
  rw [List.take_append_of_le_length (by rw [HBL.out]; exact Nat.le_refl _), List.take_of_length_le (by rw [HBL.out]; exact Nat.le_refl _)] at hxr
  have HXR := Lib.hid hxr
  have HB1 := Lib.hid ((HBR.out.below hb1 (Nat.le_refl _)).more hb1.size)
  have G1 := Lib.hid (G0.out.below hb1 G0.out.lt)
  have hb01 := Below.then hb0 hb1
  clear hx1 hxr HBR G0 hb1 hb0
  go_wp2_with (with_reducible refine wpList_load_blk rfl 23 (.tmp 3) rfl w.heap.size rfl 23 kA _ G1.out Try.underlying23 rfl (by rw [HKZ.out]; kernel_rfl) ?_)
  with_reducible refine (HPS.out A1 p (p + 3) b _ HBL.out (by omega) HXR.out).mono ?_
  rintro e w2 ⟨A2, c2, rfl, hc2, hown2, hb2⟩
  have HO2 := Lib.hid hown2
  have HX2 := Lib.hid (HX1.out.below hb2 (Nat.le_refl _))
  have HB2 := Lib.hid (HB1.out.below hb2 (Nat.le_refl _))
  have G2 := Lib.hid (G1.out.below hb2 G1.out.lt)
  have hb02 := Below.then hb01 hb2
  have hs12 := hb2.size
  have hs01 := hb01.size
  clear HXR HB1 HX1 hb01 hb2 hown2 G1
  go_wp2_with (with_reducible refine wpList_load_blk rfl 23 (.tmp 3) rfl w.heap.size rfl 23 kA _ G2.out Try.underlying23 rfl (by rw [HKZ.out]; kernel_rfl) ?_)
  with_reducible refine (HRS.out A p c b _ HBL.out (by omega) (HB2.out.more (by omega))).mono ?_
  rintro e w3 ⟨A3, c3, rfl, hr3, hb3⟩
  have HR3 := Lib.hid hr3
  have HX3 := Lib.hid (HX2.out.below hb3 (by omega))
  have HB3 := Lib.hid (HB2.out.below hb3 (by omega))
  have HO3 := Lib.hid (HO2.out.on hb3)
  have hb03 := Below.then hb02 hb3
  have hs23 := hb3.size
  clear HX2 HB2 HO2 hb02 hb3 hr3 G2
  have HSL := Lib.hid ((streamL_len (keysTo k 11) (clampN at_) b).trans HBL.out)
  generalize streamL (keysTo k 11) (clampN at_) b = sl at *
  go_wp2_with fail
  with_reducible refine (same_any A2 A3 p p c2 c3 _ _ sl sl _ HSL.out HSL.out (by unfold maxLen; omega) HO3.out.rd HR3.out).mono ?_
  rintro e w4 ⟨rfl, q, rfl⟩
  rw [decide_eq_true (rfl : sl = sl)]
  have hb04 := below_drewN hb03 q
  have HX4 := Lib.hid (HX3.out.drewN q)
  have HB4 := Lib.hid (HB3.out.drewN q)
  have HO4 := Lib.hid (show OwnB (w3.drewN q) w1.heap.size 5 (.slice A2 p c2) p sl from HO3.out)
  have hs34 : w3.heap.size = (w3.drewN q).heap.size := rfl
  clear HX3 HB3 HO3 HR3 hb03
  generalize w3.drewN q = w5 at *
  go_wp2_with fail
  with_reducible refine (spoilB_any A2 p c2 _ sl _ HO4.out).mono ?_
  rintro e w6 ⟨rfl, hb6⟩
  have HX6 := Lib.hid (HX4.out.below hb6 (Nat.le_refl _))
  have HB6 := Lib.hid (HB4.out.below hb6 (Nat.le_refl _))
  have hb06 := hb04.trans (hb6.mono hs01)
  clear HX4 HB4 HO4 hb6 hb04
  go_wp2_with fail
  with_reducible refine (intact_any A1 A p c _ _ b _ HBL.out (by omega) HX6.out HB6.out).mono ?_
  rintro e w7 ⟨rfl, q, rfl⟩
  have hb07 := below_drewN hb06 q
  clear HB6 HX6 hb06
  go_wp2_with fail
  with_reducible refine (wakes3_any _).mono ?_
  rintro e w8 ⟨rfl, hb8⟩
  have hb08 := Below.then hb07 hb8
  clear hb8 hb07
  go_wp2_with fail
  go_ret
  exact ⟨rfl, hb08⟩

theorem contract (H : Type) (enc : TypeId × Value → H) (W : World) (base : Nat) (args : Array Value) (ds gs : List (DataW H)) (before : List MemPlace)
    (hval : ∀ (j : Nat) t v, Try.f5.params[j]? = some t → args[j]? = some v → Value.okWide Try.prog W .any base t v)
    (hW : DataW.Whole enc Try.prog Try.f5.params.toList Rows.aesStreamsSpec.vars false W args.toList ds gs before) :
    Calls Try.prog 5 args W fun e W' => ∃ v, e = .returned v ∧ Rows.aesStreamsSpec.post enc Try.prog Try.f5 false true false false W args v W' := by
  have hW' := hW
  obtain ⟨p, q, hA0, hV, rfl, hfz, hnd⟩ := hW
  have hA : DataW.TrodAll enc Try.prog W 0 (fun _ => true) true Try.f5.params.toList args.toList ds p := hA0
  rw [Try.params5] at hA hval
  obtain ⟨v0, v1, v2, d0, d1, d2, p0, p1, p2, rfl, rfl, rfl, h0, h1, h2⟩ := trodAll_three hA
  obtain ⟨rfl, rfl⟩ := trodVars_none hV
  obtain ⟨k0, rfl, hk0⟩ := open_array Try.underlying23 (by kernel_rfl) (hval 0 23 v0 rfl rfl) h0
  obtain ⟨n1, rfl, rfl, rfl, wf1⟩ := open_int Try.underlying3 (hval 1 3 v1 rfl rfl) h1
  have b1 := bounds_i64 wf1
  obtain ⟨A2, m2, c2, l2, rfl, hl2, hc2, hm2, hr2⟩ := open_bytes (hval 2 24 v2 rfl rfl) h2
  clear hA0
  refine (walk k0 n1 A2 m2 c2 l2 W hk0 hl2 hc2 hr2).mono fun e W' ⟨he, hb⟩ => ?_
  exact ⟨_, he, law_post hW' rfl (by kernel_rfl) rfl (by kernel_rfl) hb⟩

set_option maxRecDepth 100000 in
theorem lifted (os : Os) (started : os.Started) (H : Type) (enc : TypeId × Value → H) :
    ReturnsInHanded {} Try.checked os 5 .any (Rows.aesStreamsSpec.pre6 enc Try.prog Try.f5 Rows.aesStreamsRow.domain false) (Rows.aesStreamsSpec.post enc Try.prog Try.f5 false true false false) := by
  refine returnsInHanded_of_change (C := Try.checked) own started (by kernel_rfl) Try.func5
    (ChangeSpec.witness6 (enc := enc) (C := Try.checked) false ⟨#[], #[.agg #[.int .u8 0, .int .u8 0, .int .u8 0, .int .u8 0, .int .u8 0, .int .u8 0, .int .u8 0, .int .u8 0, .int .u8 0, .int .u8 0, .int .u8 0, .int .u8 0, .int .u8 0, .int .u8 0, .int .u8 0, .int .u8 0], .int .i64 0, .slice none 0 0], []⟩ 8 (by kernel_rfl) (by kernel_rfl) (by kernel_rfl) (by kernel_rfl)) ?_
  intro W base args ds gs before hval0 hW _ _
  have hval : ∀ (j : Nat) t v, Try.f5.params[j]? = some t → args[j]? = some v → Value.okWide Try.prog W .any base t v := hval0
  exact contract H enc W base args ds gs before hval hW

/-- The statement. -/
theorem card : Rows.AesStreamsSaid :=
  OpenClaim.holds_of_wide 5 Try.f5 rfl rfl rfl rfl rfl rfl rfl ⟨rfl, rfl, rfl, rfl, rfl⟩ rfl rfl rfl rfl rfl (by kernel_rfl) Try.func5 (by kernel_rfl)
    (of_decide_eq_true (by kernel_rfl)) (by unfold Func.isWrapper; first | (rw [if_pos (by decide +kernel)]; kernel_rfl) | (rw [if_neg (by decide +kernel)]; exact ⟨rfl, rfl⟩))
    (fun os started H enc _ => lifted os started H enc)
end Go.Proofs.Ytcajlmlblkdjoaa.aesStreams
