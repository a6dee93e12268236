/- ShaSplit: wherever bytes are cut, and into however many pieces, the program's hash piece by piece is its hash at once; Write tells how many bytes there were in all. For all bytes and cuts. -/
import Derived.Test.YtdjnaeifmeffoaaLaw
import Derived.Test.YtdjnaeifmeffoaaKeep
import Derived.Test.YtdjnaeifmeffoaaInts
import Derived.Test.YtdjnaeifmeffoaaHashEq
namespace Go.Proofs.Ytdjnaeifmeffoaa.shaSplit
open Go.ChangeShapes Go.WideShapes Go.ChangeAt Go.RowKit

set_option maxRecDepth 100000 in
set_option maxHeartbeats 4000000 in
theorem walk (A B : Option Addr) (n c m d : Nat) (bl : List UInt8) (ns : List Int) (w : World) (hbl : bl.length = n) (hc : n ≤ c) (hb : Rd w w.heap.size A bl) (hn : ns.length = m) (hi : RdI w w.heap.size B ns) (hz : ∀ z ∈ ns, -9223372036854775808 ≤ z ∧ z ≤ 9223372036854775807) :
    Calls Try.prog 3 #[.slice A n c, .slice B m d] w fun e w' => e = .returned (.bool true) ∧ Below w.heap.size w w' := by
  have HBCUT := Lib.hid (fun W => cut_any A n c 300 W hc)
  have hkb : (bl.take 300).length = min n 300 := by rw [List.length_take, hbl, Nat.min_comm]
  have hb3 : min n 300 ≤ 300 := Nat.min_le_right _ _
  have hbc : min n 300 ≤ c := Nat.le_trans (Nat.min_le_left _ _) hc
  have hbr := hb.take 300
  generalize bl.take 300 = b at *
  generalize min n 300 = p at *
  have HBL := Lib.hid hkb
  have HBR := Lib.hid hbr
  have HN := Lib.hid hn
  have HI := Lib.hid hi
  have HZ := Lib.hid hz
  clear hb hbr hkb hbl hn hi hz
  go_enter Try.func3, Try.ntmps3
  go_wp2_with fail
  refine (HBCUT.out _).mono ?_
  rintro e w' ⟨rfl, rfl⟩
  clear HBCUT
  go_wp2_with fail
  refine (new_any _).mono ?_
  rintro e w1 ⟨g, rfl, hg, hs, hb1⟩
  have HS := Lib.hid hs
  have HRN := Lib.hid (HBR.out.notAt hg)
  clear hs
  go_wp2_with fail
  go_loopw [6, 7] (fun t i wr => ∃ a k : Nat, a ≤ p ∧ k ≤ m ∧ k ≤ 8 ∧ t = .int .i64 a ∧ i = .int .i64 k ∧ Hid (ShaAt wr g (b.take a)) ∧ Below w.heap.size w wr) (fun _ i _ => 8 - (intOf i).toNat)
  case atStart => exact ⟨0, 0, Nat.zero_le _, Nat.zero_le _, Nat.zero_le _, rfl, rfl, HS, hb1⟩
  case round =>
    clear hb1 HS
    obtain ⟨a, k, ha, hk, hk8, rfl, rfl, HS, hbel⟩ := hrel
    by_cases hlt : k < m ∧ k < 8
    · obtain ⟨hkm, hk8'⟩ := hlt
      have hl1 : k < ns.length := by rw [HN.out]; exact hkm
      obtain ⟨bb, off, rfl, _, hcc⟩ := (HI.out.below hbel).at_ k hl1
      obtain ⟨hz0, hz1⟩ := HZ.out _ (List.getElem_mem hl1)
      generalize ns[k] = z at *
      have hki : (k : Int) < (m : Int) := by omega
      have hk8i : (k : Int) < 8 := by omega
      have hap : (a : Int) ≤ (p : Int) := by omega
      have hw := withinI_range z ((p : Int) - (a : Int) + 1) (by omega)
      have HWI := Lib.hid (fun W => within_any z ((p : Int) - (a : Int) + 1) W hz0 hz1 (by omega))
      obtain ⟨q, hq⟩ : ∃ q : Nat, withinI z ((p : Int) - (a : Int) + 1) = (q : Int) := ⟨_, (Int.toNat_of_nonneg hw.1).symm⟩
      rw [hq] at HWI hw
      have hqp : a + q ≤ p := by omega
      clear hq hw
      go_wp2_with fail
      refine (HWI.out _).mono ?_
      rintro e w' ⟨rfl, rfl⟩
      have hta : (b.take a).length = a := by rw [List.length_take, HBL.out]; omega
      have hcat : b.take a ++ (b.take (a + q)).drop a = b.take (a + q) := by
        have := List.take_append_drop a (b.take (a + q))
        rwa [List.take_take, Nat.min_eq_left (by omega)] at this
      have hcall := write_any g q (c - a) (subA A a c) ((b.take (a + q)).drop a) (b.take a) wr (by rw [List.length_drop, List.length_take, HBL.out]; omega) (by omega) (by rw [hta]; omega)
        ((HRN.out.sub a (a + q) c (by omega) (by omega)).below hbel (Nat.le_refl _) |>.more hbel.size) HS.out
      rw [hta, hcat] at hcall
      have HCALL := Lib.hid hcall
      have hsub := fun W => run_sub_lh A p c a (a + q) W (a : Int) ((a : Int) + (q : Int)) rfl (by omega) (by omega) (by omega)
      rw [show a + q - a = q by omega] at hsub
      clear hcall hta hcat HS
      go_wp2_with fail
      refine HCALL.out.mono ?_
      rintro e w3 ⟨rfl, hs3, hg3⟩
      have HS3 := Lib.hid hs3
      have hbel3 := hbel.trans (grown_in hg3 hbel.size hg)
      clear hs3 hg3 hsub HCALL hbel
      go_wp2_with fail
      go_roundw
      case rel => exact ⟨a + q, k + 1, by omega, by omega, by omega, by go_num, by go_num, HS3, hbel3⟩
      case measure => simp [intOf]; omega
    · have hor : ¬ k < m ∨ ¬ k < 8 := by omega
      have hta : (b.take a).length = a := by rw [List.length_take, HBL.out]; omega
      have hcat : b.take a ++ (b.take p).drop a = b := by
        rw [List.take_of_length_le (l := b) (i := p) (by rw [HBL.out]; exact Nat.le_refl _), List.take_append_drop]
      have hcall := write_any g (p - a) (c - a) (subA A a c) ((b.take p).drop a) (b.take a) wr (by rw [List.length_drop, List.length_take, HBL.out]; omega) (by omega) (by rw [hta]; omega)
        ((HRN.out.sub a p c (by omega) (by omega)).below hbel (Nat.le_refl _) |>.more hbel.size) HS.out
      rw [hta, hcat, show a + (p - a) = p by omega] at hcall
      have HCALL := Lib.hid hcall
      have hsub := fun W => run_sub_l A p c a W (a : Int) rfl ha hbc
      have hgw : g < wr.heap.size := HS.out.lt
      obtain ⟨w2, rfl⟩ : ∃ y : World, y = wr := ⟨_, rfl⟩
      clear hcall hta hcat HS
      rcases (show ((k : Int) < (m : Int) ∧ ¬ (k : Int) < 8) ∨ ¬ (k : Int) < (m : Int) by omega) with ⟨hki, hk6i⟩ | hki <;> (
        clear hor
        go_wp2_with fail
        refine HCALL.out.mono ?_
        rintro e w3 ⟨rfl, hs3, hg3⟩
        have hbel3 := hbel.trans (grown_in hg3 hbel.size hg)
        have HS3 := Lib.hid hs3
        have hg3l := hs3.lt
        clear hs3 hg3 HCALL hsub
        go_wp2_with fail
        refine (shaSum_any g b w3 HS3.out (by rw [HBL.out]; omega)).mono ?_
        rintro e w4 ⟨rfl, hb4⟩
        have HS4 := Lib.hid (HS3.out.below hb4 hg3l)
        have hbel4 := Below.then hbel3 hb4
        have hg4l := HS4.out.lt
        clear hb4 HS3
        go_wp2_with fail
        refine (sum_any A p c b _ HBL.out hbc (by omega) (HBR.out.on hbel4)).mono ?_
        rintro e w5 ⟨rfl, hb5⟩
        have HS5 := Lib.hid (HS4.out.below hb5 hg4l)
        have hbel5 := Below.then hbel4 hb5
        have hg5l := HS5.out.lt
        clear hb5 HS4
        have heq := fun W => run_hash_same W b
        obtain ⟨fin, hfe⟩ : ∃ x, u8A (shaL b) = x := ⟨_, rfl⟩
        rw [hfe] at heq ⊢
        have HFE := Lib.hid hfe
        clear hfe
        go_wp2_with fail
        refine (shaSum_any g b w5 HS5.out (by rw [HBL.out]; omega)).mono ?_
        rintro e w6 ⟨rfl, hb6⟩
        rw [HFE.out]
        have hbel6 := Below.then hbel5 hb6
        clear hb6 HS5
        go_wp2_with fail
        refine (sum_any A p c b _ HBL.out hbc (by omega) (HBR.out.on hbel6)).mono ?_
        rintro e w7 ⟨rfl, hb7⟩
        rw [HFE.out]
        have hbel7 := Below.then hbel6 hb7
        clear hb7
        go_wp2_with fail
        refine (wakes2_any _).mono ?_
        rintro e w8 ⟨rfl, hb8⟩
        have hbel8 := Below.then hbel7 hb8
        clear hb8 heq
        go_wp2_with fail
        go_ret
        exact ⟨rfl, hbel8⟩)

theorem contract (H : Type) (enc : TypeId × Value → H) (W : World) (base : Nat) (args : Array Value) (ds gs : List (DataW H)) (before : List MemPlace)
    (hval : ∀ (j : Nat) t v, Try.f3.params[j]? = some t → args[j]? = some v → Value.okWide Try.prog W .any base t v)
    (hW : DataW.Whole enc Try.prog Try.f3.params.toList Rows.shaSplitSpec.vars false W args.toList ds gs before) :
    Calls Try.prog 3 args W fun e W' => ∃ v, e = .returned v ∧ Rows.shaSplitSpec.post enc Try.prog Try.f3 false true false false W args v W' := by
  have hW' := hW
  obtain ⟨p, q, hA0, hV, rfl, hfz, hnd⟩ := hW
  have hA : DataW.TrodAll enc Try.prog W 0 (fun _ => true) true Try.f3.params.toList args.toList ds p := hA0
  rw [Try.params3] at hA hval
  obtain ⟨v0, v1, d0, d1, p0, p1, rfl, rfl, rfl, h0, h1⟩ := trodAll_two hA
  obtain ⟨rfl, rfl⟩ := trodVars_none hV
  obtain ⟨A0, m0, c0, l0, rfl, hl0, hc0, hm0, hr0⟩ := open_bytes (hval 0 22 v0 rfl rfl) h0
  obtain ⟨A1, m1, c1, l1, rfl, hl1, hc1, hm1, hr1, hz1⟩ := open_introw (hval 1 23 v1 rfl rfl) h1
  clear hA0
  refine (walk A0 A1 m0 c0 m1 c1 l0 l1 W hl0 hc0 hr0 hl1 hr1 hz1).mono fun e W' ⟨he, hb⟩ => ?_
  exact ⟨_, he, law_post hW' rfl (by kernel_rfl) rfl (by kernel_rfl) hb⟩

set_option maxRecDepth 100000 in
theorem lifted (os : Os) (started : os.Started) (H : Type) (enc : TypeId × Value → H) :
    ReturnsInHanded {} Try.checked os 3 .any (Rows.shaSplitSpec.pre6 enc Try.prog Try.f3 Rows.shaSplitRow.domain false) (Rows.shaSplitSpec.post enc Try.prog Try.f3 false true false false) := by
  refine returnsInHanded_of_change (C := Try.checked) own started (by kernel_rfl) Try.func3
    (ChangeSpec.witness6 (enc := enc) (C := Try.checked) false ⟨#[], #[.slice none 0 0, .slice none 0 0], []⟩ 8 (by kernel_rfl) (by kernel_rfl) (by kernel_rfl) (by kernel_rfl)) ?_
  intro W base args ds gs before hval0 hW _ _
  have hval : ∀ (j : Nat) t v, Try.f3.params[j]? = some t → args[j]? = some v → Value.okWide Try.prog W .any base t v := hval0
  exact contract H enc W base args ds gs before hval hW

/-- The statement. -/
theorem card : Rows.ShaSplitSaid :=
  OpenClaim.holds_of_wide 3 Try.f3 rfl rfl rfl rfl rfl rfl rfl ⟨rfl, rfl, rfl, rfl, rfl⟩ rfl rfl rfl rfl rfl (by kernel_rfl) Try.func3 (by kernel_rfl)
    (of_decide_eq_true (by kernel_rfl)) (by unfold Func.isWrapper; first | (rw [if_pos (by decide +kernel)]; kernel_rfl) | (rw [if_neg (by decide +kernel)]; exact ⟨rfl, rfl⟩))
    (fun os started H enc _ => lifted os started H enc)
end Go.Proofs.Ytdjnaeifmeffoaa.shaSplit
