/- GfOrder: every byte but 0 is a power of 2, each one once. For all exponents. -/
import Derived.Test.YtddfjodedmdojaaLaw
import Derived.Test.YtddfjodedmdojaaOpen
import Derived.Test.YtddfjodedmdojaaKeep
import Derived.Test.YtddfjodedmdojaaGfW
namespace Go.Proofs.Ytddfjodedmdojaa.gfOrder
open Go.ChangeShapes Go.WideShapes Go.ChangeAt Go.RowKit

/-- What is marked, when n powers have been seen. -/
def snA : Nat → Array Value
  | 0 => (List.replicate 256 (.bool false)).toArray
  | n + 1 => (snA n).setIfInBounds (xpU n).toNat (.bool true)
theorem snA_size (n : Nat) : (snA n).size = 256 := by
  induction n with
  | zero => rw [snA, List.size_toArray, List.length_replicate]
  | succ n ih => rw [snA, Array.size_setIfInBounds, ih]
theorem snA_new (k : Nat) (hk : k < 256) : ∀ n, (∀ j, j < n → (xpU j).toNat ≠ k) → (snA n)[k]? = some (.bool false)
  | 0, _ => by rw [snA, List.getElem?_toArray, List.getElem?_replicate, if_pos hk]
  | n + 1, h => by
    rw [snA, Array.getElem?_setIfInBounds_ne (h n (Nat.lt_succ_self n))]
    exact snA_new k hk n fun j hj => h j (by omega)
theorem snA_at {n : Nat} (h : n < 255) : (snA n)[(xpU n).toNat]? = some (.bool false) :=
  snA_new _ (xpU n).toNat_lt n fun j hj e => by
    have := xpU_inj (UInt8.toNat_inj.1 e)
    omega
theorem zeroSeen (w : World) : (zeroValue 41).run Try.prog w = .ok (.agg (List.replicate 256 (.bool false)).toArray) w := by kernel_rfl

theorem fpU_two (n : Int) : fpU 2 n = xpU n.toNat := pwU_x n.toNat
theorem lpow2 {W w : World} {g : Nat} (h : Fdd W g w) (n : Int) (hn : 0 ≤ n ∧ n < 9223372036854775808) :
    Calls Try.prog 12 #[.pointer (some ⟨g, 0, none⟩), .int .u8 2, .int .i64 n] w fun e w' => e = .returned (.int .u8 ((xpU n.toNat).toNat : Int)) ∧ Fdd W g w' := by
  have := lpow h 2 n ⟨by omega, hn.2⟩
  rw [fpU_two] at this
  exact this
theorem lmul2 {W w : World} {g : Nat} (h : Fdd W g w) (n : Nat) :
    Calls Try.prog 14 #[.pointer (some ⟨g, 0, none⟩), .int .u8 ((xpU n).toNat : Int), .int .u8 2] w fun e w' => e = .returned (.int .u8 ((xpU (n + 1)).toNat : Int)) ∧ Fdd W g w' := by
  have := lmul h (xpU n) 2
  rw [mulU_comm, mulU_two, ← xpU_succ] at this
  exact this

/-- A field at g, and the marks at s, since W. -/
def Sn (W : World) (g s n : Nat) (w : World) : Prop := Fdd W g w ∧ g < s ∧ W.heap.size ≤ s ∧ Blk w s (snA n) 41
theorem Sn.start {W w : World} {g : Nat} (h : Fdd W g w) : Sn W g w.heap.size 0 (w.alloc (.cells (snA 0) 41)) :=
  ⟨⟨h.1.below ((Below.refl _ _).alloc (Nat.le_refl _) _) h.1.lt, h.2.alloc h.2.size _⟩, h.1.lt, h.2.size, Blk.new _ _ _⟩
theorem Sn.drewN {W w : World} {g s n : Nat} (h : Sn W g s n w) (q : Nat) : Sn W g s n (w.drewN q) := ⟨h.1.drewN q, h.2.1, h.2.2.1, h.2.2.2.drewN q⟩
theorem Sn.mark {W w : World} {g s n : Nat} (h : Sn W g s n w) : Sn W g s (n + 1) (w.setCell ⟨s, (xpU n).toNat, none⟩ (.bool true)) :=
  ⟨⟨⟨h.1.1.1, h.1.1.2.other (by have := h.2.1; simp; omega) _⟩, h.1.2.setCell h.2.2.1 _⟩, h.2.1, h.2.2.1, h.2.2.2.set _ _⟩
theorem spow2 {W w : World} {g s m : Nat} (h : Sn W g s m w) (n : Int) (hn : 0 ≤ n ∧ n < 9223372036854775808) :
    Calls Try.prog 12 #[.pointer (some ⟨g, 0, none⟩), .int .u8 2, .int .i64 n] w fun e w' => e = .returned (.int .u8 ((xpU n.toNat).toNat : Int)) ∧ Sn W g s m w' := by
  have := fpow_any g 2 n w ⟨by omega, hn.2⟩ h.1.1
  rw [fpU_two] at this
  exact this.mono fun _ _ ⟨he, q, hq⟩ => ⟨he, hq ▸ h.drewN q⟩
theorem smul2 {W w : World} {g s m : Nat} (h : Sn W g s m w) (n : Nat) :
    Calls Try.prog 14 #[.pointer (some ⟨g, 0, none⟩), .int .u8 ((xpU n).toNat : Int), .int .u8 2] w fun e w' => e = .returned (.int .u8 ((xpU (n + 1)).toNat : Int)) ∧ Sn W g s m w' := by
  have := fmul_any g (xpU n) 2 w h.1.1
  rw [mulU_comm, mulU_two, ← xpU_succ] at this
  exact this.mono fun _ _ ⟨he, q, hq⟩ => ⟨he, hq ▸ h.drewN q⟩

set_option maxRecDepth 100000 in
set_option maxHeartbeats 4000000 in
theorem walk (a : Int) (w : World) (h0 : -9223372036854775808 ≤ a) (h1 : a ≤ 9223372036854775807) :
    Calls Try.prog 8 #[.int .i64 a] w fun e w' => e = .returned (.bool true) ∧ Below w.heap.size w w' := by
  have hz := fun W => zeroSeen W
  rw [show (List.replicate 256 (Value.bool false)).toArray = snA 0 from rfl] at hz
  obtain ⟨Z, hZ⟩ : ∃ Z, snA 0 = Z := ⟨_, rfl⟩
  rw [hZ] at hz
  have HZ := Lib.hid hZ
  clear hZ
  have HW := Lib.hid (fun W => within_any a 1048576 W h0 h1 (by omega))
  obtain ⟨q1, q2⟩ := withinI_range a 1048576 (by omega)
  generalize withinI a 1048576 = m at *
  go_enter Try.func8, Try.ntmps8
  go_wp2_with fail
  with_reducible refine (lnew w).mono ?_
  rintro e w1 ⟨g, rfl, f1⟩
  have HS := Lib.hid (show Sn w g w1.heap.size 0 (w1.alloc (.cells Z 41)) by rw [← HZ.out]; exact Sn.start f1)
  go_wp2_with fail
  generalize w1.alloc (.cells Z 41) = w2 at *
  generalize w1.heap.size = s at *
  clear f1 hz
  go_loopw [5, 6] (fun x t wr => ∃ n : Nat, n ≤ 255 ∧ t = .int .i64 n ∧ x = .int .u8 ((xpU n).toNat : Int) ∧ Hid (Sn w g s n wr)) (fun _ t _ => 255 - (intOf t).toNat)
  case atStart => exact ⟨0, by omega, rfl, rfl, HS⟩
  case round =>
    clear HS
    obtain ⟨n, hn, rfl, rfl, HS⟩ := hrel
    by_cases hlt : n < 255
    · have hni : (n : Int) < 255 := by omega
      have hc := (HS.out.2.2.2.cell (xpU n).toNat).trans (snA_at hlt)
      have hx := (xpU n).toNat_lt
      have hne := pos8' (xpU_ne n)
      have hxe : (((xpU n).toNat : Int) == 0) = false := beq_eq_false_iff_ne.2 (by omega)
      have HP := Lib.hid (spow2 HS.out (n : Int) ⟨by omega, by omega⟩)
      have HM := Lib.hid (fun w' (h : Sn w g s (n + 1) w') => smul2 h n)
      have HK := Lib.hid (fun w' (h : Sn w g s n w') => h.mark)
      have HC := Lib.hid (fun w' (h : Sn w g s n w') => And.intro (h.2.2.2.frozen (xpU n).toNat) ((h.2.2.2.cell (xpU n).toNat).trans (snA_at hlt)))
      rw [show ((n : Int)).toNat = n from Int.toNat_natCast n] at HP
      generalize xpU n = x at *
      obtain ⟨x', hx'⟩ : ∃ z, xpU (n + 1) = z := ⟨_, rfl⟩
      rw [hx'] at HM
      have HX := Lib.hid hx'
      clear hx'
      have hxi : (x.toNat : Int) < 256 := by omega
      clear HS
      go_wp2_with fail
      with_reducible refine (HP.out).mono ?_
      rintro e w3 ⟨rfl, h3⟩
      obtain ⟨hf, ho⟩ := HC.out w3 h3
      have HS3 := Lib.hid (HK.out w3 h3)
      clear h3 hc HP HK HC
      go_wp2_with fail
      generalize w3.setCell ⟨s, x.toNat, none⟩ (.bool true) = w4 at *
      clear hf ho
      with_reducible refine (HM.out w4 HS3.out).mono ?_
      rintro e w5 ⟨rfl, h5⟩
      have HS5 := Lib.hid h5
      clear h5 HS3 HM
      go_wp2_with fail
      go_roundw
      case rel => exact ⟨n + 1, by omega, by go_num, by rw [HX.out], HS5⟩
      case measure => simp [intOf]; omega
    · obtain rfl : n = 255 := by omega
      have he1 : ((xpU 255).toNat : Int) = 1 := by
        have := xpU_turn 0
        rw [Nat.zero_add] at this
        rw [this]; rfl
      have f2 := HS.out.1
      obtain ⟨N, hN⟩ : ∃ N : Nat, m = (N : Int) := ⟨m.toNat, by omega⟩
      subst hN
      have HPN := Lib.hid (fun w' (h : Fdd w g w') => lpow2 h (N : Int) ⟨by omega, by omega⟩)
      have HPM := Lib.hid (fun w' (h : Fdd w g w') => lpow2 h ((N : Int) % 255) ⟨by omega, by omega⟩)
      have HE := Lib.hid (show xpU ((N : Int) % 255).toNat = xpU (N : Int).toNat by rw [show ((N : Int) % 255).toNat = N % 255 by omega, show ((N : Int)).toNat = N from Int.toNat_natCast N]; exact (xpU_mod N).symm)
      rw [HE.out] at HPM
      generalize xpU (N : Int).toNat = y at *
      rw [he1]
      clear HS hn hlt
      go_wp2_with fail
      with_reducible refine (HW.out wr).mono ?_
      rintro e w3 ⟨rfl, rfl⟩
      go_wp2_with fail
      with_reducible refine (HPN.out wr f2).mono ?_
      rintro e w3 ⟨rfl, f3⟩
      go_wp2_with fail
      with_reducible refine (HPM.out w3 f3).mono ?_
      rintro e w4 ⟨rfl, f4⟩
      go_wp2_with fail
      with_reducible refine (wakes4_any w4).mono ?_
      rintro e w5 ⟨rfl, rfl⟩
      go_wp2_with fail
      go_ret
      exact ⟨rfl, f4.2⟩

theorem contract (H : Type) (enc : TypeId × Value → H) (W : World) (base : Nat) (args : Array Value) (ds gs : List (DataW H)) (before : List MemPlace)
    (hval : ∀ (j : Nat) t v, Try.f8.params[j]? = some t → args[j]? = some v → Value.okWide Try.prog W .any base t v)
    (hW : DataW.Whole enc Try.prog Try.f8.params.toList Rows.gfOrderSpec.vars false W args.toList ds gs before) :
    Calls Try.prog 8 args W fun e W' => ∃ v, e = .returned v ∧ Rows.gfOrderSpec.post enc Try.prog Try.f8 false true false false W args v W' := by
  have hW' := hW
  obtain ⟨p, q, hA0, hV, rfl, hfz, hnd⟩ := hW
  have hA : DataW.TrodAll enc Try.prog W 0 (fun _ => true) true Try.f8.params.toList args.toList ds p := hA0
  rw [Try.params8] at hA hval
  obtain ⟨v0, d0, rfl, rfl, h0⟩ := trodAll_one hA
  obtain ⟨rfl, rfl⟩ := trodVars_none hV
  obtain ⟨n0, rfl, rfl, rfl, wf0⟩ := open_int Try.underlying3 (hval 0 3 v0 rfl rfl) h0
  have b0 := bounds_i64 wf0
  clear hA0
  refine (walk n0 W b0.1 b0.2).mono fun e W' ⟨he, hb⟩ => ?_
  exact ⟨_, he, law_post hW' rfl (by kernel_rfl) rfl (by kernel_rfl) hb⟩

set_option maxRecDepth 100000 in
theorem lifted (os : Os) (started : os.Started) (H : Type) (enc : TypeId × Value → H) :
    ReturnsInHanded {} Try.checked os 8 .any (Rows.gfOrderSpec.pre6 enc Try.prog Try.f8 Rows.gfOrderRow.domain false) (Rows.gfOrderSpec.post enc Try.prog Try.f8 false true false false) := by
  refine returnsInHanded_of_change (C := Try.checked) own started (by kernel_rfl) Try.func8
    (ChangeSpec.witness6 (enc := enc) (C := Try.checked) false ⟨#[], #[.int .i64 0], []⟩ 8 (by kernel_rfl) (by kernel_rfl) (by kernel_rfl) (by kernel_rfl)) ?_
  intro W base args ds gs before hval0 hW _ _
  have hval : ∀ (j : Nat) t v, Try.f8.params[j]? = some t → args[j]? = some v → Value.okWide Try.prog W .any base t v := hval0
  exact contract H enc W base args ds gs before hval hW

/-- The statement. -/
theorem card : Rows.GfOrderSaid :=
  OpenClaim.holds_of_wide 8 Try.f8 rfl rfl rfl rfl rfl rfl rfl ⟨rfl, rfl, rfl, rfl, rfl⟩ rfl rfl rfl rfl rfl (by kernel_rfl) Try.func8 (by kernel_rfl)
    (of_decide_eq_true (by kernel_rfl)) (by unfold Func.isWrapper; first | (rw [if_pos (by decide +kernel)]; kernel_rfl) | (rw [if_neg (by decide +kernel)]; exact ⟨rfl, rfl⟩))
    (fun os started H enc _ => lifted os started H enc)
end Go.Proofs.Ytddfjodedmdojaa.gfOrder
