/- The program's many signatures: how many leaves there are, the leaves, prints. The program's many signatures: prints. The document's example of chapter 9; what the statements of chapter 9 have in common. -/
import Derived.Test.YtndknifdajjalaaGreatDoorPWotsD
import Derived.Test.YtndknifdajjalaaGreatDoorPRTMay
import Derived.Test.YtndknifdajjalaaGreatDoorPTreeB
import Derived.Test.YtndknifdajjalaaGreatDoorPRTClimb
namespace Go.Proofs.YtndknifdajjalaaGreatDoor
open Go.RowKit

def put1 (n : Int) : List UInt8 := putL (putN n) 1
theorem put1_len (n : Int) : (put1 n).length = 1 := putL_length _ _
/-- What a print is the hash of. -/
def printT (ht : Int) (root : List UInt8) : List UInt8 := netsL [[112, 114, 105, 110, 116], put1 ht, root]
def printH (ht : Int) (root : List UInt8) : List UInt8 := shaL (printT ht root)
theorem printH_len (ht : Int) (root : List UInt8) : (printH ht root).length = 32 := outTo_len _ 8 (by omega)
/-- A keystore's leaves, their root. -/
def pubsL (sd : List UInt8) (n : Nat) : List (List UInt8) := atL (fun i => pubH (endsL sd (i : Int) 67)) n
theorem pubsL_len (sd : List UInt8) (n : Nat) : (pubsL sd n).length = n := atL_len _ _
theorem pubsL_32 (sd : List UInt8) (n : Nat) : ∀ r ∈ pubsL sd n, r.length = 32 := fun r hr => by
  obtain ⟨i, _, rfl⟩ := List.mem_map.1 hr
  exact pubH_len _
def keyRoot (sd : List UInt8) (ht : Nat) : List UInt8 := rootV (pubsL sd (2 ^ ht))
theorem keyRoot_len (sd : List UInt8) (ht : Nat) : (keyRoot sd ht).length = 32 := rootV_len (pubsL_32 _ _)
/-- The public hash that values make of a message. -/
def recV (m : List UInt8) (vs : List (List UInt8)) : List UInt8 := pubH (atL (endF (digH (msgH m)) vs) 67)
theorem recV_len (m : List UInt8) (vs : List (List UInt8)) : (recV m vs).length = 32 := pubH_len _
/-- A signature. -/
structure SigV where
  h : Int
  l : Int
  vs : List (List UInt8)
  ps : List (List UInt8)
def sigOK (s : SigV) : Prop := 0 ≤ s.h ∧ s.h ≤ 4 ∧ s.vs.length = 67 ∧ climbOK ((2 ^ s.h.toNat : Nat) : Int) s.l s.ps.length
instance (s : SigV) : Decidable (sigOK s) := by unfold sigOK; infer_instance
def sigRoot (m : List UInt8) (s : SigV) : List UInt8 := climbV ((2 ^ s.h.toNat : Nat) : Int) s.l (recV m s.vs) s.ps
/-- Is it right? -/
def verP (fp m : List UInt8) (s : SigV) : Prop := sigOK s ∧ printH s.h (sigRoot m s) = fp
instance (fp m : List UInt8) (s : SigV) : Decidable (verP fp m s) := by unfold verP; infer_instance
theorem climbV_len9 {n i : Int} {a : List UInt8} (ha : a.length = 32) (p : List (List UInt8)) : (climbV n i a p).length = 32 := by
  unfold climbV
  split
  · exact climbH_len ha p _
  · rfl
/-- How a signature came to be right that its leaf did not make. -/
inductive FoV where
  | brk (a b : List UInt8)
  | leak (leaf chain place : Nat) (v : List UInt8)
/-- Is it asked for an explanation? -/
def expP (sd : List UInt8) (ht : Nat) (was m : List UInt8) (s : SigV) : Prop := verP (printH (ht : Int) (keyRoot sd ht)) m s ∧ ¬ (was ≠ [] ∧ was = m)
instance (sd : List UInt8) (ht : Nat) (was m : List UInt8) (s : SigV) : Decidable (expP sd ht was m s) := by unfold expP; infer_instance

theorem pubsL_snoc (sd : List UInt8) (k : Nat) : pubsL sd (k + 1) = pubsL sd k ++ [pubH (endsL sd (k : Int) 67)] := atL_snoc _ _
set_option maxRecDepth 100000 in
set_option maxHeartbeats 8000000 in
theorem rleaves9_any (sd : List UInt8) (ht : Nat) (w : World) (hs : sd.length = 16) (hh : ht ≤ 8) :
    Calls Tryz.prog 47 #[.agg (u8A sd), .int .i64 (ht : Int)] w fun e w' => ∃ v, e = .returned v ∧ OwnH w' w.heap.size v (pubsL sd (2 ^ ht)) ∧ Below w.heap.size w w' := by
  obtain ⟨X, hX⟩ : ∃ x, u8A sd = x := ⟨_, rfl⟩
  have HX := Lib.hid hX
  have HXS := Lib.hid (show X.size = 16 by rw [← hX, u8A_size]; exact hs)
  obtain ⟨N, hN⟩ : ∃ N, 2 ^ ht = N := ⟨_, rfl⟩
  have hN256 : N ≤ 256 := by rw [← hN]; exact Nat.pow_le_pow_right (by omega) hh
  have hp1 : (2 : Int) ^ ht = (N : Int) := by rw [← hN]; simp
  rw [hX, hN]
  clear hX hN
  have HAL := Lib.hid (show Below w.heap.size w (w.alloc (.cells X 23)) from (Below.refl _ _).alloc (Nat.le_refl _) _)
  have HB0 := Lib.hid (show Blk (w.alloc (.cells X 23)) w.heap.size X 23 from Blk.new _ _ _)
  go_enter Tryz.func47, Tryz.ntmps47
  go_upto_region 1 with fail
  generalize w.alloc (.cells X 23) = w1 at *
  go_wp2_with fail
  go_loopw [5, 6] (fun lv t wq => ∃ (k : Nat) (A : Option Addr) (c : Nat), k ≤ N ∧ t = .int .i64 (k : Int) ∧ lv = .slice A k c ∧ Hid (OwnH wq w1.heap.size (.slice A k c) (pubsL sd k)) ∧ Hid (Below w1.heap.size w1 wq)) (fun _ t _ => N - (intOf t).toNat)
  case atStart => exact ⟨0, none, 0, Nat.zero_le _, rfl, rfl, Lib.hid (OwnH.nil _ _), Lib.hid (Below.refl _ _)⟩
  case round =>
    obtain ⟨k, A, c, hk, rfl, rfl, HO, HBL⟩ := hrel
    by_cases hlt : k < N
    · have hki : (k : Int) < (N : Int) := by omega
      obtain ⟨x, hx⟩ : ∃ x, pubH (endsL sd (k : Int) 67) = x := ⟨_, rfl⟩
      have HXL := Lib.hid (show x.length = 32 by rw [← hx]; exact pubH_len _)
      have HSN := Lib.hid (show pubsL sd (k + 1) = pubsL sd k ++ [x] by rw [pubsL_snoc, hx])
      obtain ⟨Y, hY⟩ : ∃ X, u8A x = X := ⟨_, rfl⟩
      have HYE := Lib.hid hY
      have HYZ := Lib.hid (show Y.size = 32 by rw [← hY, u8A_size]; exact HXL.out)
      have HLIM := Lib.hid (show (pubsL sd k).length ≤ 1000000 by rw [pubsL_len]; omega)
      obtain ⟨wo, rfl⟩ : ∃ y : World, y = wr := ⟨_, rfl⟩
      have HB2 := Lib.hid (HB0.out.below HBL.out HB0.out.lt)
      have HST := Lib.hid (show Calls Tryz.prog 82 #[.agg X, .int .i64 (k : Int)] wo fun e w' => e = .returned (.agg Y) ∧ Below wo.heap.size wo w' by
        rw [← HX.out, ← hY, ← hx]
        exact rpublic_any sd (k : Int) wo hs (by omega))
      clear hx hY
      go_wp2_with (with_reducible refine wpList_load_blk rfl 23 (.tmp 2) rfl w.heap.size rfl 23 X _ HB2.out Tryz.underlying23 rfl (by rw [HXS.out]; kernel_rfl) ?_)
      with_reducible refine (HST.out).mono ?_
      rintro e w4 ⟨rfl, hb⟩
      have hal5 : Below w4.heap.size w4 (w4.alloc (.cells Y 44)) := (Below.refl _ _).alloc (Nat.le_refl _) _
      have hb5 := hb.trans (hal5.mono hb.size)
      have HOW := Lib.hid (HO.out.on hb5)
      have HBZ := Lib.hid (show Blk (w4.alloc (.cells Y 44)) w4.heap.size (u8A x) 44 by
        rw [HYE.out]
        exact Blk.new _ _ _)
      have HBAL := Lib.hid (HBL.out.trans (hb5.mono HBL.out.size))
      have hle2 : w1.heap.size ≤ (w4.alloc (.cells Y 44)).heap.size := HBAL.out.size
      clear hb hal5 hb5 HST HB2 HO HBL
      go_wp2_with (first
        | (with_reducible refine wpList_build_hash rfl (.tmp 17) rfl Y rfl HYZ.out ?_)
        | (at_builtin; refine wpList_append_hashG rfl _ _ rfl w1.heap.size _ (pubsL sd k) rfl HOW.out w4.heap.size x HXL.out HBZ.out rfl HLIM.out hle2 ?_))
      intro v7 w7 hown7 hg7
      rw [← HSN.out] at hown7
      obtain ⟨A7, c7, rfl, _, _⟩ := hown7.form (pubsL_len _ _)
      have HB7 := Lib.hid (HBAL.out.grown hg7 hle2 (fun k hk => HOW.out.lt k hk))
      have HO7 := Lib.hid hown7
      clear hown7 hg7 HOW HBZ HBAL hle2
      go_wp2_with fail
      go_roundw
      case rel => exact ⟨k + 1, A7, c7, hlt, by go_num, rfl, HO7, HB7⟩
      case measure => simp [intOf]; omega
    · obtain rfl : k = N := by omega
      have hni : ¬ (k : Int) < (k : Int) := by omega
      have HBE := Lib.hid (HAL.out.trans (HBL.out.mono HAL.out.size))
      have HOE := Lib.hid (own_from HO.out HAL.out.size)
      clear HO HBL
      go_wp2_with fail
      go_ret
      exact ⟨_, rfl, HOE.out, HBE.out⟩

theorem printT_short (ht : Int) (root : List UInt8) (hr : root.length = 32) : (printT ht root).length ≤ 1000000 :=
  Nat.le_trans (nets_short [[112, 114, 105, 110, 116], put1 ht, root] (by simp) (by
    intro r hx
    simp at hx
    rcases hx with rfl | rfl | rfl
    · decide
    · rw [put1_len]; omega
    · omega)) (by omega)
theorem rput1 (n : Int) (w : World) (hn : n ≤ 9223372036854775807) : Calls Tryz.prog 49 #[.int .i64 n, .int .i64 1] w fun e w' => ∃ A c, e = .returned (.slice A 1 c) ∧ 1 ≤ c ∧ c ≤ maxLen ∧ Rd w' w'.heap.size A (put1 n) ∧ Below w.heap.size w w' :=
  (rput_any n 1 w hn).mono fun _ _ ⟨A, c, he, ho, hb⟩ => by
    have e4 : putW 1 = 1 := rfl
    rw [e4] at he ho
    obtain ⟨A', c', e, h1, h2⟩ := own_caps ho
    injection e with e1 e2 e3
    subst e1 e3
    exact ⟨A, c, he, h1, h2, Rd.of_own ho, hb⟩
set_option maxRecDepth 100000 in
set_option maxHeartbeats 4000000 in
theorem rprinttext_any (ht : Int) (root : List UInt8) (w : World) (hr : root.length = 32) (hl : ht ≤ 9223372036854775807) :
    Calls Tryz.prog 38 #[.int .i64 ht, .agg (u8A root)] w fun e w' => ∃ A c, e = .returned (.slice A (printT ht root).length c) ∧ (printT ht root).length ≤ c ∧ Rd w' w'.heap.size A (printT ht root) ∧ Below w.heap.size w w' := by
  obtain ⟨X, hX⟩ : ∃ x, u8A root = x := ⟨_, rfl⟩
  obtain ⟨pa, hpa⟩ : ∃ x, put1 ht = x := ⟨_, rfl⟩
  obtain ⟨tl, htl⟩ : ∃ x, printT ht root = x := ⟨_, rfl⟩
  obtain ⟨q, hq⟩ : ∃ q, tl.length = q := ⟨_, rfl⟩
  have HX := Lib.hid hX
  have HRL := Lib.hid hr
  have HPL := Lib.hid (show pa.length = 1 by rw [← hpa]; exact put1_len _)
  have HPA := Lib.hid (fun W => (show Calls Tryz.prog 49 #[.int .i64 ht, .int .i64 1] W fun e w' => ∃ A c, e = .returned (.slice A 1 c) ∧ 1 ≤ c ∧ c ≤ maxLen ∧ Rd w' w'.heap.size A pa ∧ Below W.heap.size W w' from by rw [← hpa]; exact rput1 ht W hl))
  have HTX := Lib.hid (fun g W (hx : RdR W W.heap.size (some ⟨g, 0, none⟩) [pa, root]) => (show Calls Tryz.prog 74 #[.string ⟨#[112, 114, 105, 110, 116]⟩, .slice (some ⟨g, 0, none⟩) 2 2] W fun e w' => ∃ A c, e = .returned (.slice A q c) ∧ q ≤ c ∧ Rd w' w'.heap.size A tl ∧ Below W.heap.size W w' from by
    have hh := rtext_own [112, 114, 105, 110, 116] (some ⟨g, 0, none⟩) 2 2 [pa, root] W (by decide) rfl (by decide) (fun r hr2 => by
      have h1 := HPL.out
      simp at hr2
      rcases hr2 with rfl | rfl <;> omega) hx
    refine hh.mono ?_
    rintro e w' ⟨v, rfl, ho, hb⟩
    rw [show netsL ([112, 114, 105, 110, 116] :: [pa, root]) = tl by rw [← htl, ← hpa]; rfl, hq] at ho
    obtain ⟨g4, c4, rfl, hc4, _⟩ := ownM_form ho
    exact ⟨_, c4, rfl, hc4, ho.rd, hb⟩))
  rw [hX, htl, hq]
  clear hX hpa htl hq
  go_enter Tryz.func38, Tryz.ntmps38
  go_upto_region 1 with fail
  generalize hw1 : World.alloc _ _ = w1
  obtain ⟨g1, hg1⟩ : ∃ g, w.heap.size = g := ⟨_, rfl⟩
  have hf : Blk w1 g1 X 44 ∧ Below w.heap.size w w1 := by
    rw [← hw1, ← hg1]
    exact ⟨Blk.new w _ _, (Below.refl _ _).alloc (Nat.le_refl _) _⟩
  have hbx : Blk w1 g1 (u8A root) 44 := by rw [HX.out]; exact hf.1
  have HSR := Lib.hid (fun W (h : Below w1.heap.size w1 W) => (show Rd W W.heap.size (some ⟨g1, 0, none⟩) root from rd_of_blk (hbx.below h hbx.lt)))
  have HB1 := Lib.hid hf.2
  clear hf hw1 hbx
  rw [hg1]
  clear hg1
  refine wp_region_loose 5 1 (fun i => false) (promises [.is (.int .i64 ht), .byc 1 pa, .is (.slice (some ⟨g1, 0, none⟩) 32 32), .rows 2 [pa, root], .bytes q tl]) (by kernel_rfl) rfl (by kernel_rfl) (fun i v w w' h hb => Spec.keep h hb) ⟨?_, ?_, ?_, ?_, ?_, trivial⟩ ?_
  · refine StepOKl.of ?_
    intro ac w hb hu hk
    refine ⟨wanted_none rfl, ?_⟩
    have e0 : ac.eval (.tmp 0) = .int .i64 ht := hu.is (t := 0) (by kernel_rfl)
    exact step_value (BigFrame.run_move (.tmp 0) rfl w) (Below.refl _ _) e0
  · refine StepOKl.of ?_
    intro ac w hb hu hk
    refine ⟨wanted_none rfl, ?_⟩
    have e5 : ac.eval (.tmp 5) = (.int .i64 ht) := (hk ⟨0, .data⟩ (by simp) rfl).is rfl rfl
    have ef : ac.eval (.func 49) = .func (.func 49) #[] #[] := rfl
    have ec : ac.eval (.const (.int .i64 1)) = .int .i64 1 := rfl
    refine step_enter (f := 49) (args := #[.int .i64 ht, .int .i64 1]) ?_ ?_
    · generalize ac.eval = ρ at e5 ec ef ⊢
      go_simp
    · exact (HPA.out w).mono fun e w' ⟨A, c, he, hc, hm, hr, hq⟩ => ⟨_, he, ⟨A, c, rfl, hc, hm, hr⟩, hq⟩
  · refine StepOKl.of ?_
    intro ac w hb hu hk
    refine ⟨wanted_none rfl, ?_⟩
    have e3 : ac.eval (.tmp 3) = .pointer (some ⟨g1, 0, none⟩) := hu.is (t := 3) (by kernel_rfl)
    refine step_value (w' := w) (v := .slice (some ⟨g1, 0, none⟩) 32 32) ?_ (Below.refl _ _) rfl
    generalize ac.eval = ρ at e3 ⊢
    go_simp
  · refine StepOKl.of ?_
    intro ac w hb hu hk
    refine ⟨wanted_none rfl, ?_⟩
    have e6 : ∃ X c, ac.eval (.tmp 6) = .slice X 1 c ∧ 1 ≤ c ∧ c ≤ maxLen ∧ Rd w w.heap.size X pa := (hk ⟨1, .data⟩ (by simp) rfl).is rfl rfl
    have e7 : ac.eval (.tmp 7) = (.slice (some ⟨g1, 0, none⟩) 32 32) := (hk ⟨2, .data⟩ (by simp) rfl).is rfl rfl
    obtain ⟨A, c, eA, hcA, hmA, hrA⟩ := e6
    refine step_value (w' := w.alloc (.cells #[.slice A 1 c, .slice (some ⟨g1, 0, none⟩) 32 32] 35)) (v := .slice (some ⟨w.heap.size, 0, none⟩) 2 2) ?_ ((Below.refl _ _).alloc (Nat.le_refl _) _) ⟨w.heap.size, rfl, rdr_two w _ _ HPL.out hcA hmA HRL.out (Nat.le_refl _) (by decide) hrA (HSR.out w hb)⟩
    generalize ac.eval = ρ at eA e7 ⊢
    go_simp
  · refine StepOKl.of ?_
    intro ac w hb hu hk
    refine ⟨wanted_none rfl, ?_⟩
    have e8 : ∃ g, ac.eval (.tmp 8) = .slice (some ⟨g, 0, none⟩) 2 2 ∧ RdR w w.heap.size (some ⟨g, 0, none⟩) [pa, root] := (hk ⟨3, .data⟩ (by simp) rfl).is rfl rfl
    obtain ⟨g, eg, hr⟩ := e8
    have ef : ac.eval (.func 74) = .func (.func 74) #[] #[] := rfl
    have es : ac.eval (.const (.string ⟨#[112, 114, 105, 110, 116]⟩)) = .string ⟨#[112, 114, 105, 110, 116]⟩ := rfl
    refine step_enter (f := 74) (args := #[.string ⟨#[112, 114, 105, 110, 116]⟩, .slice (some ⟨g, 0, none⟩) 2 2]) ?_ ?_
    · generalize ac.eval = ρ at eg es ef ⊢
      go_simp
    · exact (HTX.out g w hr).mono fun e w' ⟨A, c, he, hc, hr, hq⟩ => ⟨_, he, ⟨A, c, rfl, hc, hr⟩, hq⟩
  · intro ac w' hb hu hk hap
    obtain ⟨_, h5, rfl⟩ := (hk 0 (by decide)).put rfl rfl
    obtain ⟨_, h6, ⟨X6, xc6, rfl, hxc6, hX6⟩⟩ := (hk 1 (by decide)).put rfl rfl
    obtain ⟨_, h7, rfl⟩ := (hk 2 (by decide)).put rfl rfl
    obtain ⟨_, h8, ⟨g8, rfl, hG8⟩⟩ := (hk 3 (by decide)).put rfl rfl
    obtain ⟨_, h9, ⟨X9, xc9, rfl, hxc9, hX9⟩⟩ := (hk 4 (by decide)).put rfl rfl
    clear hap
    have hF : AllPuts ac.tmps ((5, _) :: (6, _) :: (7, _) :: (8, _) :: (9, _) :: []) := ⟨h5, h6, h7, h8, h9, trivial⟩
    obtain rfl := frame_puts hu (by kernel_rfl) hF
    simp only [puts, Act.put, List.setIfInBounds_toArray, List.set_cons_zero, List.set_cons_succ, List.drop_succ_cons, List.drop_zero]
    clear hk hu hF h5 h6 h7 h8 h9
    have hb9 := HB1.out.trans (hb.mono HB1.out.size)
    have HB9 := Lib.hid hb9
    have HR9 := Lib.hid hX9
    have HC9 := Lib.hid hxc9
    clear hb hb9 hX9 hxc9 HPA HTX HSR HB1
    go_wp2_with fail
    go_ret
    exact ⟨_, _, rfl, HC9.out, HR9.out, HB9.out⟩
set_option maxRecDepth 100000 in
set_option maxHeartbeats 4000000 in
theorem rprint9_any (sd : List UInt8) (ht : Nat) (w : World) (hs : sd.length = 16) (hh : ht ≤ 8) :
    Calls Tryz.prog 19 #[.agg (u8A sd), .int .i64 (ht : Int)] w fun e w' => e = .returned (.agg (u8A (printH (ht : Int) (keyRoot sd ht)))) ∧ Below w.heap.size w w' := by
  obtain ⟨X, hX⟩ : ∃ x, u8A sd = x := ⟨_, rfl⟩
  obtain ⟨Z, hZ⟩ : ∃ x, u8A (printH (ht : Int) (keyRoot sd ht)) = x := ⟨_, rfl⟩
  obtain ⟨K, hK⟩ : ∃ x, u8A (keyRoot sd ht) = x := ⟨_, rfl⟩
  have HX := Lib.hid hX
  have HXS := Lib.hid (show X.size = 16 by rw [← hX, u8A_size]; exact hs)
  have HZ := Lib.hid hZ
  have HZS := Lib.hid (show Z.size = 32 by rw [← hZ, u8A_size]; exact printH_len _ _)
  have HZO := Lib.hid (show Z.all (·.oneCell') = true by rw [← hZ]; exact u8A_one _)
  have HLV := Lib.hid (fun W => (show Calls Tryz.prog 47 #[.agg X, .int .i64 (ht : Int)] W fun e w' => ∃ v, e = .returned v ∧ OwnH w' W.heap.size v (pubsL sd (2 ^ ht)) ∧ Below W.heap.size W w' from by
    rw [← hX]
    exact rleaves9_any sd ht W hs hh))
  have hN256 : 2 ^ ht ≤ 256 := Nat.pow_le_pow_right (by omega) hh
  have HRO := Lib.hid (fun A c W (hr : RdH W W.heap.size A (pubsL sd (2 ^ ht))) => (show Calls Tryz.prog 46 #[.slice A (2 ^ ht) c] W fun e w' => e = .returned (.agg K) ∧ Below W.heap.size W w' from by
    have := rroot7_any A (2 ^ ht) c (pubsL sd (2 ^ ht)) W (pubsL_len _ _) (by omega) (pubsL_32 _ _) hr
    rw [← hK]
    unfold keyRoot rootV
    rw [pubsL_len]
    exact this))
  have HPT := Lib.hid (fun W => (show Calls Tryz.prog 38 #[.int .i64 (ht : Int), .agg K] W _ from by
    rw [← hK]
    exact rprinttext_any (ht : Int) (keyRoot sd ht) W (keyRoot_len _ _) (by omega)))
  have HPS := Lib.hid (printT_short (ht : Int) (keyRoot sd ht) (keyRoot_len _ _))
  have HSU := Lib.hid (fun A q c W (hq : (printT (ht : Int) (keyRoot sd ht)).length = q) (hr : Rd W W.heap.size A (printT (ht : Int) (keyRoot sd ht))) => (show Calls Tryz.prog 37 #[.slice A q c] W fun e w' => e = .returned (.agg Z) ∧ Below W.heap.size W w' from by
    rw [← hZ]
    exact rsum_any A q c _ W hq (by rw [← hq]; exact HPS.out) hr))
  generalize printT (ht : Int) (keyRoot sd ht) = tl at *
  have HPL := Lib.hid (pubsL_len sd (2 ^ ht))
  generalize pubsL sd (2 ^ ht) = LV at *
  generalize 2 ^ ht = N at *
  rw [hX]
  clear hX hZ hK
  go_enter Tryz.func19, Tryz.ntmps19
  go_upto_region 1 with fail
  generalize hw3 : World.alloc _ _ = w3
  obtain ⟨g1, hg1⟩ : ∃ g, w.heap.size = g := ⟨_, rfl⟩
  obtain ⟨g2, hg2⟩ : ∃ g, w.heap.size + 1 = g := ⟨_, rfl⟩
  have hf : Blk w3 g1 X 23 ∧ (∃ rs, Blk w3 g2 rs 44 ∧ rs.size = 32) ∧ Below w.heap.size w w3 := by
    obtain ⟨Y, hw, hY⟩ : ∃ Y, w3 = (w.alloc (.cells X 23)).alloc (.cells Y 44) ∧ Y.size = 32 := ⟨_, hw3.symm, rfl⟩
    have e1 : (w.alloc (.cells X 23)).heap.size = w.heap.size + 1 := by simp
    rw [hw, ← hg1, ← hg2]
    refine ⟨(Blk.new w _ _).alloc _, ⟨Y, ?_, hY⟩, ((Below.refl _ _).alloc (Nat.le_refl _) _).alloc (by simp) _⟩
    rw [← e1]; exact Blk.new _ _ _
  have HB1 := Lib.hid hf.1
  obtain ⟨rs, hrs, hrz⟩ := hf.2.1
  have HR := Lib.hid hrs
  have HRZ := Lib.hid hrz
  have HB := Lib.hid hf.2.2
  have HG := Lib.hid (show w.heap.size ≤ g2 by omega)
  clear hf hw3 hrs hrz
  rw [hg2, hg1]
  clear hg1 hg2
  go_wp2_with (with_reducible refine wpList_load_blk rfl 23 (.tmp 2) rfl g1 rfl 23 X _ HB1.out Tryz.underlying23 rfl (by rw [HXS.out]; kernel_rfl) ?_)
  with_reducible refine (HLV.out w3).mono ?_
  rintro e w4 ⟨v4, rfl, hown, hb⟩
  obtain ⟨A4, c4, rfl, _, _⟩ := hown.form HPL.out
  have HRC := Lib.hid (HRO.out A4 c4 w4 hown.hv.rd8)
  replace HR := Lib.hid (HR.out.below hb HR.out.lt)
  replace HB := Lib.hid (HB.out.trans (hb.mono HB.out.size))
  clear hown hb HLV HRO HB1
  go_wp2_with fail
  with_reducible refine (HRC.out).mono ?_
  rintro e w5 ⟨rfl, hb⟩
  replace HR := Lib.hid (HR.out.below hb HR.out.lt)
  replace HB := Lib.hid (HB.out.trans (hb.mono HB.out.size))
  clear hb HRC
  go_wp2_with fail
  with_reducible refine (HPT.out w5).mono ?_
  rintro e w6 ⟨A6, c6, rfl, hc6, hr6, hb⟩
  obtain ⟨q, hq⟩ : ∃ q, tl.length = q := ⟨_, rfl⟩
  have HSC := Lib.hid (HSU.out A6 q c6 w6 hq hr6)
  rw [hq]
  replace HR := Lib.hid (HR.out.below hb HR.out.lt)
  replace HB := Lib.hid (HB.out.trans (hb.mono HB.out.size))
  clear hb hr6 hc6 hq HPT HSU
  go_wp2_with fail
  with_reducible refine (HSC.out).mono ?_
  rintro e w7 ⟨rfl, hb⟩
  replace HR := Lib.hid (HR.out.below hb HR.out.lt)
  replace HB := Lib.hid (HB.out.trans (hb.mono HB.out.size))
  clear hb HSC
  go_wp2_with (with_reducible refine wpList_store_blk rfl 44 (.tmp 4) (.tmp 11) rfl g2 Z rfl rfl 44 rs HR.out (by rw [HZS.out]; kernel_rfl) (by rw [HZS.out, HRZ.out]) HZO.out ?_)
  refine bodyPost_ret (v := .agg Z) (results_cell_row (p := 4) (ty := 44) (by kernel_rfl) _ _ g2 44 _ (0, 0) _ rfl (HR.out.row Z) Tryz.underlying44 rfl (by rw [HZS.out]; kernel_rfl)) rfl ⟨by rw [HZ.out], below_row HB.out HB.out.size HG.out _⟩

/-- The leaves, j pads behind them, noughts behind these. -/
def laidP (hs : List (List UInt8)) (pd j : Nat) : List (List UInt8) := hs ++ (List.replicate j padH ++ List.replicate (pd - hs.length - j) zeroH)
theorem laidP_len {hs : List (List UInt8)} {pd j : Nat} (h : hs.length + j ≤ pd) : (laidP hs pd j).length = pd := by simp [laidP]; omega
theorem laidP_set {hs : List (List UInt8)} {pd j : Nat} (h : hs.length + j < pd) : (laidP hs pd j).set (hs.length + j) padH = laidP hs pd (j + 1) := by
  obtain ⟨q, hq⟩ : ∃ q, pd - hs.length - j = q + 1 := ⟨pd - hs.length - j - 1, by omega⟩
  unfold laidP
  rw [hq, show pd - hs.length - (j + 1) = q by omega, List.set_append_right _ _ (by omega), show hs.length + j - hs.length = j by omega, List.set_append_right _ _ (by simp), List.length_replicate, Nat.sub_self, List.replicate_succ, List.set_cons_zero, List.replicate_succ', List.append_assoc]
  rfl
theorem laidP_all {hs : List (List UInt8)} {j : Nat} (h : hs.length + j = tree.pad hs.length) : laidP hs (tree.pad hs.length) j = rowH hs := by
  unfold laidP rowH tree.row
  rw [show tree.pad hs.length - hs.length - j = 0 by omega, List.replicate_zero, List.append_nil, show tree.pad hs.length - hs.length = j by omega]
set_option maxRecDepth 100000 in
set_option maxHeartbeats 4000000 in
theorem ppadded_any (A : Option Addr) (n c : Nat) (hs : List (List UInt8)) (w : World) (hn : hs.length = n) (h1 : n ≤ 1024) (hl : ∀ r ∈ hs, r.length = 32) (hr : RdH w w.heap.size A hs) (htab : Pow10 w.heap.size w) :
    Calls Tryz.prog 128 #[.slice A n c] w fun e w' => ∃ v, e = .returned v ∧ OwnH w' w.heap.size v (rowH hs) ∧ Below w.heap.size w w' := by
  obtain ⟨pd, hpd⟩ : ∃ p, tree.pad hs.length = p := ⟨_, rfl⟩
  have HN := Lib.hid hn
  have HL := Lib.hid hl
  have hpn : n ≤ pd := by rw [← hpd, hn]; exact tree.high_le n
  have hp1 : pd ≤ 1024 := by rw [← hpd, hn]; exact high_small h1
  have HPAD := Lib.hid (show Calls Tryz.prog 141 #[.int .i64 (n : Int)] w fun e W' => e = .returned (.int .i64 (pd : Int)) ∧ w = W' from by
    have := ppad_any (n : Int) w (by omega) (by omega)
    rw [Int.toNat_natCast, ← hn, hpd, hn] at this
    exact this)
  have HALL := Lib.hid (fun j (h : n + j = pd) => (show laidP hs pd j = rowH hs by rw [← hpd]; exact laidP_all (by rw [hpd, hn]; exact h)))
  have HSET := Lib.hid (fun j (h : n + j < pd) => (show (laidP hs pd j).set (n + j) padH = laidP hs pd (j + 1) by rw [← hn]; exact laidP_set (by rw [hn]; exact h)))
  have HLEN := Lib.hid (fun j (h : n + j ≤ pd) => (show (laidP hs pd j).length = pd from laidP_len (by rw [hn]; exact h)))
  have HTG := Lib.hid (fun W (hW : Pow10 W.heap.size W) => (show Calls Tryz.prog 134 #[.string ⟨#[112, 97, 100]⟩, .slice none 0 0] W fun e W' => e = .returned (.agg (u8A padH)) ∧ Below W.heap.size W W' from
    tagged_any [112, 97, 100] none 0 0 [] W (by decide) rfl (by omega) (fun r hr => by cases hr) (.inl rfl) hW))
  obtain ⟨Z, hZ⟩ : ∃ Z, u8A padH = Z := ⟨_, rfl⟩
  have HEZ := Lib.hid hZ
  have HZS := Lib.hid (show Z.size = 32 by rw [← hZ, u8A_size, padH_len])
  have HZO := Lib.hid (show Z.all (·.oneCell') = true by rw [← hZ]; exact u8A_one _)
  have HR := Lib.hid hr
  have HT := Lib.hid htab
  rw [hZ] at HTG
  clear hpd hZ hn hl hr htab
  go_enter Tryz.func128, Tryz.ntmps128
  go_wp2_with fail
  with_reducible refine (HPAD.out).mono ?_
  rintro e w1 ⟨rfl, rfl⟩
  clear HPAD
  go_wp2_with (with_reducible refine wpList_make_hashes rfl (.tmp 8) (.tmp 8) rfl pd (by omega) rfl rfl ?_)
  intro w1 hown1 hb1
  have HO1 := Lib.hid hown1
  obtain ⟨g, hg⟩ : ∃ g, w.heap.size = g := ⟨_, rfl⟩
  have HG := Lib.hid hg
  have HB1 := Lib.hid hb1
  rw [hg] at HO1
  rw [hg]
  have HT1 := Lib.hid (HTG.out w1 (tab_on HT.out hb1 hb1.size))
  clear hown1 hb1 HTG hg
  go_wp2_with fail
  with_reducible refine (HT1.out).mono ?_
  rintro e w2 ⟨rfl, hb2⟩
  have HO2 := Lib.hid (HO1.out.on hb2)
  have HB2 := Lib.hid (HB1.out.trans (hb2.mono HB1.out.size))
  clear hb2 HT1 HO1 HB1
  obtain ⟨Z0, hZ0⟩ : ∃ Z, u8A zeroH = Z := ⟨_, rfl⟩
  have HZ0 := Lib.hid (show Z0.size = 32 by rw [← hZ0]; rfl)
  have HEZ0 := Lib.hid hZ0
  clear hZ0
  have HBN := Lib.hid (Blk.new w2 Z0 44)
  have HI4 := Lib.hid (show (Tryz.prog.info? 44).map (·.size) = some Z.size by rw [HZS.out]; kernel_rfl)
  have HI5 := Lib.hid (show Z0.size = Z.size by rw [HZS.out, HZ0.out])
  have hgw : g ≤ w2.heap.size := by rw [← HG.out]; exact HB2.out.size
  have HW3 := Lib.hid (show Below w2.heap.size w2 ((w2.alloc (.cells Z0 44)).setRow w2.heap.size Z) from below_row ((Below.refl _ _).alloc (Nat.le_refl _) _) (by simp) (Nat.le_refl _) Z)
  have HBK := Lib.hid (show Blk ((w2.alloc (.cells Z0 44)).setRow w2.heap.size Z) w2.heap.size Z 44 from (Blk.new w2 Z0 44).row Z)
  have HO3 := Lib.hid (HO2.out.on HW3.out)
  have HB3 := Lib.hid (HB2.out.trans (HW3.out.mono HB2.out.size))
  have HGG := Lib.hid (show g < w2.heap.size from HO2.out.inside g rfl)
  have HR3 := Lib.hid (HR.out.below HB3.out (Nat.le_refl _))
  clear HO2 HB2 HW3 hgw HR
  go_wp2_with (first
    | (with_reducible refine wpList_alloc_hash rfl rfl Z0 HEZ0.out ?_)
    | (with_reducible refine wpList_store_blk rfl 44 (.tmp 4) (.tmp 10) rfl w2.heap.size Z rfl rfl 44 Z0 HBN.out HI4.out HI5.out HZO.out ?_)
    | (with_reducible refine wpList_copy_own rfl (.tmp 11) (.tmp 12) rfl HO3.out List.length_replicate A n c w.heap.size HN.out hpn HL.out HR3.out rfl rfl ?_))
  intro w4 hown4 hg4
  have HBK4 := Lib.hid (HBK.out.grown hg4 (fun e => by injection e with e; have := HGG.out; omega))
  have HB4 := Lib.hid (HB3.out.grown hg4 HB3.out.size (fun k hk => by injection hk with hk; have := HG.out; omega))
  have HO4 := Lib.hid (show OwnH w4 g (.slice (some ⟨g, 0, none⟩) pd pd) (laidP hs pd 0) by
    have e : hs ++ List.replicate (pd - n) zeroH = laidP hs pd 0 := by
      unfold laidP
      rw [HN.out, List.replicate_zero, List.nil_append, Nat.sub_zero]
    rw [← e]
    exact hown4)
  obtain ⟨g2, hg2⟩ : ∃ g, w2.heap.size = g := ⟨_, rfl⟩
  rw [hg2] at HGG HBK4 ⊢
  clear HBN HI4 HI5 HBK HO3 HB3 HR3 hown4 hg4 hg2
  go_wp2_with fail
  go_loopw [5] (fun v wq => ∃ j i : Nat, i ≤ pd ∧ v = .int .i64 (i : Int) ∧ Hid (n + j = i) ∧ Hid (OwnH wq g (.slice (some ⟨g, 0, none⟩) pd pd) (laidP hs pd j)) ∧ Hid (Blk wq g2 Z 44) ∧ Below w.heap.size w wq) (fun v _ => pd - (intOf v).toNat)
  case atStart => exact ⟨0, n, hpn, rfl, Lib.hid rfl, HO4, HBK4, HB4.out⟩
  case round =>
    clear HO4 HBK4 HB4
    obtain ⟨j, i, hi, rfl, HI, HO, HBK, hbel⟩ := hrel
    by_cases hlt : i < pd
    · have hii : (i : Int) < (pd : Int) := by omega
      have HLN := Lib.hid (HLEN.out j (by have := HI.out; omega))
      have HST := Lib.hid (show (laidP hs pd j).set i padH = laidP hs pd (j + 1) by have := HSET.out j (by have := HI.out; omega); rwa [HI.out] at this)
      have HIZ := Lib.hid (show (Tryz.prog.info? 44).map (·.size) = some Z.size by rw [HZS.out]; kernel_rfl)
      have HPL := Lib.hid padH_len
      go_wp2_with (first
        | (with_reducible refine wpList_load_blk rfl 44 (.tmp 4) rfl g2 rfl 44 Z _ HBK.out Tryz.underlying44 rfl HIZ.out ?_)
        | (with_reducible refine wpList_store_own rfl (.tmp 23) (.tmp 22) rfl HO.out HLN.out hlt padH HPL.out Z HEZ.out rfl rfl ?_))
      intro w5 hown5 hg5
      rw [HST.out] at hown5
      have HO5 := Lib.hid hown5
      have HB5 := Lib.hid (HBK.out.grown hg5 (fun e => by injection e with e; have := HGG.out; omega))
      have hb5 := hbel.grown hg5 hbel.size (fun k hk => by injection hk with hk; have := HG.out; omega)
      clear hown5 hg5 HO HBK hbel HIZ HLN HST
      go_wp2_with fail
      go_roundw
      case rel => exact ⟨j + 1, i + 1, hlt, by go_num, Lib.hid (by have := HI.out; omega), HO5, HB5, hb5⟩
      case measure => simp [intOf]; omega
    · have HF := Lib.hid (HALL.out j (by have := HI.out; omega))
      have hii : ¬ (i : Int) < (pd : Int) := by omega
      go_wp2_with fail
      go_ret
      exact ⟨_, rfl, by rw [HG.out, ← HF.out]; exact HO.out, hbel⟩

/-- The first k nodes above, noughts behind them. -/
def abvL (hs : List (List UInt8)) (m k : Nat) : List (List UInt8) := (upH hs).take k ++ List.replicate (m - k) zeroH
theorem abvL_len {hs : List (List UInt8)} {m k : Nat} (hm : hs.length / 2 = m) (h : k ≤ m) : (abvL hs m k).length = m := by simp [abvL, upH_len]; omega
theorem abvL_set {hs : List (List UInt8)} {m k : Nat} (hm : hs.length / 2 = m) (h : k < m) : (abvL hs m k).set k (nodeH (hs.getD (2 * k) []) (hs.getD (2 * k + 1) [])) = abvL hs m (k + 1) := by
  obtain ⟨q, hq⟩ : ∃ q, m - k = q + 1 := ⟨m - k - 1, by omega⟩
  have hl : ((upH hs).take k).length = k := by rw [List.length_take, upH_len]; omega
  unfold abvL
  rw [upH_step hs (by omega), hq, show m - (k + 1) = q by omega, List.set_append_right _ _ (by omega), hl, Nat.sub_self, List.replicate_succ, List.set_cons_zero, List.append_assoc]
  rfl
theorem abvL_all {hs : List (List UInt8)} {m : Nat} (hm : hs.length / 2 = m) : abvL hs m m = upH hs := by
  unfold abvL
  rw [Nat.sub_self, List.replicate_zero, List.append_nil, List.take_of_length_le (by rw [upH_len]; omega)]
set_option maxRecDepth 100000 in
set_option maxHeartbeats 8000000 in
theorem pabove_any (A : Option Addr) (n c : Nat) (hs : List (List UInt8)) (w : World) (hn : hs.length = n) (h1 : n ≤ 1024) (hl : ∀ r ∈ hs, r.length = 32) (hr : RdH w w.heap.size A hs) (htab : Pow10 w.heap.size w) :
    Calls Tryz.prog 129 #[.func (.func 110) #[] #[], .slice A n c] w fun e w' => ∃ v, e = .returned v ∧ OwnH w' w.heap.size v (upH hs) ∧ Below w.heap.size w w' := by
  obtain ⟨m, hm⟩ : ∃ m, n / 2 = m := ⟨_, rfl⟩
  have hmi : (n : Int) / 2 = (m : Int) := by omega
  have hmh : hs.length / 2 = m := by rw [hn]; exact hm
  have hm1 : m ≤ 512 := by omega
  have HMH := Lib.hid hmh
  have HMN := Lib.hid hm
  have HN := Lib.hid hn
  have HL := Lib.hid hl
  have HR := Lib.hid hr
  have HT := Lib.hid htab
  clear hn hl hr htab hm hmh
  go_enter Tryz.func129, Tryz.ntmps129
  go_wp2_with (with_reducible refine wpList_make_hashes rfl (.tmp 9) (.tmp 9) rfl m (by omega) rfl rfl ?_)
  intro w1 hown1 hb1
  have HO1 := Lib.hid (show OwnH w1 w.heap.size (.slice (some ⟨w.heap.size, 0, none⟩) m m) (abvL hs m 0) by
    unfold abvL
    rw [List.take_zero, List.nil_append, Nat.sub_zero]
    exact hown1)
  obtain ⟨g, hg⟩ : ∃ g, w.heap.size = g := ⟨_, rfl⟩
  have HG := Lib.hid hg
  have HB1 := Lib.hid hb1
  rw [hg] at HO1
  rw [hg]
  clear hown1 hb1 hg
  go_wp2_with fail
  go_loopw [13] (fun t wq => ∃ k : Nat, k ≤ m ∧ t = .int .i64 (k : Int) ∧ Hid (OwnH wq g (.slice (some ⟨g, 0, none⟩) m m) (abvL hs m k)) ∧ Below w.heap.size w wq) (fun t _ => m - (intOf t).toNat)
  case atStart => exact ⟨0, Nat.zero_le _, rfl, HO1, HB1.out⟩
  case round =>
    clear HO1 HB1
    obtain ⟨k, hkm, rfl, HO, hbel⟩ := hrel
    by_cases hlt : k < m
    · have hki : (k : Int) < (m : Int) := by omega
      obtain ⟨p, hp⟩ : ∃ p, 2 * k = p := ⟨_, rfl⟩
      obtain ⟨q, hq⟩ : ∃ q, p + 1 = q := ⟨_, rfl⟩
      have hqi : (p : Int) + 1 = (q : Int) := by omega
      have hpi : 2 * (k : Int) = (p : Int) := by omega
      have hqn : q < n := by have := HMN.out; omega
      have hpn : p < n := by omega
      have hpin : (p : Int) < (n : Int) := by omega
      have hqin : (q : Int) < (n : Int) := by omega
      have hw1 : IntKind.i64.wrap (p : Int) = (p : Int) := IntWalk.i64_in _ (by omega)
      have hw2 : IntKind.i64.wrap (q : Int) = (q : Int) := IntWalk.i64_in _ (by omega)
      have hle := hbel.size
      have hstep := abvL_set HMH.out hlt
      have HLN := Lib.hid (abvL_len HMH.out hkm)
      rw [hp, hq] at hstep
      have hplen : q < hs.length := by rw [HN.out]; exact hqn
      clear hp hq
      rcases HR.out with h0 | ⟨b, off, rfl, hb, hc⟩
      · rw [h0] at hplen; simp at hplen
      · have hx := hc p (by omega)
        have hy := hc q hplen
        rw [show hs[p]'(by omega) = hs.getD p [] by simp [List.getD_eq_getElem?_getD, show p < hs.length by omega]] at hx
        rw [show hs[q]'hplen = hs.getD q [] by simp [List.getD_eq_getElem?_getD, hplen]] at hy
        have hxl : (hs.getD p []).length = 32 := by
          rw [show hs.getD p [] = hs[p]'(by omega) by simp [List.getD_eq_getElem?_getD, show p < hs.length by omega]]
          exact HL.out _ (List.getElem_mem _)
        have hyl : (hs.getD q []).length = 32 := by
          rw [show hs.getD q [] = hs[q]'hplen by simp [List.getD_eq_getElem?_getD, hplen]]
          exact HL.out _ (List.getElem_mem _)
        generalize hs.getD p [] = x at *
        generalize hs.getD q [] = y at *
        have HST := Lib.hid hstep
        have HKEEP := Lib.hid (fun W (h : Below wr.heap.size wr W) => (⟨rangeAt_keep hx fun j => (hbel.trans (h.mono hle)).cell hb, rangeAt_keep hy fun j => (hbel.trans (h.mono hle)).cell hb⟩ : W.rangeAt b (off + p * 32) (Lib.byteCells x) ∧ W.rangeAt b (off + q * 32) (Lib.byteCells y)))
        obtain ⟨X, hX⟩ : ∃ X, X = (Lib.byteCells x).toArray := ⟨_, rfl⟩
        obtain ⟨Y, hY⟩ : ∃ Y, Y = (Lib.byteCells y).toArray := ⟨_, rfl⟩
        obtain ⟨Z, hZ⟩ : ∃ Z, u8A (nodeH x y) = Z := ⟨_, rfl⟩
        have HEX := Lib.hid hX
        have HEY := Lib.hid hY
        have HEZ := Lib.hid hZ
        have HIX := Lib.hid (show (Tryz.prog.info? 44).map (·.size) = some (Lib.byteCells x).length by rw [Lib.byteCells_length, hxl]; kernel_rfl)
        have HIY := Lib.hid (show (Tryz.prog.info? 44).map (·.size) = some (Lib.byteCells y).length by rw [Lib.byteCells_length, hyl]; kernel_rfl)
        have HND := Lib.hid (fun W (h : Below wr.heap.size wr W) => (show Calls Tryz.prog 110 #[.agg X, .agg Y] W fun e W' => e = .returned (.agg Z) ∧ Below W.heap.size W W' from by
          rw [hX, hY, ← hZ]
          exact pnode_any x y W hxl hyl (tab_on HT.out (hbel.trans (h.mono hle)) (hbel.trans (h.mono hle)).size)))
        clear hx hy hstep hc hxl hyl hX hY hZ
        go_wp2_with fail
        refine wp_region_loose 16 1 (fun i => false) (promises [.is (.slice (some ⟨g, 0, none⟩) m m), .is (.int .i64 (k : Int)), .is (.func (.func 110) #[] #[]), .is (.slice (some ⟨b, off, none⟩) n c), .is (.int .i64 (k : Int)), .is (.int .i64 (p : Int)), .is (.pointer (some ⟨b, off + p * 32, none⟩)), .is (.agg X), .is (.slice (some ⟨b, off, none⟩) n c), .is (.int .i64 (k : Int)), .is (.int .i64 (p : Int)), .is (.int .i64 (q : Int)), .is (.pointer (some ⟨b, off + q * 32, none⟩)), .is (.agg Y), .is (.agg Z), .is (.pointer (some ⟨g, k * 32, none⟩))]) (by kernel_rfl) rfl (by kernel_rfl) (fun i v w w' h hb => Spec.keep h hb) ⟨?_, ?_, ?_, ?_, ?_, ?_, ?_, ?_, ?_, ?_, ?_, ?_, ?_, ?_, ?_, ?_, trivial⟩ ?_
        · refine StepOKl.of ?_
          intro ac w hb hu hk
          refine ⟨wanted_none rfl, ?_⟩
          have e5 : ac.eval (.tmp 5) = .slice (some ⟨g, 0, none⟩) m m := hu.is (t := 5) (by kernel_rfl)
          exact step_value (BigFrame.run_move (.tmp 5) rfl w) (Below.refl _ _) e5
        · refine StepOKl.of ?_
          intro ac w hb hu hk
          refine ⟨wanted_none rfl, ?_⟩
          have e6 : ac.eval (.tmp 6) = .int .i64 (k : Int) := hu.is (t := 6) (by kernel_rfl)
          exact step_value (BigFrame.run_move (.tmp 6) rfl w) (Below.refl _ _) e6
        · refine StepOKl.of ?_
          intro ac w hb hu hk
          refine ⟨wanted_none rfl, ?_⟩
          have e0 : ac.eval (.tmp 0) = .func (.func 110) #[] #[] := hu.is (t := 0) (by kernel_rfl)
          exact step_value (BigFrame.run_move (.tmp 0) rfl w) (Below.refl _ _) e0
        · refine StepOKl.of ?_
          intro ac w hb hu hk
          refine ⟨wanted_none rfl, ?_⟩
          have e1 : ac.eval (.tmp 1) = .slice (some ⟨b, off, none⟩) n c := hu.is (t := 1) (by kernel_rfl)
          exact step_value (BigFrame.run_move (.tmp 1) rfl w) (Below.refl _ _) e1
        · refine StepOKl.of ?_
          intro ac w hb hu hk
          refine ⟨wanted_none rfl, ?_⟩
          have e6 : ac.eval (.tmp 6) = .int .i64 (k : Int) := hu.is (t := 6) (by kernel_rfl)
          exact step_value (BigFrame.run_move (.tmp 6) rfl w) (Below.refl _ _) e6
        · refine StepOKl.of ?_
          intro ac w hb hu hk
          refine ⟨wanted_none rfl, ?_⟩
          have e20 : ac.eval (.tmp 20) = (.int .i64 (k : Int)) := (hk ⟨4, .data⟩ (by simp) rfl).is rfl rfl
          refine step_value (w' := w) (v := (.int .i64 (p : Int))) ?_ (Below.refl _ _) rfl
          have ec0 : ac.eval (.const (Value.int IntKind.i64 2)) = Value.int IntKind.i64 2 := rfl
          generalize ac.eval = ρ at e20 ec0 ⊢
          go_simp
        · refine StepOKl.of ?_
          intro ac w hb hu hk
          refine ⟨wanted_none rfl, ?_⟩
          have e19 : ac.eval (.tmp 19) = (.slice (some ⟨b, off, none⟩) n c) := (hk ⟨3, .data⟩ (by simp) rfl).is rfl rfl
          have e21 : ac.eval (.tmp 21) = (.int .i64 (p : Int)) := (hk ⟨5, .data⟩ (by simp) rfl).is rfl rfl
          refine step_value (w' := w) (v := (.pointer (some ⟨b, off + p * 32, none⟩))) ?_ (Below.refl _ _) rfl
          generalize ac.eval = ρ at e19 e21 ⊢
          go_simp
        · refine StepOKl.of ?_
          intro ac w hb hu hk
          refine ⟨wanted_none rfl, ?_⟩
          have e22 : ac.eval (.tmp 22) = (.pointer (some ⟨b, off + p * 32, none⟩)) := (hk ⟨6, .data⟩ (by simp) rfl).is rfl rfl
          refine step_value (w' := w) (v := .agg X) (run_load_row 44 (.tmp 22) rfl b (off + p * 32) e22 (Lib.byteCells x) _ (HKEEP.out w hb).1 Tryz.underlying44 rfl HIX.out HEX.out) (Below.refl _ _) rfl
        · refine StepOKl.of ?_
          intro ac w hb hu hk
          refine ⟨wanted_none rfl, ?_⟩
          have e1 : ac.eval (.tmp 1) = .slice (some ⟨b, off, none⟩) n c := hu.is (t := 1) (by kernel_rfl)
          exact step_value (BigFrame.run_move (.tmp 1) rfl w) (Below.refl _ _) e1
        · refine StepOKl.of ?_
          intro ac w hb hu hk
          refine ⟨wanted_none rfl, ?_⟩
          have e6 : ac.eval (.tmp 6) = .int .i64 (k : Int) := hu.is (t := 6) (by kernel_rfl)
          exact step_value (BigFrame.run_move (.tmp 6) rfl w) (Below.refl _ _) e6
        · refine StepOKl.of ?_
          intro ac w hb hu hk
          refine ⟨wanted_none rfl, ?_⟩
          have e25 : ac.eval (.tmp 25) = (.int .i64 (k : Int)) := (hk ⟨9, .data⟩ (by simp) rfl).is rfl rfl
          refine step_value (w' := w) (v := (.int .i64 (p : Int))) ?_ (Below.refl _ _) rfl
          have ec0 : ac.eval (.const (Value.int IntKind.i64 2)) = Value.int IntKind.i64 2 := rfl
          generalize ac.eval = ρ at e25 ec0 ⊢
          go_simp
        · refine StepOKl.of ?_
          intro ac w hb hu hk
          refine ⟨wanted_none rfl, ?_⟩
          have e26 : ac.eval (.tmp 26) = (.int .i64 (p : Int)) := (hk ⟨10, .data⟩ (by simp) rfl).is rfl rfl
          refine step_value (w' := w) (v := (.int .i64 (q : Int))) ?_ (Below.refl _ _) rfl
          have ec0 : ac.eval (.const (Value.int IntKind.i64 1)) = Value.int IntKind.i64 1 := rfl
          generalize ac.eval = ρ at e26 ec0 ⊢
          go_simp
        · refine StepOKl.of ?_
          intro ac w hb hu hk
          refine ⟨wanted_none rfl, ?_⟩
          have e24 : ac.eval (.tmp 24) = (.slice (some ⟨b, off, none⟩) n c) := (hk ⟨8, .data⟩ (by simp) rfl).is rfl rfl
          have e27 : ac.eval (.tmp 27) = (.int .i64 (q : Int)) := (hk ⟨11, .data⟩ (by simp) rfl).is rfl rfl
          refine step_value (w' := w) (v := (.pointer (some ⟨b, off + q * 32, none⟩))) ?_ (Below.refl _ _) rfl
          generalize ac.eval = ρ at e24 e27 ⊢
          go_simp
        · refine StepOKl.of ?_
          intro ac w hb hu hk
          refine ⟨wanted_none rfl, ?_⟩
          have e28 : ac.eval (.tmp 28) = (.pointer (some ⟨b, off + q * 32, none⟩)) := (hk ⟨12, .data⟩ (by simp) rfl).is rfl rfl
          refine step_value (w' := w) (v := .agg Y) (run_load_row 44 (.tmp 28) rfl b (off + q * 32) e28 (Lib.byteCells y) _ (HKEEP.out w hb).2 Tryz.underlying44 rfl HIY.out HEY.out) (Below.refl _ _) rfl
        · refine StepOKl.of ?_
          intro ac w hb hu hk
          refine ⟨wanted_none rfl, ?_⟩
          have e18 : ac.eval (.tmp 18) = (.func (.func 110) #[] #[]) := (hk ⟨2, .data⟩ (by simp) rfl).is rfl rfl
          have e23 : ac.eval (.tmp 23) = (.agg X) := (hk ⟨7, .data⟩ (by simp) rfl).is rfl rfl
          have e29 : ac.eval (.tmp 29) = (.agg Y) := (hk ⟨13, .data⟩ (by simp) rfl).is rfl rfl
          refine step_enter (f := 110) (args := #[.agg X, .agg Y]) ?_ ?_
          · generalize ac.eval = ρ at e18 e23 e29 ⊢
            go_simp
          · exact (HND.out w hb).mono fun e w' ⟨he, hq⟩ => ⟨_, he, rfl, hq⟩
        · refine StepOKl.of ?_
          intro ac w hb hu hk
          refine ⟨wanted_none rfl, ?_⟩
          have e16 : ac.eval (.tmp 16) = (.slice (some ⟨g, 0, none⟩) m m) := (hk ⟨0, .data⟩ (by simp) rfl).is rfl rfl
          have e17 : ac.eval (.tmp 17) = (.int .i64 (k : Int)) := (hk ⟨1, .data⟩ (by simp) rfl).is rfl rfl
          refine step_value (w' := w) (v := (.pointer (some ⟨g, k * 32, none⟩))) ?_ (Below.refl _ _) rfl
          generalize ac.eval = ρ at e16 e17 ⊢
          go_simp
        · intro ac w' hb hu hk hap
          obtain ⟨_, h16, rfl⟩ := (hk 0 (by decide)).put rfl rfl
          obtain ⟨_, h17, rfl⟩ := (hk 1 (by decide)).put rfl rfl
          obtain ⟨_, h18, rfl⟩ := (hk 2 (by decide)).put rfl rfl
          obtain ⟨_, h19, rfl⟩ := (hk 3 (by decide)).put rfl rfl
          obtain ⟨_, h20, rfl⟩ := (hk 4 (by decide)).put rfl rfl
          obtain ⟨_, h21, rfl⟩ := (hk 5 (by decide)).put rfl rfl
          obtain ⟨_, h22, rfl⟩ := (hk 6 (by decide)).put rfl rfl
          obtain ⟨_, h23, rfl⟩ := (hk 7 (by decide)).put rfl rfl
          obtain ⟨_, h24, rfl⟩ := (hk 8 (by decide)).put rfl rfl
          obtain ⟨_, h25, rfl⟩ := (hk 9 (by decide)).put rfl rfl
          obtain ⟨_, h26, rfl⟩ := (hk 10 (by decide)).put rfl rfl
          obtain ⟨_, h27, rfl⟩ := (hk 11 (by decide)).put rfl rfl
          obtain ⟨_, h28, rfl⟩ := (hk 12 (by decide)).put rfl rfl
          obtain ⟨_, h29, rfl⟩ := (hk 13 (by decide)).put rfl rfl
          obtain ⟨_, h30, rfl⟩ := (hk 14 (by decide)).put rfl rfl
          obtain ⟨_, h31, rfl⟩ := (hk 15 (by decide)).put rfl rfl
          clear hap
          have hF : AllPuts ac.tmps ((16, _) :: (17, _) :: (18, _) :: (19, _) :: (20, _) :: (21, _) :: (22, _) :: (23, _) :: (24, _) :: (25, _) :: (26, _) :: (27, _) :: (28, _) :: (29, _) :: (30, _) :: (31, _) :: []) := ⟨h16, h17, h18, h19, h20, h21, h22, h23, h24, h25, h26, h27, h28, h29, h30, h31, trivial⟩
          obtain rfl := frame_puts hu (by kernel_rfl) hF
          simp only [puts, Act.put, List.setIfInBounds_toArray, List.set_cons_zero, List.set_cons_succ, List.drop_succ_cons, List.drop_zero]
          clear hk hu hF h16 h17 h18 h19 h20 h21 h22 h23 h24 h25 h26 h27 h28 h29 h30 h31
          have hw' : Below w.heap.size w w' := hbel.trans (hb.mono hle)
          have HOW := Lib.hid (HO.out.on hb)
          have HNL := Lib.hid (nodeH_len x y)
          clear HND HKEEP HO hbel hle
          go_wp2_with (with_reducible refine wpList_store_own rfl (.tmp 31) (.tmp 30) rfl HOW.out HLN.out hlt (nodeH x y) HNL.out Z HEZ.out rfl rfl ?_)
          intro w7 hown7 hg7
          rw [HST.out] at hown7
          have HO7 := Lib.hid hown7
          have hb8 : Below w.heap.size w w7 := hw'.grown hg7 hw'.size (fun j hj => by injection hj with hj; have := HG.out; omega)
          clear hown7 hg7 HOW hw' hb
          go_wp2_with fail
          go_roundw
          case rel => exact ⟨k + 1, hlt, by go_num, HO7, hb8⟩
          case measure => simp [intOf]; omega
    · have hki : ¬ (k : Int) < (m : Int) := by omega
      obtain rfl : k = m := by omega
      have HE := Lib.hid (abvL_all HMH.out)
      rw [HE.out] at HO
      go_wp2_with fail
      go_ret
      exact ⟨_, rfl, by rw [HG.out]; exact HO.out, hbel⟩

/-- The levels from the row up. -/
def levL (k : Nat) (R : List (List UInt8)) : List (List (List UInt8)) := (List.range (k + 1)).map fun j => upNH j R
theorem levL_len (k : Nat) (R : List (List UInt8)) : (levL k R).length = k + 1 := by simp [levL]
theorem levL_snoc (k : Nat) (R : List (List UInt8)) : levL (k + 1) R = levL k R ++ [upNH (k + 1) R] := by
  unfold levL
  rw [List.range_succ (n := k + 1), List.map_append]
  rfl
theorem levL_at {k j : Nat} (R : List (List UInt8)) (h : j < (levL k R).length) : (levL k R)[j] = upNH j R := by
  simp [levL]
/-- A row of one row. -/
theorem rl_one {w : World} {B : Nat} {v : Value} {l : List (List UInt8)} (h : HxV w v l) (hB : B ≤ w.heap.size) : RL (w.alloc (.cells #[v] 37)) B (.slice (some ⟨w.heap.size, 0, none⟩) 1 1) [l] := by
  have hal : Below w.heap.size w (w.alloc (.cells #[v] 37)) := (Below.refl _ _).alloc (Nat.le_refl _) _
  have ho : (w.alloc (.cells #[v] 37)).ownsRow B 37 1 (.slice (some ⟨w.heap.size, 0, none⟩) 1 1) 1 [v] :=
    ⟨rfl, Or.inr ⟨w.heap.size, 1, #[v], rfl, hB, heap_alloc_new _ _, Nat.le_refl _, by unfold maxLen; omega, rfl, rfl⟩⟩
  refine ⟨[v], ho, rfl, fun i hi => ?_⟩
  obtain rfl : i = 0 := by simpa using hi
  exact ⟨v, rfl, h.on hal⟩
set_option maxRecDepth 100000 in
set_option maxHeartbeats 8000000 in
theorem plevels_any (A : Option Addr) (n c : Nat) (hs : List (List UInt8)) (w : World) (hn : hs.length = n) (h1 : n ≤ 1024) (hl : ∀ r ∈ hs, r.length = 32) (hr : RdH w w.heap.size A hs) (htab : Pow10 w.heap.size w) :
    Calls Tryz.prog 109 #[.func (.func 110) #[] #[], .slice A n c] w fun e w' => ∃ v, e = .returned v ∧ RL w' w.heap.size v (levL (tree.high n) (rowH hs)) ∧ Below w.heap.size w w' := by
  have HP := Lib.hid (ppadded_any A n c hs w hn h1 hl hr htab)
  have HRH := Lib.hid (rowH_hash hl)
  obtain ⟨K, hK⟩ : ∃ K, tree.high n = K := ⟨_, rfl⟩
  have HRL := Lib.hid (show (rowH hs).length = 2 ^ K by rw [rowH_len, hn, hK])
  have HK2 := Lib.hid (show 2 ^ K ≤ 1024 by rw [← hK]; exact high_small h1)
  have hk10 : K ≤ 10 := by rw [← hK]; exact tree.high_least 10 n (by simpa using h1)
  have HT := Lib.hid htab
  rw [hK]
  generalize rowH hs = R at *
  clear hn hl hr htab hK
  go_enter Tryz.func109, Tryz.ntmps109
  go_wp2_with fail
  with_reducible refine (HP.out).mono ?_
  rintro e w1 ⟨v1, rfl, hown1, hb1⟩
  obtain ⟨m1, hm1⟩ : ∃ m, R.length = m := ⟨_, rfl⟩
  obtain ⟨A1, c1, rfl, _, _⟩ := hown1.form hm1
  have HO1 := Lib.hid (rl_one (B := w.heap.size) (HxV.of hown1) hb1.size)
  have HV1 := Lib.hid (hown1.hv.on ((Below.refl _ _).alloc (Nat.le_refl _) (.cells #[.slice A1 m1 c1] 37)))
  have HB1 := Lib.hid (show Below w.heap.size w (w1.alloc (.cells #[.slice A1 m1 c1] 37)) from hb1.trans (((Below.refl _ _).alloc (Nat.le_refl _) _).mono hb1.size))
  have HM1 := Lib.hid (show m1 = 2 ^ (K - 0) by rw [← hm1, Nat.sub_zero]; exact HRL.out)
  clear hown1 hb1 hm1 HP
  go_wp2_with fail
  generalize hw2 : w1.alloc (.cells #[.slice A1 m1 c1] 37) = w2 at *
  clear hw2
  go_loopw [5, 6] (fun x v wq => ∃ j m X d, j ≤ K ∧ Hid (m = 2 ^ (K - j)) ∧ x = .slice X m d ∧ Hid (HV wq (.slice X m d) (upNH j R)) ∧ Hid (RL wq w.heap.size v (levL j R)) ∧ Below w.heap.size w wq) (fun x _ _ => lenW x)
  case atStart => exact ⟨0, m1, A1, c1, Nat.zero_le _, HM1, rfl, HV1, HO1, HB1.out⟩
  case round =>
    clear HM1 HV1 HO1 HB1
    obtain ⟨j, m, X, d, hjK, HM, rfl, HV, HO, hbel⟩ := hrel
    have hlen : (upNH j R).length = m := by
      rw [upNH_len, HRL.out, HM.out, Nat.pow_div hjK (by omega)]
    have HLEN := Lib.hid hlen
    by_cases hlt : j < K
    · have hm2 : 2 ≤ m := by
        rw [HM.out]
        calc 2 = 2 ^ 1 := rfl
          _ ≤ 2 ^ (K - j) := Nat.pow_le_pow_right (by omega) (by omega)
      have hmi : (1 : Int) < (m : Int) := by omega
      have hmm : m ≤ 1024 := by
        have : 2 ^ (K - j) ≤ 2 ^ K := Nat.pow_le_pow_right (by omega) (by omega)
        have := HK2.out
        rw [HM.out]; omega
      have HM2 := Lib.hid (show m / 2 = 2 ^ (K - (j + 1)) by
        rw [HM.out, show K - j = (K - (j + 1)) + 1 by omega, Nat.pow_succ, Nat.mul_div_cancel _ (by omega)])
      have HAB := Lib.hid (show Calls Tryz.prog 129 #[.func (.func 110) #[] #[], .slice X m d] wr fun e w' => ∃ v, e = .returned v ∧ OwnH w' wr.heap.size v (upNH (j + 1) R) ∧ Below wr.heap.size wr w' by
        obtain ⟨h0, X', d', e, _, hrd⟩ := HV.out
        injection e with e1 e2 e3
        subst e1 e3
        rw [upNH_succ]
        exact pabove_any X m d (upNH j R) wr hlen hmm h0 hrd (tab_on HT.out hbel hbel.size))
      have HUL := Lib.hid (show (upNH (j + 1) R).length = m / 2 by rw [upNH_succ, upH_len, hlen])
      have HLL := Lib.hid (show (levL j R).length + 1 ≤ 1000000 by rw [levL_len]; omega)
      have HLF := Lib.hid (show (levL j R).length = j + 1 from levL_len j R)
      obtain ⟨A6, c6, rfl, _, _⟩ := HO.out.form HLF.out
      clear hlen HV
      go_wp2_with fail
      with_reducible refine (HAB.out).mono ?_
      rintro e w3 ⟨v3, rfl, hown3, hb3⟩
      obtain ⟨A3, c3, rfl, _, _⟩ := hown3.form HUL.out
      have hb03 := hbel.trans (hb3.mono hbel.size)
      have hal3 : Below w3.heap.size w3 (w3.alloc (.cells #[.slice A3 (m / 2) c3] 37)) := (Below.refl _ _).alloc (Nat.le_refl _) _
      have hb4 := hb03.trans (hal3.mono hb03.size)
      have HX4 := Lib.hid ((HxV.of hown3).on hal3)
      have HV4 := Lib.hid (hown3.hv.on hal3)
      have HO4 := Lib.hid ((HO.out.on hb3).on hal3)
      have HB4 := Lib.hid hb4
      have HBL := Lib.hid (show (w3.alloc (.cells #[.slice A3 (m / 2) c3] 37)).heap[w3.heap.size]? = some (.cells #[.slice A3 (m / 2) c3] 37 (0, 0)) from heap_alloc_new _ _)
      clear hown3 hb3 HAB HO hbel hal3 hb03 hb4
      go_wp2_with (at_builtin; refine wpList_append_row rfl _ _ rfl w.heap.size _ (levL j R) rfl HO4.out w3.heap.size (.slice A3 (m / 2) c3) (upNH (j + 1) R) HX4.out HBL.out rfl HLL.out HB4.out.size ?_)
      intro v5 w5 hrl5 hg5 hn5
      rw [← levL_snoc] at hrl5
      obtain ⟨A5, c5, rfl, _, _⟩ := hrl5.form (levL_len (j + 1) R)
      have HO5 := Lib.hid hrl5
      have HV5 := Lib.hid (show HV w5 (.slice A3 (m / 2) c3) (upNH (j + 1) R) from (RL.hx HX4.out HO4.out hg5).hv)
      have hb5 : Below w.heap.size w w5 := HB4.out.grown hg5 HB4.out.size (fun k hk => (HO4.out.inside k hk).1)
      clear hrl5 hg5 hn5 HO4 HX4 HV4 HB4 HBL
      go_wp2_with fail
      go_roundw
      case rel => exact ⟨j + 1, m / 2, A3, c3, hlt, HM2, rfl, HV5, HO5, hb5⟩
      case measure => simp [lenW]; omega
    · obtain rfl : j = K := by omega
      obtain rfl : m = 1 := by rw [HM.out, Nat.sub_self]
      have hmi : ¬ (1 : Int) < ((1 : Nat) : Int) := by omega
      obtain ⟨A6, c6, rfl, _, _⟩ := HO.out.form (levL_len j R)
      clear HV HM
      go_wp2_with fail
      go_ret
      exact ⟨_, rfl, HO.out, hbel⟩

/-- How many leaves a tree of that height has; 0: there is none. -/
def cntN (h : Int) : Nat := if 0 ≤ h ∧ h ≤ 4 then 2 ^ h.toNat else 0
theorem cntN_nat {k : Nat} (h : k ≤ 4) : cntN (k : Int) = 2 ^ k := by
  unfold cntN
  rw [if_pos (by omega), Int.toNat_natCast]
theorem cntN_out {h : Int} (hh : h < 0 ∨ 4 < h) : cntN h = 0 := by
  unfold cntN
  rw [if_neg (by omega)]
theorem cntN_le (h : Int) : cntN h ≤ 16 := by
  unfold cntN
  split
  · exact Nat.pow_le_pow_right (n := 2) (by omega) (show h.toNat ≤ 4 by omega)
  · omega
set_option maxRecDepth 100000 in
set_option maxHeartbeats 2000000 in
theorem pcount9_any (h : Int) (w : World) :
    Calls Tryz.prog 99 #[.int .i64 h] w fun e w' => e = .returned (.int .i64 (cntN h : Int)) ∧ w = w' := by
  by_cases h0 : h < 0
  · rw [cntN_out (.inl h0)]
    go_enter Tryz.func99, Tryz.ntmps99
    go_wp2_with fail
    go_ret
    exact ⟨rfl, rfl⟩
  · by_cases h4 : h > 4
    · rw [cntN_out (.inr h4)]
      go_enter Tryz.func99, Tryz.ntmps99
      go_wp2_with fail
      go_ret
      exact ⟨rfl, rfl⟩
    · obtain ⟨k, rfl⟩ : ∃ k : Nat, h = (k : Int) := ⟨h.toNat, by omega⟩
      have hk4 : k ≤ 4 := by omega
      rw [cntN_nat hk4]
      obtain ⟨N, hN⟩ : ∃ N, 2 ^ k = N := ⟨_, rfl⟩
      have hN16 : N ≤ 16 := by rw [← hN]; exact Nat.pow_le_pow_right (n := 2) (by omega) hk4
      have hp1 : (2 : Int) ^ k = (N : Int) := by rw [← hN]; simp
      rw [hN]
      clear hN
      go_enter Tryz.func99, Tryz.ntmps99
      go_wp2_with fail
      go_ret
      exact ⟨rfl, rfl⟩
set_option maxRecDepth 100000 in
set_option maxHeartbeats 8000000 in
theorem pleaves9_any (sd : List UInt8) (h : Int) (w : World) (hs : sd.length = 16) (htab : Pow10 w.heap.size w) :
    Calls Tryz.prog 67 #[.agg (u8A sd), .int .i64 h] w fun e w' => ∃ v, e = .returned v ∧ OwnH w' w.heap.size v (pubsL sd (cntN h)) ∧ Below w.heap.size w w' := by
  obtain ⟨X, hX⟩ : ∃ x, u8A sd = x := ⟨_, rfl⟩
  have HX := Lib.hid hX
  have HXS := Lib.hid (show X.size = 16 by rw [← hX, u8A_size]; exact hs)
  have HCT := Lib.hid (fun W => pcount9_any h W)
  have hN256 := cntN_le h
  generalize cntN h = N at *
  have HTAB := Lib.hid htab
  rw [hX]
  clear hX htab
  have HAL := Lib.hid (show Below w.heap.size w (w.alloc (.cells X 23)) from (Below.refl _ _).alloc (Nat.le_refl _) _)
  have HB0 := Lib.hid (show Blk (w.alloc (.cells X 23)) w.heap.size X 23 from Blk.new _ _ _)
  go_enter Tryz.func67, Tryz.ntmps67
  go_upto_region 1 with fail
  generalize w.alloc (.cells X 23) = w1 at *
  go_wp2_with fail
  with_reducible refine (HCT.out _).mono ?_
  rintro e w2 ⟨rfl, rfl⟩
  clear HCT
  go_wp2_with fail
  go_loopw [5, 9] (fun lv t wq => ∃ (k : Nat) (A : Option Addr) (c : Nat), k ≤ N ∧ t = .int .i64 (k : Int) ∧ lv = .slice A k c ∧ Hid (OwnH wq w1.heap.size (.slice A k c) (pubsL sd k)) ∧ Hid (Below w1.heap.size w1 wq)) (fun _ t _ => N - (intOf t).toNat)
  case atStart => exact ⟨0, none, 0, Nat.zero_le _, rfl, rfl, Lib.hid (OwnH.nil _ _), Lib.hid (Below.refl _ _)⟩
  case round =>
    obtain ⟨k, A, c, hk, rfl, rfl, HO, HBL⟩ := hrel
    by_cases hlt : k < N
    · have hki : (k : Int) < (N : Int) := by omega
      obtain ⟨x, hx⟩ : ∃ x, pubH (endsL sd (k : Int) 67) = x := ⟨_, rfl⟩
      have HXL := Lib.hid (show x.length = 32 by rw [← hx]; exact pubH_len _)
      have HSN := Lib.hid (show pubsL sd (k + 1) = pubsL sd k ++ [x] by rw [pubsL_snoc, hx])
      obtain ⟨Y, hY⟩ : ∃ X, u8A x = X := ⟨_, rfl⟩
      have HYE := Lib.hid hY
      have HYZ := Lib.hid (show Y.size = 32 by rw [← hY, u8A_size]; exact HXL.out)
      have HLIM := Lib.hid (show (pubsL sd k).length ≤ 1000000 by rw [pubsL_len]; omega)
      obtain ⟨wo, rfl⟩ : ∃ y : World, y = wr := ⟨_, rfl⟩
      have HB2 := Lib.hid (HB0.out.below HBL.out HB0.out.lt)
      have HST := Lib.hid (show Calls Tryz.prog 100 #[.agg X, .int .i64 (k : Int)] wo fun e w' => e = .returned (.agg Y) ∧ Below wo.heap.size wo w' by
        rw [← HX.out, ← hY, ← hx]
        have hb2 := HAL.out.trans (HBL.out.mono HAL.out.size)
        exact ppublic_any sd (k : Int) wo hs (by omega) (tab_on HTAB.out hb2 hb2.size))
      clear hx hY
      go_wp2_with (with_reducible refine wpList_load_blk rfl 23 (.tmp 2) rfl w.heap.size rfl 23 X _ HB2.out Tryz.underlying23 rfl (by rw [HXS.out]; kernel_rfl) ?_)
      with_reducible refine (HST.out).mono ?_
      rintro e w4 ⟨rfl, hb⟩
      have hal5 : Below w4.heap.size w4 (w4.alloc (.cells Y 44)) := (Below.refl _ _).alloc (Nat.le_refl _) _
      have hb5 := hb.trans (hal5.mono hb.size)
      have HOW := Lib.hid (HO.out.on hb5)
      have HBZ := Lib.hid (show Blk (w4.alloc (.cells Y 44)) w4.heap.size (u8A x) 44 by
        rw [HYE.out]
        exact Blk.new _ _ _)
      have HBAL := Lib.hid (HBL.out.trans (hb5.mono HBL.out.size))
      have hle2 : w1.heap.size ≤ (w4.alloc (.cells Y 44)).heap.size := HBAL.out.size
      clear hb hal5 hb5 HST HB2 HO HBL
      go_wp2_with (first
        | (with_reducible refine wpList_build_hash rfl (.tmp 15) rfl Y rfl HYZ.out ?_)
        | (at_builtin; refine wpList_append_hashG rfl _ _ rfl w1.heap.size _ (pubsL sd k) rfl HOW.out w4.heap.size x HXL.out HBZ.out rfl HLIM.out hle2 ?_))
      intro v7 w7 hown7 hg7
      rw [← HSN.out] at hown7
      obtain ⟨A7, c7, rfl, _, _⟩ := hown7.form (pubsL_len _ _)
      have HB7 := Lib.hid (HBAL.out.grown hg7 hle2 (fun k hk => HOW.out.lt k hk))
      have HO7 := Lib.hid hown7
      clear hown7 hg7 HOW HBZ HBAL hle2
      go_wp2_with fail
      go_roundw
      case rel => exact ⟨k + 1, A7, c7, hlt, by go_num, rfl, HO7, HB7⟩
      case measure => simp [intOf]; omega
    · obtain rfl : k = N := by omega
      have hni : ¬ (k : Int) < (k : Int) := by omega
      have HBE := Lib.hid (HAL.out.trans (HBL.out.mono HAL.out.size))
      have HOE := Lib.hid (own_from HO.out HAL.out.size)
      clear HO HBL
      go_wp2_with fail
      go_ret
      exact ⟨_, rfl, HOE.out, HBE.out⟩

theorem wpList_load_when9 {P : Program} {w : World} {ops : Array Oper} {rest : List Oper} {o : Oper} {a : Act} {Q : Exit → Act → World → Prop} (hw : Region.wanted o (yielded ops a.tmps) = true) (ty : TypeId) (x : Operand) (ho : o.op = .load ty x)
    (g : Nat) (hx : a.eval x = .pointer (some ⟨g, 0, none⟩)) (t : TypeId) (cs : Array Value) (d : TypeDesc) (hg : Blk w g cs t) (hu : P.underlying ty = some d) (hd : (match d with | .struct _ | .array _ _ => true | _ => false) = true) (hi : (P.info? ty).map (·.size) = some cs.size)
    (hk : wpList P ops Q rest (a.put o.dst (.agg cs)) w) : wpList P ops Q (o :: rest) a w :=
  wpList_step fun K hK => by
    rw [if_pos hw]
    exact wp_load_row ty x ho g hx t cs (0, 0) d hg hu hd hi (hK _ _ hk)
theorem wpList_load_w9 {w : World} {ops : Array Oper} {rest : List Oper} {o : Oper} {a : Act} {Q : Exit → Act → World → Prop} (x : Operand) (ho : o.op = .load 44 x)
    (g : Nat) (hx : a.eval x = .pointer (some ⟨g, 0, none⟩)) (cs : Array Value) (hg : Blk w g cs 44) (hz : cs.size = 32)
    (hw : Region.wanted o (yielded ops a.tmps) = true) (hk : wpList Tryz.prog ops Q rest (a.put o.dst (.agg cs)) w) : wpList Tryz.prog ops Q (o :: rest) a w :=
  wpList_load_when9 hw 44 x ho g hx 44 cs _ hg Tryz.underlying44 rfl (by rw [hz]; kernel_rfl) hk
def zeroK : List UInt8 := List.replicate 16 0
theorem built_key9 : Tryz.prog.built 23 [] = some (u8A zeroK) := by kernel_rfl
theorem wpList_build_key9 {w : World} {ops : Array Oper} {rest : List Oper} {o : Oper} {a : Act} {Q : Exit → Act → World → Prop} (hgd : o.guard = none) (ho : o.op = .build 23 #[]) (Z : Array Value) (hZ : u8A zeroK = Z)
    (hk : wpList Tryz.prog ops Q rest (a.put o.dst (.agg Z)) w) : wpList Tryz.prog ops Q (o :: rest) a w := by
  have hb : Tryz.prog.built 23 ((#[] : Array (Nat × Operand)).map fun (i, x) => (i, a.eval x)).toList = some Z := by
    have h := built_key9
    rw [hZ] at h
    simp only [List.map_toArray, List.map_nil]
    exact h
  refine wpList_build (P := Tryz.prog) hgd 23 #[] ho (by rw [hb]; rfl) ?_
  rw [hb]
  exact hk
end Go.Proofs.YtndknifdajjalaaGreatDoor
