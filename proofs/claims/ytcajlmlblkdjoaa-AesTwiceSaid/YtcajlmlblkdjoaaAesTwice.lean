/- AesTwice: streamed twice bytes are themselves; in pieces, each at its place, they are what they are at once. For all keys, places, cuts and bytes. -/
import Derived.Test.YtcajlmlblkdjoaaLaw
import Derived.Test.YtcajlmlblkdjoaaOpenA
import Derived.Test.YtcajlmlblkdjoaaFreeT
import Derived.Test.YtcajlmlblkdjoaaSub
import Derived.Test.YtcajlmlblkdjoaaKeep
import Derived.Test.YtcajlmlblkdjoaaCopyB
import Derived.Test.YtcajlmlblkdjoaaSame
import Derived.Test.YtcajlmlblkdjoaaPStream
import Derived.Test.YtcajlmlblkdjoaaWakes3
namespace Go.Proofs.Ytcajlmlblkdjoaa.aesTwice
open Go.ChangeShapes Go.WideShapes Go.ChangeAt Go.RowKit

theorem clampN_of {N : Nat} (h : N ≤ 1073741824) : clampN (N : Int) = N := by
  unfold clampN
  split
  · omega
  · rw [if_pos (by omega)]; omega
set_option maxRecDepth 100000 in
set_option maxHeartbeats 4000000 in
theorem walk (k : List UInt8) (at_ cut : Int) (A : Option Addr) (n c : Nat) (bl : List UInt8) (w : World) (hk : k.length = 16) (ha0 : -9223372036854775808 ≤ at_) (ha1 : at_ ≤ 9223372036854775807) (hc0 : -9223372036854775808 ≤ cut) (hc1 : cut ≤ 9223372036854775807)
    (hbl : bl.length = n) (hc : n ≤ c) (hb : Rd w w.heap.size A bl) :
    Calls Try.prog 6 #[.agg (u8A k), .int .i64 at_, .int .i64 cut, .slice A n c] w fun e w' => e = .returned (.bool true) ∧ Below w.heap.size w w' := by
  obtain ⟨i0, hi, hz0, hz1, hz2⟩ := info_parts info5
  have HBCUT := Lib.hid (fun W => cut_any A n c 200 W hc)
  have hkb : (bl.take 200).length = min n 200 := by rw [List.length_take, hbl, Nat.min_comm]
  have hb3 : min n 200 ≤ 200 := Nat.min_le_right _ _
  have hbc : min n 200 ≤ c := Nat.le_trans (Nat.min_le_left _ _) hc
  have hbr := hb.take 200
  generalize bl.take 200 = b at *
  generalize min n 200 = p at *
  have HBL := Lib.hid hkb
  obtain ⟨N, hN, hNl⟩ : ∃ N : Nat, withinI at_ 1000 = (N : Int) ∧ N < 1000 := by
    have := withinI_range at_ 1000 (by omega)
    exact ⟨(withinI at_ 1000).toNat, by omega, by omega⟩
  obtain ⟨q, hq, hql⟩ : ∃ q : Nat, withinI cut ((p : Int) + 1) = (q : Int) ∧ q ≤ p := by
    have := withinI_range cut ((p : Int) + 1) (by omega)
    exact ⟨(withinI cut ((p : Int) + 1)).toNat, by omega, by omega⟩
  have HWN := Lib.hid (fun W => (show Calls Try.prog 9 #[.int .i64 at_, .int .i64 1000] W fun e w' => e = .returned (.int .i64 (N : Int)) ∧ W = w' by rw [← hN]; exact within_any at_ 1000 W ha0 ha1 (by omega)))
  have HWQ := Lib.hid (fun W => (show Calls Try.prog 9 #[.int .i64 cut, .int .i64 ((p : Int) + 1)] W fun e w' => e = .returned (.int .i64 (q : Int)) ∧ W = w' by rw [← hq]; exact within_any cut ((p : Int) + 1) W hc0 hc1 (by omega)))
  have HP0 := Lib.hid (fun (W : World) (hr : Rd W W.heap.size A b) => (show Calls Try.prog 10 #[.agg (u8A k), .int .i64 (N : Int), .slice A p c] W fun e w' => ∃ A' c', e = .returned (.slice A' p c') ∧ p ≤ c' ∧ OwnB w' W.heap.size 5 (.slice A' p c') p (streamL (keysTo k 11) N b) ∧ Below W.heap.size W w' by
    have := pStream_any k (N : Int) A p c b W hk HBL.out (by omega) hr
    rwa [clampN_of (by omega)] at this))
  have HP1 := Lib.hid (fun (X : Option Addr) (xc : Nat) (W : World) (hr : Rd W W.heap.size X (b.take q)) => (show Calls Try.prog 10 #[.agg (u8A k), .int .i64 (N : Int), .slice X q xc] W fun e w' => ∃ A' c', e = .returned (.slice A' q c') ∧ q ≤ c' ∧ OwnB w' W.heap.size 5 (.slice A' q c') q (streamL (keysTo k 11) N (b.take q)) ∧ Below W.heap.size W w' by
    have := pStream_any k (N : Int) X q xc (b.take q) W hk (by rw [List.length_take, HBL.out]; omega) (by omega) hr
    rwa [clampN_of (by omega)] at this))
  have HP2 := Lib.hid (fun (X : Option Addr) (xc : Nat) (W : World) (hr : Rd W W.heap.size X (b.drop q)) => (show Calls Try.prog 10 #[.agg (u8A k), .int .i64 ((N : Int) + (q : Int)), .slice X (p - q) xc] W fun e w' => ∃ A' c', e = .returned (.slice A' (p - q) c') ∧ p - q ≤ c' ∧ OwnB w' W.heap.size 5 (.slice A' (p - q) c') (p - q) (streamL (keysTo k 11) (N + q) (b.drop q)) ∧ Below W.heap.size W w' by
    have := pStream_any k ((N + q : Nat) : Int) X (p - q) xc (b.drop q) W hk (by rw [List.length_drop, HBL.out]) (by omega) hr
    rwa [clampN_of (by omega)] at this))
  have HALL := Lib.hid ((streamL_len (keysTo k 11) N b).trans HBL.out)
  have HP3 := Lib.hid (fun (X : Option Addr) (xc : Nat) (W : World) (hr : Rd W W.heap.size X (streamL (keysTo k 11) N b)) => (show Calls Try.prog 10 #[.agg (u8A k), .int .i64 (N : Int), .slice X p xc] W fun e w' => ∃ A' c', e = .returned (.slice A' p c') ∧ p ≤ c' ∧ OwnB w' W.heap.size 5 (.slice A' p c') p b ∧ Below W.heap.size W w' by
    have := pStream_any k (N : Int) X p xc _ W hk HALL.out (by omega) hr
    rwa [clampN_of (by omega), streamL_twice] at this))
  have HCAT := Lib.hid (show streamL (keysTo k 11) N (b.take q) ++ streamL (keysTo k 11) (N + q) (b.drop q) = streamL (keysTo k 11) N b from (streamL_take (keysTo k 11) N b q (by rw [HBL.out]; exact hql)).symm)
  have HX1L := Lib.hid (show (streamL (keysTo k 11) N (b.take q)).length = q by rw [streamL_len, List.length_take, HBL.out]; omega)
  have HX2L := Lib.hid (show (streamL (keysTo k 11) (N + q) (b.drop q)).length = p - q by rw [streamL_len, List.length_drop, HBL.out])
  obtain ⟨al, hal⟩ : ∃ z, streamL (keysTo k 11) N b = z := ⟨_, rfl⟩
  obtain ⟨x1, hx1⟩ : ∃ z, streamL (keysTo k 11) N (b.take q) = z := ⟨_, rfl⟩
  obtain ⟨x2, hx2⟩ : ∃ z, streamL (keysTo k 11) (N + q) (b.drop q) = z := ⟨_, rfl⟩
  rw [hal] at HP0 HALL HP3 HCAT
  rw [hx1] at HP1 HCAT HX1L
  rw [hx2] at HP2 HCAT HX2L
  have hkz : (u8A k).size = 16 := by rw [u8A_size, hk]
  obtain ⟨kA, hke⟩ : ∃ K, u8A k = K := ⟨_, rfl⟩
  rw [hke] at hkz HP0 HP1 HP2 HP3 ⊢
  have HKZ := Lib.hid hkz
  have HADD := Lib.hid (show IntKind.i64.wrap ((N : Int) + (q : Int)) = (N : Int) + (q : Int) from IntWalk.i64_in _ (by omega))
  have HSH := Lib.hid (fun W => run_part_h A p c q W (by omega))
  have HSL := Lib.hid (fun W => run_part_l A p c q W hql)
  have HB0 := Lib.hid hbr
  clear hb hbr hkb hbl hk hkz hke hal hx1 hx2 hN hq
  go_enter Try.func6, Try.ntmps6
  go_wp2_with fail
  refine (HBCUT.out _).mono ?_
  rintro e w' ⟨rfl, rfl⟩
  clear HBCUT
  go_wp2_with fail
  with_reducible refine (HWN.out _).mono ?_
  rintro e w' ⟨rfl, rfl⟩
  go_wp2_with fail
  with_reducible refine (HWQ.out _).mono ?_
  rintro e w' ⟨rfl, rfl⟩
  clear HWN HWQ
  go_wp2_with (with_reducible refine wpList_load_blk rfl 23 (.tmp 4) rfl w.heap.size rfl 23 kA _ (Blk.new w _ _) Try.underlying23 rfl (by rw [HKZ.out]; kernel_rfl) ?_)
  have hb1 : Below w.heap.size w (w.alloc (.cells kA 23)) := (Below.refl _ _).alloc (Nat.le_refl _) _
  with_reducible refine (HP0.out _ (HB0.out.on hb1)).mono ?_
  rintro e w5 ⟨A5, c5, rfl, hc5, hown5, hb5⟩
  have hkb5 : Blk w5 w.heap.size kA 23 := (Blk.new w _ _).below hb5 (by simp)
  have hb05 := Below.then hb1 hb5
  have hs05 := hb05.size
  have HAL := Lib.hid hown5.rd
  have hbb := (HB0.out.on hb05)
  have HB1 := Lib.hid (fun W (h : Below w5.heap.size w5 W) => (hbb.on h))
  obtain ⟨kb, hkbe⟩ : ∃ z, w.heap.size = z := ⟨_, rfl⟩
  have HKE := Lib.hid hkbe
  rw [hkbe] at hkb5 ⊢
  have HK1 := Lib.hid (fun W (h : Below w5.heap.size w5 W) => hkb5.below h hkb5.lt)
  clear hkb5 hbb hown5 hb5 hb1 hkbe HP0 HB0
  go_wp2_with fail
  refine wp_region_free_chain 15 1 (promises [.is (.agg kA), .is (.int .i64 (N : Int)), .is (.slice A p c), .is (.int .i64 (q : Int)), .is (.slice A q c), .bytes q x1, .own w5.heap.size q x1, .is (.agg kA), .is (.int .i64 (N : Int)), .is (.int .i64 (q : Int)), .is (.int .i64 ((N : Int) + (q : Int))), .is (.slice A p c), .is (.int .i64 (q : Int)), .is (.slice (partA A q c) (p - q) (c - q)), .bytes (p - q) x2]) (by kernel_rfl) rfl (by kernel_rfl) (by kernel_rfl) (fun i v w w' h hb => Spec.keep h hb) ⟨?_, ?_, ?_, ?_, ?_, ?_, ?_, ?_, ?_, ?_, ?_, ?_, ?_, ?_, ?_, trivial⟩ ?_
  · intro ac w hb hu hk
    refine ⟨wanted_none rfl, ?_⟩
    have e4 : ac.eval (.tmp 4) = .pointer (some ⟨kb, 0, none⟩) := hu.is (t := 4) (by kernel_rfl)
    exact wp_load_row 23 (.tmp 4) rfl kb e4 23 kA (0, 0) _ (HK1.out w hb) Try.underlying23 rfl (by rw [HKZ.out]; kernel_rfl) ⟨_, rfl, rfl, Below.refl _ _⟩
  · intro ac w hb hu hk
    refine ⟨wanted_none rfl, ?_⟩
    have e1 : ac.eval (.tmp 1) = .int .i64 (N : Int) := hu.is (t := 1) (by kernel_rfl)
    exact step_value (BigFrame.run_move (.tmp 1) rfl w) (Below.refl _ _) e1
  · intro ac w hb hu hk
    refine ⟨wanted_none rfl, ?_⟩
    have e3 : ac.eval (.tmp 3) = .slice A p c := hu.is (t := 3) (by kernel_rfl)
    exact step_value (BigFrame.run_move (.tmp 3) rfl w) (Below.refl _ _) e3
  · intro ac w hb hu hk
    refine ⟨wanted_none rfl, ?_⟩
    have e9 : ac.eval (.tmp 9) = .int .i64 (q : Int) := hu.is (t := 9) (by kernel_rfl)
    exact step_value (BigFrame.run_move (.tmp 9) rfl w) (Below.refl _ _) e9
  · intro ac w hb hu hk
    refine ⟨wanted_none rfl, ?_⟩
    have e27 : ac.eval (.tmp 27) = (.slice A p c) := (hk ⟨2, .data⟩ (by simp) rfl).is rfl rfl
    have e28 : ac.eval (.tmp 28) = (.int .i64 (q : Int)) := (hk ⟨3, .data⟩ (by simp) rfl).is rfl rfl
    refine step_value (w' := w) (v := .slice A q c) ?_ (Below.refl _ _) rfl
    have hrun := HSH.out w
    generalize ac.eval = ρ at e27 e28 ⊢
    go_simp
  · intro ac w hb hu hk
    refine ⟨wanted_none rfl, ?_⟩
    have e25 : ac.eval (.tmp 25) = (.agg kA) := (hk ⟨0, .data⟩ (by simp) rfl).is rfl rfl
    have e26 : ac.eval (.tmp 26) = (.int .i64 (N : Int)) := (hk ⟨1, .data⟩ (by simp) rfl).is rfl rfl
    have e29 : ac.eval (.tmp 29) = (.slice A q c) := (hk ⟨4, .data⟩ (by simp) rfl).is rfl rfl
    have ef : ac.eval (.func 10) = .func (.func 10) #[] #[] := rfl
    refine step_enter (f := 10) (args := #[.agg kA, .int .i64 (N : Int), .slice A q c]) ?_ ?_
    · generalize ac.eval = ρ at e25 e26 e29 ef ⊢
      go_simp
    · exact (HP1.out A c w ((HB1.out w hb).take q)).mono fun e w' ⟨X, xc, he, hx, ho, hq⟩ => ⟨_, he, ⟨X, xc, rfl, hx, ho.rd⟩, hq⟩
  · intro ac w hb hu hk
    refine ⟨wanted_none rfl, ?_⟩
    have e30 : ∃ X c, ac.eval (.tmp 30) = .slice X q c ∧ q ≤ c ∧ Rd w w.heap.size X x1 := (hk ⟨5, .data⟩ (by simp) rfl).is rfl rfl
    obtain ⟨X, xc, eX, hxc, hX⟩ := e30
    have ef : ac.eval (.func 22) = .func (.func 22) #[] #[] := rfl
    refine step_enter (f := 22) (args := #[.slice X q xc]) ?_ ?_
    · generalize ac.eval = ρ at eX ef ⊢
      go_simp
    · exact (copyB_any X q xc _ x1 w HX1L.out (by omega) hX).mono fun e w' ⟨Y, yc, he, hy, ho, hq⟩ => ⟨_, he, ⟨Y, yc, rfl, hy, ho.less hb.size⟩, hq⟩
  · intro ac w hb hu hk
    refine ⟨wanted_none rfl, ?_⟩
    have e4 : ac.eval (.tmp 4) = .pointer (some ⟨kb, 0, none⟩) := hu.is (t := 4) (by kernel_rfl)
    exact wp_load_row 23 (.tmp 4) rfl kb e4 23 kA (0, 0) _ (HK1.out w hb) Try.underlying23 rfl (by rw [HKZ.out]; kernel_rfl) ⟨_, rfl, rfl, Below.refl _ _⟩
  · intro ac w hb hu hk
    refine ⟨wanted_none rfl, ?_⟩
    have e1 : ac.eval (.tmp 1) = .int .i64 (N : Int) := hu.is (t := 1) (by kernel_rfl)
    exact step_value (BigFrame.run_move (.tmp 1) rfl w) (Below.refl _ _) e1
  · intro ac w hb hu hk
    refine ⟨wanted_none rfl, ?_⟩
    have e9 : ac.eval (.tmp 9) = .int .i64 (q : Int) := hu.is (t := 9) (by kernel_rfl)
    exact step_value (BigFrame.run_move (.tmp 9) rfl w) (Below.refl _ _) e9
  · intro ac w hb hu hk
    refine ⟨wanted_none rfl, ?_⟩
    have e33 : ac.eval (.tmp 33) = (.int .i64 (N : Int)) := (hk ⟨8, .data⟩ (by simp) rfl).is rfl rfl
    have e34 : ac.eval (.tmp 34) = (.int .i64 (q : Int)) := (hk ⟨9, .data⟩ (by simp) rfl).is rfl rfl
    refine step_value (w' := w) (v := .int .i64 ((N : Int) + (q : Int))) ?_ (Below.refl _ _) rfl
    have hwr := HADD.out
    generalize ac.eval = ρ at e33 e34 ⊢
    go_simp
  · intro ac w hb hu hk
    refine ⟨wanted_none rfl, ?_⟩
    have e3 : ac.eval (.tmp 3) = .slice A p c := hu.is (t := 3) (by kernel_rfl)
    exact step_value (BigFrame.run_move (.tmp 3) rfl w) (Below.refl _ _) e3
  · intro ac w hb hu hk
    refine ⟨wanted_none rfl, ?_⟩
    have e9 : ac.eval (.tmp 9) = .int .i64 (q : Int) := hu.is (t := 9) (by kernel_rfl)
    exact step_value (BigFrame.run_move (.tmp 9) rfl w) (Below.refl _ _) e9
  · intro ac w hb hu hk
    refine ⟨wanted_none rfl, ?_⟩
    have e36 : ac.eval (.tmp 36) = (.slice A p c) := (hk ⟨11, .data⟩ (by simp) rfl).is rfl rfl
    have e37 : ac.eval (.tmp 37) = (.int .i64 (q : Int)) := (hk ⟨12, .data⟩ (by simp) rfl).is rfl rfl
    refine step_value (w' := w) (v := .slice (partA A q c) (p - q) (c - q)) ?_ (Below.refl _ _) rfl
    have hrun := HSL.out w
    generalize ac.eval = ρ at e36 e37 ⊢
    go_simp
  · intro ac w hb hu hk
    refine ⟨wanted_none rfl, ?_⟩
    have e32 : ac.eval (.tmp 32) = (.agg kA) := (hk ⟨7, .data⟩ (by simp) rfl).is rfl rfl
    have e35 : ac.eval (.tmp 35) = (.int .i64 ((N : Int) + (q : Int))) := (hk ⟨10, .data⟩ (by simp) rfl).is rfl rfl
    have e38 : ac.eval (.tmp 38) = (.slice (partA A q c) (p - q) (c - q)) := (hk ⟨13, .data⟩ (by simp) rfl).is rfl rfl
    have ef : ac.eval (.func 10) = .func (.func 10) #[] #[] := rfl
    refine step_enter (f := 10) (args := #[.agg kA, .int .i64 ((N : Int) + (q : Int)), .slice (partA A q c) (p - q) (c - q)]) ?_ ?_
    · generalize ac.eval = ρ at e32 e35 e38 ef ⊢
      go_simp
    · exact (HP2.out _ (c - q) w ((HB1.out w hb).rest q c HBL.out (by omega) (by omega))).mono fun e w' ⟨X, xc, he, hx, ho, hq⟩ => ⟨_, he, ⟨X, xc, rfl, hx, ho.rd⟩, hq⟩
  · intro ac w' hb hu hk
    obtain ⟨_, h25, rfl⟩ := (hk 0 (by decide)).put rfl rfl
    obtain ⟨_, h26, rfl⟩ := (hk 1 (by decide)).put rfl rfl
    obtain ⟨_, h27, rfl⟩ := (hk 2 (by decide)).put rfl rfl
    obtain ⟨_, h28, rfl⟩ := (hk 3 (by decide)).put rfl rfl
    obtain ⟨_, h29, rfl⟩ := (hk 4 (by decide)).put rfl rfl
    obtain ⟨_, h30, ⟨X30, xc30, rfl, hxc30, hX30⟩⟩ := (hk 5 (by decide)).put rfl rfl
    obtain ⟨_, h31, ⟨X31, xc31, rfl, hxc31, hX31⟩⟩ := (hk 6 (by decide)).put rfl rfl
    obtain ⟨_, h32, rfl⟩ := (hk 7 (by decide)).put rfl rfl
    obtain ⟨_, h33, rfl⟩ := (hk 8 (by decide)).put rfl rfl
    obtain ⟨_, h34, rfl⟩ := (hk 9 (by decide)).put rfl rfl
    obtain ⟨_, h35, rfl⟩ := (hk 10 (by decide)).put rfl rfl
    obtain ⟨_, h36, rfl⟩ := (hk 11 (by decide)).put rfl rfl
    obtain ⟨_, h37, rfl⟩ := (hk 12 (by decide)).put rfl rfl
    obtain ⟨_, h38, rfl⟩ := (hk 13 (by decide)).put rfl rfl
    obtain ⟨_, h39, ⟨X39, xc39, rfl, hxc39, hX39⟩⟩ := (hk 14 (by decide)).put rfl rfl
    have hF : AllPuts ac.tmps ((25, _) :: (26, _) :: (27, _) :: (28, _) :: (29, _) :: (30, _) :: (31, _) :: (32, _) :: (33, _) :: (34, _) :: (35, _) :: (36, _) :: (37, _) :: (38, _) :: (39, _) :: []) := ⟨h25, h26, h27, h28, h29, h30, h31, h32, h33, h34, h35, h36, h37, h38, h39, trivial⟩
    obtain rfl := frame_puts hu (by kernel_rfl) hF
    simp only [puts, Act.put, List.setIfInBounds_toArray, List.set_cons_zero, List.set_cons_succ, List.drop_succ_cons, List.drop_zero]
    clear hk hu hF h25 h26 h27 h28 h29 h30 h31 h32 h33 h34 h35 h36 h37 h38 h39
    have hOwn : OwnB w' w5.heap.size 5 (.slice X31 q xc31) q x1 := hX31
    go_wp2_with (at_builtin; refine wpList_append_B rfl _ _ 24 24 rfl w5.heap.size 5 i0 Try.underlying24 hi hz0 hz1 hz2 _ q x1 rfl hOwn _ rfl (p - q) x2 HX2L.out (Src.ofRd Try.underlying24 _ _ _ _ _ HX2L.out hX39) (by omega) hb.size ?_)
    intro v8 w8 hown8 hg8
    rw [HCAT.out] at hown8
    have hb8 : Below w5.heap.size w5 w8 := hb.grown hg8 hb.size (fun k hk => hOwn.lt k hk)
    obtain ⟨A8, c8, rfl, hc8, hm8⟩ := own_caps hown8.own
    have HO8 := Lib.hid hown8
    have G8 := Lib.hid (HK1.out w8 hb8)
    have HB8 := Lib.hid (HB1.out w8 hb8)
    have HA8 := Lib.hid (HAL.out.below hb8 (Nat.le_refl _))
    have hb08 := hb05.trans (hb8.mono hs05)
    have hs58 := hb8.size
    clear hown8 hg8 hb hOwn hX31 hX39 hX30 hxc30 hxc31 hxc39 hb8
    go_wp2_with (with_reducible refine wpList_load_blk rfl 23 (.tmp 4) rfl kb rfl 23 kA _ G8.out Try.underlying23 rfl (by rw [HKZ.out]; kernel_rfl) ?_)
    with_reducible refine (HP3.out A5 c5 _ (HA8.out.more hs58)).mono ?_
    rintro e w9 ⟨A9, c9, rfl, hc9, hown9, hb9⟩
    have HO9 := Lib.hid hown9
    have HB9 := Lib.hid ((HB8.out.below hb9 (by omega)))
    have HO89 := Lib.hid (HO8.out.on hb9)
    have HA9 := Lib.hid ((HA8.out.below hb9 (by omega)))
    have hb09 := Below.then hb08 hb9
    have hs89 := hb9.size
    clear HO8 G8 HB8 HA8 hb08 hb9 hown9
    go_wp2_with fail
    with_reducible refine (same_any A9 A p p c9 c _ _ b b _ HBL.out HBL.out (by unfold maxLen; omega) HO9.out.rd HB9.out).mono ?_
    rintro e w10 ⟨rfl, j1, rfl⟩
    rw [decide_eq_true (rfl : b = b)]
    have HB09 := Lib.hid hb09
    have HO10 := Lib.hid (HO89.out.rd.drewN j1)
    have HA10 := Lib.hid (HA9.out.drewN j1)
    clear HO9 HB9 HO89 HA9 hb09
    go_wp2_with fail
    with_reducible refine (same_any A8 A5 p p c8 c5 _ _ al al _ HALL.out HALL.out (by unfold maxLen; omega) HO10.out HA10.out).mono ?_
    rintro e w11 ⟨rfl, j2, rfl⟩
    rw [decide_eq_true (rfl : al = al)]
    have hb11 := below_drewN HB09.out (j1 + j2)
    clear HO10 HA10
    go_wp2_with fail
    with_reducible refine (wakes3_any _).mono ?_
    rintro e w12 ⟨rfl, hb12⟩
    have hfin := Below.then hb11 hb12
    clear hb12 hb11
    go_wp2_with fail
    go_ret
    exact ⟨rfl, hfin⟩

theorem contract (H : Type) (enc : TypeId × Value → H) (W : World) (base : Nat) (args : Array Value) (ds gs : List (DataW H)) (before : List MemPlace)
    (hval : ∀ (j : Nat) t v, Try.f6.params[j]? = some t → args[j]? = some v → Value.okWide Try.prog W .any base t v)
    (hW : DataW.Whole enc Try.prog Try.f6.params.toList Rows.aesTwiceSpec.vars false W args.toList ds gs before) :
    Calls Try.prog 6 args W fun e W' => ∃ v, e = .returned v ∧ Rows.aesTwiceSpec.post enc Try.prog Try.f6 false true false false W args v W' := by
  have hW' := hW
  obtain ⟨p, q, hA0, hV, rfl, hfz, hnd⟩ := hW
  have hA : DataW.TrodAll enc Try.prog W 0 (fun _ => true) true Try.f6.params.toList args.toList ds p := hA0
  rw [Try.params6] at hA hval
  obtain ⟨v0, v1, v2, v3, d0, d1, d2, d3, p0, p1, p2, p3, rfl, rfl, rfl, h0, h1, h2, h3⟩ := trodAll_four hA
  obtain ⟨rfl, rfl⟩ := trodVars_none hV
  obtain ⟨k0, rfl, hk0⟩ := open_array Try.underlying23 (by kernel_rfl) (hval 0 23 v0 rfl rfl) h0
  obtain ⟨n1, rfl, rfl, rfl, wf1⟩ := open_int Try.underlying3 (hval 1 3 v1 rfl rfl) h1
  have b1 := bounds_i64 wf1
  obtain ⟨n2, rfl, rfl, rfl, wf2⟩ := open_int Try.underlying3 (hval 2 3 v2 rfl rfl) h2
  have b2 := bounds_i64 wf2
  obtain ⟨A3, m3, c3, l3, rfl, hl3, hc3, hm3, hr3⟩ := open_bytes (hval 3 24 v3 rfl rfl) h3
  clear hA0
  refine (walk k0 n1 n2 A3 m3 c3 l3 W hk0 b1.1 b1.2 b2.1 b2.2 hl3 hc3 hr3).mono fun e W' ⟨he, hb⟩ => ?_
  exact ⟨_, he, law_post hW' rfl (by kernel_rfl) rfl (by kernel_rfl) hb⟩

set_option maxRecDepth 100000 in
theorem lifted (os : Os) (started : os.Started) (H : Type) (enc : TypeId × Value → H) :
    ReturnsInHanded {} Try.checked os 6 .any (Rows.aesTwiceSpec.pre6 enc Try.prog Try.f6 Rows.aesTwiceRow.domain false) (Rows.aesTwiceSpec.post enc Try.prog Try.f6 false true false false) := by
  refine returnsInHanded_of_change (C := Try.checked) own started (by kernel_rfl) Try.func6
    (ChangeSpec.witness6 (enc := enc) (C := Try.checked) false ⟨#[], #[.agg #[.int .u8 0, .int .u8 0, .int .u8 0, .int .u8 0, .int .u8 0, .int .u8 0, .int .u8 0, .int .u8 0, .int .u8 0, .int .u8 0, .int .u8 0, .int .u8 0, .int .u8 0, .int .u8 0, .int .u8 0, .int .u8 0], .int .i64 0, .int .i64 0, .slice none 0 0], []⟩ 8 (by kernel_rfl) (by kernel_rfl) (by kernel_rfl) (by kernel_rfl)) ?_
  intro W base args ds gs before hval0 hW _ _
  have hval : ∀ (j : Nat) t v, Try.f6.params[j]? = some t → args[j]? = some v → Value.okWide Try.prog W .any base t v := hval0
  exact contract H enc W base args ds gs before hval hW

/-- The statement. -/
theorem card : Rows.AesTwiceSaid :=
  OpenClaim.holds_of_wide 6 Try.f6 rfl rfl rfl rfl rfl rfl rfl ⟨rfl, rfl, rfl, rfl, rfl⟩ rfl rfl rfl rfl rfl (by kernel_rfl) Try.func6 (by kernel_rfl)
    (of_decide_eq_true (by kernel_rfl)) (by unfold Func.isWrapper; first | (rw [if_pos (by decide +kernel)]; kernel_rfl) | (rw [if_neg (by decide +kernel)]; exact ⟨rfl, rfl⟩))
    (fun os started H enc _ => lifted os started H enc)
end Go.Proofs.Ytcajlmlblkdjoaa.aesTwice
