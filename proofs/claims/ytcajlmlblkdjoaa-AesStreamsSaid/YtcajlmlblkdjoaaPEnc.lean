/- The program's AES of a block is the document's. -/
import Derived.Test.YtcajlmlblkdjoaaAesP
import Derived.Test.YtcajlmlblkdjoaaFreeT
namespace Go.Proofs.Ytcajlmlblkdjoaa
open Go.RowKit

set_option maxRecDepth 100000 in
set_option maxHeartbeats 4000000 in
theorem encipher_any (kb sb : Nat) (ks x : List UInt8) (w0 : World) (hx : x.length = 16) (hks : ks.length = 176) (hk : Blk w0 kb (u8A ks) 45) (hs : Blk w0 sb (u8A boxL) 43) :
    Calls Try.prog 25 #[.pointer (some ⟨kb, 0, none⟩), .pointer (some ⟨sb, 0, none⟩), .agg (u8A x)] w0 fun e w' => e = .returned (.agg (u8A (blockL ks x))) ∧ Below w0.heap.size w0 w' := by
  have hz := fun W => pzero16 W
  obtain ⟨Z, hZ⟩ : ∃ Z, u8A (List.replicate 16 0) = Z := ⟨_, rfl⟩
  rw [hZ] at hz
  have HZZ := Lib.hid (show Z.size = 16 by rw [← hZ, u8A_size]; exact List.length_replicate ..)
  have HKZ := Lib.hid (show ∀ r, r ≤ 10 → (Lib.byteCells ((ks.drop (r * 16)).take 16)).length = 16 from fun r hr => by rw [Lib.byteCells_length]; exact keyL_len hks hr)
  have HKL := Lib.hid (fun r hr => keyL_len (ks := ks) hks (r := r) hr)
  have HSUM0 := Lib.hid (fun W => (show Calls Try.prog 35 #[.agg (u8A x), .agg (keyA ks 0)] W fun e w' => e = .returned (.agg (u8A (stU ks x 0))) ∧ Below W.heap.size W w' from by
    have := sumB_any x (keyL ks 0) W hx (keyL_len hks (by decide))
    rwa [round_first] at this))
  have HXZ := Lib.hid (show (u8A x).size = 16 by rw [u8A_size, hx])
  obtain ⟨xA, hxe⟩ : ∃ K, u8A x = K := ⟨_, rfl⟩
  rw [hxe] at HXZ HSUM0 ⊢
  have HSZ := Lib.hid (show (u8A (stU ks x 0)).size = 16 by rw [u8A_size]; exact stU_len _ _ _)
  have HSO := Lib.hid (u8A_one (stU ks x 0))
  obtain ⟨sA, hse⟩ : ∃ K, u8A (stU ks x 0) = K := ⟨_, rfl⟩
  rw [hse] at HSZ HSO HSUM0
  have HSE := Lib.hid hse
  have hsr := hs.lt
  have hkr := hk.lt
  have HS0 := Lib.hid hs
  have HK0 := Lib.hid hk
  clear hZ hx hks hk hs hxe hse
  go_enter Try.func25, Try.ntmps25
  go_wp2_with fail
  obtain ⟨g1, g2, hbel⟩ := alloc2 w0 xA Z 48 48
  have HS1 := Lib.hid (fun W (h : Below ((w0.alloc (.cells xA 48)).alloc (.cells Z 48)).heap.size ((w0.alloc (.cells xA 48)).alloc (.cells Z 48)) W) => (HS0.out.below hbel hsr).below h (by simp; omega))
  have HK1 := Lib.hid (fun W (h : Below ((w0.alloc (.cells xA 48)).alloc (.cells Z 48)).heap.size ((w0.alloc (.cells xA 48)).alloc (.cells Z 48)) W) => (HK0.out.below hbel hkr).below h (by simp; omega))
  have HX1 := Lib.hid (fun W (h : Below ((w0.alloc (.cells xA 48)).alloc (.cells Z 48)).heap.size ((w0.alloc (.cells xA 48)).alloc (.cells Z 48)) W) => g1.below h (by simp; omega))
  have HR1 := Lib.hid (fun W (h : Below ((w0.alloc (.cells xA 48)).alloc (.cells Z 48)).heap.size ((w0.alloc (.cells xA 48)).alloc (.cells Z 48)) W) => (show ∃ rs, Blk W (w0.heap.size + 1) rs 48 ∧ rs.size = 16 from ⟨Z, g2.below h (by simp), HZZ.out⟩))
  have hsz1 : ((w0.alloc (.cells xA 48)).alloc (.cells Z 48)).heap.size = w0.heap.size + 1 + 1 := by simp
  generalize World.alloc (World.alloc w0 _) _ = w1 at *
  obtain ⟨xb, hxb⟩ : ∃ z, w0.heap.size = z := ⟨_, rfl⟩
  rw [hxb] at HX1 HR1 hbel hsr hkr hsz1 ⊢
  obtain ⟨rb, hrb⟩ : ∃ z, xb + 1 = z := ⟨_, rfl⟩
  rw [hrb] at HR1 hsz1 ⊢
  have hxr : xb < rb := by omega
  have HW := Lib.hid hxb
  clear g1 g2 hxb hrb HS0 HK0
  refine wp_region_free_tail 7 (promises [.is (.agg xA), .is (.pointer (some ⟨kb, 0, none⟩)), .is (.pointer (some ⟨kb, 0, none⟩)), .is (.pointer (some ⟨kb, 0, none⟩)), .is (.agg (keyA ks 0)), .is (.agg sA), .blk (rb + 1) Z 48]) (by kernel_rfl) rfl rfl (by kernel_rfl) (by kernel_rfl) (fun i v w w' h hb => Spec.keep h hb) ⟨?_, ?_, ?_, ?_, ?_, ?_, ?_, trivial⟩ ?_
  · intro ac w hb hu hk
    refine ⟨wanted_none rfl, ?_⟩
    have e5 : ac.eval (.tmp 5) = .pointer (some ⟨xb, 0, none⟩) := hu.is (t := 5) (by kernel_rfl)
    exact wp_load_row 48 (.tmp 5) rfl xb e5 48 xA (0, 0) _ (HX1.out w hb) Try.underlying48 rfl (by rw [HXZ.out]; kernel_rfl) ⟨_, rfl, rfl, Below.refl _ _⟩
  · intro ac w hb hu hk
    refine ⟨wanted_none rfl, ?_⟩
    have e0 : ac.eval (.tmp 0) = .pointer (some ⟨kb, 0, none⟩) := hu.is (t := 0) (by kernel_rfl)
    exact step_value (BigFrame.run_move (.tmp 0) rfl w) (Below.refl _ _) e0
  · intro ac w hb hu hk
    refine ⟨wanted_none rfl, ?_⟩
    have e10 : ac.eval (.tmp 10) = (.pointer (some ⟨kb, 0, none⟩)) := (hk ⟨1, .data⟩ (by simp) rfl).is rfl rfl
    refine step_value (w' := w) (v := (.pointer (some ⟨kb, 0, none⟩))) ?_ (Below.refl _ _) rfl
    generalize ac.eval = ρ at e10 ⊢
    go_simp
  · intro ac w hb hu hk
    refine ⟨wanted_none rfl, ?_⟩
    have e11 : ac.eval (.tmp 11) = (.pointer (some ⟨kb, 0, none⟩)) := (hk ⟨2, .data⟩ (by simp) rfl).is rfl rfl
    refine step_value (w' := w) (v := (.pointer (some ⟨kb, 0, none⟩))) ?_ (Below.refl _ _) rfl
    have ec0 : ac.eval (.const (Value.int IntKind.i64 0)) = Value.int IntKind.i64 0 := rfl
    generalize ac.eval = ρ at e11 ec0 ⊢
    go_simp
  · intro ac w hb hu hk
    refine ⟨wanted_none rfl, ?_⟩
    have e12 : ac.eval (.tmp 12) = (.pointer (some ⟨kb, 0, none⟩)) := (hk ⟨3, .data⟩ (by simp) rfl).is rfl rfl
    exact wp_load_mid 22 (.tmp 12) rfl kb 0 e12 _ _ ((HK1.out w hb).range (0 * 16) 16) Try.underlying22 rfl (by rw [HKZ.out 0 (by decide)]; kernel_rfl) ⟨_, rfl, rfl, Below.refl _ _⟩
  · intro ac w hb hu hk
    refine ⟨wanted_none rfl, ?_⟩
    have e9 : ac.eval (.tmp 9) = (.agg xA) := (hk ⟨0, .data⟩ (by simp) rfl).is rfl rfl
    have e13 : ac.eval (.tmp 13) = (.agg (keyA ks 0)) := (hk ⟨4, .data⟩ (by simp) rfl).is rfl rfl
    have ef : ac.eval (.func 35) = .func (.func 35) #[] #[] := rfl
    refine step_enter (f := 35) (args := #[.agg xA, .agg (keyA ks 0)]) ?_ ?_
    · generalize ac.eval = ρ at e9 e13 ef ⊢
      go_simp
    · exact (HSUM0.out w).mono fun e w' ⟨he, hq⟩ => ⟨_, he, rfl, hq⟩
  · intro ac w hb hu hk
    refine ⟨wanted_none rfl, ?_⟩
    have hzw := hz w
    refine step_value (w' := w.alloc (.cells Z 48)) (v := .pointer (some ⟨w.heap.size, 0, none⟩)) ?_ ((Below.refl _ _).alloc (Nat.le_refl _) _) ⟨w.heap.size, rfl, by have := hb.size; omega, Blk.new w Z _⟩
    go_simp
  · intro ac w' hb hu hk
    obtain ⟨_, h7, ⟨g7, rfl, hg7, hG7⟩⟩ := (hk 6 (by decide)).put rfl rfl
    obtain ⟨_, h9, rfl⟩ := (hk 0 (by decide)).put rfl rfl
    obtain ⟨_, h10, rfl⟩ := (hk 1 (by decide)).put rfl rfl
    obtain ⟨_, h11, rfl⟩ := (hk 2 (by decide)).put rfl rfl
    obtain ⟨_, h12, rfl⟩ := (hk 3 (by decide)).put rfl rfl
    obtain ⟨_, h13, rfl⟩ := (hk 4 (by decide)).put rfl rfl
    obtain ⟨_, h14, rfl⟩ := (hk 5 (by decide)).put rfl rfl
    have hF : AllPuts ac.tmps ((7, _) :: (9, _) :: (10, _) :: (11, _) :: (12, _) :: (13, _) :: (14, _) :: []) := ⟨h7, h9, h10, h11, h12, h13, h14, trivial⟩
    obtain rfl := frame_puts hu (by kernel_rfl) hF
    refine ⟨wanted_none rfl, ?_⟩
    simp only [puts, Act.put, List.setIfInBounds_toArray, List.set_cons_zero, List.set_cons_succ]
    clear hk hu hF h7 h9 h10 h11 h12 h13 h14
    have hbs := hb.size
    have hst : Below xb w0 (w'.setRow g7 sA) ∧ Blk (w'.setRow g7 sA) g7 (u8A (stU ks x 0)) 48 ∧ (∃ rs, Blk (w'.setRow g7 sA) rb rs 48 ∧ rs.size = 16) ∧ Blk (w'.setRow g7 sA) sb (u8A boxL) 43 ∧ Blk (w'.setRow g7 sA) kb (u8A ks) 45 := by
      refine ⟨below_row (hbel.trans (hb.mono (by omega))) (by omega) (by omega) _, ?_, ?_, (HS1.out w' hb).rowOther (by omega) _, (HK1.out w' hb).rowOther (by omega) _⟩
      · rw [HSE.out]
        exact Blk.row hG7 _
      · obtain ⟨rs, h, hz⟩ := HR1.out w' hb
        exact ⟨rs, h.rowOther (by omega) _, hz⟩
    refine wp_store_rowTo 48 (.tmp 7) (.tmp 14) rfl rfl g7 sA rfl rfl 48 Z hG7 (by rw [HSZ.out]; kernel_rfl) (by rw [HZZ.out, HSZ.out]) HSO.out ?_
    generalize World.setRow _ _ _ = w2 at hst ⊢
    clear hbs
    obtain ⟨hbel2, h1, h2, h3, h4⟩ := hst
    have L1 := Lib.hid h1
    have L2 := Lib.hid h2
    have L3 := Lib.hid h3
    have L4 := Lib.hid h4
    obtain ⟨tb, rfl⟩ : ∃ z, g7 = z := ⟨_, rfl⟩
    clear h1 h2 h3 h4 hb hG7 HX1 HR1 HS1 HK1 hbel HSUM0 HSE HSZ HSO HXZ hsz1 hz w' w1
    go_wp2_with fail
    go_loopw [8] (fun t wr => ∃ q : Nat, q ≤ 9 ∧ t = .int .i64 ((q : Int) + 1) ∧ Below xb w0 wr ∧ Hid (Blk wr g7 (u8A (stU ks x q)) 48) ∧ Hid (∃ rs, Blk wr rb rs 48 ∧ rs.size = 16) ∧ Hid (Blk wr sb (u8A boxL) 43) ∧ Hid (Blk wr kb (u8A ks) 45)) (fun t _ => 10 - (intOf t).toNat)
    case atStart => exact ⟨0, by omega, rfl, hbel2, L1, L2, L3, L4⟩
    case round =>
      clear hbel2 L1 L2 L3 L4
      obtain ⟨q, hq, rfl, hbel, L1, L2, L3, L4⟩ := hrel
      have hsz : xb ≤ wr.heap.size := by have := hbel.size; have := HW.out; omega
      have hl1 := L1.out.lt
      have HSB := Lib.hid (fun W (h : Below wr.heap.size wr W) => L3.out.below h L3.out.lt)
      have HKB := Lib.hid (fun W (h : Below wr.heap.size wr W) => L4.out.below h L4.out.lt)
      have HRB := Lib.hid (fun W (h : Below wr.heap.size wr W) => (show ∃ rs, Blk W rb rs 48 ∧ rs.size = 16 by obtain ⟨rs, h2, hz⟩ := L2.out; exact ⟨rs, h2.below h h2.lt, hz⟩))
      have HPZ := Lib.hid (show (u8A (stU ks x q)).size = 16 by rw [u8A_size]; exact stU_len _ _ _)
      have HTB := Lib.hid (fun W (h : Below wr.heap.size wr W) => L1.out.below h L1.out.lt)
      have HREP := Lib.hid (fun W (h : Below wr.heap.size wr W) => replB_any (stU ks x q) sb W (stU_len _ _ _) (HSB.out W h))
      have HTURN := Lib.hid (fun W => turnB_any (sAll (stU ks x q)) W (sAll_len _))
      obtain ⟨tb, htb⟩ : ∃ z, g7 = z := ⟨_, rfl⟩
      rw [htb] at HTB
      have htr : rb + 1 ≤ tb := by omega
      obtain ⟨pA, hpA⟩ : ∃ z, u8A (stU ks x q) = z := ⟨_, rfl⟩
      obtain ⟨rA, hrA⟩ : ∃ z, u8A (sAll (stU ks x q)) = z := ⟨_, rfl⟩
      rw [hpA] at HPZ HTB HREP
      rw [hrA] at HREP HTURN
      rw [htb]
      clear L1 L2 L3 L4 hl1 hg7 htb hpA hrA
      by_cases hlt : q < 9
      · have hqi : (q : Int) + 1 < 10 := by omega
        have hq11 : (q : Int) + 1 < 11 := by omega
        have hq0 : ¬ (q : Int) + 1 < 0 := by omega
        have hqn : ((q : Int) + 1).toNat = q + 1 := by omega
        have HMIX := Lib.hid (fun W => mixB_any (turnL (sAll (stU ks x q))) W (turnL_len _))
        have HSUM := Lib.hid (fun W => (show Calls Try.prog 35 #[.agg (u8A (mixL (turnL (sAll (stU ks x q))))), .agg (keyA ks (q + 1))] W fun e w' => e = .returned (.agg (u8A (stU ks x (q + 1)))) ∧ Below W.heap.size W w' from by
          have := sumB_any (mixL (turnL (sAll (stU ks x q)))) (keyL ks (q + 1)) W (mixL_len _) (HKL.out (q + 1) (by omega))
          rwa [round_mid ks x hlt] at this))
        have HNZ := Lib.hid (show (u8A (stU ks x (q + 1))).size = 16 by rw [u8A_size]; exact stU_len _ _ _)
        have HNO := Lib.hid (u8A_one (stU ks x (q + 1)))
        obtain ⟨tA, htA⟩ : ∃ z, u8A (turnL (sAll (stU ks x q))) = z := ⟨_, rfl⟩
        obtain ⟨mA, hmA⟩ : ∃ z, u8A (mixL (turnL (sAll (stU ks x q)))) = z := ⟨_, rfl⟩
        obtain ⟨nA, hnA⟩ : ∃ z, u8A (stU ks x (q + 1)) = z := ⟨_, rfl⟩
        rw [htA] at HTURN HMIX
        rw [hmA] at HMIX HSUM
        rw [hnA] at HSUM HNZ HNO
        have HNE := Lib.hid hnA
        clear htA hmA hnA
        go_wp2_with fail
        refine wp_region_free_tail 11 (promises [.is (.agg pA), .is (.pointer (some ⟨sb, 0, none⟩)), .is (.agg rA), .is (.agg tA), .is (.agg mA), .is (.pointer (some ⟨kb, 0, none⟩)), .is (.int .i64 ((q : Int) + 1)), .is (.pointer (some ⟨kb, 0, none⟩)), .is (.pointer (some ⟨kb, (q + 1) * 16, none⟩)), .is (.agg (keyA ks (q + 1))), .is (.agg nA)]) (by kernel_rfl) rfl rfl (by kernel_rfl) (by kernel_rfl) (fun i v w w' h hb => Spec.keep h hb) ⟨?_, ?_, ?_, ?_, ?_, ?_, ?_, ?_, ?_, ?_, ?_, trivial⟩ ?_
        · intro ac w hb hu hk
          refine ⟨wanted_none rfl, ?_⟩
          have e7 : ac.eval (.tmp 7) = .pointer (some ⟨tb, 0, none⟩) := hu.is (t := 7) (by kernel_rfl)
          exact wp_load_row 48 (.tmp 7) rfl tb e7 48 pA (0, 0) _ (HTB.out w hb) Try.underlying48 rfl (by rw [HPZ.out]; kernel_rfl) ⟨_, rfl, rfl, Below.refl _ _⟩
        · intro ac w hb hu hk
          refine ⟨wanted_none rfl, ?_⟩
          have e1 : ac.eval (.tmp 1) = .pointer (some ⟨sb, 0, none⟩) := hu.is (t := 1) (by kernel_rfl)
          exact step_value (BigFrame.run_move (.tmp 1) rfl w) (Below.refl _ _) e1
        · intro ac w hb hu hk
          refine ⟨wanted_none rfl, ?_⟩
          have e19 : ac.eval (.tmp 19) = (.agg pA) := (hk ⟨0, .data⟩ (by simp) rfl).is rfl rfl
          have e20 : ac.eval (.tmp 20) = (.pointer (some ⟨sb, 0, none⟩)) := (hk ⟨1, .data⟩ (by simp) rfl).is rfl rfl
          have ef : ac.eval (.func 38) = .func (.func 38) #[] #[] := rfl
          refine step_enter (f := 38) (args := #[.agg pA, .pointer (some ⟨sb, 0, none⟩)]) ?_ ?_
          · generalize ac.eval = ρ at e19 e20 ef ⊢
            go_simp
          · exact (HREP.out w hb).mono fun e w' ⟨he, hq⟩ => ⟨_, he, rfl, hq⟩
        · intro ac w hb hu hk
          refine ⟨wanted_none rfl, ?_⟩
          have e21 : ac.eval (.tmp 21) = (.agg rA) := (hk ⟨2, .data⟩ (by simp) rfl).is rfl rfl
          have ef : ac.eval (.func 37) = .func (.func 37) #[] #[] := rfl
          refine step_enter (f := 37) (args := #[.agg rA]) ?_ ?_
          · generalize ac.eval = ρ at e21 ef ⊢
            go_simp
          · exact (HTURN.out w).mono fun e w' ⟨he, hq⟩ => ⟨_, he, rfl, hq⟩
        · intro ac w hb hu hk
          refine ⟨wanted_none rfl, ?_⟩
          have e22 : ac.eval (.tmp 22) = (.agg tA) := (hk ⟨3, .data⟩ (by simp) rfl).is rfl rfl
          have ef : ac.eval (.func 36) = .func (.func 36) #[] #[] := rfl
          refine step_enter (f := 36) (args := #[.agg tA]) ?_ ?_
          · generalize ac.eval = ρ at e22 ef ⊢
            go_simp
          · exact (HMIX.out w).mono fun e w' ⟨he, hq⟩ => ⟨_, he, rfl, hq⟩
        · intro ac w hb hu hk
          refine ⟨wanted_none rfl, ?_⟩
          have e0 : ac.eval (.tmp 0) = .pointer (some ⟨kb, 0, none⟩) := hu.is (t := 0) (by kernel_rfl)
          exact step_value (BigFrame.run_move (.tmp 0) rfl w) (Below.refl _ _) e0
        · intro ac w hb hu hk
          refine ⟨wanted_none rfl, ?_⟩
          have e8 : ac.eval (.tmp 8) = .int .i64 ((q : Int) + 1) := hu.is (t := 8) (by kernel_rfl)
          exact step_value (BigFrame.run_move (.tmp 8) rfl w) (Below.refl _ _) e8
        · intro ac w hb hu hk
          refine ⟨wanted_none rfl, ?_⟩
          have e24 : ac.eval (.tmp 24) = (.pointer (some ⟨kb, 0, none⟩)) := (hk ⟨5, .data⟩ (by simp) rfl).is rfl rfl
          refine step_value (w' := w) (v := (.pointer (some ⟨kb, 0, none⟩))) ?_ (Below.refl _ _) rfl
          generalize ac.eval = ρ at e24 ⊢
          go_simp
        · intro ac w hb hu hk
          refine ⟨wanted_none rfl, ?_⟩
          have e26 : ac.eval (.tmp 26) = (.pointer (some ⟨kb, 0, none⟩)) := (hk ⟨7, .data⟩ (by simp) rfl).is rfl rfl
          have e25 : ac.eval (.tmp 25) = (.int .i64 ((q : Int) + 1)) := (hk ⟨6, .data⟩ (by simp) rfl).is rfl rfl
          refine step_value (w' := w) (v := (.pointer (some ⟨kb, (q + 1) * 16, none⟩))) ?_ (Below.refl _ _) rfl
          generalize ac.eval = ρ at e26 e25 ⊢
          go_simp
        · intro ac w hb hu hk
          refine ⟨wanted_none rfl, ?_⟩
          have e27 : ac.eval (.tmp 27) = (.pointer (some ⟨kb, (q + 1) * 16, none⟩)) := (hk ⟨8, .data⟩ (by simp) rfl).is rfl rfl
          exact wp_load_mid 22 (.tmp 27) rfl kb ((q + 1) * 16) e27 _ _ ((HKB.out w hb).range ((q + 1) * 16) 16) Try.underlying22 rfl (by rw [HKZ.out (q + 1) (by omega)]; kernel_rfl) ⟨_, rfl, rfl, Below.refl _ _⟩
        · intro ac w hb hu hk
          refine ⟨wanted_none rfl, ?_⟩
          have e23 : ac.eval (.tmp 23) = (.agg mA) := (hk ⟨4, .data⟩ (by simp) rfl).is rfl rfl
          have e28 : ac.eval (.tmp 28) = (.agg (keyA ks (q + 1))) := (hk ⟨9, .data⟩ (by simp) rfl).is rfl rfl
          have ef : ac.eval (.func 35) = .func (.func 35) #[] #[] := rfl
          refine step_enter (f := 35) (args := #[.agg mA, .agg (keyA ks (q + 1))]) ?_ ?_
          · generalize ac.eval = ρ at e23 e28 ef ⊢
            go_simp
          · exact (HSUM.out w).mono fun e w' ⟨he, hq⟩ => ⟨_, he, rfl, hq⟩
        · intro ac w' hb hu hk
          obtain ⟨_, h19, rfl⟩ := (hk 0 (by decide)).put rfl rfl
          obtain ⟨_, h20, rfl⟩ := (hk 1 (by decide)).put rfl rfl
          obtain ⟨_, h21, rfl⟩ := (hk 2 (by decide)).put rfl rfl
          obtain ⟨_, h22, rfl⟩ := (hk 3 (by decide)).put rfl rfl
          obtain ⟨_, h23, rfl⟩ := (hk 4 (by decide)).put rfl rfl
          obtain ⟨_, h24, rfl⟩ := (hk 5 (by decide)).put rfl rfl
          obtain ⟨_, h25, rfl⟩ := (hk 6 (by decide)).put rfl rfl
          obtain ⟨_, h26, rfl⟩ := (hk 7 (by decide)).put rfl rfl
          obtain ⟨_, h27, rfl⟩ := (hk 8 (by decide)).put rfl rfl
          obtain ⟨_, h28, rfl⟩ := (hk 9 (by decide)).put rfl rfl
          obtain ⟨_, h29, rfl⟩ := (hk 10 (by decide)).put rfl rfl
          have hF : AllPuts ac.tmps ((19, _) :: (20, _) :: (21, _) :: (22, _) :: (23, _) :: (24, _) :: (25, _) :: (26, _) :: (27, _) :: (28, _) :: (29, _) :: []) := ⟨h19, h20, h21, h22, h23, h24, h25, h26, h27, h28, h29, trivial⟩
          obtain rfl := frame_puts hu (by kernel_rfl) hF
          refine ⟨wanted_none rfl, ?_⟩
          simp only [puts, Act.put, List.setIfInBounds_toArray, List.set_cons_zero, List.set_cons_succ]
          clear hk hu hF h19 h20 h21 h22 h23 h24 h25 h26 h27 h28 h29
          have hbs := hb.size
          have hst : Below xb w0 (w'.setRow tb nA) ∧ Blk (w'.setRow tb nA) tb (u8A (stU ks x (q + 1))) 48 ∧ (∃ rs, Blk (w'.setRow tb nA) rb rs 48 ∧ rs.size = 16) ∧ Blk (w'.setRow tb nA) sb (u8A boxL) 43 ∧ Blk (w'.setRow tb nA) kb (u8A ks) 45 := by
            refine ⟨below_row (hbel.trans (hb.mono hsz)) (Nat.le_trans hsz hbs) (by omega) _, ?_, ?_, (HSB.out w' hb).rowOther (by omega) _, (HKB.out w' hb).rowOther (by omega) _⟩
            · rw [HNE.out]
              exact Blk.row (HTB.out w' hb) _
            · obtain ⟨rs, h, hz⟩ := HRB.out w' hb
              exact ⟨rs, h.rowOther (by omega) _, hz⟩
          refine wp_store_rowTo 48 (.tmp 7) (.tmp 29) rfl rfl tb nA rfl rfl 48 pA (HTB.out w' hb) (by rw [HNZ.out]; kernel_rfl) (by rw [HPZ.out, HNZ.out]) HNO.out ?_
          generalize World.setRow _ _ _ = w2 at hst ⊢
          obtain ⟨hbel2, h1, h2, h3, h4⟩ := hst
          have L1 := Lib.hid h1
          have L2 := Lib.hid h2
          have L3 := Lib.hid h3
          have L4 := Lib.hid h4
          clear hbs h1 h2 h3 h4 hb HTB HRB HSB HKB hbel
          go_wp2_with fail
          go_roundw
          case rel => exact ⟨q + 1, by omega, by go_num, hbel2, L1, L2, L3, L4⟩
          case measure => simp [intOf]; omega
      · obtain rfl : q = 9 := by omega
        have hqi : ¬ ((9 : Nat) : Int) + 1 < 10 := by omega
        have HSUM := Lib.hid (fun W => (show Calls Try.prog 35 #[.agg (u8A (turnL (sAll (stU ks x 9)))), .agg (keyA ks 10)] W fun e w' => e = .returned (.agg (u8A (blockL ks x))) ∧ Below W.heap.size W w' from by
          have := sumB_any (turnL (sAll (stU ks x 9))) (keyL ks 10) W (turnL_len _) (HKL.out 10 (by omega))
          rwa [round_last ks x] at this))
        have HNZ := Lib.hid (show (u8A (blockL ks x)).size = 16 by rw [u8A_size]; exact stU_len _ _ _)
        have HNO := Lib.hid (u8A_one (blockL ks x))
        obtain ⟨tA, htA⟩ : ∃ z, u8A (turnL (sAll (stU ks x 9))) = z := ⟨_, rfl⟩
        obtain ⟨nA, hnA⟩ : ∃ z, u8A (blockL ks x) = z := ⟨_, rfl⟩
        rw [htA] at HTURN HSUM
        rw [hnA] at HSUM HNZ HNO
        have HNE := Lib.hid hnA
        clear htA hnA
        go_wp2_with fail
        refine wp_region_free_tail 9 (promises [.is (.agg pA), .is (.pointer (some ⟨sb, 0, none⟩)), .is (.agg rA), .is (.agg tA), .is (.pointer (some ⟨kb, 0, none⟩)), .is (.pointer (some ⟨kb, 0, none⟩)), .is (.pointer (some ⟨kb, 160, none⟩)), .is (.agg (keyA ks 10)), .is (.agg nA)]) (by kernel_rfl) rfl rfl (by kernel_rfl) (by kernel_rfl) (fun i v w w' h hb => Spec.keep h hb) ⟨?_, ?_, ?_, ?_, ?_, ?_, ?_, ?_, ?_, trivial⟩ ?_
        · intro ac w hb hu hk
          refine ⟨wanted_none rfl, ?_⟩
          have e7 : ac.eval (.tmp 7) = .pointer (some ⟨tb, 0, none⟩) := hu.is (t := 7) (by kernel_rfl)
          exact wp_load_row 48 (.tmp 7) rfl tb e7 48 pA (0, 0) _ (HTB.out w hb) Try.underlying48 rfl (by rw [HPZ.out]; kernel_rfl) ⟨_, rfl, rfl, Below.refl _ _⟩
        · intro ac w hb hu hk
          refine ⟨wanted_none rfl, ?_⟩
          have e1 : ac.eval (.tmp 1) = .pointer (some ⟨sb, 0, none⟩) := hu.is (t := 1) (by kernel_rfl)
          exact step_value (BigFrame.run_move (.tmp 1) rfl w) (Below.refl _ _) e1
        · intro ac w hb hu hk
          refine ⟨wanted_none rfl, ?_⟩
          have e30 : ac.eval (.tmp 30) = (.agg pA) := (hk ⟨0, .data⟩ (by simp) rfl).is rfl rfl
          have e31 : ac.eval (.tmp 31) = (.pointer (some ⟨sb, 0, none⟩)) := (hk ⟨1, .data⟩ (by simp) rfl).is rfl rfl
          have ef : ac.eval (.func 38) = .func (.func 38) #[] #[] := rfl
          refine step_enter (f := 38) (args := #[.agg pA, .pointer (some ⟨sb, 0, none⟩)]) ?_ ?_
          · generalize ac.eval = ρ at e30 e31 ef ⊢
            go_simp
          · exact (HREP.out w hb).mono fun e w' ⟨he, hq⟩ => ⟨_, he, rfl, hq⟩
        · intro ac w hb hu hk
          refine ⟨wanted_none rfl, ?_⟩
          have e32 : ac.eval (.tmp 32) = (.agg rA) := (hk ⟨2, .data⟩ (by simp) rfl).is rfl rfl
          have ef : ac.eval (.func 37) = .func (.func 37) #[] #[] := rfl
          refine step_enter (f := 37) (args := #[.agg rA]) ?_ ?_
          · generalize ac.eval = ρ at e32 ef ⊢
            go_simp
          · exact (HTURN.out w).mono fun e w' ⟨he, hq⟩ => ⟨_, he, rfl, hq⟩
        · intro ac w hb hu hk
          refine ⟨wanted_none rfl, ?_⟩
          have e0 : ac.eval (.tmp 0) = .pointer (some ⟨kb, 0, none⟩) := hu.is (t := 0) (by kernel_rfl)
          exact step_value (BigFrame.run_move (.tmp 0) rfl w) (Below.refl _ _) e0
        · intro ac w hb hu hk
          refine ⟨wanted_none rfl, ?_⟩
          have e34 : ac.eval (.tmp 34) = (.pointer (some ⟨kb, 0, none⟩)) := (hk ⟨4, .data⟩ (by simp) rfl).is rfl rfl
          refine step_value (w' := w) (v := (.pointer (some ⟨kb, 0, none⟩))) ?_ (Below.refl _ _) rfl
          generalize ac.eval = ρ at e34 ⊢
          go_simp
        · intro ac w hb hu hk
          refine ⟨wanted_none rfl, ?_⟩
          have e35 : ac.eval (.tmp 35) = (.pointer (some ⟨kb, 0, none⟩)) := (hk ⟨5, .data⟩ (by simp) rfl).is rfl rfl
          refine step_value (w' := w) (v := (.pointer (some ⟨kb, 160, none⟩))) ?_ (Below.refl _ _) rfl
          have ec0 : ac.eval (.const (Value.int IntKind.i64 10)) = Value.int IntKind.i64 10 := rfl
          generalize ac.eval = ρ at e35 ec0 ⊢
          go_simp
        · intro ac w hb hu hk
          refine ⟨wanted_none rfl, ?_⟩
          have e36 : ac.eval (.tmp 36) = (.pointer (some ⟨kb, 160, none⟩)) := (hk ⟨6, .data⟩ (by simp) rfl).is rfl rfl
          exact wp_load_mid 22 (.tmp 36) rfl kb 160 e36 _ _ ((HKB.out w hb).range (10 * 16) 16) Try.underlying22 rfl (by rw [HKZ.out 10 (by omega)]; kernel_rfl) ⟨_, rfl, rfl, Below.refl _ _⟩
        · intro ac w hb hu hk
          refine ⟨wanted_none rfl, ?_⟩
          have e33 : ac.eval (.tmp 33) = (.agg tA) := (hk ⟨3, .data⟩ (by simp) rfl).is rfl rfl
          have e37 : ac.eval (.tmp 37) = (.agg (keyA ks 10)) := (hk ⟨7, .data⟩ (by simp) rfl).is rfl rfl
          have ef : ac.eval (.func 35) = .func (.func 35) #[] #[] := rfl
          refine step_enter (f := 35) (args := #[.agg tA, .agg (keyA ks 10)]) ?_ ?_
          · generalize ac.eval = ρ at e33 e37 ef ⊢
            go_simp
          · exact (HSUM.out w).mono fun e w' ⟨he, hq⟩ => ⟨_, he, rfl, hq⟩
        · intro ac w' hb hu hk
          obtain ⟨_, h30, rfl⟩ := (hk 0 (by decide)).put rfl rfl
          obtain ⟨_, h31, rfl⟩ := (hk 1 (by decide)).put rfl rfl
          obtain ⟨_, h32, rfl⟩ := (hk 2 (by decide)).put rfl rfl
          obtain ⟨_, h33, rfl⟩ := (hk 3 (by decide)).put rfl rfl
          obtain ⟨_, h34, rfl⟩ := (hk 4 (by decide)).put rfl rfl
          obtain ⟨_, h35, rfl⟩ := (hk 5 (by decide)).put rfl rfl
          obtain ⟨_, h36, rfl⟩ := (hk 6 (by decide)).put rfl rfl
          obtain ⟨_, h37, rfl⟩ := (hk 7 (by decide)).put rfl rfl
          obtain ⟨_, h38, rfl⟩ := (hk 8 (by decide)).put rfl rfl
          have hF : AllPuts ac.tmps ((30, _) :: (31, _) :: (32, _) :: (33, _) :: (34, _) :: (35, _) :: (36, _) :: (37, _) :: (38, _) :: []) := ⟨h30, h31, h32, h33, h34, h35, h36, h37, h38, trivial⟩
          obtain rfl := frame_puts hu (by kernel_rfl) hF
          refine ⟨wanted_none rfl, ?_⟩
          simp only [puts, Act.put, List.setIfInBounds_toArray, List.set_cons_zero, List.set_cons_succ]
          clear hk hu hF h30 h31 h32 h33 h34 h35 h36 h37 h38
          have hbs := hb.size
          obtain ⟨rs, hrs, hrz⟩ := HRB.out w' hb
          have HRZ := Lib.hid hrz
          have hst : Below xb w0 (w'.setRow rb nA) ∧ Blk (w'.setRow rb nA) rb nA 48 := ⟨below_row (hbel.trans (hb.mono hsz)) (Nat.le_trans hsz hbs) (by omega) _, hrs.row _⟩
          refine wp_store_rowTo 48 (.tmp 6) (.tmp 38) rfl rfl rb nA rfl rfl 48 rs hrs (by rw [HNZ.out]; kernel_rfl) (by rw [HRZ.out, HNZ.out]) HNO.out ?_
          generalize World.setRow _ _ _ = w2 at hst ⊢
          obtain ⟨hbel2, hfin⟩ := hst
          clear hbs hb HTB HRB HSB HKB hbel hrs hrz
          go_wp2_with fail
          refine bodyPost_ret (v := .agg nA) (results_cell_row (p := 6) (ty := 48) (by kernel_rfl) _ _ rb 48 _ (0, 0) _ rfl hfin Try.underlying48 rfl (by rw [HNZ.out]; kernel_rfl)) rfl ⟨by rw [HNE.out], ?_⟩
          rw [HW.out]
          exact hbel2

end Go.Proofs.Ytcajlmlblkdjoaa
