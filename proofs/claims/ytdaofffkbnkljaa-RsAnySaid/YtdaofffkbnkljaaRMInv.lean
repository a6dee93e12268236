/- The document's own inverse of a matrix, by elimination. -/
import Derived.Test.YtdaofffkbnkljaaRMUnit
import Derived.Test.YtdaofffkbnkljaaGfD
import Derived.Test.YtdaofffkbnkljaaSub
import Derived.Test.YtdaofffkbnkljaaStepA
import Derived.Deep.RegionHeld3
import Derived.BigRegion
import Derived.StillTailTactics
namespace Go.Proofs.Ytdaofffkbnkljaa
open Go.RowKit

/-- Row c, its first k bytes times s. -/
def scK (c k : Nat) (s : UInt8) (f : Mx) : Mx := fun i j => if i = c ∧ j < k then mulU (f c j) s else f i j
/-- To row i, its first k bytes, row c times x is added. -/
def adK (c i k : Nat) (x : UInt8) (f : Mx) : Mx := fun a b => if a = i ∧ b < k then f i b ^^^ mulU x (f c b) else f a b

theorem scK_step (c k : Nat) (s : UInt8) (f : Mx) (a b : Nat) : putM c k (mulU (f c k) s) (scK c k s f) a b = scK c (k + 1) s f a b := by
  unfold putM scK
  by_cases h : a = c ∧ b = k
  · obtain ⟨rfl, rfl⟩ := h
    rw [if_pos ⟨rfl, rfl⟩, if_pos ⟨rfl, by omega⟩]
  · rw [if_neg h]
    by_cases h2 : a = c ∧ b < k
    · rw [if_pos h2, if_pos (by omega)]
    · rw [if_neg h2, if_neg (by omega)]
theorem scK_all {n : Nat} (c d : Nat) (s : UInt8) (f : Mx) : ∀ a b, a < n → b < d → scK c d s f a b = scM c s f a b := fun a b _ hb => by
  unfold scK scM
  by_cases h : a = c
  · rw [if_pos ⟨h, hb⟩, if_pos h]
  · rw [if_neg (by omega), if_neg h]
theorem adK_step (c i k : Nat) (x : UInt8) (f : Mx) (hne : c ≠ i) (a b : Nat) : putM i k (f i k ^^^ mulU x (f c k)) (adK c i k x f) a b = adK c i (k + 1) x f a b := by
  unfold putM adK
  by_cases h : a = i ∧ b = k
  · obtain ⟨rfl, rfl⟩ := h
    rw [if_pos ⟨rfl, rfl⟩, if_pos ⟨rfl, by omega⟩]
  · rw [if_neg h]
    by_cases h2 : a = i ∧ b < k
    · rw [if_pos h2, if_pos (by omega)]
    · rw [if_neg h2, if_neg (by omega)]
theorem adM_next_same {c r : Nat} {f : Mx} (h : r = c) (a b : Nat) : adM c r f a b = adM c (r + 1) f a b := by
  unfold adM
  by_cases h1 : a = c
  · rw [if_pos (.inl h1), if_pos (.inl h1)]
  · by_cases h2 : r ≤ a
    · rw [if_pos (.inr h2), if_pos (.inr (by omega))]
    · rw [if_neg (by omega), if_neg (by omega)]
theorem adM_next_zero {c r : Nat} {f : Mx} (h : f r c = 0) (a b : Nat) : adM c r f a b = adM c (r + 1) f a b := by
  unfold adM
  by_cases h1 : a = c
  · rw [if_pos (.inl h1), if_pos (.inl h1)]
  · by_cases h2 : r ≤ a
    · rw [if_pos (.inr h2)]
      by_cases h3 : a = r
      · subst h3
        rw [if_neg (by omega), h, mulU_zero', UInt8.xor_zero]
      · rw [if_pos (.inr (by omega))]
    · rw [if_neg (by omega), if_neg (by omega)]
theorem adM_next {c r k : Nat} {f : Mx} (h : ¬ r = c) (a b : Nat) (hb : b < k) : adK c r k (f r c) (adM c r f) a b = adM c (r + 1) f a b := by
  unfold adK
  by_cases h3 : a = r
  · subst h3
    rw [if_pos ⟨rfl, hb⟩, adM_same f b (.inr (Nat.le_refl a)), adM_same f b (.inl rfl), adM_else f b h (Nat.lt_succ_self a)]
  · rw [if_neg (by omega)]
    unfold adM
    by_cases h1 : a = c
    · rw [if_pos (.inl h1), if_pos (.inl h1)]
    · by_cases h2 : r ≤ a
      · rw [if_pos (.inr h2), if_pos (.inr (by omega))]
      · rw [if_neg (by omega), if_neg (by omega)]
set_option maxRecDepth 100000 in
set_option maxHeartbeats 16000000 in
theorem rminv_any (A : Option Addr) (n c : Nat) (ls : List (List UInt8)) (w : World) (hn : ls.length = n) (hrow : ∀ r ∈ ls, r.length = n) (h1 : 1 ≤ n) (h16 : n ≤ 16) (hr : RdR w w.heap.size A ls) :
    Calls Try.prog 45 #[.slice A n c] w fun e w' => ((∃ rs, rs.length = n ∧ (∀ r ∈ rs, r.length = n) ∧ IsInv n (entM ls) (entM rs) ∧ ∃ X cp, e = .returned (.tuple #[.slice X n cp, .bool true]) ∧ n ≤ cp ∧ RdR w' w'.heap.size X rs) ∨ (e = .returned (.tuple #[.slice none 0 0, .bool false]) ∧ ¬ Faithful n (entM ls))) ∧ Below w.heap.size w w' := by
  have HUN := Lib.hid (fun W => runit_any n W h16)
  have HN := Lib.hid hn
  have HROW := Lib.hid hrow
  obtain ⟨i0, hi, hz0, hz1, hz2⟩ := info_parts info5
  obtain ⟨i1, hi', hz0', hz1', hz2'⟩ := info_parts infoSlice
  clear hn hrow
  obtain ⟨a, ha⟩ : ∃ a, entM ls = a := ⟨_, rfl⟩
  rw [ha]
  have HA := Lib.hid ha
  clear ha
  go_enter Try.func45, Try.ntmps45
  go_wp2_with fail
  refine (HUN.out w).mono ?_
  rintro e w1 ⟨X, cp, rfl, hcp, hrx, hb0⟩
  go_wp2_with fail
  go_loopw [5, 23] (fun v t wr => ∃ i : Nat, i ≤ n ∧ t = .int .i64 i ∧ Below w1.heap.size w1 wr ∧ Hid (MxB wr w1.heap.size v i (n + n) (besideM n a))) (fun _ t _ => n - (intOf t).toNat)
  case atStart => exact ⟨0, by omega, rfl, Below.refl _ _, Lib.hid (MxB.nil _ _ _ _)⟩
  case round =>
    obtain ⟨i, hik, rfl, hb1, HB⟩ := hrel
    by_cases hlt : i < n
    · have hii : (i : Int) < (n : Int) := by omega
      have hil : i < ls.length := by rw [HN.out]; exact hlt
      have hiu : i < (rowsL unitM 0 n n).length := by rw [rowsL_len]; exact hlt
      obtain ⟨b, off, A1, c1, rfl, hbs, hc, hlc, hcm, hrd⟩ := hr.at_ i hil
      obtain ⟨b', off', A2, c2, rfl, hbs', hc', hlc', hcm', hrd'⟩ := hrx.at_ i hiu
      rw [show ls[i].length = n from HROW.out _ (List.getElem_mem _)] at hc hlc
      rw [show (rowsL unitM 0 n n)[i] = rowL unitM 0 n i by simp [rowsL]] at hrd' hc' hlc'
      rw [rowL_len] at hc' hlc'
      obtain ⟨β, γ, hG⟩ := HB.out
      have HG := Lib.hid hG
      have HRA := Lib.hid (fun W (h : Below w1.heap.size w1 W) => (hrd.below (hb0.trans (h.mono hb0.size)) (Nat.le_refl _)))
      have HRX := Lib.hid (fun W (h : Below w1.heap.size w1 W) => (hrd'.below h (Nat.le_refl _)))
      have HKEEP := Lib.hid (fun W (h : Below w1.heap.size w1 W) => (⟨((hb0.trans (h.mono hb0.size)).cell (p := ⟨b, off + i, none⟩) hbs).trans hc, (h.cell (p := ⟨b', off' + i, none⟩) hbs').trans hc', h⟩ : W.cell? ⟨b, off + i, none⟩ = some (.slice A1 n c1) ∧ W.cell? ⟨b', off' + i, none⟩ = some (.slice A2 n c2) ∧ Below w1.heap.size w1 W))
      have HL1 := Lib.hid (show ls[i].length = n from HROW.out _ (List.getElem_mem _))
      have HROWI := Lib.hid (show ∀ full : List UInt8, full.take (n + n) = ([] ++ ls[i]) ++ rowL unitM 0 n i → ∀ j, j < n + n → (u8A full)[j]? = some (.int .u8 ((besideM n a i j).toNat : Int)) from fun full hfull j hj => by
        rw [u8A_head hfull hj (by simp [HL1.out, rowL_len])]
        congr 3
        unfold besideM
        by_cases hjn : j < n
        · rw [if_pos hjn, ← HA.out]
          have : j < ls[i].length := by rw [HL1.out]; exact hjn
          rw [List.nil_append, List.getD_eq_getElem?_getD, List.getElem?_append_left this]
          simp [entM, List.getD_eq_getElem?_getD, hil]
        · rw [if_neg hjn, List.nil_append, List.getD_eq_getElem?_getD, List.getElem?_append_right (by rw [HL1.out]; omega), HL1.out]
          simp [rowL, show j - n < n by omega])
      generalize ls[i] = la at *
      have hle := hb1.size
      clear hc hc' hrd hrd' HB hG hil hiu
      go_wp2_with fail
      have HS0 := Lib.hid (HKEEP.out wr hb1)
      go_region_held3 (fun W => W.cell? ⟨b, off + i, none⟩ = some (.slice A1 n c1) ∧ W.cell? ⟨b', off' + i, none⟩ = some (.slice A2 n c2) ∧ Below w1.heap.size w1 W)
        ((first | exact HKEEP.out _ ‹_› | exact HKEEP.out _ (Below.drew ‹_›) | exact HKEEP.out _ (below_drewN ‹_› _) | exact HKEEP.out _ (Below.alloc (by assumption) (by assumption) _) | exact HKEEP.out _ (Below.alloc (Below.drew (by assumption)) (by assumption) _)))
        ((first
          | (refine step_append_B rfl _ _ 22 22 rfl wr.heap.size 5 i0 Try.underlying22 hi hz0 hz1 hz2 (.slice none 0 0) 0 [] rfl (OwnB.nil _ _ _) _ rfl n la HL1.out (Src.ofRd Try.underlying22 _ _ _ _ _ HL1.out (HRA.out _ (by first | assumption | exact Below.drew (by assumption)))) (by omega) (by first | exact Nat.le_refl _ | assumption) (by omega) n (Nat.zero_add n) ?_
             intro g5 cap5 full5 w5 hg5 hB5 hk5 hm5 hf5 ht5 hgr5
             have hb5 : Below w1.heap.size w1 w5 := below_arm hgr5 (by assumption) hle (fun k hk => by simp [Value.ownBlock] at hk)
             have hq5 : Below wr.heap.size wr w5 := Below.grown (by first | exact Below.refl _ _ | exact (Below.refl _ _).drew | exact below_drewN (Below.refl _ _) _) hgr5 (Nat.le_refl _) (fun k hk => by simp [Value.ownBlock] at hk))
          | (refine step_append_B rfl _ _ 22 22 rfl wr.heap.size 5 i0 Try.underlying22 hi hz0 hz1 hz2 (.slice (some ⟨g5, 0, none⟩) n cap5) n ([] ++ la) rfl ⟨HL1.out, .inr ⟨g5, cap5, full5, rfl, hg5, hB5, hk5, hm5, hf5, ht5⟩⟩ _ rfl n (rowL unitM 0 n i) (rowL_len _ _ _ _) (Src.ofRd Try.underlying22 _ _ _ _ _ (rowL_len _ _ _ _) (HRX.out _ (by first | assumption | exact Below.drew (by assumption)))) (by omega) hq5.size (by omega) (n + n) rfl ?_
             intro g6 cap6 full6 w6 hg6 hB6 hk6 hm6 hf6 ht6 hgr6
             have hb6 : Below w1.heap.size w1 w6 := below_arm hgr6 (by assumption) (Nat.le_trans hle hq5.size) (fun k hk => by cases hk; exact Nat.le_trans hle hg5)
             have hq6 : Below wr.heap.size wr w6 := Below.grown (by first | exact hq5 | exact hq5.drew | exact below_drewN hq5 _) hgr6 hq5.size (fun k hk => by cases hk; exact hg5)
             have hs6 : w1.heap.size ≤ w6.heap.size := Nat.le_trans hle hq6.size)
          | (refine step_append_one rfl _ _ 29 rfl w1.heap.size 22 i1 Try.underlying29 hi' hz0' hz1' hz2' _ i (hdrs β γ i (n + n)) rfl (own_keep (HG.out.below (by first | exact hq6 | exact hq6.drew | exact below_drewN hq6 _)).own ((Below.refl _ _).alloc (Nat.le_refl _) _)) _ (some ⟨g6, 0, none⟩) (n + n) cap6 (heap_alloc_new _ _) rfl (by omega) (by have := hq6.size; simp; omega) ?_
             intro v7 w7 hown7 hgr7
             have hb7 : Below w1.heap.size w1 w7 := below_arm hgr7 (by assumption) (by have := hq6.size; simp; omega) (fun k hk => (HG.out.own.lt k hk).1))))
      have hal : Below w6.heap.size w6 (w6.alloc (.cells #[.slice (some ⟨g6, 0, none⟩) (n + n) cap6] 22)) := (Below.refl _ _).alloc (Nat.le_refl _) _
      have hown6 := own_keep (HG.out.below hq6).own hal
      have hkeep : ∀ b rc, Blk w6 b rc 5 → Blk w7 b rc 5 := fun b rc h => grown_apart hown6 hgr7 (h.below hal h.lt) tys_ne
      have HB7 := Lib.hid (HG.out.snoc (f := besideM n a) hown7 (fun b rc h => hkeep b rc (h.below hq6 h.lt)) (Nat.le_trans hle hg6) hk6 hm6 hg6 (hkeep _ _ hB6) (HROWI.out full6 ht6))
      clear hal hown6 hkeep hown7 hgr7 hB6 hB5 hgr5 hgr6 ht5 ht6 hq5 hq6 HG HKEEP HS0 HRA HRX HROWI
      go_wp2_with fail
      go_roundw
      case rel => exact ⟨i + 1, by omega, by go_num, hb7, HB7⟩
      case measure => simp [intOf]; omega
    · obtain rfl : i = n := by omega
      obtain ⟨g, cap, β, γ, rfl, hc1, hc2, hM⟩ := HB.out.opened (by omega)
      obtain ⟨d, hd⟩ : ∃ d, i + i = d := ⟨_, rfl⟩
      rw [hd] at hM
      have hb1 : Below w.heap.size w wr := hb0.trans (hb1.mono hb0.size)
      have HM := Lib.hid (hM.more hb0.size)
      have HD := Lib.hid hd
      have hid : i ≤ d := by omega
      have hd32 : d ≤ 32 := by omega
      clear hd
      have HG := Lib.hid (show GInv i 0 a (besideM i a) from ginv_start fun _ _ _ _ => rfl)
      have h0 : ((i : Nat) : Int) < (i : Int) → False := fun h => by omega
      clear HB hM hlt hik hrx hcp hr HUN h0 hb0 hi hz0 hz1 hz2 hi' hz0' hz1' hz2'
      generalize besideM i a = f0 at *
      go_wp2_with fail
      go_loopw [8] (fun t wr => ∃ (c : Nat) (β γ : Nat → Nat) (f : Mx), c ≤ i ∧ t = .int .i64 c ∧ Below w.heap.size w wr ∧ Hid (MxW wr w.heap.size g β γ i d f) ∧ Hid (GInv i c a f)) (fun t _ => i - (intOf t).toNat)
      case atStart => exact ⟨0, β, γ, f0, by omega, rfl, hb1, HM, HG⟩
      case round =>
        clear hb1 HM HG
        obtain ⟨c, β, γ, f, hc, rfl, hbel, HM, HG⟩ := hrel
        by_cases hlt : c < i
        · have hci : (c : Int) < (i : Int) := by omega
          go_wp2_with fail
          go_loopw [9] (fun t wq => ∃ p : Nat, c ≤ p ∧ p ≤ i ∧ t = .int .i64 p ∧ Hid (∀ q, c ≤ q → q < p → f q c = 0) ∧ wr = wq) (fun t _ => i - (intOf t).toNat)
          case atStart => exact ⟨c, by omega, by omega, rfl, Lib.hid (fun q h1 h2 => by omega), rfl⟩
          case round =>
            obtain ⟨p, hcp, hp, rfl, HP, rfl⟩ := hrel
            by_cases hpi : p < i
            · have hpii : (p : Int) < (i : Int) := by omega
              have hcc : (c : Int) < (d : Int) := by omega
              have hh := HM.out.header hpi
              have hb := HM.out.byte (j := c) hpi (by omega)
              by_cases hz : f p c = 0
              · have HZ := Lib.hid (show ∀ q, c ≤ q → q < p + 1 → f q c = 0 from fun q h1 h2 => by
                  by_cases e : q = p
                  · rw [e]; exact hz
                  · exact HP.out q h1 (by omega))
                have hz0 : ((0 : UInt8).toNat : Int) = 0 := rfl
                rw [hz, hz0] at hb
                clear hz hz0
                go_wp2_with fail
                go_roundw
                case rel => exact ⟨p + 1, by omega, by omega, by go_num, HZ, trivial⟩
                case measure => simp [intOf]; omega
              · have hzb : (((f p c).toNat : Int) == 0) = false := beq_eq_false_iff_ne.2 (by have := pos8' hz; omega)
                have HNZ := Lib.hid hz
                have hpe : ((p : Int) == (i : Int)) = false := beq_eq_false_iff_ne.2 (by omega)
                clear hz
                obtain ⟨x, hx⟩ : ∃ x, f p c = x := ⟨_, rfl⟩
                have HX := Lib.hid hx
                rw [hx] at hzb hb
                clear hx
                go_wp2_with fail
                have hhc := HM.out.header hlt
                have hfc := HM.out.headFree c
                have hfp := HM.out.headFree p
                have HSW := Lib.hid ((HM.out.swap hlt hpi).drewN 1)
                have HSG := Lib.hid (ginv_swap HG.out hlt hpi hcp)
                obtain ⟨o, ho⟩ : ∃ o, (wr.setCell ⟨g, c, none⟩ (.slice (some ⟨β p, 0, none⟩) d (γ p))).cell? ⟨g, p, none⟩ = some o := by
                  obtain ⟨cur, q1, q2⟩ := HM.out.head
                  have q3 := q1.set c (.slice (some ⟨β p, 0, none⟩) d (γ p))
                  rw [q3.cell]
                  exact ⟨_, Array.getElem?_eq_getElem (by rw [Array.size_setIfInBounds]; exact (Array.getElem?_eq_some_iff.1 (q2 p hpi)).1)⟩
                go_region
                have hb3 : Below w.heap.size w ((wr.setCell ⟨g, c, none⟩ (.slice (some ⟨β p, 0, none⟩) d (γ p))).setCell ⟨g, p, none⟩ (.slice (some ⟨β c, 0, none⟩) d (γ c))).drew := ((hbel.setCell HM.out.base _).setCell HM.out.base _).drew
                have HM3 := Lib.hid (show MxW ((wr.setCell ⟨g, c, none⟩ (.slice (some ⟨β p, 0, none⟩) d (γ p))).setCell ⟨g, p, none⟩ (.slice (some ⟨β c, 0, none⟩) d (γ c))).drew w.heap.size g (fun i => β (swI c p i)) (fun i => γ (swI c p i)) i d (swM c p f) from HSW.out)
                have hfx : swM c p f c c = x := by rw [swM_at, ← HX.out]; unfold swI; rw [if_pos rfl]
                rw [HX.out] at HNZ
                clear hhc hfc hfp HSW ho hh hb HM HG hbel HP hp hcp hpii hzb HX hpe
                generalize World.drew _ = w3 at *
                generalize (fun i => β (swI c p i)) = β3 at *
                generalize (fun i => γ (swI c p i)) = γ3 at *
                generalize swM c p f = f3 at *
                have HFX := Lib.hid hfx
                have hh3 := HM3.out.header hlt
                have hb4 := HM3.out.byte (j := c) hlt (by omega)
                rw [hfx] at hb4
                clear hfx
                go_wp2_with fail
                refine (rinv_any x w3).mono ?_
                rintro e w4 ⟨rfl, rfl⟩
                obtain ⟨y, hy⟩ : ∃ y, ivU x = y := ⟨_, rfl⟩
                rw [hy]
                have HGS := Lib.hid (show GInv i c a (scM c y f3) from ginv_scale HSG.out hlt (by rw [← hy]; exact ivU_ne HNZ.out))
                have HCC := Lib.hid (show scM c y f3 c c = 1 by rw [scM_same, HFX.out, ← hy]; exact ivU_mul HNZ.out)
                clear hb4 HSG HFX HNZ hy
                go_wp2_with fail
                clear hh3
                go_loopw [91] (fun t wq => ∃ k : Nat, k ≤ d ∧ t = .int .i64 k ∧ Below w.heap.size w wq ∧ Hid (MxW wq w.heap.size g β3 γ3 i d (scK c k y f3))) (fun t _ => d - (intOf t).toNat)
                case atStart => exact ⟨0, by omega, rfl, hb3, Lib.hid (HM3.out.congr fun a b _ _ => by unfold scK; rw [if_neg (by omega)])⟩
                case round =>
                  clear hb3 HM3
                  obtain ⟨k, hk, rfl, hb3, HM3⟩ := hrel
                  by_cases hkd : k < d
                  · have hki : (k : Int) < (d : Int) := by omega
                    have hh3 := HM3.out.header hlt
                    have hb4 := HM3.out.byte hlt hkd
                    have HST := Lib.hid (HM3.out.drew.store hlt hkd (mulU (f3 c k) y))
                    have HM4 := Lib.hid HM3.out.drew
                    have HBB := Lib.hid (hb3.drew.setCell (p := ⟨β3 c, k, none⟩) (HM3.out.rowBase hlt) (.int .u8 ((mulU (f3 c k) y).toNat : Int)))
                    have HMU := Lib.hid (fun W => (show Calls Try.prog 47 #[.int .u8 ((f3 c k).toNat : Int), .int .u8 (y.toNat : Int)] W fun e w' => e = .returned (.int .u8 ((mulU (f3 c k) y).toNat : Int)) ∧ w' = W from (rmul_any (f3 c k) y W).mono fun _ _ h => ⟨h.1, h.2.symm⟩))
                    have HNX := Lib.hid (show ∀ a b, a < i → b < d → putM c k (mulU (f3 c k) y) (scK c k y f3) a b = scK c (k + 1) y f3 a b from fun a b _ _ => scK_step c k y f3 a b)
                    rw [show scK c k y f3 c k = f3 c k from if_neg (by omega)] at hb4
                    generalize mulU (f3 c k) y = zy at *
                    generalize f3 c k = z at *
                    go_wp2_with fail
                    go_still_tail 15, (by kernel_rfl)
                    still_call (HMU.out _)
                    repeat still_step
                    refine wpStill_nil ?_
                    change wpList _ _ _ _ _ wr.drew
                    have hfr := HM4.out.byteFree hlt k
                    have hbo := HM4.out.byte hlt hkd
                    clear hh3 hb4 HMU HM3 HM4 hb3
                    generalize wr.drew = w5 at *
                    go_wp2_with fail
                    go_roundw
                    case rel => exact ⟨k + 1, by omega, by go_num, HBB.out, Lib.hid (HST.out.congr HNX.out)⟩
                    case measure => simp [intOf]; omega
                  · obtain rfl : k = d := by omega
                    have HM4 := Lib.hid (HM3.out.congr fun a b ha hb => scK_all c k y f3 a b ha hb)
                    generalize scM c y f3 = f4 at *
                    clear HM3 hkd hk
                    go_wp2_with fail
                    go_loopw [12] (fun t wq => ∃ r : Nat, r ≤ i ∧ t = .int .i64 r ∧ Below w.heap.size w wq ∧ Hid (MxW wq w.heap.size g β3 γ3 i k (adM c r f4))) (fun t _ => i - (intOf t).toNat)
                    case atStart => exact ⟨0, by omega, rfl, hb3, Lib.hid (HM4.out.congr fun a b _ _ => (adM_same f4 b (.inr (Nat.zero_le _))).symm)⟩
                    case round =>
                      clear hb3 HM4
                      obtain ⟨r, hr, rfl, hb3, HM4⟩ := hrel
                      by_cases hri : r < i
                      · have hrii : (r : Int) < (i : Int) := by omega
                        have hh4 := HM4.out.header hri
                        have hb4 := HM4.out.byte (j := c) hri (by omega)
                        rw [adM_same f4 c (.inr (Nat.le_refl r))] at hb4
                        by_cases hrc : r = c
                        · have HNX := Lib.hid (fun a b => adM_next_same (f := f4) hrc a b)
                          have hrce : ((r : Int) == (c : Int)) = true := by rw [hrc]; exact beq_self_eq_true _
                          clear hrc
                          generalize f4 r c = x at *
                          go_wp2_with fail
                          go_roundw
                          case rel => exact ⟨r + 1, by omega, by go_num, hb3, Lib.hid (HM4.out.congr fun a b _ _ => HNX.out a b)⟩
                          case measure => simp [intOf]; omega
                        · have hrce : ((r : Int) == (c : Int)) = false := beq_eq_false_iff_ne.2 (by omega)
                          by_cases hz : f4 r c = 0
                          · have HNX := Lib.hid (fun a b => adM_next_zero (f := f4) hz a b)
                            have hz0 : ((0 : UInt8).toNat : Int) = 0 := rfl
                            rw [hz, hz0] at hb4
                            clear hz hz0
                            go_wp2_with fail
                            go_roundw
                            case rel => exact ⟨r + 1, by omega, by go_num, hb3, Lib.hid (HM4.out.congr fun a b _ _ => HNX.out a b)⟩
                            case measure => simp [intOf]; omega
                          · have hzb : (((f4 r c).toNat : Int) == 0) = false := beq_eq_false_iff_ne.2 (by have := pos8' hz; omega)
                            have HNX := Lib.hid (fun a b (_ : a < i) (hb : b < k) => adM_next (f := f4) hrc a b hb)
                            clear hz
                            obtain ⟨x, hx⟩ : ∃ x, f4 r c = x := ⟨_, rfl⟩
                            rw [hx] at hb4 hzb HNX
                            have hcr : c ≠ r := fun e => hrc e.symm
                            have HCR := Lib.hid hcr
                            clear hx hrc hcr
                            generalize adM c r f4 = f5 at *
                            go_wp2_with fail
                            clear hh4 hb4
                            go_loopw [134] (fun t wq => ∃ j : Nat, j ≤ k ∧ t = .int .i64 j ∧ Below w.heap.size w wq ∧ Hid (MxW wq w.heap.size g β3 γ3 i k (adK c r j x f5))) (fun t _ => k - (intOf t).toNat)
                            case atStart => exact ⟨0, by omega, rfl, hb3, Lib.hid (HM4.out.congr fun a b _ _ => by unfold adK; rw [if_neg (by omega)])⟩
                            case round =>
                              clear hb3 HM4
                              obtain ⟨j, hj, rfl, hb3, HM4⟩ := hrel
                              by_cases hjk : j < k
                              · have hji : (j : Int) < (k : Int) := by omega
                                have hhr := HM4.out.header hri
                                have hhc := HM4.out.header hlt
                                have hbr := HM4.out.byte hri hjk
                                have hbc := HM4.out.byte hlt hjk
                                rw [show adK c r j x f5 r j = f5 r j from if_neg (by omega)] at hbr
                                rw [show adK c r j x f5 c j = f5 c j from if_neg (fun e => HCR.out e.1)] at hbc
                                have HST := Lib.hid (HM4.out.drew.store hri hjk (f5 r j ^^^ mulU x (f5 c j)))
                                have HM5 := Lib.hid HM4.out.drew
                                have HBB := Lib.hid (hb3.drew.setCell (p := ⟨β3 r, j, none⟩) (HM4.out.rowBase hri) (.int .u8 ((f5 r j ^^^ mulU x (f5 c j)).toNat : Int)))
                                have HMU := Lib.hid (fun W => (show Calls Try.prog 47 #[.int .u8 (x.toNat : Int), .int .u8 ((f5 c j).toNat : Int)] W fun e w' => e = .returned (.int .u8 ((mulU x (f5 c j)).toNat : Int)) ∧ w' = W from (rmul_any x (f5 c j) W).mono fun _ _ h => ⟨h.1, h.2.symm⟩))
                                have HXR := Lib.hid (xor_byte8 (f5 r j) (mulU x (f5 c j)))
                                have HNY := Lib.hid (show ∀ a b, a < i → b < k → putM r j (f5 r j ^^^ mulU x (f5 c j)) (adK c r j x f5) a b = adK c r (j + 1) x f5 a b from fun a b _ _ => adK_step c r j x f5 HCR.out a b)
                                generalize f5 r j ^^^ mulU x (f5 c j) = xs at *
                                generalize mulU x (f5 c j) = zy at *
                                generalize f5 r j = z1 at *
                                generalize f5 c j = z2 at *
                                go_wp2_with fail
                                go_still_tail 18, (by kernel_rfl)
                                still_call (HMU.out _)
                                repeat still_step
                                refine wpStill_nil ?_
                                change wpList _ _ _ _ _ wr.drew
                                have hfr := HM5.out.byteFree hri j
                                have hbo := HM5.out.byte hri hjk
                                clear hhr hhc hbr hbc HMU HM4 HM5 hb3
                                generalize wr.drew = w5 at *
                                go_wp2_with fail
                                go_roundw
                                case rel => exact ⟨j + 1, by omega, by go_num, by rw [HXR.out]; exact HBB.out, Lib.hid (by rw [HXR.out]; exact HST.out.congr HNY.out)⟩
                                case measure => simp [intOf]; omega
                              · obtain rfl : j = k := by omega
                                have HM5 := Lib.hid (HM4.out.congr HNX.out)
                                clear HM4 HNX hjk hj
                                go_wp2_with fail
                                go_roundw
                                case rel => exact ⟨r + 1, by omega, by go_num, hb3, HM5⟩
                                case measure => simp [intOf]; omega
                      · obtain rfl : r = i := by omega
                        have HG5 := Lib.hid (ginv_add HGS.out hlt HCC.out)
                        clear HGS HCC hri hr
                        generalize adM c r f4 = f5 at *
                        go_wp2_with fail
                        go_roundw
                        case rel => exact ⟨c + 1, β3, γ3, f5, by omega, by go_num, hb3, HM4, HG5⟩
                        case measure => simp [intOf]; omega
            · obtain rfl : p = i := by omega
              have HF := Lib.hid (ginv_fail HG.out hlt (fun q h1 h2 => HP.out q h1 h2))
              clear hpi hp hcp
              go_wp2_with fail
              go_ret2
              exact ⟨.inr ⟨rfl, HF.out⟩, hbel⟩
        · obtain rfl : c = i := by omega
          have HIV := Lib.hid ((ginv_end HG.out).of_alike (fun _ _ _ _ => rfl) (s := entM (rowsL f c c c)) (fun i j hi hj => (rowsL_ent f c c c hi hj).symm))
          clear HG hc hlt
          have HDI := Lib.hid (show d - c = c by have := HD.out; omega)
          have HW0 := Lib.hid hbel
          clear hbel HD
          obtain ⟨i1, hi, hz0, hz1, hz2⟩ := info_parts infoSlice
          go_wp2_with fail
          obtain ⟨wo, rfl⟩ : ∃ y : World, y = wr := ⟨_, rfl⟩
          go_loopw [15, 158] (fun v t wq => ∃ (r : Nat) (vs : List Value), r ≤ c ∧ t = .int .i64 r ∧ Hid (wq.ownsRow wo.heap.size 22 1 v r vs) ∧ Hid (sliceVals wo wo.heap.size vs (rowsL f c c r)) ∧ Below wo.heap.size wo wq) (fun _ t _ => c - (intOf t).toNat)
          case atStart => exact ⟨0, [], by omega, rfl, Lib.hid (World.ownsRow_nil _ _ _ _), Lib.hid (sliceVals.nil _ _), Below.refl _ _⟩
          case round =>
            obtain ⟨r, vs, hr, rfl, HO, HS, hbq⟩ := hrel
            by_cases hrc : r < c
            · have hrci : (r : Int) < (c : Int) := by omega
              have hh := (HM.out.below hbq).header hrc
              have hpt := fun W => run_part_l (some ⟨β r, 0, none⟩) d (γ r) c W hid
              have HRW := Lib.hid ((HM.out.row hrc).rest c (γ r) (rowL_len _ _ _ _) hid (HM.out.rows r hrc).2.1)
              have hgl := (HM.out.rows r hrc).2.2.1
              have hgm := (HM.out.rows r hrc).2.1
              rw [rowL_drop, Nat.zero_add, HDI.out] at HRW
              simp only [HDI.out] at hpt
              have HSN := Lib.hid (rowsL_succ f c c r)
              have hle := hbq.size
              have hcg : c ≤ γ r - c := by have := HDI.out; omega
              have hgg : γ r - c ≤ maxLen := by omega
              generalize γ r - c = gr at *
              generalize partA (some ⟨β r, 0, none⟩) c (γ r) = Ar at *
              go_wp2_with (at_builtin; refine wpList_append_one rfl _ _ 29 rfl wo.heap.size 22 i1 Try.underlying29 hi hz0 hz1 hz2 _ r vs rfl wr Ar c gr rfl HO.out rfl (by omega) hle ?_)
              intro v2 w2 hown2 hg2
              have HS2 := Lib.hid (HS.out.snoc (rowL_len f c c r) hcg hgg HRW.out)
              rw [← HSN.out] at HS2
              have HO2 := Lib.hid hown2
              have hbel2 : Below wo.heap.size wo w2 := (hbq.alloc hle _).grown hg2 (by simp; omega) (fun k hk => (HO.out.lt k hk).1)
              clear hown2 hg2 hbq hle
              go_wp2_with fail
              go_roundw
              case rel => exact ⟨r + 1, _, by omega, by go_num, HO2, HS2, hbel2⟩
              case measure => simp [intOf]; omega
            · obtain rfl : r = c := by omega
              obtain ⟨A', c', rfl, hkc, _⟩ := own_caps HO.out
              have HR := Lib.hid (RdR.of_own HO.out (HS.out.below hbq (Nat.le_refl _)) hbq.size)
              have HBE := Lib.hid (HW0.out.trans (hbq.mono HW0.out.size))
              clear HO HS hbq HM
              go_wp2_with fail
              go_ret2
              exact ⟨.inl ⟨rowsL f r r r, rowsL_len _ _ _ _, rowsL_rows _ _ _ _, HIV.out, A', c', rfl, hkc, HR.out⟩, HBE.out⟩
end Go.Proofs.Ytdaofffkbnkljaa
