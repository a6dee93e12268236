/- KeysNews: a store with the names of four letters. -/
import Derived.Test.YtndknifdajjalaaDoorPKeyQ
import Derived.Test.YtndknifdajjalaaDoorPKeyO
namespace Go.Proofs.YtndknifdajjalaaDoor
open Go.RowKit
set_option maxRecDepth 100000

/-- A store that lives, on a disk that has no Stop ahead. -/
def MadePost (w : World) (R n c : Nat) (e : Ending) (w' : World) : Prop :=
  ∃ q p g b, e = .returned (.pointer (some ⟨q, 0, none⟩)) ∧ (∀ j, fourS q p g b j → w.heap.size ≤ j) ∧ ST w' q p g b c (newD (n * (R + 1))) R n 0 ⟨[], false⟩ ∧ Live ⟨[], false⟩ (newD (n * (R + 1))) R n 0 ∧ Below w.heap.size w w'
set_option maxHeartbeats 1000000 in
theorem pmade_any (w : World) : Calls Tryd.prog 5 #[] w (MadePost w 3 4 16) := by
  go_enter Tryd.func5, Tryd.ntmps5
  go_wp2_with fail
  with_reducible refine (pnew_at 16 16 rfl w (by omega) (by omega)).mono ?_
  rintro e w1 ⟨p, rfl, hp, g, hg, D1, hb1⟩
  have HD1 := Lib.hid (show DP w1 p g (4 * (3 + 1)) 16 (newD (4 * (3 + 1))) from D1)
  clear D1
  go_wp2_with fail
  with_reducible refine (open_re HD1.out (by omega) (by omega) (new_re 3 4) rfl (i := 4) (j := 3) rfl rfl).mono ?_
  rintro e w2 ⟨q, b, rfl, hq, hb, S2, L2, C2⟩
  rw [new_same] at S2 L2
  have HS2 := Lib.hid S2
  have HL2 := Lib.hid L2
  have HB2 := Lib.hid (hb1.trans (C2.below hb1.size (two_ge hp hg)))
  have HGE := Lib.hid (fourS_ge (Nat.le_trans hb1.size hq) hp hg (Nat.le_trans hb1.size hb))
  clear S2 L2 C2 HD1 hb1 hq hb hp hg
  go_wp2_with fail
  go_ret
  exact ⟨q, p, g, b, rfl, HGE.out, HS2.out, HL2.out, HB2.out⟩
theorem short_none {t : Sto} {name : List UInt8} (h : t.get name = none) : ShortIn t name := fun d hd => by rw [h] at hd; cases hd
theorem short_four {t : Sto} {name : List UInt8} {x : Nat} (h : t.get name = some (putL x 4)) : ShortIn t name := fun d hd => by
  rw [h] at hd
  rw [← Option.some.inj hd, putL_length]
  omega
theorem next_none {t : Sto} {name : List UInt8} (h : t.get name = none) (nx : Nat) : nextOf t name nx = nx := by
  unfold nextOf
  rw [h, numOf_none]
  omega
theorem next_four {t : Sto} {name : List UInt8} {x : Nat} (hx : x < 4294967296) (h : t.get name = some (putL x 4)) (nx : Nat) : nextOf t name nx = max nx x := by
  unfold nextOf
  rw [h, numOf_put hx]
/-- A Sign where there is room, and no Stop is ahead. -/
def LivePost (w : World) (k q p g b c R n m : Nat) (name sd msg : List UInt8) (h X : Nat) (t : Sto) (e : Ending) (w' : World) : Prop :=
  ∃ s' j V cv P cp, e = .returned (.tuple #[.agg (sigA (h : Int) (X : Int) V P 67 cv (proofV (pubsL sd (2 ^ h)) X).length cp), .int .i64 0]) ∧
    OwnH w' w.heap.size (.slice V 67 cv) (atL (signF sd (X : Int) (digH (msgH msg))) 67) ∧ OwnH w' w.heap.size (.slice P (proofV (pubsL sd (2 ^ h)) X).length cp) (proofV (pubsL sd (2 ^ h)) X) ∧
    KS w' k q ⟨name.toArray⟩ sd h (X + 1) ∧ ST w' q p g b c s' R n (m + 1) ⟨putE t.l (t.newR name (putL (X + 1) 4), j), false⟩ ∧ Live ⟨putE t.l (t.newR name (putL (X + 1) 4), j), false⟩ s' R n (m + 1) ∧ Chg (fiveS k q p g b) w w'
theorem ksign_live {w : World} {k q p g b c : Nat} {s : Dsk} {R n m : Nat} {t : Sto} {name sd : List UInt8} {h nx X : Nat} (H : KS w k q ⟨name.toArray⟩ sd h nx) (hs : ST w q p g b c s R n m t) (hL : Live t s R n m) (hd : ShortIn t name) (hX : nextOf t name nx = X) (hz : X < 2 ^ h) (hm : m + 1 < 4294967296) (hnl : name.length ≤ 900) (ap : Apart5 k q p g b) (hf : name.length + 23 ≤ R * 32) (hroom : t.l.length < n)
    (B : Option Addr) (nb cb : Nat) (msg : List UInt8) (hl : msg.length = nb) (h1 : nb ≤ 1000) (hc : nb ≤ cb) (hcm : cb ≤ maxLen) (hrm : ∀ W, Chg (fiveS k q p g b) w W → Rd W W.heap.size B msg) (htab : ∀ W, Chg (fiveS k q p g b) w W → Pow10 W.heap.size W) :
    Calls Tryd.prog 10 #[.pointer (some ⟨k, 0, none⟩), .slice B nb cb] w (LivePost w k q p g b c R n m name sd msg h X t) := by
  have hfit := fits_small (R := R) (name := name) (data := putL (X + 1) 4) (by omega) (by rw [putL_length]; omega) (by rw [putL_length]; omega)
  refine (psignk_put H hs hd hX hz hm hnl ap B nb cb msg hl h1 hc hcm hrm htab).mono ?_
  intro e w' hp
  unfold SignPost at hp
  rcases put_live hL hm hfit with ⟨h0, _⟩ | ⟨_, s', j, hj, hpt, hL'⟩
  · omega
  · rw [hpt] at hp
    obtain ⟨S, C, ⟨h0, _⟩ | ⟨_, K, V, cv, P, cp, he, h2, h3⟩⟩ := hp
    · exact absurd rfl h0
    · exact ⟨s', j, V, cv, P, cp, he, h2, h3, K, S, hL', C⟩
/-- A Sign into a full store. -/
theorem ksign_full {w : World} {k q p g b c : Nat} {s : Dsk} {R n m : Nat} {t : Sto} {name sd : List UInt8} {h nx X : Nat} (H : KS w k q ⟨name.toArray⟩ sd h nx) (hs : ST w q p g b c s R n m t) (hL : Live t s R n m) (hd : ShortIn t name) (hX : nextOf t name nx = X) (hz : X < 2 ^ h) (hm : m + 1 < 4294967296) (hnl : name.length ≤ 900) (ap : Apart5 k q p g b) (hf : name.length + 23 ≤ R * 32) (hroom : t.l.length = n)
    (B : Option Addr) (nb cb : Nat) (msg : List UInt8) (hl : msg.length = nb) (h1 : nb ≤ 1000) (hc : nb ≤ cb) (hcm : cb ≤ maxLen) (hrm : ∀ W, Chg (fiveS k q p g b) w W → Rd W W.heap.size B msg) (htab : ∀ W, Chg (fiveS k q p g b) w W → Pow10 W.heap.size W) :
    Calls Tryd.prog 10 #[.pointer (some ⟨k, 0, none⟩), .slice B nb cb] w fun e w' => e = .returned (.tuple #[.agg sig0, .int .i64 3]) ∧ KS w' k q ⟨name.toArray⟩ sd h X ∧ ST w' q p g b c s R n (m + 1) t ∧ Chg (fiveS k q p g b) w w' := by
  have hfit := fits_small (R := R) (name := name) (data := putL (X + 1) 4) (by omega) (by rw [putL_length]; omega) (by rw [putL_length]; omega)
  refine (psignk_put H hs hd hX hz hm hnl ap B nb cb msg hl h1 hc hcm hrm htab).mono ?_
  intro e w' hp
  unfold SignPost at hp
  rcases put_live hL hm hfit with ⟨_, hpt⟩ | ⟨h0, _⟩
  · rw [hpt] at hp
    obtain ⟨S, C, ⟨_, he, K⟩ | ⟨h0, _⟩⟩ := hp
    · exact ⟨he, K, S, C⟩
    · exact absurd h0 (show ¬ (3 : Int) = 0 by decide)
  · omega
theorem tab_five {w0 w : World} {k q p g b : Nat} (ht : Pow10 w0.heap.size w0) (hb : Below w0.heap.size w0 w) (h5 : ∀ j, fiveS k q p g b j → w0.heap.size ≤ j) : ∀ W, Chg (fiveS k q p g b) w W → Pow10 W.heap.size W := fun W hc => by
  have hb' := hb.trans (hc.below hb.size h5)
  exact tab_on ht hb' hb'.size
theorem rd_five {w : World} {k q p g b j : Nat} {T : TypeId} {l : List UInt8} (h : Blk w j (u8A l) T) (h5 : ¬ fiveS k q p g b j) : ∀ W, Chg (fiveS k q p g b) w W → Rd W W.heap.size (some ⟨j, 0, none⟩) l := fun _ hc => Rd.of_blk (hc.blk h h5)
theorem not_five {k q p g b j : Nat} (h0 : j ≠ k) (h4 : ∀ i, fourS q p g b i → i < j) : ¬ fiveS k q p g b j := fun h => by
  rcases h with h | h
  · exact h0 h
  · have := h4 j h; omega
set_option maxHeartbeats 4000000 in
theorem wakes12_any (w : World) (htab : Pow10 w.heap.size w) : Calls Tryd.prog 7 #[] w fun e w' => e = .returned (.bool true) ∧ Below w.heap.size w w' := by
  obtain ⟨Z, hZ⟩ : ∃ x, u8A zeroK = x := ⟨_, rfl⟩
  have HZ := Lib.hid hZ
  have HT := Lib.hid htab
  clear hZ htab
  go_enter Tryd.func7, Tryd.ntmps7
  go_wp2_with fail
  with_reducible refine (pmade_any w).mono ?_
  rintro e w1 ⟨q, p, g, b, rfl, hge, S1, L1, hb1⟩
  have HS1 := Lib.hid S1
  have HL1 := Lib.hid L1
  have HB1 := Lib.hid hb1
  have HGE := Lib.hid hge
  have H4 := Lib.hid S1.four_lt
  clear S1 L1 hb1 hge
  have hg1 : Sto.get ⟨[], false⟩ [107] = none := rfl
  have HO := Lib.hid (popenk_any (name := [107]) (sd := zeroK) (h := 0) HS1.out (short_none hg1) rfl (by omega) (by simp) (i := 0) rfl (nb := ⟨#[107]⟩) rfl)
  rw [HZ.out, next_none hg1] at HO
  go_wp2_with (with_reducible refine wpList_build_key9 rfl rfl Z HZ.out ?_)
  with_reducible refine HO.out.mono ?_
  rintro e w2 ⟨k, rfl, hk, K2, hb2⟩
  have HK2 := Lib.hid K2
  have HS2 := Lib.hid (HS1.out.below hb2)
  have HB2 := Lib.hid (HB1.out.trans (hb2.mono HB1.out.size))
  have HAP := Lib.hid (Apart5.of_lt (k := k) fun j hj => Nat.lt_of_lt_of_le (H4.out j hj) hk)
  have HG5 := Lib.hid (fiveS_ge (Nat.le_trans HB1.out.size hk) HGE.out)
  clear K2 hb2 HO HS1 HB1 H4 hk
  go_wp2_with fail
  have hal := (Below.refl w2.heap.size w2).alloc (Nat.le_refl _) (.cells #[.int .u8 1] 5)
  have hN5 : ¬ fiveS k q p g b w2.heap.size := not_five (fun e => by have := HK2.out.lt; omega) HS2.out.four_lt
  have hba := HB2.out.trans (hal.mono HB2.out.size)
  with_reducible refine (ksign_live (X := 0) (HK2.out.below hal) (HS2.out.below hal) HL1.out (short_none hg1) (next_none hg1 0) (by omega) (by omega) (by simp) HAP.out (by simp) (by simp) (some ⟨w2.heap.size, 0, none⟩) 1 1 [1] rfl (by omega) (by omega) (by unfold maxLen; omega) (rd_five (l := [1]) (Blk.new w2 _ 5) hN5) (tab_five HT.out hba HG5.out)).mono ?_
  rintro e w3 ⟨s3, j3, V, cv, P, cp, rfl, _, _, K3, S3, L3, C3⟩
  have HK3 := Lib.hid K3
  have HS3 := Lib.hid S3
  have HB3 := Lib.hid (hba.trans (C3.below hba.size HG5.out))
  have HG3 := Lib.hid (get_new HL1.out [107] (putL (0 + 1) 4) j3)
  obtain ⟨SG, hSG⟩ : ∃ x, sigA ((0 : Nat) : Int) ((0 : Nat) : Int) V P 67 cv (proofV (pubsL zeroK (2 ^ 0)) 0).length cp = x := ⟨_, rfl⟩
  have HZS := Lib.hid (show SG.size = 4 by rw [← hSG]; rfl)
  have HOS := Lib.hid (show SG.all (·.oneCell') = true by rw [← hSG]; exact sigA_one _ _ _ _ _ _ _ _)
  rw [hSG]
  clear K3 S3 L3 C3 hSG hal hN5 hba HS2 HB2 HK2
  go_upto_region 8 with (with_reducible refine wpList_store_blk rfl 38 (.tmp 4) (.tmp 27) rfl w3.heap.size SG rfl rfl 38 _ (Blk.new _ _ _) (by rw [HZS.out]; kernel_rfl) (by rw [HZS.out]; kernel_rfl) HOS.out ?_)
  generalize hwn : World.setRow _ _ _ = w4
  have hal4 : Below w3.heap.size w3 w4 := by
    rw [← hwn]
    exact below_row ((Below.refl _ _).alloc (Nat.le_refl _) _) (by simp) (Nat.le_refl _) _
  have HK4 := Lib.hid (HK3.out.below hal4)
  have HS4 := Lib.hid (HS3.out.below hal4)
  have HB4 := Lib.hid (HB3.out.trans (hal4.mono HB3.out.size))
  obtain ⟨g4, hgn⟩ : ∃ g, w3.heap.size = g := ⟨_, rfl⟩
  rw [hgn]
  clear hal4 hwn hgn HK3 HS3 HB3 HZS HOS
  go_wp2_with fail
  have hal := (Below.refl w4.heap.size w4).alloc (Nat.le_refl _) (.cells #[.int .u8 2] 5)
  have hba := HB4.out.trans (hal.mono HB4.out.size)
  have hnx := next_four (x := 0 + 1) (by omega) HG3.out (0 + 1)
  rw [show max (0 + 1) (0 + 1) = 1 from rfl] at hnx
  have HN := Lib.hid (psignk_none (HK4.out.below hal) (HS4.out.below hal) (short_four HG3.out) (by rw [hnx]; omega) (by rw [hnx]; exact Nat.le_refl 1) (some ⟨w4.heap.size, 0, none⟩) 1 1)
  rw [hnx] at HN
  with_reducible refine HN.out.mono ?_
  rintro e w5 ⟨rfl, K5, C5⟩
  have HK5 := Lib.hid K5
  have HS5 := Lib.hid ((HS4.out.below hal).apart5 C5 HAP.out)
  have HB5 := Lib.hid (hba.trans ((C5.more one_five).below hba.size HG5.out))
  clear K5 C5 hal hba HS4 HK4 HB4 HN hnx
  obtain ⟨SZ, hSZ⟩ : ∃ x, sig0 = x := ⟨_, rfl⟩
  have HZS := Lib.hid (show SZ.size = 4 by rw [← hSZ]; rfl)
  have HOS := Lib.hid (show SZ.all (·.oneCell') = true by rw [← hSZ]; exact sigA_one _ _ _ _ _ _ _ _)
  rw [hSZ]
  clear hSZ
  go_upto_region 9 with (with_reducible refine wpList_store_blk rfl 38 (.tmp 6) (.tmp 33) rfl w5.heap.size SZ rfl rfl 38 _ (Blk.new _ _ _) (by rw [HZS.out]; kernel_rfl) (by rw [HZS.out]; kernel_rfl) HOS.out ?_)
  generalize hwn : World.setRow _ _ _ = w6
  have hal6 : Below w5.heap.size w5 w6 := by
    rw [← hwn]
    exact below_row ((Below.refl _ _).alloc (Nat.le_refl _) _) (by simp) (Nat.le_refl _) _
  have HK6 := Lib.hid (HK5.out.below hal6)
  have HS6 := Lib.hid (HS5.out.below hal6)
  have HB6 := Lib.hid (HB5.out.trans (hal6.mono HB5.out.size))
  obtain ⟨g6, hgn⟩ : ∃ g, w5.heap.size = g := ⟨_, rfl⟩
  rw [hgn]
  clear hal6 hwn hgn HK5 HS5 HB5 HZS HOS
  have hnx := next_four (x := 0 + 1) (by omega) HG3.out 1
  rw [show max 1 (0 + 1) = 1 from rfl] at hnx
  have HL := Lib.hid (pleft_any HK6.out HS6.out (short_four HG3.out) (by rw [hnx]; omega))
  rw [hnx, show 2 ^ 0 - 1 = 0 from rfl] at HL
  go_wp2_with fail
  with_reducible refine HL.out.mono ?_
  rintro e w7 ⟨rfl, _, C7⟩
  have HB7 := Lib.hid (HB6.out.trans ((C7.more one_five).below HB6.out.size HG5.out))
  clear C7
  go_wp2_with fail
  go_ret
  exact ⟨rfl, HB7.out⟩
set_option maxRecDepth 100000

def nmK (i : Nat) : List UInt8 := [UInt8.ofNat (97 + i)]
theorem nmK_inj {i j : Nat} (hi : i < 100) (hj : j < 100) (e : nmK i = nmK j) : i = j := by
  have h1 : UInt8.ofNat (97 + i) = UInt8.ofNat (97 + j) := by unfold nmK at e; exact List.head_eq_of_cons_eq e
  have h2 := congrArg UInt8.toNat h1
  simp only [UInt8.toNat_ofNat'] at h2
  omega
theorem nmK_two (i : Nat) (a b : UInt8) (l : List UInt8) : a :: b :: l ≠ nmK i := by
  unfold nmK
  intro e
  have := congrArg List.length e
  simp at this
/-- Records under the names of the first k letters, and no others. -/
structure Nms (L : List (Rec11 × Nat)) (k : Nat) : Prop where
  rising : Rising L
  len : L.length = k
  only : ∀ nm, (oldE L nm).isSome = true → ∃ i, i < k ∧ nm = nmK i
  a_ : 0 < k → (oldE L [97]).isSome = true
theorem Nms.nil : Nms [] 0 := ⟨List.Pairwise.nil, rfl, fun nm h => (by cases h), fun h => absurd h (by omega)⟩
theorem Nms.put {L : List (Rec11 × Nat)} {k : Nat} (h : Nms L k) (hk : k < 100) (j : Nat) : Nms (putE L (Sto.newR ⟨L, false⟩ (nmK k) [], j)) (k + 1) := by
  have hr : Rising (Sto.l ⟨L, false⟩) := h.rising
  have hn : oldE L (nmK k) = none := by
    cases ho : oldE L (nmK k) with
    | none => rfl
    | some x =>
      obtain ⟨i, hi, e⟩ := h.only (nmK k) (by rw [ho]; rfl)
      have := nmK_inj (by omega) (by omega) e
      omega
  refine ⟨putE_rising _ h.rising, ?_, fun nm hm => ?_, fun _ => ?_⟩
  · have := told_len (t := ⟨L, false⟩) (nmK k) [] j hn
    rw [this]
    show L.length + 1 = k + 1
    rw [h.len]
  · rcases (told_isSome (t := ⟨L, false⟩) hr (nmK k) [] j nm).1 hm with e | e
    · exact ⟨k, by omega, e⟩
    · obtain ⟨i, hi, e2⟩ := h.only nm e
      exact ⟨i, by omega, e2⟩
  · refine (told_isSome (t := ⟨L, false⟩) hr (nmK k) [] j [97]).2 ?_
    by_cases e : k = 0
    · subst e; exact .inl rfl
    · exact .inr (h.a_ (by omega))
theorem Nms.key {L : List (Rec11 × Nat)} {k : Nat} (h : Nms L k) : oldE L [107, 101, 121] = none := by
  cases ho : oldE L [107, 101, 121] with
  | none => rfl
  | some x =>
    obtain ⟨i, _, e⟩ := h.only [107, 101, 121] (by rw [ho]; rfl)
    exact absurd e (nmK_two i _ _ _)
theorem get_of_none {L : List (Rec11 × Nat)} {nm : List UInt8} (h : oldE L nm = none) : Sto.get ⟨L, false⟩ nm = none := by
  unfold Sto.get
  rw [if_neg (by simp)]
  show (oldE L nm).map _ = none
  rw [h]; rfl
/-- One of the letters is dropped. -/
theorem nms_drop {w : World} {q p g b c : Nat} {s : Dsk} {R n m k : Nat} {L : List (Rec11 × Nat)} (h : ST w q p g b c s R n m ⟨L, false⟩) (hL : Live ⟨L, false⟩ s R n m) (hN : Nms L (k + 1)) {nb : ByteArray} (hnb : nb = ⟨#[97]⟩) :
    Calls Tryd.prog 11 #[.pointer (some ⟨q, 0, none⟩), .string nb] w fun e w' => ∃ s' L', e = .returned (.int .i64 0) ∧ ST w' q p g b c s' R n m ⟨L', false⟩ ∧ Live ⟨L', false⟩ s' R n m ∧ L'.length = k ∧ oldE L' [107, 101, 121] = none ∧ Chg (fourS q p g b) w w' := by
  refine (ldrop h [97] hnb).mono ?_
  rintro e w' ⟨rfl, S, C⟩
  rcases drop_live hL [97] with ⟨h0, _⟩ | ⟨x, s', hx, hp, hL'⟩
  · have := hN.a_ (by omega)
    have h0' : oldE L [97] = none := h0
    rw [h0'] at this
    cases this
  · rw [hp] at S ⊢
    refine ⟨s', _, rfl, S, hL', ?_, ?_, C⟩
    · have h1 := others_len hN.rising [97]
      rw [if_pos (hN.a_ (by omega)), hN.len] at h1
      have h2 : (others L [97]).length = k := by omega
      exact h2
    · have h1 : oldE (others L [97]) [107, 101, 121] = oldE L [107, 101, 121] := oldE_drop_other hN.rising (by decide)
      exact h1.trans hN.key
end Go.Proofs.YtndknifdajjalaaDoor
