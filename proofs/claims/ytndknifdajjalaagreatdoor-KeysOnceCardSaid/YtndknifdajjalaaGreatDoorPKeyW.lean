/- Keystores on stores that live; the example of the document's chapter 12. -/
import Derived.Deep.CutRange
import Derived.StillTailTactics
import Derived.Test.YtndknifdajjalaaGreatDoorPKeyP
import Derived.Test.YtndknifdajjalaaGreatDoorPFreeL
import Derived.Test.YtndknifdajjalaaGreatDoorPKeyQ
namespace Go.Proofs.YtndknifdajjalaaGreatDoor
open Go.RowKit
set_option maxRecDepth 100000

theorem built_keys (q : Nat) (nb : ByteArray) (v : List UInt8) (h : Int) (hv : v.length = 16) : Tryz.prog.built 81 [(0, .pointer (some ⟨q, 0, none⟩)), (1, .string nb), (2, .agg (u8A v)), (3, .int .i64 h)] = some ((Value.pointer (some ⟨q, 0, none⟩) :: Value.string nb :: (Lib.byteCells v ++ [Value.int .i64 h, Value.int .i64 0])).toArray) := by
  rcases v with _ | ⟨x0, v⟩
  · simp at hv
  rcases v with _ | ⟨x1, v⟩
  · simp at hv
  rcases v with _ | ⟨x2, v⟩
  · simp at hv
  rcases v with _ | ⟨x3, v⟩
  · simp at hv
  rcases v with _ | ⟨x4, v⟩
  · simp at hv
  rcases v with _ | ⟨x5, v⟩
  · simp at hv
  rcases v with _ | ⟨x6, v⟩
  · simp at hv
  rcases v with _ | ⟨x7, v⟩
  · simp at hv
  rcases v with _ | ⟨x8, v⟩
  · simp at hv
  rcases v with _ | ⟨x9, v⟩
  · simp at hv
  rcases v with _ | ⟨x10, v⟩
  · simp at hv
  rcases v with _ | ⟨x11, v⟩
  · simp at hv
  rcases v with _ | ⟨x12, v⟩
  · simp at hv
  rcases v with _ | ⟨x13, v⟩
  · simp at hv
  rcases v with _ | ⟨x14, v⟩
  · simp at hv
  rcases v with _ | ⟨x15, v⟩
  · simp at hv
  obtain rfl : v = [] := List.length_eq_zero_iff.1 (by simpa using hv)
  kernel_rfl
theorem wpList_build_keys {w : World} {ops : Array Oper} {rest : List Oper} {o : Oper} {a : Act} {Q : Exit → Act → World → Prop} (hgd : o.guard = none) (x0 x1 x2 x3 : Operand) (ho : o.op = .build 81 #[(0, x0), (1, x1), (2, x2), (3, x3)])
    (q : Nat) (nb : ByteArray) (sd : List UInt8) (h : Nat) (X : Array Value) (hX : u8A sd = X) (hv : sd.length = 16) (h0 : a.eval x0 = .pointer (some ⟨q, 0, none⟩)) (h1 : a.eval x1 = .string nb) (h2 : a.eval x2 = .agg X) (h3 : a.eval x3 = .int .i64 (h : Int))
    (KA : Array Value) (hKA : keysA q nb sd h 0 = KA)
    (hk : wpList Tryz.prog ops Q rest (a.put o.dst (.agg KA)) w) : wpList Tryz.prog ops Q (o :: rest) a w := by
  subst hX hKA
  have hb : Tryz.prog.built 81 ((#[(0, x0), (1, x1), (2, x2), (3, x3)] : Array (Nat × Operand)).map fun (i, x) => (i, a.eval x)).toList = some (keysA q nb sd h 0) := by
    simp only [List.map_toArray, List.map_cons, List.map_nil, h0, h1, h2, h3]
    exact built_keys q nb sd h hv
  refine wpList_build (P := Tryz.prog) hgd 81 _ ho (by rw [hb]; rfl) ?_
  rw [hb]
  exact hk
set_option maxHeartbeats 2000000 in
theorem popenk_any {w : World} {q p g b c : Nat} {s : Dsk} {R n m : Nat} {t : Sto} {name sd : List UInt8} {h : Nat} (hs : ST w q p g b c s R n m t) (hd : ShortIn t name) (hsd : sd.length = 16) (hh : h ≤ 4) (hnl : name.length ≤ 1000) {i : Int} (hi : i = (h : Int)) {nb : ByteArray} (hnb : nb = ⟨name.toArray⟩) :
    Calls Tryz.prog 8 #[.pointer (some ⟨q, 0, none⟩), .string nb, .agg (u8A sd), .int .i64 i] w fun e w' => ∃ k, e = .returned (.tuple #[.pointer (some ⟨k, 0, none⟩), .int .i64 0]) ∧ w.heap.size ≤ k ∧ KS w' k q ⟨name.toArray⟩ sd h (nextOf t name 0) ∧ Below w.heap.size w w' := by
  subst hi hnb
  obtain ⟨X, hX⟩ : ∃ x, u8A sd = x := ⟨_, rfl⟩
  have HEX := Lib.hid hX
  have HZX := Lib.hid (show X.size = 16 by rw [← hX, u8A_size]; exact hsd)
  rw [hX]
  clear hX
  have HS := Lib.hid hs
  have HD := Lib.hid hd
  have HSD := Lib.hid hsd
  have hn8 : (⟨name.toArray⟩ : ByteArray).size ≤ 281474976710656 := by show name.toArray.size ≤ _; simp; omega
  have HCL := Lib.hid (fun (W : World) => strClone_any ⟨name.toArray⟩ W hn8)
  obtain ⟨nb, hnb⟩ : ∃ nb, (⟨name.toArray⟩ : ByteArray) = nb := ⟨_, rfl⟩
  have HNB := Lib.hid hnb
  obtain ⟨KA, hKA⟩ : ∃ KA, keysA q nb sd h 0 = KA := ⟨_, rfl⟩
  have HKA := Lib.hid hKA
  rw [hnb] at HCL
  rw [hnb]
  clear hs hd hn8 hnl hnb hKA hsd
  go_enter Tryz.func8, Tryz.ntmps8
  go_upto_region 1 with fail
  have hB := Blk.new w X 23
  have hal : Below w.heap.size w (w.alloc (.cells X 23)) := (Below.refl _ _).alloc (Nat.le_refl _) _
  obtain ⟨g6, hg6⟩ : ∃ g, w.heap.size = g := ⟨_, rfl⟩
  have HG6 := Lib.hid (show w.heap.size ≤ g6 by omega)
  rw [hg6] at hB ⊢
  generalize w.alloc (.cells X 23) = w3 at *
  have HB6 := Lib.hid hB
  have HAL := Lib.hid hal
  clear hB hal hg6
  have hn0 : ¬ (h : Int) < 0 := by omega
  have hn4 : ¬ (4 : Int) < (h : Int) := by omega
  go_upto_region 3 with fail
  have HBX := Lib.hid (fun W (hW : Below w3.heap.size w3 W) => HB6.out.below hW HB6.out.lt)
  refine wp_region_loose 5 3 (fun i => false) (promises [.is (.pointer (some ⟨q, 0, none⟩)), .is (.string nb), .is (.string nb), .is (.agg X), .is (.int .i64 (h : Int))]) (by kernel_rfl) rfl (by kernel_rfl) (fun i v w w' h hb => Spec.keep h hb) ⟨?_, ?_, ?_, ?_, ?_, trivial⟩ ?_
  · refine StepOKl.of ?_
    intro ac w hb hu hk
    refine ⟨wanted_none rfl, ?_⟩
    have e1 : ac.eval (.tmp 0) = .pointer (some ⟨q, 0, none⟩) := hu.is (t := 0) (by kernel_rfl)
    exact step_value (BigFrame.run_move (.tmp 0) rfl w) (Below.refl _ _) e1
  · refine StepOKl.of ?_
    intro ac w hb hu hk
    refine ⟨wanted_none rfl, ?_⟩
    have e1 : ac.eval (.tmp 1) = .string nb := hu.is (t := 1) (by kernel_rfl)
    exact step_value (BigFrame.run_move (.tmp 1) rfl w) (Below.refl _ _) e1
  · refine StepOKl.of ?_
    intro ac w hb hu hk
    refine ⟨wanted_none rfl, ?_⟩
    have e18 : ac.eval (.tmp 18) = .string nb := (hk ⟨1, .data⟩ (by simp) rfl).is rfl rfl
    have ef : ac.eval (.func 30) = .func (.func 30) #[] #[] := rfl
    refine step_enter (f := 30) (args := #[.string nb]) ?_ ?_
    · generalize ac.eval = ρ at e18 ef ⊢
      go_simp
    · exact (HCL.out w).mono fun e w' ⟨he, hb⟩ => ⟨_, he, rfl, hb⟩
  · refine StepOKl.of ?_
    intro ac w hb hu hk
    refine ⟨wanted_none rfl, ?_⟩
    have e6 : ac.eval (.tmp 6) = .pointer (some ⟨g6, 0, none⟩) := hu.is (t := 6) (by kernel_rfl)
    exact wp_load_row 23 (.tmp 6) rfl g6 e6 23 X (0, 0) _ (HBX.out w hb) Tryz.underlying23 rfl (by rw [HZX.out]; kernel_rfl) ⟨_, rfl, rfl, Below.refl _ _⟩
  · refine StepOKl.of ?_
    intro ac w hb hu hk
    refine ⟨wanted_none rfl, ?_⟩
    have e1 : ac.eval (.tmp 3) = .int .i64 (h : Int) := hu.is (t := 3) (by kernel_rfl)
    exact step_value (BigFrame.run_move (.tmp 3) rfl w) (Below.refl _ _) e1
  · intro ac w' hb hu hk hap
    obtain ⟨_, h17, rfl⟩ := (hk 0 (by decide)).put rfl rfl
    obtain ⟨_, h18, rfl⟩ := (hk 1 (by decide)).put rfl rfl
    obtain ⟨_, h19, rfl⟩ := (hk 2 (by decide)).put rfl rfl
    obtain ⟨_, h20, rfl⟩ := (hk 3 (by decide)).put rfl rfl
    obtain ⟨_, h21, rfl⟩ := (hk 4 (by decide)).put rfl rfl
    clear hap
    have hF : AllPuts ac.tmps ((17, _) :: (18, _) :: (19, _) :: (20, _) :: (21, _) :: []) := ⟨h17, h18, h19, h20, h21, trivial⟩
    obtain rfl := frame_puts hu (by kernel_rfl) hF
    simp only [puts, Act.put, List.setIfInBounds_toArray, List.set_cons_zero, List.set_cons_succ, List.drop_succ_cons, List.drop_zero]
    clear hk hu hF h17 h18 h19 h20 h21
    have hbw := HAL.out.trans (hb.mono HAL.out.size)
    have HBW := Lib.hid hbw
    clear hb hbw HBX HB6 HCL HAL
    go_wp2_with (with_reducible refine wpList_build_keys rfl (.tmp 17) (.tmp 19) (.tmp 20) (.tmp 21) rfl q nb sd h X HEX.out HSD.out rfl rfl rfl rfl KA HKA.out ?_)
    have hal := (Below.refl w'.heap.size w').alloc (Nat.le_refl _) (.cells KA 81)
    have hKB : KS (w'.alloc (.cells KA 81)) w'.heap.size q ⟨name.toArray⟩ sd h 0 := ⟨by rw [HNB.out, HKA.out]; exact Blk.new w' _ _, HSD.out, hh⟩
    have hba := HBW.out.trans (hal.mono HBW.out.size)
    with_reducible refine (pcatch_any hKB (HS.out.below hba) HD.out).mono ?_
    rintro e w5 ⟨rfl, K5, C5⟩
    have HK5 := Lib.hid K5
    have HB5 := Lib.hid (hba.trans (C5.below hba.size (fun j hj => by rw [hj]; exact HBW.out.size)))
    have HLE := Lib.hid HBW.out.size
    clear K5 C5 hba hKB hal
    go_wp2_with fail
    go_ret2
    exact ⟨_, rfl, HLE.out, HNB.out ▸ HK5.out, HB5.out⟩
set_option maxRecDepth 100000

/-- A store that lives, on a disk that has no Stop ahead. -/
def MadePost (w : World) (R n c : Nat) (e : Ending) (w' : World) : Prop :=
  ∃ q p g b, e = .returned (.pointer (some ⟨q, 0, none⟩)) ∧ (∀ j, fourS q p g b j → w.heap.size ≤ j) ∧ ST w' q p g b c (newD (n * (R + 1))) R n 0 ⟨[], false⟩ ∧ Live ⟨[], false⟩ (newD (n * (R + 1))) R n 0 ∧ Below w.heap.size w w'
set_option maxHeartbeats 1000000 in
theorem pmade_any (w : World) : Calls Tryz.prog 40 #[] w (MadePost w 3 4 16) := by
  go_enter Tryz.func40, Tryz.ntmps40
  go_wp2_with fail
  with_reducible refine (pnew_at 16 16 rfl w (by omega) (by omega)).mono ?_
  rintro e w1 ⟨p, rfl, hp, g, hg, D1, hb1⟩
  have HD1 := Lib.hid (show DP w1 p g (4 * (3 + 1)) 16 (newD (4 * (3 + 1))) from D1)
  clear D1
  go_wp2_with fail
  with_reducible refine (open_re HD1.out (by omega) (by omega) (new_re 3 4) rfl (i := 4) (j := 3) rfl rfl).mono ?_
  rintro e w2 ⟨q, b, rfl, hq, hb, S2, L2, C2⟩
  rw [new_same] at S2 L2
  have HS2 := Lib.hid S2
  have HL2 := Lib.hid L2
  have HB2 := Lib.hid (hb1.trans (C2.below hb1.size (two_ge hp hg)))
  have HGE := Lib.hid (fourS_ge (Nat.le_trans hb1.size hq) hp hg (Nat.le_trans hb1.size hb))
  clear S2 L2 C2 HD1 hb1 hq hb hp hg
  go_wp2_with fail
  go_ret
  exact ⟨q, p, g, b, rfl, HGE.out, HS2.out, HL2.out, HB2.out⟩
theorem short_none {t : Sto} {name : List UInt8} (h : t.get name = none) : ShortIn t name := fun d hd => by rw [h] at hd; cases hd
theorem short_four {t : Sto} {name : List UInt8} {x : Nat} (h : t.get name = some (putL x 4)) : ShortIn t name := fun d hd => by
  rw [h] at hd
  rw [← Option.some.inj hd, putL_length]
  omega
theorem next_none {t : Sto} {name : List UInt8} (h : t.get name = none) (nx : Nat) : nextOf t name nx = nx := by
  unfold nextOf
  rw [h, numOf_none]
  omega
theorem next_four {t : Sto} {name : List UInt8} {x : Nat} (hx : x < 4294967296) (h : t.get name = some (putL x 4)) (nx : Nat) : nextOf t name nx = max nx x := by
  unfold nextOf
  rw [h, numOf_put hx]
/-- A Sign where there is room, and no Stop is ahead. -/
def LivePost (w : World) (k q p g b c R n m : Nat) (name sd msg : List UInt8) (h X : Nat) (t : Sto) (e : Ending) (w' : World) : Prop :=
  ∃ s' j V cv P cp, e = .returned (.tuple #[.agg (sigA (h : Int) (X : Int) V P 67 cv (proofV (pubsL sd (2 ^ h)) X).length cp), .int .i64 0]) ∧
    OwnH w' w.heap.size (.slice V 67 cv) (atL (signF sd (X : Int) (digH (msgH msg))) 67) ∧ OwnH w' w.heap.size (.slice P (proofV (pubsL sd (2 ^ h)) X).length cp) (proofV (pubsL sd (2 ^ h)) X) ∧
    KS w' k q ⟨name.toArray⟩ sd h (X + 1) ∧ ST w' q p g b c s' R n (m + 1) ⟨putE t.l (t.newR name (putL (X + 1) 4), j), false⟩ ∧ Live ⟨putE t.l (t.newR name (putL (X + 1) 4), j), false⟩ s' R n (m + 1) ∧ Chg (fiveS k q p g b) w w'
theorem ksign_live {w : World} {k q p g b c : Nat} {s : Dsk} {R n m : Nat} {t : Sto} {name sd : List UInt8} {h nx X : Nat} (H : KS w k q ⟨name.toArray⟩ sd h nx) (hs : ST w q p g b c s R n m t) (hL : Live t s R n m) (hd : ShortIn t name) (hX : nextOf t name nx = X) (hz : X < 2 ^ h) (hm : m + 1 < 4294967296) (hnl : name.length ≤ 900) (ap : Apart5 k q p g b) (hf : name.length + 23 ≤ R * 32) (hroom : t.l.length < n)
    (B : Option Addr) (nb cb : Nat) (msg : List UInt8) (hl : msg.length = nb) (h1 : nb ≤ 1000) (hc : nb ≤ cb) (hcm : cb ≤ maxLen) (hrm : ∀ W, Chg (fiveS k q p g b) w W → Rd W W.heap.size B msg) (htab : ∀ W, Chg (fiveS k q p g b) w W → Pow10 W.heap.size W) :
    Calls Tryz.prog 10 #[.pointer (some ⟨k, 0, none⟩), .slice B nb cb] w (LivePost w k q p g b c R n m name sd msg h X t) := by
  have hfit := fits_small (R := R) (name := name) (data := putL (X + 1) 4) (by omega) (by rw [putL_length]; omega) (by rw [putL_length]; omega)
  refine (psignk_put H hs hd hX hz hm hnl ap B nb cb msg hl h1 hc hcm hrm htab).mono ?_
  intro e w' hp
  unfold SignPost at hp
  rcases put_live hL hm hfit with ⟨h0, _⟩ | ⟨_, s', j, hj, hpt, hL'⟩
  · omega
  · rw [hpt] at hp
    obtain ⟨S, C, ⟨h0, _⟩ | ⟨_, K, V, cv, P, cp, he, h2, h3⟩⟩ := hp
    · exact absurd rfl h0
    · exact ⟨s', j, V, cv, P, cp, he, h2, h3, K, S, hL', C⟩
theorem tab_five {w0 w : World} {k q p g b : Nat} (ht : Pow10 w0.heap.size w0) (hb : Below w0.heap.size w0 w) (h5 : ∀ j, fiveS k q p g b j → w0.heap.size ≤ j) : ∀ W, Chg (fiveS k q p g b) w W → Pow10 W.heap.size W := fun W hc => by
  have hb' := hb.trans (hc.below hb.size h5)
  exact tab_on ht hb' hb'.size
theorem rd_five {w : World} {k q p g b j : Nat} {T : TypeId} {l : List UInt8} (h : Blk w j (u8A l) T) (h5 : ¬ fiveS k q p g b j) : ∀ W, Chg (fiveS k q p g b) w W → Rd W W.heap.size (some ⟨j, 0, none⟩) l := fun _ hc => Rd.of_blk (hc.blk h h5)
theorem not_five {k q p g b j : Nat} (h0 : j ≠ k) (h4 : ∀ i, fourS q p g b i → i < j) : ¬ fiveS k q p g b j := fun h => by
  rcases h with h | h
  · exact h0 h
  · have := h4 j h; omega
set_option maxHeartbeats 4000000 in
theorem wakes12_any (w : World) (htab : Pow10 w.heap.size w) : Calls Tryz.prog 14 #[] w fun e w' => e = .returned (.bool true) ∧ Below w.heap.size w w' := by
  obtain ⟨Z, hZ⟩ : ∃ x, u8A zeroK = x := ⟨_, rfl⟩
  have HZ := Lib.hid hZ
  have HT := Lib.hid htab
  clear hZ htab
  go_enter Tryz.func14, Tryz.ntmps14
  go_wp2_with fail
  with_reducible refine (pmade_any w).mono ?_
  rintro e w1 ⟨q, p, g, b, rfl, hge, S1, L1, hb1⟩
  have HS1 := Lib.hid S1
  have HL1 := Lib.hid L1
  have HB1 := Lib.hid hb1
  have HGE := Lib.hid hge
  have H4 := Lib.hid S1.four_lt
  clear S1 L1 hb1 hge
  have hg1 : Sto.get ⟨[], false⟩ [107] = none := rfl
  have HO := Lib.hid (popenk_any (name := [107]) (sd := zeroK) (h := 0) HS1.out (short_none hg1) rfl (by omega) (by simp) (i := 0) rfl (nb := ⟨#[107]⟩) rfl)
  rw [HZ.out, next_none hg1] at HO
  go_wp2_with (with_reducible refine wpList_build_key9 rfl rfl Z HZ.out ?_)
  with_reducible refine HO.out.mono ?_
  rintro e w2 ⟨k, rfl, hk, K2, hb2⟩
  have HK2 := Lib.hid K2
  have HS2 := Lib.hid (HS1.out.below hb2)
  have HB2 := Lib.hid (HB1.out.trans (hb2.mono HB1.out.size))
  have HAP := Lib.hid (Apart5.of_lt (k := k) fun j hj => Nat.lt_of_lt_of_le (H4.out j hj) hk)
  have HG5 := Lib.hid (fiveS_ge (Nat.le_trans HB1.out.size hk) HGE.out)
  clear K2 hb2 HO HS1 HB1 H4 hk
  go_wp2_with fail
  have hal := (Below.refl w2.heap.size w2).alloc (Nat.le_refl _) (.cells #[.int .u8 1] 5)
  have hN5 : ¬ fiveS k q p g b w2.heap.size := not_five (fun e => by have := HK2.out.lt; omega) HS2.out.four_lt
  have hba := HB2.out.trans (hal.mono HB2.out.size)
  with_reducible refine (ksign_live (X := 0) (HK2.out.below hal) (HS2.out.below hal) HL1.out (short_none hg1) (next_none hg1 0) (by omega) (by omega) (by simp) HAP.out (by simp) (by simp) (some ⟨w2.heap.size, 0, none⟩) 1 1 [1] rfl (by omega) (by omega) (by unfold maxLen; omega) (rd_five (l := [1]) (Blk.new w2 _ 5) hN5) (tab_five HT.out hba HG5.out)).mono ?_
  rintro e w3 ⟨s3, j3, V, cv, P, cp, rfl, _, _, K3, S3, L3, C3⟩
  have HK3 := Lib.hid K3
  have HS3 := Lib.hid S3
  have HB3 := Lib.hid (hba.trans (C3.below hba.size HG5.out))
  have HG3 := Lib.hid (get_new HL1.out [107] (putL (0 + 1) 4) j3)
  obtain ⟨SG, hSG⟩ : ∃ x, sigA ((0 : Nat) : Int) ((0 : Nat) : Int) V P 67 cv (proofV (pubsL zeroK (2 ^ 0)) 0).length cp = x := ⟨_, rfl⟩
  have HZS := Lib.hid (show SG.size = 4 by rw [← hSG]; rfl)
  have HOS := Lib.hid (show SG.all (·.oneCell') = true by rw [← hSG]; exact sigA_one _ _ _ _ _ _ _ _)
  rw [hSG]
  clear K3 S3 L3 C3 hSG hal hN5 hba HS2 HB2 HK2
  go_upto_region 8 with (with_reducible refine wpList_store_blk rfl 39 (.tmp 4) (.tmp 27) rfl w3.heap.size SG rfl rfl 39 _ (Blk.new _ _ _) (by rw [HZS.out]; kernel_rfl) (by rw [HZS.out]; kernel_rfl) HOS.out ?_)
  generalize hwn : World.setRow _ _ _ = w4
  have hal4 : Below w3.heap.size w3 w4 := by
    rw [← hwn]
    exact below_row ((Below.refl _ _).alloc (Nat.le_refl _) _) (by simp) (Nat.le_refl _) _
  have HK4 := Lib.hid (HK3.out.below hal4)
  have HS4 := Lib.hid (HS3.out.below hal4)
  have HB4 := Lib.hid (HB3.out.trans (hal4.mono HB3.out.size))
  obtain ⟨g4, hgn⟩ : ∃ g, w3.heap.size = g := ⟨_, rfl⟩
  rw [hgn]
  clear hal4 hwn hgn HK3 HS3 HB3 HZS HOS
  go_wp2_with fail
  have hal := (Below.refl w4.heap.size w4).alloc (Nat.le_refl _) (.cells #[.int .u8 2] 5)
  have hba := HB4.out.trans (hal.mono HB4.out.size)
  have hnx := next_four (x := 0 + 1) (by omega) HG3.out (0 + 1)
  rw [show max (0 + 1) (0 + 1) = 1 from rfl] at hnx
  have HN := Lib.hid (psignk_none (HK4.out.below hal) (HS4.out.below hal) (short_four HG3.out) (by rw [hnx]; omega) (by rw [hnx]; exact Nat.le_refl 1) (some ⟨w4.heap.size, 0, none⟩) 1 1)
  rw [hnx] at HN
  with_reducible refine HN.out.mono ?_
  rintro e w5 ⟨rfl, K5, C5⟩
  have HK5 := Lib.hid K5
  have HS5 := Lib.hid ((HS4.out.below hal).apart5 C5 HAP.out)
  have HB5 := Lib.hid (hba.trans ((C5.more one_five).below hba.size HG5.out))
  clear K5 C5 hal hba HS4 HK4 HB4 HN hnx
  obtain ⟨SZ, hSZ⟩ : ∃ x, sig0 = x := ⟨_, rfl⟩
  have HZS := Lib.hid (show SZ.size = 4 by rw [← hSZ]; rfl)
  have HOS := Lib.hid (show SZ.all (·.oneCell') = true by rw [← hSZ]; exact sigA_one _ _ _ _ _ _ _ _)
  rw [hSZ]
  clear hSZ
  go_upto_region 9 with (with_reducible refine wpList_store_blk rfl 39 (.tmp 6) (.tmp 33) rfl w5.heap.size SZ rfl rfl 39 _ (Blk.new _ _ _) (by rw [HZS.out]; kernel_rfl) (by rw [HZS.out]; kernel_rfl) HOS.out ?_)
  generalize hwn : World.setRow _ _ _ = w6
  have hal6 : Below w5.heap.size w5 w6 := by
    rw [← hwn]
    exact below_row ((Below.refl _ _).alloc (Nat.le_refl _) _) (by simp) (Nat.le_refl _) _
  have HK6 := Lib.hid (HK5.out.below hal6)
  have HS6 := Lib.hid (HS5.out.below hal6)
  have HB6 := Lib.hid (HB5.out.trans (hal6.mono HB5.out.size))
  obtain ⟨g6, hgn⟩ : ∃ g, w5.heap.size = g := ⟨_, rfl⟩
  rw [hgn]
  clear hal6 hwn hgn HK5 HS5 HB5 HZS HOS
  have hnx := next_four (x := 0 + 1) (by omega) HG3.out 1
  rw [show max 1 (0 + 1) = 1 from rfl] at hnx
  have HL := Lib.hid (pleft_any HK6.out HS6.out (short_four HG3.out) (by rw [hnx]; omega))
  rw [hnx, show 2 ^ 0 - 1 = 0 from rfl] at HL
  go_wp2_with fail
  with_reducible refine HL.out.mono ?_
  rintro e w7 ⟨rfl, _, C7⟩
  have HB7 := Lib.hid (HB6.out.trans ((C7.more one_five).below HB6.out.size HG5.out))
  clear C7
  go_wp2_with fail
  go_ret
  exact ⟨rfl, HB7.out⟩
end Go.Proofs.YtndknifdajjalaaGreatDoor
