/- ShaShort: a short hash is a tagged one's beginning; what stands in two rows is not what stands in one, nor in three. For all tags and rows. -/
import Derived.Test.YtdjnaeifmeffoaaDoorLaw
import Derived.Test.YtdjnaeifmeffoaaDoorOpen
import Derived.Test.YtdjnaeifmeffoaaDoorKeep
import Derived.Test.YtdjnaeifmeffoaaDoorSame
import Derived.Test.YtdjnaeifmeffoaaDoorTakeL
import Derived.Test.YtdjnaeifmeffoaaDoorShort
import Derived.Test.YtdjnaeifmeffoaaDoorHashEq
import Derived.Test.YtdjnaeifmeffoaaDoorFree
import Derived.Deep.MidRow
import Derived.Deep.QuietTactic
namespace Go.Proofs.YtdjnaeifmeffoaaDoor.shaShort
open Go.ChangeShapes Go.WideShapes Go.ChangeAt Go.RowKit Go.ChangeMaps

theorem two_new {W w w3 : World} {z1 z2 c1 : Array Value} {T1 T2 : TypeId} (h : ((w.alloc (.cells z1 T1)).alloc (.cells z2 T2)).setRow w.heap.size c1 = w3) (hb : Below W.heap.size W w) : Blk w3 w.heap.size c1 T1 ∧ Blk w3 (w.heap.size + 1) z2 T2 ∧ Below W.heap.size W w3 := by
  subst h
  have h2 : Blk ((w.alloc (.cells z1 T1)).alloc (.cells z2 T2)) (w.heap.size + 1) z2 T2 := by
    have := Blk.new (w.alloc (.cells z1 T1)) z2 T2
    rwa [World.size_alloc] at this
  refine ⟨Blk.row ((Blk.new w z1 T1).alloc _) _, h2.rowOther (by omega) _, below_row ((hb.alloc hb.size _).alloc (by have := hb.size; simp; omega) _) (by have := hb.size; simp; omega) hb.size _⟩
theorem row_two {W w3 w4 : World} {a b : Nat} {c1 z2 c2 : Array Value} {T1 T2 : TypeId} (h : w3.setRow b c2 = w4) (h1 : Blk w3 a c1 T1) (h2 : Blk w3 b z2 T2) (hne : b ≠ a) (hb : Below W.heap.size W w3) (hWb : W.heap.size ≤ b) : Blk w4 a c1 T1 ∧ Blk w4 b c2 T2 ∧ Below W.heap.size W w4 := by
  subst h
  exact ⟨h1.rowOther hne _, h2.row _, below_row hb hb.size hWb _⟩

/-- A block of bytes, from its beginning, reads as them. -/
theorem rd_blk {W : World} {g k : Nat} {cs : Array Value} {T : TypeId} {l r : List UInt8} (h : Blk W g cs T) (hc : cs = (Lib.byteCells l).toArray) (hr : r = l.take k) : Rd W W.heap.size (some ⟨g, 0, none⟩) r := by
  subst hc hr
  refine .inr ⟨g, 0, rfl, h.lt, fun i hi => ?_⟩
  have hi2 : i < l.length := by rw [List.length_take] at hi; omega
  have h1 := h.cell (0 + i)
  rw [h1]
  simp [Lib.byteCells, hi2]

/-- Rows by their cells. -/
theorem rdr_one {W : World} {G : Nat} {A : Option Addr} {n c : Nat} {l : List UInt8} (hn : l.length = n) (hc : n ≤ c) (hm : c ≤ maxLen) (hG : G < W.heap.size) (h0 : W.cell? ⟨G, 0, none⟩ = some (.slice A n c)) (hr : Rd W W.heap.size A l) : RdR W W.heap.size (some ⟨G, 0, none⟩) [l] := by
  subst hn
  refine .inr ⟨G, 0, rfl, hG, fun i hi => ?_⟩
  obtain rfl : i = 0 := by simpa using hi
  exact ⟨A, c, h0, hc, hm, hr⟩
theorem rdr_two {W : World} {G : Nat} {A B : Option Addr} {n c m d : Nat} {l k : List UInt8} (hn : l.length = n) (hc : n ≤ c) (hm : c ≤ maxLen) (hn2 : k.length = m) (hc2 : m ≤ d) (hm2 : d ≤ maxLen) (hG : G < W.heap.size)
    (h0 : W.cell? ⟨G, 0, none⟩ = some (.slice A n c)) (h1 : W.cell? ⟨G, 1, none⟩ = some (.slice B m d)) (hr : Rd W W.heap.size A l) (hr2 : Rd W W.heap.size B k) : RdR W W.heap.size (some ⟨G, 0, none⟩) [l, k] := by
  subst hn hn2
  refine .inr ⟨G, 0, rfl, hG, fun i hi => ?_⟩
  rcases i with _ | _ | i
  · exact ⟨A, c, h0, hc, hm, hr⟩
  · exact ⟨B, d, h1, hc2, hm2, hr2⟩
  · simp at hi; omega
theorem rdr_three {W : World} {G : Nat} {A B : Option Addr} {n c m d : Nat} {l k : List UInt8} (hn : l.length = n) (hc : n ≤ c) (hm : c ≤ maxLen) (hn2 : k.length = m) (hc2 : m ≤ d) (hm2 : d ≤ maxLen) (hG : G < W.heap.size)
    (h0 : W.cell? ⟨G, 0, none⟩ = some (.slice A n c)) (h1 : W.cell? ⟨G, 1, none⟩ = some (.slice B m d)) (h2 : W.cell? ⟨G, 2, none⟩ = some (.slice none 0 0)) (hr : Rd W W.heap.size A l) (hr2 : Rd W W.heap.size B k) : RdR W W.heap.size (some ⟨G, 0, none⟩) [l, k, []] := by
  subst hn hn2
  refine .inr ⟨G, 0, rfl, hG, fun i hi => ?_⟩
  rcases i with _ | _ | _ | i
  · exact ⟨A, c, h0, hc, hm, hr⟩
  · exact ⟨B, d, h1, hc2, hm2, hr2⟩
  · exact ⟨none, 0, h2, Nat.le_refl _, Nat.zero_le _, .inl rfl⟩
  · simp at hi; omega

theorem rdr_new1 (w : World) (A : Option Addr) {n c : Nat} {l : List UInt8} (hn : l.length = n) (hc : n ≤ c) (hm : c ≤ maxLen) (hr : Rd w w.heap.size A l) : RdR (w.alloc (.cells #[.slice A n c] 22)) (w.alloc (.cells #[.slice A n c] 22)).heap.size (some ⟨w.heap.size, 0, none⟩) [l] :=
  rdr_one hn hc hm (by simp) ((Blk.new w _ _).cell 0) (hr.on ((Below.refl _ _).alloc (Nat.le_refl _) _))
theorem rdr_new2 (w : World) (A B : Option Addr) {n c m d : Nat} {l k : List UInt8} (hn : l.length = n) (hc : n ≤ c) (hm : c ≤ maxLen) (hn2 : k.length = m) (hc2 : m ≤ d) (hm2 : d ≤ maxLen) (hr : Rd w w.heap.size A l) (hr2 : Rd w w.heap.size B k) : RdR (w.alloc (.cells #[.slice A n c, .slice B m d] 22)) (w.alloc (.cells #[.slice A n c, .slice B m d] 22)).heap.size (some ⟨w.heap.size, 0, none⟩) [l, k] :=
  rdr_two hn hc hm hn2 hc2 hm2 (by simp) ((Blk.new w _ _).cell 0) ((Blk.new w _ _).cell 1) (hr.on ((Below.refl _ _).alloc (Nat.le_refl _) _)) (hr2.on ((Below.refl _ _).alloc (Nat.le_refl _) _))
theorem rdr_new3 (w : World) (A B : Option Addr) {n c m d : Nat} {l k : List UInt8} (hn : l.length = n) (hc : n ≤ c) (hm : c ≤ maxLen) (hn2 : k.length = m) (hc2 : m ≤ d) (hm2 : d ≤ maxLen) (hr : Rd w w.heap.size A l) (hr2 : Rd w w.heap.size B k) : RdR (w.alloc (.cells #[.slice A n c, .slice B m d, .slice none 0 0] 22)) (w.alloc (.cells #[.slice A n c, .slice B m d, .slice none 0 0] 22)).heap.size (some ⟨w.heap.size, 0, none⟩) [l, k, []] :=
  rdr_three hn hc hm hn2 hc2 hm2 (by simp) ((Blk.new w _ _).cell 0) ((Blk.new w _ _).cell 1) ((Blk.new w _ _).cell 2) (hr.on ((Below.refl _ _).alloc (Nat.le_refl _) _)) (hr2.on ((Below.refl _ _).alloc (Nat.le_refl _) _))

/-- The texts differ where the rows do. -/
theorem apart {ta : List UInt8} {L M : List (List UInt8)} (ha : ta.length ≤ 1000) (hL : ∀ r ∈ L, r.length ≤ 1000) (hM : ∀ r ∈ M, r.length ≤ 1000) (hne : L.length ≠ M.length) : decide (netsL (ta :: L) = netsL (ta :: M)) = false := by
  refine decide_eq_false fun h => hne ?_
  have := netsL_inj (a := ta :: L) (b := ta :: M) (by
    intro r hr
    rcases List.mem_cons.1 hr with rfl | hr
    · exact ha
    · exact hL r hr) (by
    intro r hr
    rcases List.mem_cons.1 hr with rfl | hr
    · exact ha
    · exact hM r hr) h
  injection this with h1 h2
  rw [h2]

set_option maxRecDepth 100000 in
set_option maxHeartbeats 8000000 in
theorem walk (ta : List UInt8) (A B : Option Addr) (n m c d : Nat) (al bl : List UInt8) (w : World) (hta : ta.length ≤ maxLen) (hal : al.length = n) (hbl : bl.length = m) (hc : n ≤ c) (hd : m ≤ d) (hcm : c ≤ maxLen) (hdm : d ≤ maxLen) (ha : Rd w w.heap.size A al) (hb : Rd w w.heap.size B bl) (htab : Pow10 w.heap.size w) :
    Calls Tryd.prog 3 #[.string ⟨ta.toArray⟩, .slice A n c, .slice B m d] w fun e w' => e = .returned (.bool true) ∧ Below w.heap.size w w' := by
  have htb := hta
  unfold maxLen at htb
  obtain ⟨sA, hsA⟩ : ∃ s, (⟨ta.toArray⟩ : ByteArray) = s := ⟨_, rfl⟩
  have hzA : sA.size = ta.length := by rw [← hsA]; rfl
  obtain ⟨na, hna⟩ : ∃ k, ta.length = k := ⟨_, rfl⟩
  rw [hna] at hzA hta htb
  by_cases hsmall : na ≤ 40
  · have HTX := Lib.hid (fun (A : Option Addr) (n c : Nat) (L : List (List UInt8)) (W : World) (hn : L.length = n) (h1 : n ≤ 100) (h2 : ∀ r ∈ L, r.length ≤ 1000) hr ht => text_any ta A n c L W (by omega) hn h1 h2 hr ht)
    have HTG := Lib.hid (fun (A : Option Addr) (n c : Nat) (L : List (List UInt8)) (W : World) (hn : L.length = n) (h1 : n ≤ 100) (h2 : ∀ r ∈ L, r.length ≤ 1000) hr ht => tagged_any ta A n c L W (by omega) hn h1 h2 hr ht)
    have HTS := Lib.hid (fun (A : Option Addr) (n c : Nat) (L : List (List UInt8)) (W : World) (hn : L.length = n) (h1 : n ≤ 100) (h2 : ∀ r ∈ L, r.length ≤ 1000) hr ht => short_any ta A n c L W (by omega) hn h1 h2 hr ht)
    rw [hsA] at HTX HTG HTS ⊢
    have HACUT := Lib.hid (fun W => cut_any A n c 60 W hc)
    have HBCUT := Lib.hid (fun W => cut_any B m d 60 W hd)
    have hka : (al.take 60).length = min n 60 := by rw [List.length_take, hal, Nat.min_comm]
    have hkb : (bl.take 60).length = min m 60 := by rw [List.length_take, hbl, Nat.min_comm]
    have h1 : min n 60 ≤ 60 := Nat.min_le_right _ _
    have h2 : min m 60 ≤ 60 := Nat.min_le_right _ _
    have hca : min n 60 ≤ c := Nat.le_trans (Nat.min_le_left _ _) hc
    have hcb : min m 60 ≤ d := Nat.le_trans (Nat.min_le_left _ _) hd
    have har := ha.take 60
    have hbr := hb.take 60
    generalize al.take 60 = a at *
    generalize bl.take 60 = b at *
    generalize min n 60 = p at *
    generalize min m 60 = q at *
    have HRL := Lib.hid (show ∀ r ∈ [a, b], r.length ≤ 1000 by
      intro r hr
      simp only [List.mem_cons, List.not_mem_nil, or_false] at hr
      rcases hr with rfl | rfl <;> omega)
    have HRM := Lib.hid (show ∀ r ∈ [a ++ b], r.length ≤ 1000 by
      intro r hr
      simp only [List.mem_cons, List.not_mem_nil, or_false] at hr
      subst hr; rw [List.length_append]; omega)
    have HRN := Lib.hid (show ∀ r ∈ [a, b, []], r.length ≤ 1000 by
      intro r hr
      simp only [List.mem_cons, List.not_mem_nil, or_false] at hr
      rcases hr with rfl | rfl | rfl <;> first | omega | simp)
    have HN1 := Lib.hid (apart (ta := ta) (by omega) HRL.out HRM.out (by simp))
    have HN2 := Lib.hid (apart (ta := ta) (by omega) HRL.out HRN.out (by simp))
    have hxs := nets_short (ta :: [a, b]) (by simp) (by
      intro r hr
      rcases List.mem_cons.1 hr with rfl | hr
      · omega
      · exact HRL.out r hr)
    have HTX1 := Lib.hid (fun (G : Nat) (W : World) hr ht => HTX.out (some ⟨G, 0, none⟩) 2 2 [a, b] W rfl (by omega) HRL.out hr ht)
    have HTX2 := Lib.hid (fun (G : Nat) (W : World) hr ht => HTX.out (some ⟨G, 0, none⟩) 1 1 [a ++ b] W rfl (by omega) HRM.out hr ht)
    have HTX3 := Lib.hid (fun (G : Nat) (W : World) hr ht => HTX.out (some ⟨G, 0, none⟩) 3 3 [a, b, []] W rfl (by omega) HRN.out hr ht)
    have HTG1 := Lib.hid (fun (G : Nat) (W : World) hr ht => HTG.out (some ⟨G, 0, none⟩) 2 2 [a, b] W rfl (by omega) HRL.out hr ht)
    have HTS1 := Lib.hid (fun (G : Nat) (W : World) hr ht => HTS.out (some ⟨G, 0, none⟩) 2 2 [a, b] W rfl (by omega) HRL.out hr ht)
    have HR2 := Lib.hid (fun (G : Nat) (W : World) (hG : G < W.heap.size) h0 h1 hr hr2 => rdr_two (W := W) (G := G) (A := A) (B := B) (l := a) (k := b) hka hca hcm hkb hcb hdm hG h0 h1 hr hr2)
    have HR3 := Lib.hid (fun (G : Nat) (W : World) (hG : G < W.heap.size) h0 h1 h2 hr hr2 => rdr_three (W := W) (G := G) (A := A) (B := B) (l := a) (k := b) hka hca hcm hkb hcb hdm hG h0 h1 h2 hr hr2)
    obtain ⟨x, hxe⟩ : ∃ x, netsL (ta :: [a, b]) = x := ⟨_, rfl⟩
    obtain ⟨y, hye⟩ : ∃ x, netsL (ta :: [a ++ b]) = x := ⟨_, rfl⟩
    obtain ⟨z, hze⟩ : ∃ x, netsL (ta :: [a, b, []]) = x := ⟨_, rfl⟩
    rw [hxe] at HTX1 HTG1 HTS1 HN1 HN2 hxs
    rw [hye] at HTX2 HN1
    rw [hze] at HTX3 HN2
    obtain ⟨xn, hxn⟩ : ∃ k, x.length = k := ⟨_, rfl⟩
    obtain ⟨yn, hyn⟩ : ∃ k, y.length = k := ⟨_, rfl⟩
    obtain ⟨zn, hzn⟩ : ∃ k, z.length = k := ⟨_, rfl⟩
    rw [hxn] at HTX1 hxs
    rw [hyn] at HTX2
    rw [hzn] at HTX3
    have HXN := Lib.hid hxn
    have HYN := Lib.hid hyn
    have HZN := Lib.hid hzn
    have HAL := Lib.hid hka
    have HBL := Lib.hid hkb
    have HAR := Lib.hid har
    have HBR := Lib.hid hbr
    have HT := Lib.hid htab
    have hsz : sA.size ≤ 40 := by omega
    obtain ⟨i0, hi, hz0, hz1, hz2⟩ := info_parts info5
    clear hsA hna hzA htab ha hb har hbr hka hkb hal hbl hxe hye hze hxn hyn hzn HTX HTG HTS HRL HRM HRN hta
    go_enter Tryd.func3, Tryd.ntmps3
    go_wp2_with fail
    refine (HACUT.out _).mono ?_
    rintro e w' ⟨rfl, rfl⟩
    go_wp2_with fail
    refine (HBCUT.out _).mono ?_
    rintro e w' ⟨rfl, rfl⟩
    clear HACUT HBCUT
    go_wp2_with fail
    have HTab := Lib.hid (fun (W : World) (hb : Below w.heap.size w W) => tab_on HT.out hb hb.size)
    have HRow2 := Lib.hid (fun (W : World) (hb : Below w.heap.size w W) => HR2.out W.heap.size (W.alloc (.cells #[.slice A p c, .slice B q d] 22)) (by simp) ((Blk.new W #[.slice A p c, .slice B q d] 22).cell 0) ((Blk.new W #[.slice A p c, .slice B q d] 22).cell 1) (HAR.out.on (hb.alloc hb.size _)) (HBR.out.on (hb.alloc hb.size _)))
    have hb0 : Below w.heap.size w w := Below.refl _ _
    refine (HTS1.out _ _ (HRow2.out _ hb0) (HTab.out _ (hb0.alloc hb0.size _))).mono ?_
    rintro e w1 ⟨rfl, hb1⟩
    have hbel1 := (hb0.alloc hb0.size (.cells #[.slice A p c, .slice B q d] 22)).trans (hb1.mono (by simp))
    have heq := fun W => run_hash_same W x
    have hkz : (u8A ((shaL x).take 16)).size = 16 := by rw [u8A_size, List.length_take, shaL_len]; rfl
    have hko := u8A_one ((shaL x).take 16)
    have hfz : (u8A (shaL x)).size = 32 := by rw [u8A_size, shaL_len]
    have hfo := u8A_one (shaL x)
    have hkd : u8A ((shaL x).take 16) = (Lib.byteCells ((shaL x).take 16)).toArray := rfl
    have hfd : u8A (shaL x) = (Lib.byteCells (shaL x)).toArray := rfl
    obtain ⟨fin, hfe⟩ : ∃ z, u8A (shaL x) = z := ⟨_, rfl⟩
    obtain ⟨key, hke⟩ : ∃ z, u8A ((shaL x).take 16) = z := ⟨_, rfl⟩
    rw [hfe] at heq hfz hfo hfd
    rw [hke] at hkz hko hkd ⊢
    have HFE := Lib.hid hfe
    have HKD := Lib.hid hkd
    have HFD := Lib.hid hfd
    have HKZ := Lib.hid hkz
    have HKO := Lib.hid hko
    have HFZ := Lib.hid hfz
    have HFO := Lib.hid hfo
    clear hb1 hfe hke hkz hko hfz hfo hkd hfd HTS1
    go_wp2_with fail
    refine (HTG1.out _ _ (HRow2.out _ hbel1) (HTab.out _ (hbel1.alloc hbel1.size _))).mono ?_
    rintro e w2 ⟨rfl, hb2⟩
    rw [HFE.out]
    have hbel2 := (hbel1.alloc hbel1.size (.cells #[.slice A p c, .slice B q d] 22)).trans (hb2.mono (by have := hbel1.size; simp; omega))
    have hle2 := hbel2.size
    clear hb2 hbel1 HTG1 HRow2
    go_wp2_with (first
      | (with_reducible refine wpList_store_blkTo rfl 26 (.tmp 7) (.tmp 22) rfl rfl w2.heap.size key rfl rfl 26 _ ((Blk.new w2 _ _).alloc _) (by rw [HKZ.out]; kernel_rfl) (by rw [HKZ.out]; kernel_rfl) HKO.out ?_
         generalize hw3 : World.setRow _ _ _ = w3
         obtain ⟨hk3, hf3, hb3⟩ := two_new hw3 hbel2
         clear hw3 hbel2)
      | (with_reducible refine wpList_store_blkTo rfl 29 (.tmp 8) (.tmp 27) rfl rfl (w2.heap.size + 1) fin rfl rfl 29 _ hf3 (by rw [HFZ.out]; kernel_rfl) (by rw [HFZ.out]; kernel_rfl) HFO.out ?_
         generalize hw4 : World.setRow _ _ _ = w4
         obtain ⟨hk4, hf4, hb4⟩ := row_two hw4 hk3 hf3 (by omega) hb3 (by omega)
         clear hw4 hk3 hf3 hb3))
    obtain ⟨bk, hbk⟩ : ∃ z, w2.heap.size = z := ⟨_, rfl⟩
    obtain ⟨bh, hbh⟩ : ∃ z, bk + 1 = z := ⟨_, rfl⟩
    rw [hbk] at hk4 hf4 ⊢
    rw [hbh] at hf4 ⊢
    have HK4 := Lib.hid hk4
    have HF4 := Lib.hid hf4
    have hkl4 := hk4.lt
    have hfl4 := hf4.lt
    clear hbk hbh hk4 hf4
    refine (copy_any A p c _ a _ HAL.out (by omega) (HAR.out.on hb4)).mono ?_
    rintro e w5 ⟨A5, c5, rfl, hc5, hm5, hown5, hb5⟩
    have hbel5 := Below.then hb4 hb5
    have HK5 := Lib.hid (HK4.out.below hb5 hkl4)
    have HF5 := Lib.hid (HF4.out.below hb5 hfl4)
    have hs5 := hb5.size
    have hs45 := hb4.size
    have HO5 := Lib.hid hown5
    obtain ⟨bs5, hbs5⟩ : ∃ z, w4.heap.size = z := ⟨_, rfl⟩
    rw [hbs5] at HO5 hs5 hs45 hkl4 hfl4
    clear hb5 hb4 HK4 HF4 hown5 hbs5
    go_wp2_with (at_builtin; refine wpList_append_rd rfl _ _ 22 rfl bs5 5 i0 Tryd.underlying22 hi hz0 hz1 hz2 (.slice A5 p c5) p _ rfl HO5.out _ B q d b rfl HBL.out (HBR.out.on hbel5) (by omega) (by omega) ?_)
    intro v6 w6 hown6 hg6
    have hne : ∀ g, g < bs5 → some g ≠ (Value.slice A5 p c5).ownBlock := fun g hg e => by have := HO5.out.lt g e.symm; omega
    have hbel6 : Below w.heap.size w w6 := hbel5.grown hg6 hbel5.size (fun k hk => by have := HO5.out.lt k hk; omega)
    have HK6 := Lib.hid (HK5.out.grown hg6 (hne _ hkl4))
    have HF6 := Lib.hid (HF5.out.grown hg6 (hne _ hfl4))
    rw [← Lib.byteCells_append] at hown6
    obtain ⟨A6, c6, rfl, hc6, hm6⟩ := own_caps hown6
    have HO6 := Lib.hid (Rd.of_own hown6)
    have HA6 := Lib.hid (HAR.out.on hbel6)
    have HB6 := Lib.hid (HBR.out.on hbel6)
    have HT6 := Lib.hid (HTab.out _ hbel6)
    obtain ⟨r, hr⟩ : ∃ r, p + q = r := ⟨_, rfl⟩
    have hrn : (a ++ b).length = r := by rw [List.length_append, HAL.out, HBL.out]; exact hr
    rw [hr] at hc6 ⊢
    have HRN := Lib.hid hrn
    clear hown6 hg6 hne hbel5 HO5 HK5 HF5 hrn hr HTab HT
    clear HAR HBR hs5 hs45 hkl4 hfl4 hle2 hc5 hm5
    have hbV0 : Below w6.heap.size w6 w6 := Below.refl _ _
    have hkl := HK6.out.lt
    have hfl := HF6.out.lt
    have HRng := Lib.hid (fun (W : World) (h : Below w6.heap.size w6 W) => (fun j v hv => by
      have h1 := (HF6.out.below h hfl).cell (0 + j)
      rw [HFD.out, Nat.zero_add] at h1
      rw [Nat.zero_add, h1]
      simpa using hv : World.rangeAt W bh 0 (Lib.byteCells (shaL x))))
    have HSK := Lib.hid (fun (W : World) (h : Below w6.heap.size w6 W) => (same_any (some ⟨bk, 0, none⟩) (some ⟨bh, 0, none⟩) 16 16 16 32 W.heap.size W.heap.size ((shaL x).take 16) ((shaL x).take 16) W (by rw [List.length_take, shaL_len]; rfl) (by rw [List.length_take, shaL_len]; rfl) (by unfold maxLen; omega)
      (rd_blk (k := 16) (HK6.out.below h hkl) HKD.out (by rw [List.take_take]; rfl)) (rd_blk (HF6.out.below h hfl) HFD.out rfl)).mono (fun (e : Ending) (w' : World) ⟨he, q, hq⟩ => (⟨by rw [he, decide_eq_true rfl], by rw [hq]; exact below_drewN (Below.refl _ _) q⟩ : e = Ending.returned (.bool true) ∧ Below W.heap.size W w')))
    have HTab6 := Lib.hid (fun (W : World) (h : Below w6.heap.size w6 W) => tab_on HT6.out h h.size)
    have HAB := Lib.hid (fun (W : World) (h : Below w6.heap.size w6 W) => And.intro (HA6.out.on h) (And.intro (HB6.out.on h) (HO6.out.on h)))
    have HSY := Lib.hid (fun (X Y : Option Addr) (xc yc : Nat) (W : World) (h1 : Rd W W.heap.size X x) (h2 : Rd W W.heap.size Y y) => (same_any X Y xn yn xc yc _ _ x y W HXN.out HYN.out (by unfold maxLen; omega) h1 h2).mono (fun (e : Ending) (w' : World) ⟨he, q, hq⟩ => (⟨by rw [he, HN1.out], by rw [hq]; exact below_drewN (Below.refl _ _) q⟩ : e = Ending.returned (.bool false) ∧ Below W.heap.size W w')))
    have HSZ := Lib.hid (fun (X Y : Option Addr) (xc yc : Nat) (W : World) (h1 : Rd W W.heap.size X x) (h2 : Rd W W.heap.size Y z) => (same_any X Y xn zn xc yc _ _ x z W HXN.out HZN.out (by unfold maxLen; omega) h1 h2).mono (fun (e : Ending) (w' : World) ⟨he, q, hq⟩ => (⟨by rw [he, HN2.out], by rw [hq]; exact below_drewN (Below.refl _ _) q⟩ : e = Ending.returned (.bool false) ∧ Below W.heap.size W w')))
    have HSU := Lib.hid (fun (X : Option Addr) (xc : Nat) (W : World) (hc : xn ≤ xc) (h1 : Rd W W.heap.size X x) => (sum_any X xn xc x W HXN.out hc (by omega) h1).mono (fun (e : Ending) (w' : World) ⟨he, hb⟩ => (⟨by rw [he, HFE.out], hb⟩ : e = Ending.returned (.agg fin) ∧ Below W.heap.size W w')))
    have hu9 := Tryd.underlying29
    have hi9 : (Tryd.prog.info? 29).map (·.size) = some (Lib.byteCells (shaL x)).length := by rw [Lib.byteCells_length, shaL_len]; kernel_rfl
    have HEND := Lib.hid (fun (W : World) (h : Below w6.heap.size w6 W) => Below.then hbel6 h)
    rw [HFD.out] at heq
    rw [HFD.out] at HSU
    rw [HFD.out]
    obtain ⟨cs, hcs⟩ : ∃ cs, Lib.byteCells (shaL x) = cs := ⟨_, rfl⟩
    rw [hcs] at heq HSU hi9 HRng ⊢
    clear HK6 HF6 HO6 HA6 HB6 HT6 HR2 HR3 HN1 HN2 HFE HKD HFD HKZ HKO HFZ HFO HXN HYN HZN hcs hbel6 hi hz0 hz1 hz2 hxs h1 h2 hc hd htb hsmall hkl hfl
    go_wp2_with fail
    refine wp_region_free (promises [.is (.slice (some ⟨bk, 0, none⟩) 16 16), .is (.slice (some ⟨bh, 0, none⟩) 16 32), .is (.bool true), .is (.bool true), .is (.string sA), .is (.slice A p c), .is (.slice B q d), .rows 2 [a, b], .bytes xn x, .is (.string sA), .is (.slice A6 r c6), .rows 1 [a ++ b], .bytes yn y, .is (.bool false), .is (.bool true), .is (.bool true), .is (.bool true), .is (.string sA), .is (.slice A p c), .is (.slice B q d), .rows 2 [a, b], .bytes xn x, .is (.string sA), .is (.slice A p c), .is (.slice B q d), .rows 3 [a, b, []], .bytes zn z, .is (.bool false), .is (.bool true), .is (.bool true), .is (.bool true), .is (.string sA), .is (.slice A p c), .is (.slice B q d), .rows 2 [a, b], .bytes xn x, .is (.agg cs.toArray), .is (.agg cs.toArray), .is (.bool true), .is (.bool true), .is (.bool true), .is (.bool true), .is (.bool true), .is (.bool true)]) (by kernel_rfl) (by kernel_rfl) (fun i v w w' h hb => Spec.keep h hb) ⟨?_, ?_, ?_, ?_, ?_, ?_, ?_, ?_, ?_, ?_, ?_, ?_, ?_, ?_, ?_, ?_, ?_, ?_, ?_, ?_, ?_, ?_, ?_, ?_, ?_, ?_, ?_, ?_, ?_, ?_, ?_, ?_, ?_, ?_, ?_, ?_, ?_, ?_, ?_, ?_, ?_, ?_, ?_, ?_, trivial⟩ ?_
    · intro ac w hb hu hk
      refine ⟨wanted_none rfl, ?_⟩
      have e7 : ac.eval (.tmp 7) = .pointer (some ⟨bk, 0, none⟩) := hu.is (t := 7) (by kernel_rfl)
      refine step_value (w' := w) (v := .slice (some ⟨bk, 0, none⟩) 16 16) ?_ (Below.refl _ _) rfl
      generalize ac.eval = ρ at e7 ⊢
      go_simp
    · intro ac w hb hu hk
      refine ⟨wanted_none rfl, ?_⟩
      have e8 : ac.eval (.tmp 8) = .pointer (some ⟨bh, 0, none⟩) := hu.is (t := 8) (by kernel_rfl)
      refine step_value (w' := w) (v := .slice (some ⟨bh, 0, none⟩) 16 32) ?_ (Below.refl _ _) rfl
      have ec : ac.eval (.const (.int .i64 16)) = .int .i64 16 := rfl
      generalize ac.eval = ρ at e8 ec ⊢
      go_simp
    · intro ac w hb hu hk
      refine ⟨wanted_none rfl, ?_⟩
      have e32 : ac.eval (.tmp 32) = (.slice (some ⟨bk, 0, none⟩) 16 16) := (hk ⟨0, .data⟩ (by simp) rfl).is rfl rfl
      have e33 : ac.eval (.tmp 33) = (.slice (some ⟨bh, 0, none⟩) 16 32) := (hk ⟨1, .data⟩ (by simp) rfl).is rfl rfl
      have ef : ac.eval (.func 11) = .func (.func 11) #[] #[] := rfl
      refine step_enter (f := 11) (args := #[.slice (some ⟨bk, 0, none⟩) 16 16, .slice (some ⟨bh, 0, none⟩) 16 32]) ?_ ?_
      · generalize ac.eval = ρ at e32 e33 ef ⊢
        go_simp
      · exact (HSK.out w hb).mono fun e w' ⟨he, hq⟩ => ⟨_, he, rfl, hq⟩
    · intro ac w hb hu hk
      refine ⟨wanted_none rfl, ?_⟩
      have e34 : ac.eval (.tmp 34) = (.bool true) := (hk ⟨2, .data⟩ (by simp) rfl).is rfl rfl
      exact step_value (BigFrame.run_move (.tmp 34) rfl w) (Below.refl _ _) e34
    · intro ac w hb hu hk
      refine ⟨wanted_some rfl (hk ⟨3, .guard⟩ (by simp) rfl) rfl rfl (fun _ h => h), ?_⟩
      have e0 : ac.eval (.tmp 0) = .string sA := hu.is (t := 0) (by kernel_rfl)
      exact step_value (BigFrame.run_move (.tmp 0) rfl w) (Below.refl _ _) e0
    · intro ac w hb hu hk
      refine ⟨wanted_some rfl (hk ⟨3, .guard⟩ (by simp) rfl) rfl rfl (fun _ h => h), ?_⟩
      have e1 : ac.eval (.tmp 1) = .slice A p c := hu.is (t := 1) (by kernel_rfl)
      exact step_value (BigFrame.run_move (.tmp 1) rfl w) (Below.refl _ _) e1
    · intro ac w hb hu hk
      refine ⟨wanted_some rfl (hk ⟨3, .guard⟩ (by simp) rfl) rfl rfl (fun _ h => h), ?_⟩
      have e2 : ac.eval (.tmp 2) = .slice B q d := hu.is (t := 2) (by kernel_rfl)
      exact step_value (BigFrame.run_move (.tmp 2) rfl w) (Below.refl _ _) e2
    · intro ac w hb hu hk
      refine ⟨wanted_some rfl (hk ⟨3, .guard⟩ (by simp) rfl) rfl rfl (fun _ h => h), ?_⟩
      have e37 : ac.eval (.tmp 37) = (.slice A p c) := (hk ⟨5, .data⟩ (by simp) rfl).is rfl rfl
      have e38 : ac.eval (.tmp 38) = (.slice B q d) := (hk ⟨6, .data⟩ (by simp) rfl).is rfl rfl
      obtain ⟨hA, hB, hO⟩ := HAB.out w hb
      refine step_value (w' := w.alloc (.cells #[.slice A p c, .slice B q d] 22)) (v := .slice (some ⟨w.heap.size, 0, none⟩) 2 2) ?_ ((Below.refl _ _).alloc (Nat.le_refl _) _) ⟨w.heap.size, rfl, rdr_new2 w _ _ HAL.out hca hcm HBL.out hcb hdm hA hB⟩
      generalize ac.eval = ρ at e37 e38 ⊢
      go_simp
    · intro ac w hb hu hk
      refine ⟨wanted_some rfl (hk ⟨3, .chain⟩ (by simp) rfl) rfl rfl (fun _ h => h), ?_⟩
      have e36 : ac.eval (.tmp 36) = (.string sA) := (hk ⟨4, .data⟩ (by simp) rfl).is rfl rfl
      have e39 : ∃ g, ac.eval (.tmp 39) = .slice (some ⟨g, 0, none⟩) 2 2 ∧ RdR w w.heap.size (some ⟨g, 0, none⟩) [a, b] := (hk ⟨7, .data⟩ (by simp) rfl).is rfl rfl
      obtain ⟨g, eg, hr⟩ := e39
      have ef : ac.eval (.func 12) = .func (.func 12) #[] #[] := rfl
      refine step_enter (f := 12) (args := #[.string sA, .slice (some ⟨g, 0, none⟩) 2 2]) ?_ ?_
      · generalize ac.eval = ρ at e36 eg ef ⊢
        go_simp
      · exact (HTX1.out g w hr (HTab6.out w hb)).mono fun e w' ⟨X, xc, he, hx, hr, hb⟩ => ⟨_, he, ⟨X, xc, rfl, hx, hr⟩, hb⟩
    · intro ac w hb hu hk
      refine ⟨wanted_some rfl (hk ⟨3, .guard⟩ (by simp) rfl) rfl rfl (fun _ h => h), ?_⟩
      have e0 : ac.eval (.tmp 0) = .string sA := hu.is (t := 0) (by kernel_rfl)
      exact step_value (BigFrame.run_move (.tmp 0) rfl w) (Below.refl _ _) e0
    · intro ac w hb hu hk
      refine ⟨wanted_some rfl (hk ⟨3, .guard⟩ (by simp) rfl) rfl rfl (fun _ h => h), ?_⟩
      have e9 : ac.eval (.tmp 9) = .slice A6 r c6 := hu.is (t := 9) (by kernel_rfl)
      exact step_value (BigFrame.run_move (.tmp 9) rfl w) (Below.refl _ _) e9
    · intro ac w hb hu hk
      refine ⟨wanted_some rfl (hk ⟨3, .guard⟩ (by simp) rfl) rfl rfl (fun _ h => h), ?_⟩
      have e42 : ac.eval (.tmp 42) = (.slice A6 r c6) := (hk ⟨10, .data⟩ (by simp) rfl).is rfl rfl
      obtain ⟨hA, hB, hO⟩ := HAB.out w hb
      refine step_value (w' := w.alloc (.cells #[.slice A6 r c6] 22)) (v := .slice (some ⟨w.heap.size, 0, none⟩) 1 1) ?_ ((Below.refl _ _).alloc (Nat.le_refl _) _) ⟨w.heap.size, rfl, rdr_new1 w _ HRN.out hc6 hm6 hO⟩
      generalize ac.eval = ρ at e42 ⊢
      go_simp
    · intro ac w hb hu hk
      refine ⟨wanted_some rfl (hk ⟨3, .guard⟩ (by simp) rfl) rfl rfl (fun _ h => h), ?_⟩
      have e41 : ac.eval (.tmp 41) = (.string sA) := (hk ⟨9, .data⟩ (by simp) rfl).is rfl rfl
      have e43 : ∃ g, ac.eval (.tmp 43) = .slice (some ⟨g, 0, none⟩) 1 1 ∧ RdR w w.heap.size (some ⟨g, 0, none⟩) [a ++ b] := (hk ⟨11, .data⟩ (by simp) rfl).is rfl rfl
      obtain ⟨g, eg, hr⟩ := e43
      have ef : ac.eval (.func 12) = .func (.func 12) #[] #[] := rfl
      refine step_enter (f := 12) (args := #[.string sA, .slice (some ⟨g, 0, none⟩) 1 1]) ?_ ?_
      · generalize ac.eval = ρ at e41 eg ef ⊢
        go_simp
      · exact (HTX2.out g w hr (HTab6.out w hb)).mono fun e w' ⟨X, xc, he, hx, hr, hb⟩ => ⟨_, he, ⟨X, xc, rfl, hx, hr⟩, hb⟩
    · intro ac w hb hu hk
      refine ⟨wanted_some rfl (hk ⟨3, .guard⟩ (by simp) rfl) rfl rfl (fun _ h => h), ?_⟩
      have e40 : ∃ X c, ac.eval (.tmp 40) = .slice X xn c ∧ xn ≤ c ∧ Rd w w.heap.size X x := (hk ⟨8, .data⟩ (by simp) rfl).is rfl rfl
      have e44 : ∃ X c, ac.eval (.tmp 44) = .slice X yn c ∧ yn ≤ c ∧ Rd w w.heap.size X y := (hk ⟨12, .data⟩ (by simp) rfl).is rfl rfl
      obtain ⟨X, xc, eX, hxc, hX⟩ := e40
      obtain ⟨Y, yc, eY, hyc, hY⟩ := e44
      have ef : ac.eval (.func 11) = .func (.func 11) #[] #[] := rfl
      refine step_enter (f := 11) (args := #[.slice X xn xc, .slice Y yn yc]) ?_ ?_
      · generalize ac.eval = ρ at eX eY ef ⊢
        go_simp
      · exact (HSY.out X Y xc yc w hX hY).mono fun e w' ⟨he, hq⟩ => ⟨_, he, rfl, hq⟩
    · intro ac w hb hu hk
      refine ⟨wanted_some rfl (hk ⟨3, .guard⟩ (by simp) rfl) rfl rfl (fun _ h => h), ?_⟩
      have e45 : ac.eval (.tmp 45) = (.bool false) := (hk ⟨13, .data⟩ (by simp) rfl).is rfl rfl
      exact step_value (run_not e45 rfl w) (Below.refl _ _) rfl
    · intro ac w hb hu hk
      refine ⟨wanted_none rfl, ?_⟩
      have e35 : ac.eval (.tmp 35) = (.bool true) := (hk ⟨3, .data⟩ (by simp) rfl).is rfl rfl
      have e46 : ac.eval (.tmp 46) = (.bool true) := (hk ⟨14, .data⟩ (by simp) rfl).is rfl rfl
      exact step_value (run_pick_true e35 rfl w) (Below.refl _ _) e46
    · intro ac w hb hu hk
      refine ⟨wanted_none rfl, ?_⟩
      have e47 : ac.eval (.tmp 47) = (.bool true) := (hk ⟨15, .data⟩ (by simp) rfl).is rfl rfl
      exact step_value (BigFrame.run_move (.tmp 47) rfl w) (Below.refl _ _) e47
    · intro ac w hb hu hk
      refine ⟨wanted_some rfl (hk ⟨16, .guard⟩ (by simp) rfl) rfl rfl (fun _ h => h), ?_⟩
      have e0 : ac.eval (.tmp 0) = .string sA := hu.is (t := 0) (by kernel_rfl)
      exact step_value (BigFrame.run_move (.tmp 0) rfl w) (Below.refl _ _) e0
    · intro ac w hb hu hk
      refine ⟨wanted_some rfl (hk ⟨16, .guard⟩ (by simp) rfl) rfl rfl (fun _ h => h), ?_⟩
      have e1 : ac.eval (.tmp 1) = .slice A p c := hu.is (t := 1) (by kernel_rfl)
      exact step_value (BigFrame.run_move (.tmp 1) rfl w) (Below.refl _ _) e1
    · intro ac w hb hu hk
      refine ⟨wanted_some rfl (hk ⟨16, .guard⟩ (by simp) rfl) rfl rfl (fun _ h => h), ?_⟩
      have e2 : ac.eval (.tmp 2) = .slice B q d := hu.is (t := 2) (by kernel_rfl)
      exact step_value (BigFrame.run_move (.tmp 2) rfl w) (Below.refl _ _) e2
    · intro ac w hb hu hk
      refine ⟨wanted_some rfl (hk ⟨16, .guard⟩ (by simp) rfl) rfl rfl (fun _ h => h), ?_⟩
      have e50 : ac.eval (.tmp 50) = (.slice A p c) := (hk ⟨18, .data⟩ (by simp) rfl).is rfl rfl
      have e51 : ac.eval (.tmp 51) = (.slice B q d) := (hk ⟨19, .data⟩ (by simp) rfl).is rfl rfl
      obtain ⟨hA, hB, hO⟩ := HAB.out w hb
      refine step_value (w' := w.alloc (.cells #[.slice A p c, .slice B q d] 22)) (v := .slice (some ⟨w.heap.size, 0, none⟩) 2 2) ?_ ((Below.refl _ _).alloc (Nat.le_refl _) _) ⟨w.heap.size, rfl, rdr_new2 w _ _ HAL.out hca hcm HBL.out hcb hdm hA hB⟩
      generalize ac.eval = ρ at e50 e51 ⊢
      go_simp
    · intro ac w hb hu hk
      refine ⟨wanted_some rfl (hk ⟨16, .chain⟩ (by simp) rfl) rfl rfl (fun _ h => h), ?_⟩
      have e49 : ac.eval (.tmp 49) = (.string sA) := (hk ⟨17, .data⟩ (by simp) rfl).is rfl rfl
      have e52 : ∃ g, ac.eval (.tmp 52) = .slice (some ⟨g, 0, none⟩) 2 2 ∧ RdR w w.heap.size (some ⟨g, 0, none⟩) [a, b] := (hk ⟨20, .data⟩ (by simp) rfl).is rfl rfl
      obtain ⟨g, eg, hr⟩ := e52
      have ef : ac.eval (.func 12) = .func (.func 12) #[] #[] := rfl
      refine step_enter (f := 12) (args := #[.string sA, .slice (some ⟨g, 0, none⟩) 2 2]) ?_ ?_
      · generalize ac.eval = ρ at e49 eg ef ⊢
        go_simp
      · exact (HTX1.out g w hr (HTab6.out w hb)).mono fun e w' ⟨X, xc, he, hx, hr, hb⟩ => ⟨_, he, ⟨X, xc, rfl, hx, hr⟩, hb⟩
    · intro ac w hb hu hk
      refine ⟨wanted_some rfl (hk ⟨16, .guard⟩ (by simp) rfl) rfl rfl (fun _ h => h), ?_⟩
      have e0 : ac.eval (.tmp 0) = .string sA := hu.is (t := 0) (by kernel_rfl)
      exact step_value (BigFrame.run_move (.tmp 0) rfl w) (Below.refl _ _) e0
    · intro ac w hb hu hk
      refine ⟨wanted_some rfl (hk ⟨16, .guard⟩ (by simp) rfl) rfl rfl (fun _ h => h), ?_⟩
      have e1 : ac.eval (.tmp 1) = .slice A p c := hu.is (t := 1) (by kernel_rfl)
      exact step_value (BigFrame.run_move (.tmp 1) rfl w) (Below.refl _ _) e1
    · intro ac w hb hu hk
      refine ⟨wanted_some rfl (hk ⟨16, .guard⟩ (by simp) rfl) rfl rfl (fun _ h => h), ?_⟩
      have e2 : ac.eval (.tmp 2) = .slice B q d := hu.is (t := 2) (by kernel_rfl)
      exact step_value (BigFrame.run_move (.tmp 2) rfl w) (Below.refl _ _) e2
    · intro ac w hb hu hk
      refine ⟨wanted_some rfl (hk ⟨16, .guard⟩ (by simp) rfl) rfl rfl (fun _ h => h), ?_⟩
      have e55 : ac.eval (.tmp 55) = (.slice A p c) := (hk ⟨23, .data⟩ (by simp) rfl).is rfl rfl
      have e56 : ac.eval (.tmp 56) = (.slice B q d) := (hk ⟨24, .data⟩ (by simp) rfl).is rfl rfl
      obtain ⟨hA, hB, hO⟩ := HAB.out w hb
      refine step_value (w' := w.alloc (.cells #[.slice A p c, .slice B q d, .slice none 0 0] 22)) (v := .slice (some ⟨w.heap.size, 0, none⟩) 3 3) ?_ ((Below.refl _ _).alloc (Nat.le_refl _) _) ⟨w.heap.size, rfl, rdr_new3 w _ _ HAL.out hca hcm HBL.out hcb hdm hA hB⟩
      have ec : ac.eval (.const (.slice none 0 0)) = .slice none 0 0 := rfl
      generalize ac.eval = ρ at e55 e56 ec ⊢
      go_simp
    · intro ac w hb hu hk
      refine ⟨wanted_some rfl (hk ⟨16, .guard⟩ (by simp) rfl) rfl rfl (fun _ h => h), ?_⟩
      have e54 : ac.eval (.tmp 54) = (.string sA) := (hk ⟨22, .data⟩ (by simp) rfl).is rfl rfl
      have e57 : ∃ g, ac.eval (.tmp 57) = .slice (some ⟨g, 0, none⟩) 3 3 ∧ RdR w w.heap.size (some ⟨g, 0, none⟩) [a, b, []] := (hk ⟨25, .data⟩ (by simp) rfl).is rfl rfl
      obtain ⟨g, eg, hr⟩ := e57
      have ef : ac.eval (.func 12) = .func (.func 12) #[] #[] := rfl
      refine step_enter (f := 12) (args := #[.string sA, .slice (some ⟨g, 0, none⟩) 3 3]) ?_ ?_
      · generalize ac.eval = ρ at e54 eg ef ⊢
        go_simp
      · exact (HTX3.out g w hr (HTab6.out w hb)).mono fun e w' ⟨X, xc, he, hx, hr, hb⟩ => ⟨_, he, ⟨X, xc, rfl, hx, hr⟩, hb⟩
    · intro ac w hb hu hk
      refine ⟨wanted_some rfl (hk ⟨16, .guard⟩ (by simp) rfl) rfl rfl (fun _ h => h), ?_⟩
      have e53 : ∃ X c, ac.eval (.tmp 53) = .slice X xn c ∧ xn ≤ c ∧ Rd w w.heap.size X x := (hk ⟨21, .data⟩ (by simp) rfl).is rfl rfl
      have e58 : ∃ X c, ac.eval (.tmp 58) = .slice X zn c ∧ zn ≤ c ∧ Rd w w.heap.size X z := (hk ⟨26, .data⟩ (by simp) rfl).is rfl rfl
      obtain ⟨X, xc, eX, hxc, hX⟩ := e53
      obtain ⟨Y, yc, eY, hyc, hY⟩ := e58
      have ef : ac.eval (.func 11) = .func (.func 11) #[] #[] := rfl
      refine step_enter (f := 11) (args := #[.slice X xn xc, .slice Y zn yc]) ?_ ?_
      · generalize ac.eval = ρ at eX eY ef ⊢
        go_simp
      · exact (HSZ.out X Y xc yc w hX hY).mono fun e w' ⟨he, hq⟩ => ⟨_, he, rfl, hq⟩
    · intro ac w hb hu hk
      refine ⟨wanted_some rfl (hk ⟨16, .guard⟩ (by simp) rfl) rfl rfl (fun _ h => h), ?_⟩
      have e59 : ac.eval (.tmp 59) = (.bool false) := (hk ⟨27, .data⟩ (by simp) rfl).is rfl rfl
      exact step_value (run_not e59 rfl w) (Below.refl _ _) rfl
    · intro ac w hb hu hk
      refine ⟨wanted_none rfl, ?_⟩
      have e48 : ac.eval (.tmp 48) = (.bool true) := (hk ⟨16, .data⟩ (by simp) rfl).is rfl rfl
      have e60 : ac.eval (.tmp 60) = (.bool true) := (hk ⟨28, .data⟩ (by simp) rfl).is rfl rfl
      exact step_value (run_pick_true e48 rfl w) (Below.refl _ _) e60
    · intro ac w hb hu hk
      refine ⟨wanted_none rfl, ?_⟩
      have e61 : ac.eval (.tmp 61) = (.bool true) := (hk ⟨29, .data⟩ (by simp) rfl).is rfl rfl
      exact step_value (BigFrame.run_move (.tmp 61) rfl w) (Below.refl _ _) e61
    · intro ac w hb hu hk
      refine ⟨wanted_some rfl (hk ⟨30, .guard⟩ (by simp) rfl) rfl rfl (fun _ h => h), ?_⟩
      have e0 : ac.eval (.tmp 0) = .string sA := hu.is (t := 0) (by kernel_rfl)
      exact step_value (BigFrame.run_move (.tmp 0) rfl w) (Below.refl _ _) e0
    · intro ac w hb hu hk
      refine ⟨wanted_some rfl (hk ⟨30, .guard⟩ (by simp) rfl) rfl rfl (fun _ h => h), ?_⟩
      have e1 : ac.eval (.tmp 1) = .slice A p c := hu.is (t := 1) (by kernel_rfl)
      exact step_value (BigFrame.run_move (.tmp 1) rfl w) (Below.refl _ _) e1
    · intro ac w hb hu hk
      refine ⟨wanted_some rfl (hk ⟨30, .guard⟩ (by simp) rfl) rfl rfl (fun _ h => h), ?_⟩
      have e2 : ac.eval (.tmp 2) = .slice B q d := hu.is (t := 2) (by kernel_rfl)
      exact step_value (BigFrame.run_move (.tmp 2) rfl w) (Below.refl _ _) e2
    · intro ac w hb hu hk
      refine ⟨wanted_some rfl (hk ⟨30, .guard⟩ (by simp) rfl) rfl rfl (fun _ h => h), ?_⟩
      have e64 : ac.eval (.tmp 64) = (.slice A p c) := (hk ⟨32, .data⟩ (by simp) rfl).is rfl rfl
      have e65 : ac.eval (.tmp 65) = (.slice B q d) := (hk ⟨33, .data⟩ (by simp) rfl).is rfl rfl
      obtain ⟨hA, hB, hO⟩ := HAB.out w hb
      refine step_value (w' := w.alloc (.cells #[.slice A p c, .slice B q d] 22)) (v := .slice (some ⟨w.heap.size, 0, none⟩) 2 2) ?_ ((Below.refl _ _).alloc (Nat.le_refl _) _) ⟨w.heap.size, rfl, rdr_new2 w _ _ HAL.out hca hcm HBL.out hcb hdm hA hB⟩
      generalize ac.eval = ρ at e64 e65 ⊢
      go_simp
    · intro ac w hb hu hk
      refine ⟨wanted_some rfl (hk ⟨30, .chain⟩ (by simp) rfl) rfl rfl (fun _ h => h), ?_⟩
      have e63 : ac.eval (.tmp 63) = (.string sA) := (hk ⟨31, .data⟩ (by simp) rfl).is rfl rfl
      have e66 : ∃ g, ac.eval (.tmp 66) = .slice (some ⟨g, 0, none⟩) 2 2 ∧ RdR w w.heap.size (some ⟨g, 0, none⟩) [a, b] := (hk ⟨34, .data⟩ (by simp) rfl).is rfl rfl
      obtain ⟨g, eg, hr⟩ := e66
      have ef : ac.eval (.func 12) = .func (.func 12) #[] #[] := rfl
      refine step_enter (f := 12) (args := #[.string sA, .slice (some ⟨g, 0, none⟩) 2 2]) ?_ ?_
      · generalize ac.eval = ρ at e63 eg ef ⊢
        go_simp
      · exact (HTX1.out g w hr (HTab6.out w hb)).mono fun e w' ⟨X, xc, he, hx, hr, hb⟩ => ⟨_, he, ⟨X, xc, rfl, hx, hr⟩, hb⟩
    · intro ac w hb hu hk
      refine ⟨wanted_some rfl (hk ⟨30, .guard⟩ (by simp) rfl) rfl rfl (fun _ h => h), ?_⟩
      have e67 : ∃ X c, ac.eval (.tmp 67) = .slice X xn c ∧ xn ≤ c ∧ Rd w w.heap.size X x := (hk ⟨35, .data⟩ (by simp) rfl).is rfl rfl
      obtain ⟨X, xc, eX, hxc, hX⟩ := e67
      have ef : ac.eval (.func 13) = .func (.func 13) #[] #[] := rfl
      refine step_enter (f := 13) (args := #[.slice X xn xc]) ?_ ?_
      · generalize ac.eval = ρ at eX ef ⊢
        go_simp
      · exact (HSU.out X xc w hxc hX).mono fun e w' ⟨he, hq⟩ => ⟨_, he, rfl, hq⟩
    · intro ac w hb hu hk
      refine ⟨wanted_some rfl (hk ⟨30, .guard⟩ (by simp) rfl) rfl rfl (fun _ h => h), ?_⟩
      have e8 : ac.eval (.tmp 8) = .pointer (some ⟨bh, 0, none⟩) := hu.is (t := 8) (by kernel_rfl)
      refine step_value (w' := w) (v := .agg cs.toArray) ?_ (Below.refl _ _) rfl
      unfold execOp
      simp only [e8, Instr.loadAt, Instr.sureAddr, Sem.run_bind, Sem.run_pure, Result.andThen_ok, run_loadVar_mid w bh 0 29 cs _ (HRng.out w hb) hu9 rfl hi9]
    · intro ac w hb hu hk
      refine ⟨wanted_some rfl (hk ⟨30, .guard⟩ (by simp) rfl) rfl rfl (fun _ h => h), ?_⟩
      have e68 : ac.eval (.tmp 68) = (.agg cs.toArray) := (hk ⟨36, .data⟩ (by simp) rfl).is rfl rfl
      have e69 : ac.eval (.tmp 69) = (.agg cs.toArray) := (hk ⟨37, .data⟩ (by simp) rfl).is rfl rfl
      refine step_value (w' := w) (v := .bool true) ?_ (Below.refl _ _) rfl
      have heqw := heq w
      generalize ac.eval = ρ at e68 e69 ⊢
      go_simp
    · intro ac w hb hu hk
      refine ⟨wanted_none rfl, ?_⟩
      have e62 : ac.eval (.tmp 62) = (.bool true) := (hk ⟨30, .data⟩ (by simp) rfl).is rfl rfl
      have e70 : ac.eval (.tmp 70) = (.bool true) := (hk ⟨38, .data⟩ (by simp) rfl).is rfl rfl
      exact step_value (run_pick_true e62 rfl w) (Below.refl _ _) e70
    · intro ac w hb hu hk
      refine ⟨wanted_none rfl, ?_⟩
      have e71 : ac.eval (.tmp 71) = (.bool true) := (hk ⟨39, .data⟩ (by simp) rfl).is rfl rfl
      exact step_value (BigFrame.run_move (.tmp 71) rfl w) (Below.refl _ _) e71
    · intro ac w hb hu hk
      refine ⟨wanted_some rfl (hk ⟨40, .chain⟩ (by simp) rfl) rfl rfl (fun _ h => h), ?_⟩
      have ef : ac.eval (.func 6) = .func (.func 6) #[] #[] := rfl
      refine step_enter (f := 6) (args := #[]) ?_ ?_
      · generalize ac.eval = ρ at ef ⊢
        go_simp
      · exact (wakes2_any w).mono fun e w' ⟨he, hq⟩ => ⟨_, he, rfl, hq⟩
    · intro ac w hb hu hk
      refine ⟨wanted_none rfl, ?_⟩
      have e72 : ac.eval (.tmp 72) = (.bool true) := (hk ⟨40, .data⟩ (by simp) rfl).is rfl rfl
      have e73 : ac.eval (.tmp 73) = (.bool true) := (hk ⟨41, .data⟩ (by simp) rfl).is rfl rfl
      exact step_value (run_pick_true e72 rfl w) (Below.refl _ _) e73
    · intro ac w hb hu hk
      refine ⟨wanted_none rfl, ?_⟩
      have e74 : ac.eval (.tmp 74) = (.bool true) := (hk ⟨42, .data⟩ (by simp) rfl).is rfl rfl
      exact step_value (BigFrame.run_assign (.tmp 74) rfl w) (Below.refl _ _) e74
    · intro ac w' hb hu hk
      obtain ⟨v6, h6, rfl⟩ := hk 43 (by decide) _ 6 rfl rfl
      have hend := HEND.out _ hb
      have hdf : ac.defers = [] := hu.1
      clear hk hu hb
      obtain ⟨tm, df⟩ := ac
      simp only at h6 hdf
      subst hdf
      go_wp2_with fail
      refine bodyPost_ret (v := .bool true) (by simp [results, Tryd.results3, go_sem, h6]) rfl ⟨rfl, hend⟩
  · rw [hsA]
    have hbig : 40 < sA.size := by omega
    clear hsA hna hzA hal hbl htab ha hb hsmall hta
    go_enter Tryd.func3, Tryd.ntmps3
    go_wp2_with fail
    refine (wakes2_any _).mono ?_
    rintro e w5 ⟨rfl, hb5⟩
    go_wp2_with fail
    go_ret
    exact ⟨rfl, hb5⟩

theorem contract (H : Type) (enc : TypeId × Value → H) (W : World) (base : Nat) (args : Array Value) (ds gs : List (DataW H)) (before : List MemPlace)
    (hval : ∀ (j : Nat) t v, Tryd.f3.params[j]? = some t → args[j]? = some v → Value.okWide Tryd.prog W .any base t v)
    (hW : DataW.Whole enc Tryd.prog Tryd.f3.params.toList Rows.shaShortSpec.vars false W args.toList ds gs before) (hL : laidMetH Tryd.prog Rows.shaShortRow.laid W) :
    Calls Tryd.prog 3 args W fun e W' => ∃ v, e = .returned v ∧ Rows.shaShortSpec.post enc Tryd.prog Tryd.f3 false true false false W args v W' := by
  have hW' := hW
  obtain ⟨p, q, hA0, hV, rfl, hfz, hnd⟩ := hW
  have hA : DataW.TrodAll enc Tryd.prog W 0 (fun _ => true) true Tryd.f3.params.toList args.toList ds p := hA0
  rw [Tryd.params3] at hA hval
  obtain ⟨v0, v1, v2, d0, d1, d2, p0, p1, p2, rfl, rfl, rfl, h0, h1, h2⟩ := trodAll_three hA
  obtain ⟨rfl, rfl⟩ := trodVars_none hV
  obtain ⟨s0, rfl, rfl, rfl, hs0⟩ := open_string Tryd.underlying9 (hval 0 9 v0 rfl rfl) h0
  obtain ⟨A1, m1, c1, l1, rfl, hl1, hc1, hm1, hr1⟩ := open_bytes (hval 1 22 v1 rfl rfl) h1
  obtain ⟨A2, m2, c2, l2, rfl, hl2, hc2, hm2, hr2⟩ := open_bytes (hval 2 22 v2 rfl rfl) h2
  clear hA0
  refine (walk s0.data.toList A1 A2 m1 m2 c1 c2 l1 l2 W hs0 hl1 hl2 hc1 hc2 hm1 hm2 hr1 hr2 (pow10 hL)).mono fun e W' ⟨he, hb⟩ => ?_
  exact ⟨_, he, law_post hW' rfl (by kernel_rfl) rfl (by kernel_rfl) hb⟩

theorem laid_met (os : Os) : laidMet Tryd.prog Rows.shaShortRow.laid ((laidWorld os).forCall (fun _ _ => 0) ⟨#[], #[.string ⟨#[]⟩, .slice none 0 0, .slice none 0 0], []⟩).memory :=
  laidMet_of_run' 8 (by kernel_rfl) (by kernel_rfl)
theorem reads (os : Os) {H : Type} (enc : TypeId × Value → H) : ∃ places, DataW.whole enc Tryd.prog ((laidWorld os).forCall (fun _ _ => 0) ⟨#[], #[.string ⟨#[]⟩, .slice none 0 0, .slice none 0 0], []⟩).memory Tryd.f3.params.toList Rows.shaShortSpec.vars false #[Value.string ⟨#[]⟩, Value.slice none 0 0, Value.slice none 0 0].toList 8 = some ([.lit (.string []), .nil, .nil], [], places) :=
  ⟨[], by kernel_rfl⟩

set_option maxRecDepth 100000 in
theorem lifted (os : Os) (started : os.Started) (H : Type) (enc : TypeId × Value → H) (F : Stop.Interp) :
    ReturnsInHanded {} Tryd.checked os 3 .any ((OpenSpec.ofChange Rows.shaShortSpec).preRow enc Tryd.prog Tryd.f3 Rows.shaShortRow.domain false Rows.shaShortRow.laid) (((OpenSpec.ofChange Rows.shaShortSpec).at F).post enc Tryd.prog Tryd.f3 false true false false) := by
  obtain ⟨places, hx⟩ := reads os enc
  refine returnsInHanded_of_row (C := Tryd.checked) (s := OpenSpec.ofChange Rows.shaShortSpec) own started (by kernel_rfl) Tryd.func3
    (witness_row_at (enc := enc) (C := Tryd.checked) false (laidWorld os) #[.string ⟨#[]⟩, .slice none 0 0, .slice none 0 0] rfl (by kernel_rfl) (by kernel_rfl) (by kernel_rfl)
      (OpenSpec.preRow_of_cond 8 hx (by kernel_rfl) (fun k hk => by cases hk) (by kernel_rfl) (laid_met os))) ?_
  intro W base args ds gs before hval hW _ _ _ hL _ _
  exact contract H enc W base args ds gs before hval hW hL

theorem said : Rows.ShaShortSaid :=
  OpenClaim.holds_of_cond 3 Tryd.f3 rfl rfl rfl rfl rfl rfl rfl ⟨rfl, rfl, rfl, rfl, rfl⟩ rfl rfl rfl rfl rfl (by kernel_rfl) Tryd.func3 (by kernel_rfl)
    (of_decide_eq_true (by kernel_rfl)) (by unfold Func.isWrapper; first | (rw [if_pos (by decide +kernel)]; kernel_rfl) | (rw [if_neg (by decide +kernel)]; exact ⟨rfl, rfl⟩))
    (fun os started H enc _ F => by rw [OpenClaim.pre_eq_preRow]; exact lifted os started H enc F)

theorem plain (f : FuncId) (fn : Func) (hf : Tryd.pinned.checked.prog.funcNamed "aumbry/aumbrylaw02.ShaShort" = some f) (hfn : Tryd.pinned.checked.prog.funcs[f]? = some fn) :
    false = Tryd.pinned.checked.prog.looks [] ∧ ∀ (j : Nat) t, fn.params[j]? = some t → Tryd.pinned.checked.prog.wantsStandIn t = false := by
  obtain rfl : f = 3 := Option.some.inj ((show Tryd.prog.funcNamed "aumbry/aumbrylaw02.ShaShort" = some 3 by kernel_rfl).symm.trans hf) |>.symm
  obtain rfl : fn = Tryd.f3 := (Option.some.inj (Tryd.func3.symm.trans hfn)).symm
  refine ⟨by kernel_rfl, fun j t ht => ?_⟩
  exact wants_none (by kernel_rfl) (Array.mem_of_getElem? ht)

/-- The card: the statement holds, its listed tables tied to the program's text. -/
theorem card : Rows.ShaShortCardSaid :=
  Claim7.holds_tied_plain_at .later [] _ _ _ _ said (fun _ h => by cases h) (by kernel_rfl) (fun _ h => by cases h) shaShort_row_tie rfl ⟨rfl, rfl⟩ (by kernel_rfl) rfl plain (by kernel_rfl)
end Go.Proofs.YtdjnaeifmeffoaaDoor.shaShort
