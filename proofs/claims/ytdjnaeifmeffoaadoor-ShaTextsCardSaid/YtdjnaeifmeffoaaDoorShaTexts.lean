/- ShaTexts: unlike tags, or unlike rows, have unlike texts; a text begins with its tag, and has all rows. For all tags and rows. -/
import Derived.Test.YtdjnaeifmeffoaaDoorLaw
import Derived.Test.YtdjnaeifmeffoaaDoorOpen
import Derived.Test.YtdjnaeifmeffoaaDoorKeep
import Derived.Test.YtdjnaeifmeffoaaDoorTakeRows
import Derived.Test.YtdjnaeifmeffoaaDoorRowsCmp
import Derived.Test.YtdjnaeifmeffoaaDoorCutRows
import Derived.Test.YtdjnaeifmeffoaaDoorShort
import Derived.Test.YtdjnaeifmeffoaaDoorHashEq
namespace Go.Proofs.YtdjnaeifmeffoaaDoor.shaTexts
open Go.ChangeShapes Go.WideShapes Go.ChangeAt Go.RowKit Go.ChangeMaps

/-- TakeNets, its answer given. -/
theorem takeNets_as (A : Option Addr) (n c m : Nat) (b : Bool) (N : Int) (l : List UInt8) (o : Option (List (List UInt8))) (w : World) (ho : takesN N l = o) (hm : (rowsOf o).length = m) (hb : o.isSome = b) (hl : l.length = n) (hnc : n ≤ c) (h1 : n ≤ 1000000) (hN : N ≤ 100000) (ha : Rd w w.heap.size A l) :
    Calls Tryd.prog 19 #[.slice A n c, .int .i64 N] w fun e w' => ∃ A1 c1, e = .returned (.tuple #[.slice A1 m c1, .bool b]) ∧ m ≤ c1 ∧ RdR w' w'.heap.size A1 (rowsOf o) ∧ Below w.heap.size w w' := by
  subst hm hb ho
  exact takeNets_any A n c N l w hl hnc h1 hN ha

/-- One text or two, judged by tags and rows. -/
theorem judge {ta tb : List UInt8} {L M : List (List UInt8)} (ha : ta.length ≤ 1000) (hb : tb.length ≤ 1000) (hL : ∀ r ∈ L, r.length ≤ 1000) (hM : ∀ r ∈ M, r.length ≤ 1000) : netsL (ta :: L) = netsL (tb :: M) → ta = tb ∧ L = M := by
  intro h
  have := netsL_inj (a := ta :: L) (b := tb :: M) (by
    intro r hr
    rcases List.mem_cons.1 hr with rfl | hr
    · exact ha
    · exact hL r hr) (by
    intro r hr
    rcases List.mem_cons.1 hr with rfl | hr
    · exact hb
    · exact hM r hr) h
  injection this with h1 h2
  exact ⟨h1, h2⟩

theorem two_new {W w w3 : World} {z1 z2 c1 : Array Value} {T1 T2 : TypeId} (h : ((w.alloc (.cells z1 T1)).alloc (.cells z2 T2)).setRow w.heap.size c1 = w3) (hb : Below W.heap.size W w) : Blk w3 w.heap.size c1 T1 ∧ Blk w3 (w.heap.size + 1) z2 T2 ∧ Below W.heap.size W w3 := by
  subst h
  have h2 : Blk ((w.alloc (.cells z1 T1)).alloc (.cells z2 T2)) (w.heap.size + 1) z2 T2 := by
    have := Blk.new (w.alloc (.cells z1 T1)) z2 T2
    rwa [World.size_alloc] at this
  refine ⟨Blk.row ((Blk.new w z1 T1).alloc _) _, h2.rowOther (by omega) _, below_row ((hb.alloc hb.size _).alloc (by have := hb.size; simp; omega) _) (by have := hb.size; simp; omega) hb.size _⟩
theorem row_two {W w3 w4 : World} {a b : Nat} {c1 z2 c2 : Array Value} {T1 T2 : TypeId} (h : w3.setRow b c2 = w4) (h1 : Blk w3 a c1 T1) (h2 : Blk w3 b z2 T2) (hne : b ≠ a) (hb : Below W.heap.size W w3) (hWb : W.heap.size ≤ b) : Blk w4 a c1 T1 ∧ Blk w4 b c2 T2 ∧ Below W.heap.size W w4 := by
  subst h
  exact ⟨h1.rowOther hne _, h2.row _, below_row hb hb.size hWb _⟩
/-- A byte of the hash, and of its beginning. -/
theorem both_byte {hs : List UInt8} (h : hs.length = 32) (z : Nat) (hz : z < 16) : ∃ v : Int, (u8A (hs.take 16))[z]? = some (.int .u8 v) ∧ (u8A hs)[z]? = some (.int .u8 v) := by
  refine ⟨(hs[z]'(by omega)).toNat, ?_, ?_⟩
  · simp [u8A, Lib.byteCells, show z < hs.length by omega, hz]
  · simp [u8A, Lib.byteCells, show z < hs.length by omega]

set_option maxRecDepth 100000 in
set_option maxHeartbeats 4000000 in
theorem walk (ta tb : List UInt8) (A B : Option Addr) (n m c d : Nat) (ls ms : List (List UInt8)) (w : World) (hta : ta.length ≤ maxLen) (htb : tb.length ≤ maxLen) (hl : ls.length = n) (hm : ms.length = m) (ha : RdR w w.heap.size A ls) (hb : RdR w w.heap.size B ms) (htab : Pow10 w.heap.size w) :
    Calls Tryd.prog 5 #[.string ⟨ta.toArray⟩, .string ⟨tb.toArray⟩, .slice A n c, .slice B m d] w fun e w' => e = .returned (.bool true) ∧ Below w.heap.size w w' := by
  unfold maxLen at hta htb
  obtain ⟨sA, hsA⟩ : ∃ s, (⟨ta.toArray⟩ : ByteArray) = s := ⟨_, rfl⟩
  obtain ⟨sB, hsB⟩ : ∃ s, (⟨tb.toArray⟩ : ByteArray) = s := ⟨_, rfl⟩
  have hzA : sA.size = ta.length := by rw [← hsA]; rfl
  have hzB : sB.size = tb.length := by rw [← hsB]; rfl
  obtain ⟨na, hna⟩ : ∃ k, ta.length = k := ⟨_, rfl⟩
  obtain ⟨nb, hnb⟩ : ∃ k, tb.length = k := ⟨_, rfl⟩
  rw [hna] at hzA hta
  rw [hnb] at hzB htb
  by_cases hsmall : na ≤ 40 ∧ nb ≤ 40 ∧ n ≤ 5 ∧ m ≤ 5
  · obtain ⟨h40a, h40b, h5n, h5m⟩ := hsmall
    have HTX := Lib.hid (fun (A : Option Addr) (n c : Nat) (L : List (List UInt8)) (W : World) (hn : L.length = n) (h1 : n ≤ 100) (h2 : ∀ r ∈ L, r.length ≤ 1000) hr ht => text_any ta A n c L W (by omega) hn h1 h2 hr ht)
    have HTY := Lib.hid (fun (A : Option Addr) (n c : Nat) (L : List (List UInt8)) (W : World) (hn : L.length = n) (h1 : n ≤ 100) (h2 : ∀ r ∈ L, r.length ≤ 1000) hr ht => text_any tb A n c L W (by omega) hn h1 h2 hr ht)
    have HTG := Lib.hid (fun (A : Option Addr) (n c : Nat) (L : List (List UInt8)) (W : World) (hn : L.length = n) (h1 : n ≤ 100) (h2 : ∀ r ∈ L, r.length ≤ 1000) hr ht => tagged_any ta A n c L W (by omega) hn h1 h2 hr ht)
    have HTS := Lib.hid (fun (A : Option Addr) (n c : Nat) (L : List (List UInt8)) (W : World) (hn : L.length = n) (h1 : n ≤ 100) (h2 : ∀ r ∈ L, r.length ≤ 1000) hr ht => short_any ta A n c L W (by omega) hn h1 h2 hr ht)
    have HJ := Lib.hid (fun (L M : List (List UInt8)) (hL : ∀ r ∈ L, r.length ≤ 1000) (hM : ∀ r ∈ M, r.length ≤ 1000) => judge (ta := ta) (tb := tb) (L := L) (M := M) (by omega) (by omega) hL hM)
    have HAB := Lib.hid (show sA = sB → ta = tb by
      intro e
      have : (⟨ta.toArray⟩ : ByteArray).data.toList = (⟨tb.toArray⟩ : ByteArray).data.toList := by rw [hsA, hsB, e]
      exact this)
    have HBA := Lib.hid (show (sA.toList == sB.toList) = false → ta ≠ tb by
      intro e h
      subst h
      rw [← hsA, ← hsB] at e
      simp at e)
    have HNE := Lib.hid (show sA ≠ sB → (sA.toList == sB.toList) = false by
      intro e
      rw [Lib.toList_data, Lib.toList_data, beq_eq_false_iff_ne]
      intro h
      exact e (ByteArray.ext (Array.toList_inj.1 h)))
    have HCV := Lib.hid (fun (A : Option Addr) (n c : Nat) (W : World) (hn : ta.length = n) (hr : Rd W W.heap.size A ta) => run_string_rd (P := Tryd.prog) 22 9 5 Tryd.underlying22 Tryd.underlying5 Tryd.underlying9 W.heap.size A n c ta hn hr)
    rw [hsA] at HTX HTG HTS HCV ⊢
    rw [hsB] at HTY ⊢
    have HNA := Lib.hid hna
    have HZA := Lib.hid hzA
    have HZB := Lib.hid hzB
    have HL := Lib.hid hl
    have HM := Lib.hid hm
    have HT := Lib.hid htab
    have hz1 : sA.size ≤ 40 := by omega
    have hz2 : sB.size ≤ 40 := by omega
    clear hsA hsB hna hnb hzA hzB hl hm htab
    go_enter Tryd.func5, Tryd.ntmps5
    go_wp2_with fail
    refine (cutRows_any A n c ls _ HL.out (by omega) ha).mono ?_
    rintro e w1 ⟨A1, c1, rfl, hc1, hr1, hb1⟩
    have HB1 := Lib.hid ((hb.below hb1 (Nat.le_refl _)).more hb1.size)
    have HR1 := Lib.hid hr1
    have HT1 := Lib.hid (tab_on HT.out hb1 hb1.size)
    clear ha hb hr1 HT
    go_wp2_with fail
    refine (cutRows_any B m d ms _ HM.out (by omega) HB1.out).mono ?_
    rintro e w2 ⟨B2, d2, rfl, hd2, hr2, hb2⟩
    have HR2 := Lib.hid ((HR1.out.below hb2 (Nat.le_refl _)).more hb2.size)
    have HS2 := Lib.hid hr2
    have HT2 := Lib.hid (tab_on HT1.out hb2 hb2.size)
    have hbel2 := Below.then hb1 hb2
    have HNL := Lib.hid ((cut100_len ls).trans HL.out)
    have HNM := Lib.hid ((cut100_len ms).trans HM.out)
    have HRL := Lib.hid (show ∀ r ∈ cut100 ls, r.length ≤ 1000 from fun r hr => by have := cut100_rows ls r hr; omega)
    have HRM := Lib.hid (show ∀ r ∈ cut100 ms, r.length ≤ 1000 from fun r hr => by have := cut100_rows ms r hr; omega)
    clear hr2 HB1 HR1 HT1 hb1 hb2 HL HM
    generalize cut100 ls = L at *
    generalize cut100 ms = M at *
    go_wp2_with fail
    refine (HTX.out A1 n c1 L _ HNL.out (by omega) HRL.out HR2.out HT2.out).mono ?_
    rintro e w3 ⟨X, xc, rfl, hxc, hx3, hb3⟩
    have hxs := nets_short (ta :: L) (by simp [HNL.out]; omega) (by
      intro r hr
      rcases List.mem_cons.1 hr with rfl | hr
      · have := HNA.out; omega
      · exact HRL.out r hr)
    have HTK := Lib.hid (show takesN (1 + (n : Int)) (netsL (ta :: L)) = some (ta :: L) by
      unfold takesN
      rw [if_neg (by omega), takesL_nets _ _ (by
        intro r hr
        rcases List.mem_cons.1 hr with rfl | hr
        · have := HNA.out; omega
        · exact HRL.out r hr), if_pos (by simp [HNL.out]; omega)])
    have HJ2 := Lib.hid (HJ.out L M HRL.out HRM.out)
    obtain ⟨x, hxe⟩ : ∃ x, netsL (ta :: L) = x := ⟨_, rfl⟩
    have HTG2 := Lib.hid (fun (W : World) hr ht => HTG.out A1 n c1 L W HNL.out (by omega) HRL.out hr ht)
    have HTS2 := Lib.hid (fun (W : World) hr ht => HTS.out A1 n c1 L W HNL.out (by omega) HRL.out hr ht)
    rw [hxe] at hxc hx3 hxs HTK HJ2 HTG2 HTS2 ⊢
    obtain ⟨xn, hxn⟩ : ∃ k, x.length = k := ⟨_, rfl⟩
    rw [hxn] at hxc hxs ⊢
    have HXN := Lib.hid hxn
    have HX3 := Lib.hid hx3
    have HR3 := Lib.hid ((HR2.out.below hb3 (Nat.le_refl _)).more hb3.size)
    have HS3 := Lib.hid ((HS2.out.below hb3 (Nat.le_refl _)).more hb3.size)
    have HT3 := Lib.hid (tab_on HT2.out hb3 hb3.size)
    have hbel3 := Below.then hbel2 hb3
    have HXE := Lib.hid hxe
    clear hxe hxn hx3 HR2 HS2 HT2 hbel2 hb3 HTX HTG HTS HJ
    go_wp2_with fail
    refine (HTY.out B2 m d2 M _ HNM.out (by omega) HRM.out HS3.out HT3.out).mono ?_
    rintro e w4 ⟨Y, yc, rfl, hyc, hy4, hb4⟩
    obtain ⟨y, hye⟩ : ∃ x, netsL (tb :: M) = x := ⟨_, rfl⟩
    have HYE := Lib.hid hye
    rw [hye] at hyc hy4 HJ2 ⊢
    obtain ⟨yn, hyn⟩ : ∃ k, y.length = k := ⟨_, rfl⟩
    rw [hyn] at hyc ⊢
    have HYN := Lib.hid hyn
    have HY4 := Lib.hid hy4
    have HX4 := Lib.hid (HX3.out.on hb4)
    have HR4 := Lib.hid ((HR3.out.below hb4 (Nat.le_refl _)).more hb4.size)
    have HS4 := Lib.hid ((HS3.out.below hb4 (Nat.le_refl _)).more hb4.size)
    have HT4 := Lib.hid (tab_on HT3.out hb4 hb4.size)
    have hbel4 := Below.then hbel3 hb4
    have HSM := Lib.hid (fun (W : World) (h1 : Rd W W.heap.size X x) (h2 : Rd W W.heap.size Y y) => same_any X Y xn yn xc yc _ _ x y W HXN.out HYN.out (by unfold maxLen; omega) h1 h2)
    have HRW := Lib.hid (fun (W : World) (h1 : RdR W W.heap.size A1 L) (h2 : RdR W W.heap.size B2 M) => rows_any A1 B2 n m c1 d2 _ _ L M W HNL.out HNM.out (by unfold maxLen; omega) h1 h2 (fun r hr => by have := HRL.out r hr; unfold maxLen; omega))
    clear hye hyn hy4 HX3 HR3 HS3 HT3 hbel3 hb4 HTY
    go_wp2_with fail
    refine (HSM.out _ HX4.out HY4.out).mono ?_
    rintro e w' ⟨rfl, q, rfl⟩
    have HX5 := Lib.hid (show Rd (w4.drewN q) (w4.drewN q).heap.size X x from HX4.out.drewN q)
    have HR5 := Lib.hid (show RdR (w4.drewN q) (w4.drewN q).heap.size A1 L from HR4.out.drewN q)
    have HS5 := Lib.hid (show RdR (w4.drewN q) (w4.drewN q).heap.size B2 M from HS4.out.drewN q)
    have HT5 := Lib.hid (show Pow10 (w4.drewN q).heap.size (w4.drewN q) from tab_on HT4.out (below_drewN (Below.refl _ _) q) (Nat.le_refl _))
    have hbel5 := below_drewN hbel4 q
    generalize w4.drewN q = w5 at *
    clear HX4 HY4 HR4 HS4 HT4 HSM hbel4
    have key : ∃ r : Bool, decide (x = y) = r ∧ ((sA = sB ∧ decide (L = M) = r) ∨ (sA ≠ sB ∧ r = false)) := by
      by_cases he : sA = sB
      · have hab := HAB.out he
        refine ⟨decide (x = y), rfl, .inl ⟨he, ?_⟩⟩
        by_cases hLM : L = M
        · have hxy : x = y := by rw [← HXE.out, ← HYE.out, hab, hLM]
          rw [decide_eq_true hLM, decide_eq_true hxy]
        · rw [decide_eq_false hLM, decide_eq_false (fun h => hLM (HJ2.out h).2)]
      · exact ⟨false, decide_eq_false (fun h => HBA.out (HNE.out he) (HJ2.out h).1), .inr ⟨he, rfl⟩⟩
    obtain ⟨r, hr, hcase⟩ := key
    rw [hr]
    clear hr
    rcases hcase with ⟨he, hrl⟩ | ⟨he, rfl⟩
    · obtain rfl : sB = sA := he.symm
      rw [hrl] at HRW
      clear hrl HAB HBA HNE HJ2 HXE HYE HYN
      go_wp2_with fail
      refine (HRW.out _ HR5.out HS5.out).mono ?_
      rintro e w' ⟨rfl, q, rfl⟩
      have HX6 := Lib.hid (show Rd (w5.drewN q) (w5.drewN q).heap.size X x from HX5.out.drewN q)
      have HR6 := Lib.hid (show RdR (w5.drewN q) (w5.drewN q).heap.size A1 L from HR5.out.drewN q)
      have HT6 := Lib.hid (show Pow10 (w5.drewN q).heap.size (w5.drewN q) from tab_on HT5.out (below_drewN (Below.refl _ _) q) (Nat.le_refl _))
      have hbel6 := below_drewN hbel5 q
      generalize w5.drewN q = w6 at *
      clear HX5 HR5 HS5 HT5 hbel5 HRW
      go_wp2_with fail
      refine (takeNets_as X xn xc (n + 1) true _ x _ _ HTK.out (by simp [rowsOf, HNL.out]) rfl HXN.out hxc (by omega) (by omega) HX6.out).mono ?_
      rintro e w7 ⟨A7, c7, rfl, hc7, hr7, hb7⟩
      obtain ⟨b7, off7, A8, c8, rfl, hb78, hcell, hlc, _, hrd⟩ := (show RdR w7 w7.heap.size A7 (ta :: L) from hr7).at_ 0 (by simp)
      have hc0 : w7.cell? ⟨b7, off7, none⟩ = some (.slice A8 na c8) := by simpa [HNA.out] using hcell
      have hcv := HCV.out A8 na c8 w7 HNA.out hrd
      have HX7 := Lib.hid (HX6.out.on hb7)
      have HR7 := Lib.hid ((HR6.out.below hb7 (Nat.le_refl _)).more hb7.size)
      have HT7 := Lib.hid (tab_on HT6.out hb7 hb7.size)
      have hbel7 := Below.then hbel6 hb7
      obtain ⟨k, hk⟩ : ∃ k, n + 1 = k := ⟨_, rfl⟩
      rw [hk] at hc7 ⊢
      have hk0 : 0 < k := by omega
      have hkn : ((k : Int) != 1 + (n : Int)) = false := by rw [bne_eq_false_iff_eq]; omega
      clear hk hcell hrd hr7 hb7 HX6 HR6 HT6 hbel6 HCV HTK HNA hlc
      go_wp2_with fail
      refine (sum_any X xn xc x _ HXN.out hxc (by omega) HX7.out).mono ?_
      rintro e w8 ⟨rfl, hb8⟩
      have HR8 := Lib.hid ((HR7.out.below hb8 (Nat.le_refl _)).more hb8.size)
      have HT8 := Lib.hid (tab_on HT7.out hb8 hb8.size)
      have hbel8 := Below.then hbel7 hb8
      have heq := fun W => run_hash_same W x
      have hbt := both_byte (shaL_len x)
      have hkz : (u8A ((shaL x).take 16)).size = 16 := by rw [u8A_size, List.length_take, shaL_len]; rfl
      have hko := u8A_one ((shaL x).take 16)
      have hfz : (u8A (shaL x)).size = 32 := by rw [u8A_size, shaL_len]
      have hfo := u8A_one (shaL x)
      obtain ⟨fin, hfe⟩ : ∃ z, u8A (shaL x) = z := ⟨_, rfl⟩
      obtain ⟨key, hke⟩ : ∃ z, u8A ((shaL x).take 16) = z := ⟨_, rfl⟩
      rw [hfe] at heq hfz hfo ⊢
      rw [hfe, hke] at hbt
      rw [hke] at hkz hko
      have HFE := Lib.hid hfe
      have HKE := Lib.hid hke
      have HBT := Lib.hid hbt
      have HKZ := Lib.hid hkz
      have HKO := Lib.hid hko
      have HFZ := Lib.hid hfz
      have HFO := Lib.hid hfo
      clear hfe hke hbt hkz hko hfz hfo hb8 hbel7 HX7 HR7 HT7 hc0 hcv hkn
      go_wp2_with fail
      refine (HTG2.out _ HR8.out HT8.out).mono ?_
      rintro e w9 ⟨rfl, hb9⟩
      rw [HFE.out]
      have HR9 := Lib.hid ((HR8.out.below hb9 (Nat.le_refl _)).more hb9.size)
      have HT9 := Lib.hid (tab_on HT8.out hb9 hb9.size)
      have hbel9 := Below.then hbel8 hb9
      clear hb9 hbel8 HR8 HT8
      go_wp2_with fail
      clear heq
      refine (HTS2.out _ HR9.out HT9.out).mono ?_
      rintro e w10 ⟨rfl, hb10⟩
      rw [HKE.out]
      have HR10 := Lib.hid ((HR9.out.below hb10 (Nat.le_refl _)).more hb10.size)
      have HT10 := Lib.hid (tab_on HT9.out hb10 hb10.size)
      have hbel10 := Below.then hbel9 hb10
      clear hb10 hbel9 HR9 HT9
      go_wp2_with fail
      refine (HTG2.out _ HR10.out HT10.out).mono ?_
      rintro e w11 ⟨rfl, hb11⟩
      rw [HFE.out]
      have hbel11 := Below.then hbel10 hb11
      have hle11 := hbel11.size
      clear hb11 hbel10 HR10 HT10 HTG2 HTS2 HFE HKE
      go_wp2_with (first
        | (with_reducible refine wpList_store_blkTo rfl 26 (.tmp 13) (.tmp 93) rfl rfl w11.heap.size key rfl rfl 26 _ ((Blk.new w11 _ _).alloc _) (by rw [HKZ.out]; kernel_rfl) (by rw [HKZ.out]; kernel_rfl) HKO.out ?_
           generalize hw12 : World.setRow _ _ _ = w12
           obtain ⟨hk12, hf12, hb12⟩ := two_new hw12 hbel11
           clear hw12 hbel11)
        | (with_reducible refine wpList_store_blkTo rfl 29 (.tmp 14) (.tmp 96) rfl rfl (w11.heap.size + 1) fin rfl rfl 29 _ hf12 (by rw [HFZ.out]; kernel_rfl) (by rw [HFZ.out]; kernel_rfl) HFO.out ?_
           generalize hw13 : World.setRow _ _ _ = w13
           obtain ⟨hk13, hf13, hb13⟩ := row_two hw13 hk12 hf12 (by omega) hb12 (by omega)
           clear hw13 hk12 hf12 hb12))
      obtain ⟨bk, hbk⟩ : ∃ z, w11.heap.size = z := ⟨_, rfl⟩
      obtain ⟨bh, hbh⟩ : ∃ z, bk + 1 = z := ⟨_, rfl⟩
      rw [hbk] at hk13 hf13 ⊢
      rw [hbh] at hf13 ⊢
      have HK13 := Lib.hid hk13
      have HF13 := Lib.hid hf13
      clear hbk hbh hk13 hf13
      go_loopw [97] (fun t wr => ∃ z q : Nat, z ≤ 16 ∧ t = .int .i64 z ∧ wr = w13.drewN q) (fun t _ => 16 - (intOf t).toNat)
      case atStart => exact ⟨0, 0, by omega, rfl, rfl⟩
      case round =>
        obtain ⟨z, q, hz, rfl, rfl⟩ := hrel
        by_cases hz16 : z < 16
        · obtain ⟨v, hv1, hv2⟩ := HBT.out z hz16
          have hck := (HK13.out.cell z).trans hv1
          have hcf := (HF13.out.cell z).trans hv2
          have hz32 : (z : Int) < 32 := by omega
          have hzi : (z : Int) < 16 := by omega
          clear hv1 hv2
          go_wp2_with fail
          go_quiet (fail)
          go_wp2_with fail
          go_roundw
          case rel => exact ⟨z + 1, _, by omega, by go_num, rfl⟩
          case measure => simp [intOf]; omega
        · have hzi : ¬ (z : Int) < 16 := by omega
          have hbelq := below_drewN hb13 q
          generalize w13.drewN q = w14 at *
          go_wp2_with fail
          refine (wakes2_any _).mono ?_
          rintro e w15 ⟨rfl, hb15⟩
          have hbel15 := Below.then hbelq hb15
          clear hb15 hbelq
          go_wp2_with fail
          go_ret
          exact ⟨rfl, hbel15⟩
    · have hne := HNE.out he
      obtain ⟨w6, rfl⟩ : ∃ z : World, z = w5 := ⟨_, rfl⟩
      have HX6 := HX5
      have HR6 := HR5
      have HT6 := HT5
      have hbel6 := hbel5
      clear HX5 HR5 HS5 HT5 hbel5 HRW HAB HBA HNE HJ2 HXE HYE HYN
      go_wp2_with fail
      refine (takeNets_as X xn xc (n + 1) true _ x _ _ HTK.out (by simp [rowsOf, HNL.out]) rfl HXN.out hxc (by omega) (by omega) HX6.out).mono ?_
      rintro e w7 ⟨A7, c7, rfl, hc7, hr7, hb7⟩
      obtain ⟨b7, off7, A8, c8, rfl, hb78, hcell, hlc, _, hrd⟩ := (show RdR w7 w7.heap.size A7 (ta :: L) from hr7).at_ 0 (by simp)
      have hc0 : w7.cell? ⟨b7, off7, none⟩ = some (.slice A8 na c8) := by simpa [HNA.out] using hcell
      have hcv := HCV.out A8 na c8 w7 HNA.out hrd
      have HX7 := Lib.hid (HX6.out.on hb7)
      have HR7 := Lib.hid ((HR6.out.below hb7 (Nat.le_refl _)).more hb7.size)
      have HT7 := Lib.hid (tab_on HT6.out hb7 hb7.size)
      have hbel7 := Below.then hbel6 hb7
      obtain ⟨k, hk⟩ : ∃ k, n + 1 = k := ⟨_, rfl⟩
      rw [hk] at hc7 ⊢
      have hk0 : 0 < k := by omega
      have hkn : ((k : Int) != 1 + (n : Int)) = false := by rw [bne_eq_false_iff_eq]; omega
      clear hk hcell hrd hr7 hb7 HX6 HR6 HT6 hbel6 HCV HTK HNA hlc
      go_wp2_with fail
      refine (sum_any X xn xc x _ HXN.out hxc (by omega) HX7.out).mono ?_
      rintro e w8 ⟨rfl, hb8⟩
      have HR8 := Lib.hid ((HR7.out.below hb8 (Nat.le_refl _)).more hb8.size)
      have HT8 := Lib.hid (tab_on HT7.out hb8 hb8.size)
      have hbel8 := Below.then hbel7 hb8
      have heq := fun W => run_hash_same W x
      have hbt := both_byte (shaL_len x)
      have hkz : (u8A ((shaL x).take 16)).size = 16 := by rw [u8A_size, List.length_take, shaL_len]; rfl
      have hko := u8A_one ((shaL x).take 16)
      have hfz : (u8A (shaL x)).size = 32 := by rw [u8A_size, shaL_len]
      have hfo := u8A_one (shaL x)
      obtain ⟨fin, hfe⟩ : ∃ z, u8A (shaL x) = z := ⟨_, rfl⟩
      obtain ⟨key, hke⟩ : ∃ z, u8A ((shaL x).take 16) = z := ⟨_, rfl⟩
      rw [hfe] at heq hfz hfo ⊢
      rw [hfe, hke] at hbt
      rw [hke] at hkz hko
      have HFE := Lib.hid hfe
      have HKE := Lib.hid hke
      have HBT := Lib.hid hbt
      have HKZ := Lib.hid hkz
      have HKO := Lib.hid hko
      have HFZ := Lib.hid hfz
      have HFO := Lib.hid hfo
      clear hfe hke hbt hkz hko hfz hfo hb8 hbel7 HX7 HR7 HT7 hc0 hcv hkn
      go_wp2_with fail
      refine (HTG2.out _ HR8.out HT8.out).mono ?_
      rintro e w9 ⟨rfl, hb9⟩
      rw [HFE.out]
      have HR9 := Lib.hid ((HR8.out.below hb9 (Nat.le_refl _)).more hb9.size)
      have HT9 := Lib.hid (tab_on HT8.out hb9 hb9.size)
      have hbel9 := Below.then hbel8 hb9
      clear hb9 hbel8 HR8 HT8
      go_wp2_with fail
      clear heq
      refine (HTS2.out _ HR9.out HT9.out).mono ?_
      rintro e w10 ⟨rfl, hb10⟩
      rw [HKE.out]
      have HR10 := Lib.hid ((HR9.out.below hb10 (Nat.le_refl _)).more hb10.size)
      have HT10 := Lib.hid (tab_on HT9.out hb10 hb10.size)
      have hbel10 := Below.then hbel9 hb10
      clear hb10 hbel9 HR9 HT9
      go_wp2_with fail
      refine (HTG2.out _ HR10.out HT10.out).mono ?_
      rintro e w11 ⟨rfl, hb11⟩
      rw [HFE.out]
      have hbel11 := Below.then hbel10 hb11
      have hle11 := hbel11.size
      clear hb11 hbel10 HR10 HT10 HTG2 HTS2 HFE HKE
      go_wp2_with (first
        | (with_reducible refine wpList_store_blkTo rfl 26 (.tmp 13) (.tmp 93) rfl rfl w11.heap.size key rfl rfl 26 _ ((Blk.new w11 _ _).alloc _) (by rw [HKZ.out]; kernel_rfl) (by rw [HKZ.out]; kernel_rfl) HKO.out ?_
           generalize hw12 : World.setRow _ _ _ = w12
           obtain ⟨hk12, hf12, hb12⟩ := two_new hw12 hbel11
           clear hw12 hbel11)
        | (with_reducible refine wpList_store_blkTo rfl 29 (.tmp 14) (.tmp 96) rfl rfl (w11.heap.size + 1) fin rfl rfl 29 _ hf12 (by rw [HFZ.out]; kernel_rfl) (by rw [HFZ.out]; kernel_rfl) HFO.out ?_
           generalize hw13 : World.setRow _ _ _ = w13
           obtain ⟨hk13, hf13, hb13⟩ := row_two hw13 hk12 hf12 (by omega) hb12 (by omega)
           clear hw13 hk12 hf12 hb12))
      obtain ⟨bk, hbk⟩ : ∃ z, w11.heap.size = z := ⟨_, rfl⟩
      obtain ⟨bh, hbh⟩ : ∃ z, bk + 1 = z := ⟨_, rfl⟩
      rw [hbk] at hk13 hf13 ⊢
      rw [hbh] at hf13 ⊢
      have HK13 := Lib.hid hk13
      have HF13 := Lib.hid hf13
      clear hbk hbh hk13 hf13
      go_loopw [97] (fun t wr => ∃ z q : Nat, z ≤ 16 ∧ t = .int .i64 z ∧ wr = w13.drewN q) (fun t _ => 16 - (intOf t).toNat)
      case atStart => exact ⟨0, 0, by omega, rfl, rfl⟩
      case round =>
        obtain ⟨z, q, hz, rfl, rfl⟩ := hrel
        by_cases hz16 : z < 16
        · obtain ⟨v, hv1, hv2⟩ := HBT.out z hz16
          have hck := (HK13.out.cell z).trans hv1
          have hcf := (HF13.out.cell z).trans hv2
          have hz32 : (z : Int) < 32 := by omega
          have hzi : (z : Int) < 16 := by omega
          clear hv1 hv2
          go_wp2_with fail
          go_quiet (fail)
          go_wp2_with fail
          go_roundw
          case rel => exact ⟨z + 1, _, by omega, by go_num, rfl⟩
          case measure => simp [intOf]; omega
        · have hzi : ¬ (z : Int) < 16 := by omega
          have hbelq := below_drewN hb13 q
          generalize w13.drewN q = w14 at *
          go_wp2_with fail
          refine (wakes2_any _).mono ?_
          rintro e w15 ⟨rfl, hb15⟩
          have hbel15 := Below.then hbelq hb15
          clear hb15 hbelq
          go_wp2_with fail
          go_ret
          exact ⟨rfl, hbel15⟩
  · have hor : (40 < na ∨ (na ≤ 40 ∧ 40 < nb)) ∨ ((na ≤ 40 ∧ nb ≤ 40 ∧ 5 < n) ∨ (na ≤ 40 ∧ nb ≤ 40 ∧ n ≤ 5 ∧ 5 < m)) := by omega
    rw [hsA, hsB]
    rw [← hzA, ← hzB] at hor
    clear hsA hsB hna hnb hzA hzB hl hm htab ha hb hsmall hta htb
    rcases hor with (h | ⟨h, h'⟩) | (⟨h, h', h''⟩ | ⟨h, h', h'', h3⟩)
    all_goals
      go_enter Tryd.func5, Tryd.ntmps5
      go_wp2_with fail
      refine (wakes2_any _).mono ?_
      rintro e w5 ⟨rfl, hb5⟩
      go_wp2_with fail
      go_ret
      exact ⟨rfl, hb5⟩

theorem contract (H : Type) (enc : TypeId × Value → H) (W : World) (base : Nat) (args : Array Value) (ds gs : List (DataW H)) (before : List MemPlace)
    (hval : ∀ (j : Nat) t v, Tryd.f5.params[j]? = some t → args[j]? = some v → Value.okWide Tryd.prog W .any base t v)
    (hW : DataW.Whole enc Tryd.prog Tryd.f5.params.toList Rows.shaTextsSpec.vars false W args.toList ds gs before) (hL : laidMetH Tryd.prog Rows.shaTextsRow.laid W) :
    Calls Tryd.prog 5 args W fun e W' => ∃ v, e = .returned v ∧ Rows.shaTextsSpec.post enc Tryd.prog Tryd.f5 false true false false W args v W' := by
  have hW' := hW
  obtain ⟨p, q, hA0, hV, rfl, hfz, hnd⟩ := hW
  have hA : DataW.TrodAll enc Tryd.prog W 0 (fun _ => true) true Tryd.f5.params.toList args.toList ds p := hA0
  rw [Tryd.params5] at hA hval
  obtain ⟨v0, v1, v2, v3, d0, d1, d2, d3, p0, p1, p2, p3, rfl, rfl, rfl, h0, h1, h2, h3⟩ := trodAll_four hA
  obtain ⟨rfl, rfl⟩ := trodVars_none hV
  obtain ⟨s0, rfl, rfl, rfl, hs0⟩ := open_string Tryd.underlying9 (hval 0 9 v0 rfl rfl) h0
  obtain ⟨s1, rfl, rfl, rfl, hs1⟩ := open_string Tryd.underlying9 (hval 1 9 v1 rfl rfl) h1
  obtain ⟨A2, m2, c2, l2, rfl, hl2, hc2, hm2, hr2⟩ := open_rows (hval 2 36 v2 rfl rfl) h2
  obtain ⟨A3, m3, c3, l3, rfl, hl3, hc3, hm3, hr3⟩ := open_rows (hval 3 36 v3 rfl rfl) h3
  clear hA0
  refine (walk s0.data.toList s1.data.toList A2 A3 m2 m3 c2 c3 l2 l3 W hs0 hs1 hl2 hl3 hr2 hr3 (pow10 hL)).mono fun e W' ⟨he, hb⟩ => ?_
  exact ⟨_, he, law_post hW' rfl (by kernel_rfl) rfl (by kernel_rfl) hb⟩

theorem laid_met (os : Os) : laidMet Tryd.prog Rows.shaTextsRow.laid ((laidWorld os).forCall (fun _ _ => 0) ⟨#[], #[.string ⟨#[]⟩, .string ⟨#[]⟩, .slice none 0 0, .slice none 0 0], []⟩).memory :=
  laidMet_of_run' 8 (by kernel_rfl) (by kernel_rfl)
theorem reads (os : Os) {H : Type} (enc : TypeId × Value → H) : ∃ places, DataW.whole enc Tryd.prog ((laidWorld os).forCall (fun _ _ => 0) ⟨#[], #[.string ⟨#[]⟩, .string ⟨#[]⟩, .slice none 0 0, .slice none 0 0], []⟩).memory Tryd.f5.params.toList Rows.shaTextsSpec.vars false #[Value.string ⟨#[]⟩, Value.string ⟨#[]⟩, Value.slice none 0 0, Value.slice none 0 0].toList 8 = some ([.lit (.string []), .lit (.string []), .nil, .nil], [], places) :=
  ⟨[], by kernel_rfl⟩

set_option maxRecDepth 100000 in
theorem lifted (os : Os) (started : os.Started) (H : Type) (enc : TypeId × Value → H) (F : Stop.Interp) :
    ReturnsInHanded {} Tryd.checked os 5 .any ((OpenSpec.ofChange Rows.shaTextsSpec).preRow enc Tryd.prog Tryd.f5 Rows.shaTextsRow.domain false Rows.shaTextsRow.laid) (((OpenSpec.ofChange Rows.shaTextsSpec).at F).post enc Tryd.prog Tryd.f5 false true false false) := by
  obtain ⟨places, hx⟩ := reads os enc
  refine returnsInHanded_of_row (C := Tryd.checked) (s := OpenSpec.ofChange Rows.shaTextsSpec) own started (by kernel_rfl) Tryd.func5
    (witness_row_at (enc := enc) (C := Tryd.checked) false (laidWorld os) #[.string ⟨#[]⟩, .string ⟨#[]⟩, .slice none 0 0, .slice none 0 0] rfl (by kernel_rfl) (by kernel_rfl) (by kernel_rfl)
      (OpenSpec.preRow_of_cond 8 hx (by kernel_rfl) (fun k hk => by cases hk) (by kernel_rfl) (laid_met os))) ?_
  intro W base args ds gs before hval hW _ _ _ hL _ _
  exact contract H enc W base args ds gs before hval hW hL

theorem said : Rows.ShaTextsSaid :=
  OpenClaim.holds_of_cond 5 Tryd.f5 rfl rfl rfl rfl rfl rfl rfl ⟨rfl, rfl, rfl, rfl, rfl⟩ rfl rfl rfl rfl rfl (by kernel_rfl) Tryd.func5 (by kernel_rfl)
    (of_decide_eq_true (by kernel_rfl)) (by unfold Func.isWrapper; first | (rw [if_pos (by decide +kernel)]; kernel_rfl) | (rw [if_neg (by decide +kernel)]; exact ⟨rfl, rfl⟩))
    (fun os started H enc _ F => by rw [OpenClaim.pre_eq_preRow]; exact lifted os started H enc F)

theorem plain (f : FuncId) (fn : Func) (hf : Tryd.pinned.checked.prog.funcNamed "aumbry/aumbrylaw02.ShaTexts" = some f) (hfn : Tryd.pinned.checked.prog.funcs[f]? = some fn) :
    false = Tryd.pinned.checked.prog.looks [] ∧ ∀ (j : Nat) t, fn.params[j]? = some t → Tryd.pinned.checked.prog.wantsStandIn t = false := by
  obtain rfl : f = 5 := Option.some.inj ((show Tryd.prog.funcNamed "aumbry/aumbrylaw02.ShaTexts" = some 5 by kernel_rfl).symm.trans hf) |>.symm
  obtain rfl : fn = Tryd.f5 := (Option.some.inj (Tryd.func5.symm.trans hfn)).symm
  refine ⟨by kernel_rfl, fun j t ht => ?_⟩
  exact wants_none (by kernel_rfl) (Array.mem_of_getElem? ht)

/-- The card: the statement holds, its listed tables tied to the program's text. -/
theorem card : Rows.ShaTextsCardSaid :=
  Claim7.holds_tied_plain_at .later [] _ _ _ _ said (fun _ h => by cases h) (by kernel_rfl) (fun _ h => by cases h) shaTexts_row_tie rfl ⟨rfl, rfl⟩ (by kernel_rfl) rfl plain (by kernel_rfl)
end Go.Proofs.YtdjnaeifmeffoaaDoor.shaTexts
