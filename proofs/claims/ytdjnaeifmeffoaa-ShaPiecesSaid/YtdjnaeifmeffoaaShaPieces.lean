/- ShaPieces: piece by piece the program's hash is the document's of what came till then; spoiling what was handed in changes nothing. For all rows. -/
import Derived.Test.YtdjnaeifmeffoaaLaw
import Derived.Test.YtdjnaeifmeffoaaOpen
import Derived.Test.YtdjnaeifmeffoaaKeep
import Derived.Test.YtdjnaeifmeffoaaCopyB
import Derived.Test.YtdjnaeifmeffoaaHashEq
import Derived.Test.YtdjnaeifmeffoaaRSum
namespace Go.Proofs.Ytdjnaeifmeffoaa.shaPieces
open Go.ChangeShapes Go.WideShapes Go.ChangeAt Go.RowKit

theorem own_grown {w w' : World} {base g n : Nat} {e : TypeId} {v : Value} {xs : List Value} (h : w.ownsRow base e 1 v n xs) (hg : w.grownBy w' (some g)) (hlt : g < base) : w'.ownsRow base e 1 v n xs := by
  obtain ⟨h1, h2 | ⟨b, cap, cur, hv, hb, hrow, rest⟩⟩ := h
  · exact ⟨h1, .inl h2⟩
  · exact ⟨h1, .inr ⟨b, cap, cur, hv, hb, (hg.block b (Array.getElem?_eq_some_iff.1 hrow).1 (fun e => by injection e with e; omega)).trans hrow, rest⟩⟩
theorem own_below {w w' : World} {base C n : Nat} {e : TypeId} {v : Value} {xs : List Value} (h : w.ownsRow base e 1 v n xs) (hC : ∀ k, v.ownBlock = some k → k < C) (hbl : Below C w w') : w'.ownsRow base e 1 v n xs := by
  obtain ⟨h1, h2 | ⟨b, cap, cur, hv, hb, hrow, rest⟩⟩ := h
  · exact ⟨h1, .inl h2⟩
  · exact ⟨h1, .inr ⟨b, cap, cur, hv, hb, (hbl.block b (hC b (by rw [hv]; rfl))).trans hrow, rest⟩⟩
theorem ownB_grown {w w' : World} {base g n : Nat} {e : TypeId} {v : Value} {l : List UInt8} (h : OwnB w base e v n l) (hg : w.grownBy w' (some g)) (hlt : g < base) : OwnB w' base e v n l := by
  obtain ⟨h1, h2 | ⟨b, cap, cur, hv, hb, hrow, rest⟩⟩ := h
  · exact ⟨h1, .inl h2⟩
  · exact ⟨h1, .inr ⟨b, cap, cur, hv, hb, (hg.block b (Array.getElem?_eq_some_iff.1 hrow).1 (fun e => by injection e with e; omega)).trans hrow, rest⟩⟩

set_option maxRecDepth 100000 in
set_option maxHeartbeats 8000000 in
theorem walk (B : Option Addr) (m d : Nat) (ls : List (List UInt8)) (w : World) (hl : ls.length = m) (ha : RdR w w.heap.size B ls) :
    Calls Try.prog 6 #[.slice B m d] w fun e w' => e = .returned (.bool true) ∧ Below w.heap.size w w' := by
  obtain ⟨i0, hi, hz0, hz1, hz2⟩ := info_parts info5
  have HLS := Lib.hid hl
  have HA := Lib.hid ha
  clear hl ha
  go_enter Try.func6, Try.ntmps6
  go_wp2_with fail
  refine (new_any _).mono ?_
  rintro e w1 ⟨g, rfl, hg, hs, hb1⟩
  have HS := Lib.hid hs
  have hgl := hs.lt
  clear hs
  have heq := fun W => run_hash_same W []
  obtain ⟨fin, hfe⟩ : ∃ x, u8A (shaL []) = x := ⟨_, rfl⟩
  rw [hfe] at heq
  have HFE := Lib.hid hfe
  clear hfe
  go_wp2_with fail
  refine (shaSum_any g [] w1 HS.out (by simp)).mono ?_
  rintro e w2 ⟨rfl, hb2⟩
  rw [HFE.out]
  have hb02 := Below.then hb1 hb2
  have HS2 := Lib.hid (HS.out.below hb2 hgl)
  clear HS
  go_wp2_with fail
  refine (rsum_any none 0 0 [] w2 rfl (by omega) (.inl rfl)).mono ?_
  rintro e w3 ⟨rfl, hb3⟩
  rw [HFE.out]
  have hb03 := Below.then hb02 hb3
  have hgl2 := HS2.out.lt
  have HS3 := Lib.hid (HS2.out.below hb3 hgl2)
  have hgl3 := HS3.out.lt
  clear HS2 hb02 hb3 hb1 hb2 hgl2 hgl
  go_wp2_with fail
  clear heq HFE
  obtain ⟨B1, hB1⟩ : ∃ y, w3.heap.size = y := ⟨_, rfl⟩
  have hgB : g < B1 := by omega
  have hwB : w.heap.size ≤ B1 := by have := hb03.size; omega
  have hB3 : B1 ≤ w3.heap.size := by omega
  clear hgl3 hB1
  go_loopw [4, 5] (fun v i wr => ∃ (k : Nat) (al : List UInt8), k ≤ m ∧ k ≤ 10 ∧ i = .int .i64 (k : Int) ∧ Hid (al.length ≤ 150 * k) ∧ Hid (ShaAt wr g al) ∧ Hid (wr.ownsRow B1 5 1 v al.length (Lib.byteCells al)) ∧ Below w.heap.size w wr ∧ B1 ≤ wr.heap.size) (fun _ i _ => 10 - (intOf i).toNat)
  case atStart => exact ⟨0, [], Nat.zero_le _, Nat.zero_le _, rfl, Lib.hid (Nat.zero_le _), HS3, Lib.hid (World.ownsRow_nil _ _ _ _), hb03, hB3⟩
  case round =>
    clear HS3 hb03 hB3
    obtain ⟨k, al, hk, hk10, rfl, HAL, HS, HO, hbel, hBw⟩ := hrel
    obtain ⟨A4, c4, rfl, hc41, hc42⟩ := own_caps HO.out
    by_cases hlt : k < m ∧ k < 10
    · obtain ⟨hkm, hk10'⟩ := hlt
      have hl1 : k < ls.length := by rw [HLS.out]; exact hkm
      obtain ⟨bb, off, A1, c1, rfl, _, hcc, hqc, _, hrd⟩ := (HA.out.below hbel (Nat.le_refl _)).at_ k hl1
      generalize ls[k] = row at *
      obtain ⟨q, hq⟩ : ∃ q, row.length = q := ⟨_, rfl⟩
      rw [hq] at hcc hqc
      have HCUT := Lib.hid (fun W => cut_any A1 q c1 150 W hqc)
      have hkb : (row.take 150).length = min q 150 := by rw [List.length_take, hq, Nat.min_comm]
      have hbr := hrd.take 150
      have hp3 : min q 150 ≤ 150 := Nat.min_le_right _ _
      have hpc : min q 150 ≤ c1 := Nat.le_trans (Nat.min_le_left _ _) hqc
      have hki : (k : Int) < (m : Int) := by omega
      have hk10i : (k : Int) < 10 := by omega
      clear hq hrd
      generalize row.take 150 = b at *
      generalize hpe : min q 150 = p at *
      have HBL := Lib.hid hkb
      have HBR := Lib.hid hbr
      obtain ⟨r, hr⟩ : ∃ r, al.length = r := ⟨_, rfl⟩
      have HR := Lib.hid hr
      have hr15 : r ≤ 150 * k := by rw [← hr]; exact HAL.out
      rw [hr] at HO hc41 ⊢
      clear hr hbr hkb hpe HAL
      go_wp2_with fail
      refine (HCUT.out _).mono ?_
      rintro e w' ⟨rfl, rfl⟩
      clear HCUT hcc
      go_wp2_with (at_builtin; refine wpList_append_rd rfl _ _ 22 rfl B1 5 i0 Try.underlying22 hi hz0 hz1 hz2 (.slice A4 r c4) r (Lib.byteCells al) rfl HO.out w.heap.size A1 p c1 b rfl HBL.out HBR.out (by omega) hBw ?_)
      intro v5 w5 hown5 hg5
      rw [← Lib.byteCells_append] at hown5
      have hlt4 := HO.out.lt
      have HS5 := Lib.hid (HS.out.grown hg5 (fun e => by have := (hlt4 g e.symm).1; omega))
      have hb5 : Below w.heap.size wr w5 := (Below.refl _ _).grown hg5 hbel.size (fun q hq => by have := (hlt4 q hq).1; omega)
      have hbel5 := hbel.trans hb5
      have HBR5 := Lib.hid (HBR.out.below hb5 (Nat.le_refl _))
      have hB5 : B1 ≤ w5.heap.size := Nat.le_trans hBw hg5.size
      obtain ⟨A6, c6, rfl, hc61, hc62⟩ := own_caps hown5
      have HO5 := Lib.hid hown5
      clear hown5 hg5 hlt4 hb5 HO HS HBR hbel hBw
      go_wp2_with fail
      refine (copyB_any A1 p c1 _ b w5 HBL.out (by omega) HBR5.out).mono ?_
      rintro e w6 ⟨A7, c7, rfl, hc7, hown7, hb6⟩
      have hg5l := HS5.out.lt
      have HS6 := Lib.hid (HS5.out.below hb6 hg5l)
      have HO6 := Lib.hid (own_below HO5.out (fun k hk => (HO5.out.lt k hk).2) hb6)
      have HC7 := Lib.hid hown7
      have hB6 : B1 ≤ w6.heap.size := Nat.le_trans hB5 hb6.size
      have hbel6 := Below.then hbel5 hb6
      have HLT6 := Lib.hid (fun k hk => (HO5.out.lt k hk).2)
      have hs56 := hb6.size
      have hB56 := hB5
      have hcall := write_any g p c7 A7 b al w6 HBL.out hc7 (by rw [HR.out]; omega) (RdN.of_own hown7.own hg5l) HS6.out
      rw [HR.out] at hcall
      have HCALL := Lib.hid hcall
      clear hcall hown7 hb6 HS5 HO5 HBR5 hbel5 hB5
      go_wp2_with fail
      refine HCALL.out.mono ?_
      rintro e w7 ⟨rfl, hs7, hg7⟩
      have HS7 := Lib.hid hs7
      have HO7 := Lib.hid (own_grown HO6.out hg7 hgB)
      have HC8 := Lib.hid (ownB_grown HC7.out hg7 hg5l)
      have hs67 := hg7.size
      have hbel7 := hbel6.trans (grown_in hg7 hbel6.size hg)
      have hB7 : B1 ≤ w7.heap.size := Nat.le_trans hB6 hs67
      clear hs7 hg7 HCALL HC7 HO6 HS6 hbel6 hB6
      go_wp2_with fail
      refine (spoilB_any A7 p c7 w5.heap.size b w7 HC8.out).mono ?_
      rintro e w8 ⟨rfl, hb8⟩
      have HS8 := Lib.hid (HS7.out.below hb8 hg5l)
      have HO8 := Lib.hid (own_below HO7.out HLT6.out hb8)
      have hs78 := hb8.size
      have hbel8 := hbel7.trans (hb8.mono (Nat.le_trans hwB hB56))
      have hB8 : B1 ≤ w8.heap.size := Nat.le_trans hB7 hs78
      have HAL8 := Lib.hid (show (al ++ b).length ≤ 150 * (k + 1) by rw [List.length_append, HR.out, HBL.out]; omega)
      have HLEN := Lib.hid (show (al ++ b).length = r + p by rw [List.length_append, HR.out, HBL.out])
      obtain ⟨al', hal'⟩ : ∃ y, al ++ b = y := ⟨_, rfl⟩
      rw [hal'] at HS8 HO8 HAL8 HLEN
      clear hal' hb8 HS7 HO7 HC8 hbel7 hB7 HLT6 HR HBL hs78 hs67 hs56 hg5l hB56
      have hg8 := HS8.out.lt
      have heq := fun W => run_hash_same W al'
      obtain ⟨fin, hfe⟩ : ∃ x, u8A (shaL al') = x := ⟨_, rfl⟩
      rw [hfe] at heq
      have HFE := Lib.hid hfe
      clear hfe
      by_cases hev : (k : Int) % 2 = 0
      · go_wp2_with fail
        refine (shaSum_any g al' w8 HS8.out (by rw [HLEN.out]; omega)).mono ?_
        rintro e w9 ⟨rfl, hb9⟩
        rw [HFE.out]
        have HS9 := Lib.hid (HS8.out.below hb9 hg8)
        have HO9 := Lib.hid (own_below HO8.out (fun k hk => (HO8.out.lt k hk).2) hb9)
        have hbel9 := Below.then hbel8 hb9
        have hB9 : B1 ≤ w9.heap.size := Nat.le_trans hB8 hb9.size
        have hg9 := HS9.out.lt
        clear HS8 HO8 hb9 hbel8 hB8 hg8
        go_wp2_with fail
        refine (rsum_any A6 (r + p) c6 al' w9 HLEN.out (by omega) (Rd.of_own HO9.out)).mono ?_
        rintro e w10 ⟨rfl, hb10⟩
        rw [HFE.out]
        have HS10 := Lib.hid (HS9.out.below hb10 hg9)
        have HO10 := Lib.hid (own_below HO9.out (fun k hk => (HO9.out.lt k hk).2) hb10)
        have hbel10 := Below.then hbel9 hb10
        have hB10 : B1 ≤ w10.heap.size := Nat.le_trans hB9 hb10.size
        clear HS9 HO9 hb10 hbel9 hB9 hg9
        rw [← HLEN.out] at HO10
        go_wp2_with fail
        rw [← HLEN.out]
        go_roundw
        case rel => exact ⟨k + 1, al', by omega, by omega, by go_num, HAL8, HS10, HO10, hbel10, hB10⟩
        case measure => simp [intOf]; omega
      · rw [← HLEN.out] at HO8
        go_wp2_with fail
        rw [← HLEN.out]
        go_roundw
        case rel => exact ⟨k + 1, al', by omega, by omega, by go_num, HAL8, HS8, HO8, hbel8, hB8⟩
        case measure => simp [intOf]; omega
    · have hor : ¬ k < m ∨ ¬ k < 10 := by omega
      have hal10 : al.length ≤ 1500 := by have := HAL.out; omega
      have hgw := HS.out.lt
      obtain ⟨w5, rfl⟩ : ∃ y : World, y = wr := ⟨_, rfl⟩
      obtain ⟨r, hr⟩ : ∃ r, al.length = r := ⟨_, rfl⟩
      have HR := Lib.hid hr
      rw [hr] at HO hc41 hal10 ⊢
      clear hr HAL
      have heq := fun W => run_hash_same W al
      obtain ⟨fin, hfe⟩ : ∃ x, u8A (shaL al) = x := ⟨_, rfl⟩
      rw [hfe] at heq
      have HFE := Lib.hid hfe
      clear hfe
      rcases (show ((k : Int) < (m : Int) ∧ ¬ (k : Int) < 10) ∨ ¬ (k : Int) < (m : Int) by omega) with ⟨hki, hk6i⟩ | hki <;> (
        clear hor
        go_wp2_with fail
        refine (shaSum_any g al w5 HS.out (by rw [HR.out]; omega)).mono ?_
        rintro e w6 ⟨rfl, hb6⟩
        rw [HFE.out]
        have HS6 := Lib.hid (HS.out.below hb6 hgw)
        have HO6 := Lib.hid (own_below HO.out (fun k hk => (HO.out.lt k hk).2) hb6)
        have hbel6 := Below.then hbel hb6
        have hg6 := HS6.out.lt
        clear HS HO hb6 hbel
        go_wp2_with fail
        refine (sum_any A4 r c4 al w6 HR.out hc41 (by omega) (Rd.of_own HO6.out)).mono ?_
        rintro e w7 ⟨rfl, hb7⟩
        rw [HFE.out]
        have HS7 := Lib.hid (HS6.out.below hb7 hg6)
        have HO7 := Lib.hid (own_below HO6.out (fun k hk => (HO6.out.lt k hk).2) hb7)
        have hbel7 := Below.then hbel6 hb7
        have hg7 := HS7.out.lt
        clear HS6 HO6 hb7 hbel6
        go_wp2_with fail
        refine (shaSum_any g al w7 HS7.out (by rw [HR.out]; omega)).mono ?_
        rintro e w8 ⟨rfl, hb8⟩
        rw [HFE.out]
        have HO8 := Lib.hid (own_below HO7.out (fun k hk => (HO7.out.lt k hk).2) hb8)
        have hbel8 := Below.then hbel7 hb8
        clear HS7 HO7 hb8 hbel7
        go_wp2_with fail
        refine (rsum_any A4 r c4 al w8 HR.out (by omega) (Rd.of_own HO8.out)).mono ?_
        rintro e w9 ⟨rfl, hb9⟩
        rw [HFE.out]
        have hbel9 := Below.then hbel8 hb9
        clear HO8 hb9 hbel8
        go_wp2_with fail
        refine (wakes2_any _).mono ?_
        rintro e w10 ⟨rfl, hb10⟩
        have hbel10 := Below.then hbel9 hb10
        clear hb10 heq hbel9
        go_wp2_with fail
        go_ret
        exact ⟨rfl, hbel10⟩)

theorem contract (H : Type) (enc : TypeId × Value → H) (W : World) (base : Nat) (args : Array Value) (ds gs : List (DataW H)) (before : List MemPlace)
    (hval : ∀ (j : Nat) t v, Try.f6.params[j]? = some t → args[j]? = some v → Value.okWide Try.prog W .any base t v)
    (hW : DataW.Whole enc Try.prog Try.f6.params.toList Rows.shaPiecesSpec.vars false W args.toList ds gs before) :
    Calls Try.prog 6 args W fun e W' => ∃ v, e = .returned v ∧ Rows.shaPiecesSpec.post enc Try.prog Try.f6 false true false false W args v W' := by
  have hW' := hW
  obtain ⟨p, q, hA0, hV, rfl, hfz, hnd⟩ := hW
  have hA : DataW.TrodAll enc Try.prog W 0 (fun _ => true) true Try.f6.params.toList args.toList ds p := hA0
  rw [Try.params6] at hA hval
  obtain ⟨v0, d0, rfl, rfl, h0⟩ := trodAll_one hA
  obtain ⟨rfl, rfl⟩ := trodVars_none hV
  obtain ⟨A0, m0, c0, l0, rfl, hl0, hc0, hm0, hr0⟩ := open_rows (hval 0 39 v0 rfl rfl) h0
  clear hA0
  refine (walk A0 m0 c0 l0 W hl0 hr0).mono fun e W' ⟨he, hb⟩ => ?_
  exact ⟨_, he, law_post hW' rfl (by kernel_rfl) rfl (by kernel_rfl) hb⟩

set_option maxRecDepth 100000 in
theorem lifted (os : Os) (started : os.Started) (H : Type) (enc : TypeId × Value → H) :
    ReturnsInHanded {} Try.checked os 6 .any (Rows.shaPiecesSpec.pre6 enc Try.prog Try.f6 Rows.shaPiecesRow.domain false) (Rows.shaPiecesSpec.post enc Try.prog Try.f6 false true false false) := by
  refine returnsInHanded_of_change (C := Try.checked) own started (by kernel_rfl) Try.func6
    (ChangeSpec.witness6 (enc := enc) (C := Try.checked) false ⟨#[], #[.slice none 0 0], []⟩ 8 (by kernel_rfl) (by kernel_rfl) (by kernel_rfl) (by kernel_rfl)) ?_
  intro W base args ds gs before hval0 hW _ _
  have hval : ∀ (j : Nat) t v, Try.f6.params[j]? = some t → args[j]? = some v → Value.okWide Try.prog W .any base t v := hval0
  exact contract H enc W base args ds gs before hval hW

/-- The statement. -/
theorem card : Rows.ShaPiecesSaid :=
  OpenClaim.holds_of_wide 6 Try.f6 rfl rfl rfl rfl rfl rfl rfl ⟨rfl, rfl, rfl, rfl, rfl⟩ rfl rfl rfl rfl rfl (by kernel_rfl) Try.func6 (by kernel_rfl)
    (of_decide_eq_true (by kernel_rfl)) (by unfold Func.isWrapper; first | (rw [if_pos (by decide +kernel)]; kernel_rfl) | (rw [if_neg (by decide +kernel)]; exact ⟨rfl, rfl⟩))
    (fun os started H enc _ => lifted os started H enc)
end Go.Proofs.Ytdjnaeifmeffoaa.shaPieces
