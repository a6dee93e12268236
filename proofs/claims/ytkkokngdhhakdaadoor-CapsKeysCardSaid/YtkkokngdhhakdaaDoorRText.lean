/- The text of a tag and rows, its hash, its short hash, as the document writes them. -/
import Derived.Test.YtkkokngdhhakdaaDoorNetB
import Derived.Test.YtkkokngdhhakdaaDoorShaD
namespace Go.Proofs.YtkkokngdhhakdaaDoor
open Go.RowKit

set_option maxHeartbeats 1000000 in
theorem rnetM_any (m c : Nat) (A : Option Addr) (l : List UInt8) (w : World) (hl : l.length = m) (h1 : m ≤ 1000000) (hb : Rd w w.heap.size A l) :
    Calls Tryd.prog 95 #[.slice A m c] w fun e w' => ∃ v', e = .returned v' ∧ OwnM w' w.heap.size 5 v' (netL l).length (netL l) ∧ Below w.heap.size w w' := by
  obtain ⟨i0, hi, hz0, hz1, hz2⟩ := info_parts info5
  have HL := Lib.hid hl
  have hdl := decDigits_len m (by simp; omega)
  have hit : Lib.itoa (m : Int) = Lib.decDigits m := by unfold Lib.itoa; rw [if_neg (by omega)]; simp
  have hnet : netL l = Lib.decDigits m ++ [58] ++ l ++ [44] := by unfold netL; rw [hl, hit]
  obtain ⟨out, ho⟩ : ∃ x, netL l = x := ⟨_, rfl⟩
  rw [ho] at hnet ⊢
  obtain ⟨ds, hds⟩ : ∃ x, Lib.decDigits m = x := ⟨_, rfl⟩
  have HD := Lib.hid hds
  rw [hds] at hdl hnet
  have HNET := Lib.hid hnet
  clear hl hit hnet hds ho
  go_enter Tryd.func95, Tryd.ntmps95
  go_wp2_with fail
  refine (digits_any (m + 1) m _ (by omega) (by omega)).mono ?_
  rintro e w1 ⟨rfl, hb1⟩
  rw [HD.out]
  obtain ⟨v2, w2, hcv, hown2, hb2⟩ := run_bytes_M (P := Tryd.prog) (w := w1) 9 26 5 ds (by omega) Tryd.underlying9 Tryd.underlying26 Tryd.underlying5
  have hbel2 := Below.then hb1 hb2
  have hs1 := hb1.size
  have hs2 := hb2.size
  have HO2 := Lib.hid hown2
  clear hown2 hb2
  go_wp2_with (at_builtin; refine wpList_append_M rfl _ _ 26 rfl w1.heap.size 5 i0 Tryd.underlying26 hi hz0 hz1 hz2 _ _ ds rfl (HO2.out.alloc _) _ _ 1 1 [58] rfl rfl (Rd.one w2 5 58 58 rfl) (by omega) (by simp; omega) ?_)
  intro v3 w3 hown3 hg3
  have hbel3 : Below w.heap.size w w3 := (hbel2.alloc hbel2.size _).grown hg3 (by have := hbel2.size; simp; omega) (fun k hk => Nat.le_trans hs1 (HO2.out.lt k hk))
  have hs3 : w1.heap.size ≤ w3.heap.size := by have := hg3.size; simp at this; omega
  have HO3 := Lib.hid hown3
  clear hown3 hg3 hcv
  go_wp2_with (at_builtin; refine wpList_append_M rfl _ _ 26 rfl w1.heap.size 5 i0 Tryd.underlying26 hi hz0 hz1 hz2 _ _ _ rfl HO3.out _ A m c l rfl HL.out (hb.on hbel3) (by omega) hs3 ?_)
  intro v4 w4 hown4 hg4
  have hbel4 : Below w.heap.size w w4 := hbel3.grown hg4 hbel3.size (fun k hk => Nat.le_trans hs1 (HO3.out.lt k hk))
  have hs4 : w1.heap.size ≤ w4.heap.size := Nat.le_trans hs3 hg4.size
  have HO4 := Lib.hid hown4
  clear hown4 hg4
  go_wp2_with (at_builtin; refine wpList_append_M rfl _ _ 26 rfl w1.heap.size 5 i0 Tryd.underlying26 hi hz0 hz1 hz2 _ _ _ rfl (HO4.out.alloc _) _ _ 1 1 [44] rfl rfl (Rd.one w4 5 44 44 rfl) (by omega) (by simp; omega) ?_)
  intro v5 w5 hown5 hg5
  have hbel5 : Below w.heap.size w w5 := (hbel4.alloc hbel4.size _).grown hg5 (by have := hbel4.size; simp; omega) (fun k hk => Nat.le_trans hs1 (HO4.out.lt k hk))
  have key : ∀ (n' : Nat) (xl : List UInt8), OwnM w5 w1.heap.size 5 v5 n' xl → xl = out → OwnM w5 w.heap.size 5 v5 out.length out := by
    rintro n' xl h rfl
    obtain ⟨hl, g, cap, cur, fz, e1, e2, e3⟩ := h
    subst hl
    exact ⟨rfl, g, cap, cur, fz, e1, Nat.le_trans hs1 e2, e3⟩
  have HR := Lib.hid (key _ _ hown5 (by rw [HNET.out]; simp))
  obtain ⟨g5, c5, rfl, _, _⟩ := ownM_form HR.out
  clear hown5 hg5 key
  go_wp2_with fail
  go_ret
  exact ⟨_, rfl, HR.out, hbel5⟩

set_option maxHeartbeats 1000000 in
theorem rtext_own (tag : List UInt8) (A : Option Addr) (n c : Nat) (ls : List (List UInt8)) (w : World) (ht : tag.length ≤ 1000) (hn : ls.length = n) (h1 : n ≤ 100) (h2 : ∀ r ∈ ls, r.length ≤ 1000) (hr : RdR w w.heap.size A ls) :
    Calls Tryd.prog 81 #[.string ⟨tag.toArray⟩, .slice A n c] w fun e w' => ∃ v, e = .returned v ∧ OwnM w' w.heap.size 5 v (netsL (tag :: ls)).length (netsL (tag :: ls)) ∧ Below w.heap.size w w' := by
  obtain ⟨i0, hi, hz0, hz1, hz2⟩ := info_parts info5
  have hlen := netsL_len ls h2 ls.length (Nat.le_refl _)
  rw [List.take_of_length_le (Nat.le_refl _), hn] at hlen
  have hlen1 := netsL_len [tag] (by intro r hr; rcases List.mem_singleton.1 hr with rfl; exact ht) 1 (Nat.le_refl _)
  have hcons : netsL (tag :: ls) = netL tag ++ netsL ls := by simp [netsL]
  have hone : netsL ([tag].take 1) = netL tag := by simp [netsL]
  rw [hone] at hlen1
  have HRN := Lib.hid (fun (W : World) hr => rnets_any A n c ls W hn (by omega) h2 hr)
  obtain ⟨y, hy⟩ : ∃ y, netsL ls = y := ⟨_, rfl⟩
  obtain ⟨z, hz⟩ : ∃ z, netsL (tag :: ls) = z := ⟨_, rfl⟩
  rw [hy] at hlen hcons HRN
  rw [hz] at hcons ⊢
  have HCONS := Lib.hid hcons
  obtain ⟨v1, w1, hcv, hown1, hb1⟩ := run_bytes_M (P := Tryd.prog) (w := w) 9 26 5 tag (by omega) Tryd.underlying9 Tryd.underlying26 Tryd.underlying5
  obtain ⟨g1, c1, hv1, _, _⟩ := ownM_form hown1
  subst hv1
  obtain ⟨tn, htn⟩ : ∃ k, tag.length = k := ⟨_, rfl⟩
  have HTN := Lib.hid htn
  have HRT := Lib.hid (hown1.rd)
  have HR1 := Lib.hid ((hr.below hb1 (Nat.le_refl _)).more hb1.size)
  have hs1 := hb1.size
  rw [htn] at hcv ht
  clear hown1 hr h2 hn hcons hone hy hz htn
  go_enter Tryd.func81, Tryd.ntmps81
  go_wp2_with fail
  refine (rnetM_any tn c1 _ tag _ HTN.out (by omega) HRT.out).mono ?_
  rintro e w2 ⟨v2, rfl, hown2, hb2⟩
  obtain ⟨p, hp⟩ : ∃ p, netL tag = p := ⟨_, rfl⟩
  rw [hp] at hown2 hlen1
  have HP := Lib.hid hp
  obtain ⟨g2, c2, hv2, _, _⟩ := ownM_form hown2
  subst hv2
  have HO2 := Lib.hid hown2
  have HR2 := Lib.hid ((HR1.out.below hb2 (Nat.le_refl _)).more hb2.size)
  have hbel2 := Below.then hb1 hb2
  have hs2 := hb2.size
  clear hown2 hb2 hp HR1 HRT hcv
  go_wp2_with fail
  refine (HRN.out _ HR2.out).mono ?_
  rintro e w3 ⟨A3, c3, rfl, hc3, hr3, hb3⟩
  have HO3 := Lib.hid (HO2.out.on hb3)
  have HR3 := Lib.hid hr3
  have hbel3 := Below.then hbel2 hb3
  have hs3 := hb3.size
  clear hr3 hb3 HO2 HR2 HRN hbel2
  go_wp2_with (at_builtin; refine wpList_append_M rfl _ _ 26 rfl w1.heap.size 5 i0 Tryd.underlying26 hi hz0 hz1 hz2 _ _ p rfl HO3.out _ A3 _ c3 y rfl rfl HR3.out (by omega) (by omega) ?_)
  intro v4 w4 hown4 hg4
  have hbel4 : Below w.heap.size w w4 := hbel3.grown hg4 hbel3.size (fun k hk => Nat.le_trans hs1 (HO3.out.lt k hk))
  have key : ∀ (n' : Nat) (xl : List UInt8), OwnM w4 w1.heap.size 5 v4 n' xl → xl = z → OwnM w4 w.heap.size 5 v4 z.length z := by
    rintro n' xl h rfl
    obtain ⟨hl, g, cap, cur, fz, e, hb, rest⟩ := h
    subst hl
    exact ⟨rfl, g, cap, cur, fz, e, Nat.le_trans hs1 hb, rest⟩
  have HK := Lib.hid (key _ _ hown4 (by rw [HCONS.out, HP.out]))
  obtain ⟨g4, c4, rfl, _, _⟩ := ownM_form HK.out
  clear hown4 hg4 key
  go_wp2_with fail
  go_ret
  exact ⟨_, rfl, HK.out, hbel4⟩
theorem rtext_any (tag : List UInt8) (A : Option Addr) (n c : Nat) (ls : List (List UInt8)) (w : World) (ht : tag.length ≤ 1000) (hn : ls.length = n) (h1 : n ≤ 100) (h2 : ∀ r ∈ ls, r.length ≤ 1000) (hr : RdR w w.heap.size A ls) :
    Calls Tryd.prog 81 #[.string ⟨tag.toArray⟩, .slice A n c] w fun e w' => ∃ A' c', e = .returned (.slice A' (netsL (tag :: ls)).length c') ∧ (netsL (tag :: ls)).length ≤ c' ∧ Rd w' w'.heap.size A' (netsL (tag :: ls)) ∧ Below w.heap.size w w' :=
  (rtext_own tag A n c ls w ht hn h1 h2 hr).mono fun _ _ ⟨v, he, ho, hb⟩ => by
    obtain ⟨g, c', rfl, hc, _⟩ := ownM_form ho
    exact ⟨_, c', he, hc, ho.rd, hb⟩
end Go.Proofs.YtkkokngdhhakdaaDoor
