/- The program's kinds of capabilities that may do less, and a capability told with another kind and key. -/
import Derived.Test.YtkkokngdhhakdaaDoorCapC
import Derived.Test.YtkkokngdhhakdaaDoorCapW
import Derived.Test.YtkkokngdhhakdaaDoorNetB
import Derived.Test.YtkkokngdhhakdaaDoorFreeL
import Derived.Deep.RegionHeld3
namespace Go.Proofs.YtkkokngdhhakdaaDoor
open Go.RowKit
set_option maxRecDepth 100000

def readK (k : Int) : Int := if k = 4 then 5 else if k = 7 then 8 else k
def verK (k : Int) : Int := if k = 1 then 2 else if k = 4 ∨ k = 5 then 6 else if k = 7 ∨ k = 8 then 9 else k
def dirK (k : Int) : Int := if k = 4 then 7 else if k = 5 then 8 else if k = 6 then 9 else 0
theorem preadK_any (k : Int) (w : World) : Calls Tryd.prog 36 #[.int .i64 k] w fun e w' => e = .returned (.int .i64 (readK k)) ∧ w = w' := by
  obtain ⟨R, hR⟩ : ∃ x, readK k = x := ⟨_, rfl⟩
  have HR := Lib.hid hR
  rw [hR]
  clear hR
  by_cases h4 : k = 4
  · obtain rfl : R = 5 := by rw [← HR.out]; unfold readK; rw [if_pos h4]
    go_enter Tryd.func36, Tryd.ntmps36
    go_wp2_with fail
    go_ret
    exact ⟨rfl, rfl⟩
  · by_cases h7 : k = 7
    · obtain rfl : R = 8 := by rw [← HR.out]; unfold readK; rw [if_neg h4, if_pos h7]
      have e4 : (k == 4) = false := beq_eq_false_iff_ne.2 h4
      go_enter Tryd.func36, Tryd.ntmps36
      go_wp2_with fail
      go_ret
      exact ⟨rfl, rfl⟩
    · obtain rfl : R = k := by rw [← HR.out]; unfold readK; rw [if_neg h4, if_neg h7]
      have e4 : (R == 4) = false := beq_eq_false_iff_ne.2 h4
      have e7 : (R == 7) = false := beq_eq_false_iff_ne.2 h7
      clear HR
      go_enter Tryd.func36, Tryd.ntmps36
      go_wp2_with fail
      go_ret
      exact ⟨rfl, rfl⟩
theorem pverK_any (k : Int) (w : World) : Calls Tryd.prog 37 #[.int .i64 k] w fun e w' => e = .returned (.int .i64 (verK k)) ∧ w = w' := by
  obtain ⟨R, hR⟩ : ∃ x, verK k = x := ⟨_, rfl⟩
  have HR := Lib.hid hR
  rw [hR]
  clear hR
  by_cases hk : 1 ≤ k ∧ k ≤ 9
  · obtain rfl | rfl | rfl | rfl | rfl | rfl | rfl | rfl | rfl : k = 1 ∨ k = 2 ∨ k = 3 ∨ k = 4 ∨ k = 5 ∨ k = 6 ∨ k = 7 ∨ k = 8 ∨ k = 9 := by omega
    all_goals
      have hr := HR.out
      simp [verK] at hr
      subst hr
      clear HR hk
      go_enter Tryd.func37, Tryd.ntmps37
      go_wp2_with fail
      go_ret
      exact ⟨rfl, rfl⟩
  · obtain rfl : R = k := by
      rw [← HR.out]
      unfold verK
      rw [if_neg (by omega), if_neg (by omega), if_neg (by omega)]
    have e1 : (R == 1) = false := by rw [beq_eq_false_iff_ne]; omega
    have e4 : (R == 4) = false := by rw [beq_eq_false_iff_ne]; omega
    have e5 : (R == 5) = false := by rw [beq_eq_false_iff_ne]; omega
    have e7 : (R == 7) = false := by rw [beq_eq_false_iff_ne]; omega
    have e8 : (R == 8) = false := by rw [beq_eq_false_iff_ne]; omega
    clear HR hk
    go_enter Tryd.func37, Tryd.ntmps37
    go_wp2_with fail
    go_ret
    exact ⟨rfl, rfl⟩
theorem pdirK_any (k : Int) (w : World) : Calls Tryd.prog 38 #[.int .i64 k] w fun e w' => e = .returned (.int .i64 (dirK k)) ∧ w = w' := by
  obtain ⟨R, hR⟩ : ∃ x, dirK k = x := ⟨_, rfl⟩
  have HR := Lib.hid hR
  rw [hR]
  clear hR
  by_cases hk : 4 ≤ k ∧ k ≤ 6
  · obtain rfl | rfl | rfl : k = 4 ∨ k = 5 ∨ k = 6 := by omega
    all_goals
      have hr := HR.out
      simp [dirK] at hr
      subst hr
      clear HR hk
      go_enter Tryd.func38, Tryd.ntmps38
      go_wp2_with fail
      go_ret
      exact ⟨rfl, rfl⟩
  · obtain rfl : R = 0 := by
      rw [← HR.out]
      unfold dirK
      rw [if_neg (by omega), if_neg (by omega), if_neg (by omega)]
    have e4 : (k == 4) = false := by rw [beq_eq_false_iff_ne]; omega
    have e5 : (k == 5) = false := by rw [beq_eq_false_iff_ne]; omega
    have e6 : (k == 6) = false := by rw [beq_eq_false_iff_ne]; omega
    clear HR hk
    go_enter Tryd.func38, Tryd.ntmps38
    go_wp2_with fail
    go_ret
    exact ⟨rfl, rfl⟩

theorem own_low {w : World} {B C k : Nat} {e : TypeId} {v : Value} {n : Nat} {xs : List Value} (hB : C ≤ B) (h : w.ownsRow B e k v n xs) : w.ownsRow C e k v n xs :=
  ⟨h.1, h.2.imp id fun ⟨g, cap, cur, h1, h2, h3⟩ => ⟨g, cap, cur, h1, Nat.le_trans hB h2, h3⟩⟩
theorem KeepB.owns {B : Nat} {w w' : World} (h : KeepB B w w') {e : TypeId} {k : Nat} {v : Value} {n : Nat} {xs : List Value} (ho : w.ownsRow B e k v n xs) : w'.ownsRow B e k v n xs :=
  ⟨ho.1, ho.2.imp id fun ⟨g, cap, cur, h1, h2, h3, h4⟩ => ⟨g, cap, cur, h1, h2, (h g h2).trans h3, h4⟩⟩
theorem cells_far {b g : Nat} : ∀ (vs : List Value) (o : Nat) (_ : b ≠ g) (p : Nat) {w : World}, (w.setCells b o vs).cell? ⟨g, p, none⟩ = w.cell? ⟨g, p, none⟩
  | [], _, _, _, _ => rfl
  | _ :: vs, o, hne, p, _ => (cells_far vs (o + 1) hne p).trans (World.cell?_setCell_far _ _ _ _ (fun e => hne e))
theorem wpAnyH_takeC {P : Program} {md : Region.Mode} {ops : Array Oper} {Q : Exit → Act → World → Prop} {S : World → Prop} {i : Nat} {oi : Oper} {v : Value} {fuel : Nat} {listed : Array Bool} {a : Act} {w : World} (hi : ops.toList[i]? = some oi)
    (hs : Region.noSelect ops = true) (hf : Region.free md ops listed i = true) (hr : (Region.ready md ops listed).contains i = true)
    (hQ : ∀ c a w, Q (.panic c) (a.put oi.dst v) w → Q (.panic c) a w) (hy : YieldsIf P ops S oi v a) (hS : S w)
    (h : wpAnyH P md ops Q S fuel (listed.setIfInBounds i true) (a.put oi.dst v) w) : wpAnyH P md ops Q S (fuel + 1) listed a w :=
  wpAnyH_take (by rw [← Array.getElem?_toList]; exact hi) hs hf hr hQ hy hS h
theorem allReadyH_consC {P : Program} {md : Region.Mode} {ops : Array Oper} {Q : Exit → Act → World → Prop} {S : World → Prop} {fuel : Nat} {listed : Array Bool} {a : Act} {w : World} {i : Nat} {o : Oper} (ho : ops.toList[i]? = some o)
    (h : ∀ K' : Act → World → Prop, Shut (∀ a w, S w → (S w → wpAnyH P md ops Q S fuel (listed.setIfInBounds i true) a w) → K' a w) → if Region.wanted o (yielded ops a.tmps) = true then Oper.wp P o a w K' Q else K' (a.put o.dst undef) w) : AllReadyH P md ops Q S fuel listed a w [i] :=
  AllReadyH.cons (by rw [← Array.getElem?_toList]; exact ho) h AllReadyH.nil
/-- What a cell holds. -/
def cellOr (W : World) (b i : Nat) : Value := (W.cell? ⟨b, i, none⟩).getD undef
theorem CapAt.or {w : World} {b : Nat} {c : Cap13} {X : Value} (h : CapAt w b c X) (i : Nat) (hi : i < 53) : w.cell? ⟨b, i, none⟩ = some (cellOr w b i) := by
  have e := h.cell i
  rw [List.getElem?_eq_getElem (by rw [capL_len h.wf]; exact hi)] at e
  unfold cellOr
  rw [e]
  rfl
set_option maxHeartbeats 4000000 in
theorem pas_any {w : World} {c : Cap13} {kd : Int} {key : List UInt8} {A : Option Addr} {n cc : Nat} (hw : c.wf) (hk : key.length = 16) (hn : c.lit.length = n) (hn1 : n ≤ 1000000) (hr : Rd w w.heap.size A c.lit) :
    Calls Tryd.prog 35 #[.agg (capA c (.slice A n cc)), .int .i64 kd, .agg (u8A key)] w fun e w' => (∃ v, e = .returned v ∧ CapV w' w.heap.size v { c with kind := kd, key := key }) ∧ Below w.heap.size w w' := by
  obtain ⟨CX, hCX⟩ : ∃ x, capA c (.slice A n cc) = x := ⟨_, rfl⟩
  obtain ⟨KX, hKX⟩ : ∃ x, u8A key = x := ⟨_, rfl⟩
  have HCL := Lib.hid (fun (W : World) (hW : Below w.heap.size w W) => clone_any A n cc W.heap.size c.lit W hn hn1 (hr.on hW))
  have HKX := Lib.hid hKX
  have HN := Lib.hid hn
  rw [hCX, hKX]
  go_enter Tryd.func35, Tryd.ntmps35
  go_upto_region 1 with fail
  have hs1 : (w.alloc (.cells CX 28)).heap.size = w.heap.size + 1 := by simp
  generalize hwa : World.alloc _ _ = w1
  obtain ⟨b, hb⟩ : ∃ g, w.heap.size = g := ⟨_, rfl⟩
  have hst : CapR w w1 b (b + 1 + 1) c (.slice A n cc) ∧ Blk w1 (b + 1) KX 23 := by
    obtain ⟨Y, hY, hz⟩ : ∃ Y : Array Value, w1 = ((w.alloc (.cells CX 28)).alloc (.cells KX 23)).alloc (.cells Y 28) ∧ Y.size = 53 := ⟨_, hwa.symm, rfl⟩
    have hs2 : ((w.alloc (.cells CX 28)).alloc (.cells KX 23)).heap.size = w.heap.size + 1 + 1 := by simp
    rw [hY, ← hb]
    refine ⟨⟨⟨((CapAt.new w _ hw hCX).blk.alloc _).alloc _, hw⟩, ⟨Y, by rw [← hs2]; exact Blk.new _ _ _, hz⟩, (((Below.refl _ _).alloc (Nat.le_refl _) _).alloc (by simp) _).alloc (by simp; omega) _, by omega, Nat.le_refl _, by omega⟩, ?_⟩
    rw [← hs1]
    exact (Blk.new _ _ _).alloc _
  rw [hb]
  have HB := Lib.hid hb
  clear hwa hb hs1
  generalize b + 1 + 1 = r at *
  have hkb : b ≠ b + 1 := by omega
  generalize b + 1 = k5 at *
  have HRK := Lib.hid (fun (W : World) (hW : Below w1.heap.size w1 W) => (show W.rangeAt k5 0 (Lib.byteCells key) by
    have := (hst.2.below hW hst.2.lt)
    rw [← hKX] at this
    have h := this.range 0 16
    rw [List.drop_zero, List.take_of_length_le (by omega)] at h
    exact h))
  have HR := Lib.hid hst.1
  have HKB := Lib.hid hkb
  have HCP := Lib.hid (fun (W : World) (hW : Below w1.heap.size w1 W) => (show Calls Tryd.prog 62 #[.slice A n cc] W fun e w' => ∃ A' c', e = .returned (.slice A' n c') ∧ n ≤ c' ∧ w'.ownsRow w1.heap.size 5 1 (.slice A' n c') n (Lib.byteCells c.lit) ∧ Below w1.heap.size w1 w' from
    (HCL.out W (HR.out.bel.trans (hW.mono HR.out.bel.size))).mono fun e w' ⟨A', c', h1, h2, _, h4, h5⟩ => ⟨A', c', h1, h2, own_low hW.size h4, hW.trans (h5.mono hW.size)⟩))
  have hku : Tryd.prog.underlying 23 = some (.array 16 5) := by kernel_rfl
  have hks : (Tryd.prog.info? 23).map (·.size) = some (Lib.byteCells key).length := by rw [keySize, Lib.byteCells_length, hk]
  have hk16 : (Lib.byteCells key).length = 16 := by rw [Lib.byteCells_length, hk]
  have hone := one_cells key
  have HS := Lib.hid (fun (W : World) (c' : Cap13) (Y : Value) (h : CapAt W b c' Y) (hr : W.rangeAt k5 0 (Lib.byteCells key)) => (show W.rangeAt k5 0 (Lib.byteCells key) ∧ W.cell? ⟨b, 0, none⟩ = some (cellOr W b 0) ∧ W.cell? ⟨b, 52, none⟩ = some (cellOr W b 52) ∧ W.frozen? ⟨b, 0, none⟩ = false ∧ W.frozen? ⟨b, 52, none⟩ = false ∧ W.there b 1 16 from ⟨hr, h.or 0 (by omega), h.or 52 (by omega), h.frozen 0, h.frozen 52, h.there 1 16 (by omega)⟩))
  have HS1 := Lib.hid (fun (W : World) (hW : Below w1.heap.size w1 W) => HS.out W c _ (HR.out.cap.below hW) (HRK.out W hW))
  have HS2 := Lib.hid (fun (W : World) (hW : Below w1.heap.size w1 W) => HS.out (W.setCell ⟨b, 0, none⟩ (.int .i64 kd)) _ _ ((HR.out.cap.below hW).setKind kd) (rangeAt_keep (HRK.out W hW) (fun j => World.cell?_setCell_far _ _ _ _ (fun e => HKB.out e))))
  have HS3 := Lib.hid (fun (W : World) (hW : Below w1.heap.size w1 W) => HS.out ((W.setCell ⟨b, 0, none⟩ (.int .i64 kd)).setCells b 1 (Lib.byteCells key)) _ _ (((HR.out.cap.below hW).setKind kd).setKey key hk) (fun j v hv => (cells_far _ _ HKB.out _).trans ((HS2.out W hW).1 j v hv)))
  have HS4 := Lib.hid (fun (W : World) (Y : Value) (hW : Below w1.heap.size w1 W) => HS.out (((W.setCell ⟨b, 0, none⟩ (.int .i64 kd)).setCells b 1 (Lib.byteCells key)).setCell ⟨b, 52, none⟩ Y) _ _ ((((HR.out.cap.below hW).setKind kd).setKey key hk).setLit Y c.lit) (rangeAt_keep (HS3.out W hW).1 (fun j => World.cell?_setCell_far _ _ _ _ (fun e => HKB.out e))))
  have h52 : cellOr w1 b 52 = .slice A n cc := by
    unfold cellOr
    rw [HR.out.cap.cells.2.2.2.2]
    rfl
  have h52d : cellOr w1.drew b 52 = .slice A n cc := h52
  have h52n : ∀ q, cellOr (w1.drewN q) b 52 = .slice A n cc := fun q => h52
  clear hst hkb hCX hKX hw hn hn1 hr HCL HS
  refine wp_region_held_drew (S := fun W => W.rangeAt k5 0 (Lib.byteCells key) ∧ W.cell? ⟨b, 0, none⟩ = some (cellOr W b 0) ∧ W.cell? ⟨b, 52, none⟩ = some (cellOr W b 52) ∧ W.frozen? ⟨b, 0, none⟩ = false ∧ W.frozen? ⟨b, 52, none⟩ = false ∧ W.there b 1 16) (by kernel_rfl) (HS1.out _ (Below.refl _ _).drew) (fun hHeld => ?_)
  refine wpAnyH_takeC (i := 0) (v := .int .i64 kd) rfl (by kernel_rfl) (by kernel_rfl) (by kernel_rfl) (fun _ _ _ h => h) (Or.inl ⟨by rfl, fun W hW => by go_simp⟩) hHeld ?_
  try simp only [Act.put, List.setIfInBounds_toArray, List.set_cons_zero, List.set_cons_succ]
  refine wpAnyH_takeC (i := 2) (v := .pointer (some ⟨b, 52, none⟩)) rfl (by kernel_rfl) (by kernel_rfl) (by kernel_rfl) (fun _ _ _ h => h) (Or.inl ⟨by rfl, fun W hW => by go_simp⟩) hHeld ?_
  try simp only [Act.put, List.setIfInBounds_toArray, List.set_cons_zero, List.set_cons_succ]
  refine wpAnyH_takeC (i := 1) (v := .agg (Lib.byteCells key).toArray) rfl (by kernel_rfl) (by kernel_rfl) (by kernel_rfl) (fun _ _ _ h => h) (yieldsIf_load_mid (by rfl) 23 (.tmp 5) rfl k5 0 rfl (Lib.byteCells key) _ (fun W hW => hW.1) hku rfl hks) hHeld ?_
  try simp only [Act.put, List.setIfInBounds_toArray, List.set_cons_zero, List.set_cons_succ]
  obtain ⟨_, q2, q3, q4, q5, q6⟩ := id hHeld
  refine wpAnyH_ready (rs := [3]) (by kernel_rfl) (by simp) ?_
  refine allReadyH_consC rfl (fun KK hK => ?_)
  rw [if_pos (by rfl)]
  go_simp
  refine hK.out _ _ hHeld (fun hHeld => ?_)
  clear hK KK q2 q3 q4 q5 q6
  try simp only [Act.put, List.setIfInBounds_toArray, List.set_cons_zero, List.set_cons_succ]
  refine wpAnyH_takeC (i := 5) (v := .pointer (some ⟨b, 0, none⟩)) rfl (by kernel_rfl) (by kernel_rfl) (by kernel_rfl) (fun _ _ _ h => h) (Or.inl ⟨by rfl, fun W hW => by go_simp⟩) hHeld ?_
  try simp only [Act.put, List.setIfInBounds_toArray, List.set_cons_zero, List.set_cons_succ]
  refine wpAnyH_ready (rs := [4]) (by kernel_rfl) (by simp) ?_
  refine allReadyH_consC rfl (fun KK hK => ?_)
  rw [if_pos (by rfl)]
  go_simp
  with_reducible refine (HCP.out _ (Below.refl _ _).drew).mono ?_
  rintro e W ⟨A', c', rfl, hc1, hown, hbW⟩
  go_wp2_with fail
  refine hK.out _ _ (HS1.out _ hbW) (fun hHeld => ?_)
  clear hK KK
  try simp only [Act.put, List.setIfInBounds_toArray, List.set_cons_zero, List.set_cons_succ]
  obtain ⟨_, q2, q3, q4, q5, q6⟩ := id hHeld
  refine wpAnyH_ready (rs := [6]) (by kernel_rfl) (by simp) ?_
  refine allReadyH_consC rfl (fun KK hK => ?_)
  rw [if_pos (by rfl)]
  go_simp
  refine hK.out _ _ (HS2.out _ hbW) (fun hHeld => ?_)
  clear hK KK q2 q3 q4 q5 q6
  try simp only [Act.put, List.setIfInBounds_toArray, List.set_cons_zero, List.set_cons_succ]
  refine wpAnyH_takeC (i := 7) (v := .pointer (some ⟨b, 1, none⟩)) rfl (by kernel_rfl) (by kernel_rfl) (by kernel_rfl) (fun _ _ _ h => h) (Or.inl ⟨by rfl, fun W hW => by go_simp⟩) hHeld ?_
  try simp only [Act.put, List.setIfInBounds_toArray, List.set_cons_zero, List.set_cons_succ]
  obtain ⟨_, q2, q3, q4, q5, q6⟩ := id hHeld
  refine wpAnyH_ready (rs := [8]) (by kernel_rfl) (by simp) ?_
  refine allReadyH_consC rfl (fun KK hK => ?_)
  rw [if_pos (by rfl)]
  refine wp_store_mid 23 (.tmp 13) (.tmp 8) rfl b 1 (Lib.byteCells key).toArray rfl rfl (by rw [List.size_toArray, hk16]; exact q6) (by rw [List.size_toArray, hk16]; exact keySize) (all_oneCell_toArray hone) ?_
  refine hK.out _ _ (HS3.out _ hbW) (fun hHeld => ?_)
  clear hK KK q2 q3 q4 q5 q6
  try simp only [Act.put]
  refine wpAnyH_takeC (i := 9) (v := .pointer (some ⟨b, 52, none⟩)) rfl (by kernel_rfl) (by kernel_rfl) (by kernel_rfl) (fun _ _ _ h => h) (Or.inl ⟨by rfl, fun W hW => by go_simp⟩) hHeld ?_
  try simp only [Act.put, List.setIfInBounds_toArray, List.set_cons_zero, List.set_cons_succ]
  obtain ⟨_, q2, q3, q4, q5, q6⟩ := id hHeld
  refine wpAnyH_ready (rs := [10]) (by kernel_rfl) (by simp) ?_
  refine allReadyH_consC rfl (fun KK hK => ?_)
  rw [if_pos (by rfl)]
  go_simp
  refine hK.out _ _ (HS4.out _ _ hbW) (fun hHeld => ?_)
  clear hK KK q2 q3 q4 q5 q6
  try simp only [Act.put]
  refine wpAnyH_done (by kernel_rfl) ?_ _
  clear hHeld
  have hrl : b < w1.heap.size ∧ r < w1.heap.size := ⟨HR.out.cap.lt, by
    obtain ⟨rs, h, _⟩ := HR.out.res
    exact h.lt⟩
  have H5 := (((HR.out.below hbW).setKind kd).setKey key hk).setLit (.slice A' n c') c.lit
  have hkp : KeepB w1.heap.size W (((W.setCell ⟨b, 0, none⟩ (.int .i64 kd)).setCells b 1 (Lib.byteCells key)).setCell ⟨b, 52, none⟩ (.slice A' n c')) := (KeepB.setCells hrl.1 _ _ ((KeepB.refl _ _).setCell hrl.1 0 _)).setCell hrl.1 52 _
  have HKP := Lib.hid hkp
  have HOW := Lib.hid hown
  have HRL := Lib.hid hrl
  have HGE := Lib.hid HR.out.bel.size
  clear hown hkp hrl HS1 HS2 HS3 HS4 h52 h52d h52n hbW HCP HRK HKB hku hks hk16 hone HR
  generalize ((W.setCell ⟨b, 0, none⟩ (.int .i64 kd)).setCells b 1 (Lib.byteCells key)).setCell ⟨b, 52, none⟩ (.slice A' n c') = w5 at *
  obtain ⟨M, hM⟩ : ∃ x, ({ c with kind := kd, key := key } : Cap13) = x := ⟨_, rfl⟩
  have HML := Lib.hid (show M.lit = c.lit by rw [← hM])
  have HR6 := Lib.hid (show CapR w w5 b r M (.slice A' n c') by rw [← hM]; exact H5)
  have HMM := Lib.hid hM
  clear H5 hM
  obtain ⟨C5, hC5⟩ : ∃ x, capA M (.slice A' n c') = x := ⟨_, rfl⟩
  have HC5 := Lib.hid hC5
  have HLC := Lib.hid hc1
  clear hC5 hc1
  have HZ5 := Lib.hid (show C5.size = 53 by rw [← HC5.out]; exact capA_size HR6.out.cap.wf _)
  have HO5 := Lib.hid (show C5.all (·.oneCell') = true by rw [← HC5.out]; exact capA_one)
  have HLR := Lib.hid (fun (cs : Array Value) => (show Rd (w5.setRow r cs) (w5.setRow r cs).heap.size A' M.lit ∧ LitAt w.heap.size A' M.lit by
    rw [HML.out]
    refine ⟨Rd.of_own ((HKP.out.row HRL.out.2 cs).owns HOW.out), .inr fun ad had => ?_⟩
    have := HOW.out.lt ad.block (by rw [had]; rfl)
    exact Nat.le_trans HGE.out this.1))
  obtain ⟨rs, hrs, hrz⟩ := HR6.out.res
  have HRS := Lib.hid hrs
  have HRZ := Lib.hid hrz
  have HLN := Lib.hid (show M.lit.length = n by rw [HML.out]; exact HN.out)
  clear hrs hrz
  go_wp2_with (first | (refine wpList_load_capC ?_ (.tmp 3) rfl b rfl HR6.out.cap HC5.out ?_; · rfl) | (with_reducible refine wpList_store_blkTo rfl 28 (.tmp 6) (.tmp 15) rfl rfl r C5 rfl rfl 28 rs HRS.out (by rw [HZ5.out]; kernel_rfl) (by rw [HZ5.out, HRZ.out]) HO5.out ?_))
  have hs := HR6.out.said HLN.out HLC.out (cs := C5) (HLR.out C5) HC5.out
  refine bodyPost_ret (v := .agg C5) (results_cell_row (p := 6) (ty := 28) (by kernel_rfl) _ _ r 28 _ (0, 0) _ rfl (HRS.out.row C5) Tryd.underlying28 rfl (by rw [HZ5.out]; kernel_rfl)) rfl ⟨⟨_, rfl, by rw [HMM.out]; exact hs.1⟩, by first | exact hs.2 | (rw [← HB.out]; exact hs.2)⟩
end Go.Proofs.YtkkokngdhhakdaaDoor
