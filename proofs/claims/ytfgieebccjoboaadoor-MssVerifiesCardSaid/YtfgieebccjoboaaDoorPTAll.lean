/- The program's tree of hashes: the hashes beside a leaf's way. Two hashes turned round where they lie. Rows of rows of hashes, all from a block of the call's own on; two hashes in a slice; a way as pairs. The program's tree of hashes: the way from a leaf up. The first unlike pair of two trees, or of two ways, from above: the mathematics. The program's tree of hashes: Climb. The program's tree of hashes: Check. The library's Equal of two rows of hashes. The program's tree of hashes: where two trees, or two ways, are unlike. The program's tree of hashes: Break. The program's tree of hashes: Unlike. -/
import Derived.Test.YtfgieebccjoboaaDoorPTLevA
import Derived.Test.YtfgieebccjoboaaDoorRTMay
import Derived.Test.YtfgieebccjoboaaDoorPTOwn
import Derived.Test.YtfgieebccjoboaaDoorTreeC
import Derived.RegionTactic
import Derived.Test.YtfgieebccjoboaaDoorRTSame
namespace Go.Proofs.YtfgieebccjoboaaDoor
open Go.RowKit

set_option maxHeartbeats 2000000 in
theorem pproof_no (i : Int) (A : Option Addr) (n c : Nat) (w : World) (h : i < 0 ∨ (n : Int) ≤ i) :
    Calls Tryd.prog 77 #[.int .i64 i, .slice A n c] w fun e w' => e = .returned (.tuple #[.slice none 0 0, .int .i64 1]) ∧ Below w.heap.size w w' := by
  by_cases h0 : i < 0
  · clear h
    go_enter Tryd.func77, Tryd.ntmps77
    go_wp2_with fail
    go_ret2
    exact ⟨rfl, Below.refl _ _⟩
  · have h2 : (n : Int) ≤ i := by omega
    clear h
    go_enter Tryd.func77, Tryd.ntmps77
    go_wp2_with fail
    go_ret2
    exact ⟨rfl, Below.refl _ _⟩
set_option maxRecDepth 100000 in
set_option maxHeartbeats 8000000 in
theorem pproof_yes (A : Option Addr) (n c i : Nat) (hs : List (List UInt8)) (w : World) (hn : hs.length = n) (h1 : n ≤ 1024) (hi : i < n) (hl : ∀ r ∈ hs, r.length = 32) (hr : RdH w w.heap.size A hs) (htab : Pow10 w.heap.size w) :
    Calls Tryd.prog 77 #[.int .i64 (i : Int), .slice A n c] w fun e w' => ∃ v, e = .returned (.tuple #[v, .int .i64 0]) ∧ OwnH w' w.heap.size v (proofV hs i) ∧ Below w.heap.size w w' := by
  obtain ⟨K, hK⟩ : ∃ K, tree.high n = K := ⟨_, rfl⟩
  have hk10 : K ≤ 10 := by rw [← hK]; exact tree.high_least 10 n (by simpa using h1)
  have HLV := Lib.hid (show Calls Tryd.prog 75 #[.func (.func 76) #[] #[], .slice A n c] w fun e w' => ∃ v, e = .returned v ∧ RL w' w.heap.size v (levL K (rowH hs)) ∧ Below w.heap.size w w' by
    rw [← hK]
    exact plevels_any A n c hs w hn h1 hl hr htab)
  have hp1 : 2 ^ K ≤ 1024 := by rw [← hK]; exact high_small h1
  have HIK := Lib.hid (show i < 2 ^ K by
    have := tree.high_le n
    rw [hK] at this
    omega)
  have HRL := Lib.hid (show (rowH hs).length = 2 ^ K by rw [rowH_len, hn, hK])
  have HPV := Lib.hid (show proofV hs i = proofH K i (rowH hs) by unfold proofV; rw [hn, hK])
  rw [HPV.out]
  generalize rowH hs = R at *
  have hi0 : ¬ (i : Int) < 0 := by omega
  have hin : (i : Int) < (n : Int) := by omega
  clear hn hl hr htab hK HPV
  go_enter Tryd.func77, Tryd.ntmps77
  go_wp2_with fail
  with_reducible refine (HLV.out).mono ?_
  rintro e w2 ⟨v2, rfl, hrl2, hb2⟩
  obtain ⟨A2, c2, rfl, hc2, hcm2⟩ := hrl2.form (levL_len K R)
  obtain ⟨b2, rfl⟩ := RL.some hrl2 (by rw [levL_len]; omega)
  have HR2 := Lib.hid hrl2
  have HB2 := Lib.hid hb2
  have hw02 := hb2.size
  obtain ⟨N, hN⟩ : ∃ N, K + 1 = N := ⟨_, rfl⟩
  have hNK : (N : Int) - 1 = (K : Int) := by omega
  have hKc : (K : Int) ≤ (c2 : Int) := by omega
  have hK0 : (0 : Int) ≤ (K : Int) := by omega
  have hcm3 : (c2 : Int) ≤ 9223372036854775807 := by unfold maxLen at hcm2; omega
  rw [hN] at HR2 ⊢
  clear hrl2 hb2 HLV hN hc2
  go_wp2_with fail
  go_loopw [0, 7, 26] (fun t o v wr => ∃ j p : Nat, j ≤ K ∧ Hid (p = i / 2 ^ j) ∧ Hid (OwnH wr w2.heap.size o (proofH j i R)) ∧ t = .int .i64 (p : Int) ∧ v = .int .i64 (j : Int) ∧ Hid (Below w2.heap.size w2 wr)) (fun _ _ v _ => K - (intOf v).toNat)
  case atStart => exact ⟨0, i, Nat.zero_le _, Lib.hid (by simp), Lib.hid (OwnH.nil _ _), rfl, rfl, Lib.hid (Below.refl _ _)⟩
  case round =>
    obtain ⟨j, p, hjk, HP, HO, rfl, rfl, HBW⟩ := hrel
    by_cases hlt : j < K
    · have hji : (j : Int) < (K : Int) := by omega
      have HR3 := HR2.out.on HBW.out
      have hjl : j < (levL K R).length := by rw [levL_len]; omega
      obtain ⟨_, X, d, hcell, hv⟩ := HR3.at_ hjl
      rw [levL_at R hjl] at hcell hv
      obtain ⟨m, hm⟩ : ∃ m, (upNH j R).length = m := ⟨_, rfl⟩
      have HM := Lib.hid (show m = 2 ^ (K - j) by rw [← hm, upNH_len, HRL.out, Nat.pow_div hjk (by omega)])
      rw [hm] at hcell hv
      rw [Nat.zero_add] at hcell
      have hm1 : m ≤ 1024 := by
        rw [HM.out]
        exact Nat.le_trans (Nat.pow_le_pow_right (by omega) (Nat.sub_le K j)) hp1
      have HME := Lib.hid (show m % 2 = 0 by rw [HM.out, show K - j = K - (j + 1) + 1 by omega, Nat.pow_succ]; omega)
      have hpm : p < m := by
        rw [HP.out, HM.out, Nat.div_lt_iff_lt_mul (Nat.pow_pos (by omega)), ← Nat.pow_add, show K - j + j = K by omega]
        exact HIK.out
      obtain ⟨q, hq⟩ : ∃ q, tree.beside p = q := ⟨_, rfl⟩
      have hqm : q < m := by rw [← hq]; exact beside_lt hpm HME.out
      obtain ⟨b, off, rfl, hbw, hra, hl0⟩ := hv.at_ (i := q) hqm
      have HSN := Lib.hid (proofH_snoc j i R)
      rw [← HP.out, hq] at HSN
      obtain ⟨O3, d3, rfl, _, _⟩ := HO.out.form (proofH_len j i R)
      obtain ⟨wo, rfl⟩ : ∃ y : World, y = wr := ⟨_, rfl⟩
      have hp0 : (0 : Int) ≤ (p : Int) := by omega
      have hpi : (p : Int) < (m : Int) := by omega
      have hqi : (q : Int) < (m : Int) := by omega
      have hxor : bits BinOp.xor IntKind.i64 (p : Int) 1 = (q : Int) := by rw [xor_one (by omega), hq]
      have HP2 := Lib.hid (show p / 2 = i / 2 ^ (j + 1) by rw [HP.out, Nat.pow_succ, Nat.div_div_eq_div_mul])
      have hjl2 : (proofH j i R).length ≤ 1000000 := by rw [proofH_len]; omega
      generalize (upNH j R).getD q [] = x at *
      obtain ⟨Z, hZ⟩ : ∃ Z, u8A x = Z := ⟨_, rfl⟩
      have hzz : Z.size = 32 := by rw [← hZ, u8A_size, hl0]
      have HZZ := Lib.hid hZ
      have HRA := Lib.hid hra
      have HL0 := Lib.hid hl0
      have hal : Below wo.heap.size wo (wo.alloc (.cells Z 29)) := (Below.refl _ _).alloc (Nat.le_refl _) _
      have HOW := Lib.hid (HO.out.on hal)
      have HBZ := Lib.hid (show Blk (wo.alloc (.cells Z 29)) wo.heap.size (u8A x) 29 by
        rw [hZ]
        exact Blk.new _ _ _)
      have HBAL := Lib.hid (HBW.out.trans (hal.mono HBW.out.size))
      have hle2 : w2.heap.size ≤ (wo.alloc (.cells Z 29)).heap.size := HBAL.out.size
      clear hZ hra hl0 hq hal HO hbw hm HM HME HBW hv HR3 hjl hpm hqm
      go_wp2_with (first
        | (with_reducible refine wpList_load_hash rfl (.tmp 34) rfl b (off + q * 32) rfl x HL0.out HRA.out Z HZZ.out ?_)
        | (with_reducible refine wpList_build_hash rfl (.tmp 35) rfl Z rfl hzz ?_)
        | (at_builtin; refine wpList_append_hashG rfl _ _ rfl w2.heap.size _ (proofH j i R) rfl HOW.out wo.heap.size x HL0.out HBZ.out rfl hjl2 hle2 ?_))
      intro v7 w7 hown7 hg7
      rw [← HSN.out] at hown7
      have HB7 := Lib.hid (HBAL.out.grown hg7 hle2 (fun k hk => HOW.out.lt k hk))
      obtain ⟨O7, d7, hv7, _⟩ := hown7.form (proofH_len (j + 1) i R)
      subst hv7
      have HO7 := Lib.hid hown7
      clear hown7 hg7 HOW HBZ HBAL hle2 HRA
      go_wp2_with fail
      go_roundw
      case rel => exact ⟨j + 1, p / 2, hlt, HP2, HO7, by go_num, by go_num, HB7⟩
      case measure => simp [intOf]; omega
    · obtain rfl : j = K := by omega
      have hji : ¬ (j : Int) < (j : Int) := by omega
      obtain ⟨O3, d3, rfl, _, _⟩ := HO.out.form (proofH_len j i R)
      have HOB := Lib.hid (show OwnH wr w.heap.size (.slice O3 j d3) (proofH j i R) from ⟨HO.out.1, own_baseK HO.out.2 hw02⟩)
      have HBE := Lib.hid (HB2.out.trans (HBW.out.mono hw02))
      clear HO HBW
      go_wp2_with fail
      go_ret2
      exact ⟨_, rfl, HOB.out, HBE.out⟩
end Go.Proofs.YtfgieebccjoboaaDoor
namespace Go.Proofs.YtfgieebccjoboaaDoor
open Go.RowKit

set_option maxRecDepth 100000 in
theorem run_load_own {w : World} {B g n c : Nat} {hs : List (List UInt8)} {i : Nat} (h : OwnH w B (.slice (some ⟨g, 0, none⟩) n c) hs) (hi : i < n) (x : List UInt8) (hx : hs.getD i [] = x) (X : Array Value) (hX : u8A x = X) :
    (loadVar 29 ⟨g, i * 32, none⟩).run Tryd.prog w = .ok (.agg X) w := by
  subst hX
  obtain ⟨b, off, e, _, hra, hl⟩ := h.hv.at_ (i := i) hi
  injection e with e
  injection e with e1 e2
  subst e1 e2
  rw [hx] at hra hl
  rw [Nat.zero_add] at hra
  obtain ⟨j, _, hj, _, _, hsz, _⟩ := hash_parts
  exact run_loadVar_mid w g (i * 32) 29 (Lib.byteCells x) _ hra Tryd.underlying29 rfl (by rw [hj, Option.map_some, hsz, Lib.byteCells_length, hl])
theorem run_storeVar_own {w : World} {B g n c : Nat} {hs : List (List UInt8)} {i : Nat} (h : OwnH w B (.slice (some ⟨g, 0, none⟩) n c) hs) (hn : hs.length = n) (hi : i < n) (x : List UInt8) (hx : x.length = 32) (X : Array Value) (hX : u8A x = X) :
    ∃ w', (storeVar 29 ⟨g, i * 32, none⟩ (.agg X)).run Tryd.prog w = .ok () w' ∧ OwnH w' B (.slice (some ⟨g, 0, none⟩) n c) (hs.set i x) ∧ w.grownBy w' (some g) ∧ B ≤ g := by
  subst hX
  obtain ⟨w', h1, h2⟩ := run_store_own h hn hi x hx
  refine ⟨w', ?_, h2⟩
  simpa [Instr.storeAt, Instr.sureAddr] using h1
/-- One operation of a region walked by hand, its run known. -/
theorem wp_run {P : Program} {o : Oper} {a : Act} {w w' : World} {K : Act → World → Prop} {Q : Exit → Act → World → Prop} {v : Value} (h : (execOp a.eval o).run P w = .ok (.value v) w') (hk : K (a.put o.dst v) w') : Oper.wp P o a w K Q := by
  unfold Oper.wp
  rw [h]
  exact hk
theorem run_store_exec {P : Program} {o : Oper} {ρ : Operand → Value} {w w' : World} {ty : TypeId} {p y : Operand} (ho : o.op = .store ty p y) (hs : (Instr.storeAt ty (ρ p) (ρ y)).run P w = .ok () w') : (execOp ρ o).run P w = .ok .skip w' := by
  unfold execOp
  simp only [ho, Sem.run_bind, Sem.run_pure, Result.andThen_ok, hs]
theorem wp_skip {P : Program} {o : Oper} {a : Act} {w w' : World} {K : Act → World → Prop} {Q : Exit → Act → World → Prop} (h : (execOp a.eval o).run P w = .ok .skip w') (hk : K (a.put o.dst undef) w') : Oper.wp P o a w K Q := by
  unfold Oper.wp
  rw [h]
  exact hk
theorem anyTake {P : Program} {md : Region.Mode} {ops : Array Oper} {Q : Exit → Act → World → Prop} {i : Nat} {oi : Oper} {v : Value} {fuel : Nat} {listed : Array Bool} {a : Act} {w : World} (hi : ops.toList[i]? = some oi)
    (hs : Region.noSelect ops = true) (hf : Region.free md ops listed i = true) (hr : (Region.ready md ops listed).contains i = true)
    (hQ : ∀ c a w, Q (.panic c) (a.put oi.dst v) w → Q (.panic c) a w) (hw : Region.wanted oi (yielded ops a.tmps) = true) (hy : ∀ w, (execOp a.eval oi).run P w = .ok (.value v) w)
    (h : wpAny P md ops Q fuel (listed.setIfInBounds i true) (a.put oi.dst v) w) : wpAny P md ops Q (fuel + 1) listed a w :=
  wpAny_take (by rw [← Array.getElem?_toList]; exact hi) hs hf hr hQ (.inl ⟨hw, hy⟩) h
theorem anyOne {P : Program} {md : Region.Mode} {ops : Array Oper} {Q : Exit → Act → World → Prop} {i : Nat} {oi : Oper} {fuel : Nat} {listed : Array Bool} {a : Act} {w : World} (hi : ops.toList[i]? = some oi) (hr : Region.ready md ops listed = [i])
    (hw : Region.wanted oi (yielded ops a.tmps) = true) (h : Oper.wp P oi a w (wpAny P md ops Q fuel (listed.setIfInBounds i true)) Q) : wpAny P md ops Q (fuel + 1) listed a w := by
  have ho : ops[i]? = some oi := by rw [← Array.getElem?_toList]; exact hi
  refine wpAny_all hr (by simp) fun j hj => ?_
  rw [List.mem_singleton.1 hj]
  unfold wpOp
  rw [ho]
  show if Region.wanted oi (yielded ops a.tmps) = true then _ else _
  rw [if_pos hw]
  exact .inl h
theorem anyTwo {P : Program} {md : Region.Mode} {ops : Array Oper} {Q : Exit → Act → World → Prop} {i k : Nat} {oi ok : Oper} {fuel : Nat} {listed : Array Bool} {a : Act} {w : World} (hi : ops.toList[i]? = some oi) (hk : ops.toList[k]? = some ok) (hr : Region.ready md ops listed = [i, k])
    (hwi : Region.wanted oi (yielded ops a.tmps) = true) (hwk : Region.wanted ok (yielded ops a.tmps) = true) (h : Oper.wp P oi a w (wpAny P md ops Q fuel (listed.setIfInBounds i true)) Q) (h' : Oper.wp P ok a w (wpAny P md ops Q fuel (listed.setIfInBounds k true)) Q) : wpAny P md ops Q (fuel + 1) listed a w := by
  have ho : ops[i]? = some oi := by rw [← Array.getElem?_toList]; exact hi
  have ho' : ops[k]? = some ok := by rw [← Array.getElem?_toList]; exact hk
  refine wpAny_all hr (by simp) fun j hj => ?_
  have hj' : j = i ∨ j = k := by simpa using hj
  rcases hj' with rfl | rfl
  · unfold wpOp
    rw [ho]
    show if Region.wanted oi (yielded ops a.tmps) = true then _ else _
    rw [if_pos hwi]
    exact .inl h
  · unfold wpOp
    rw [ho']
    show if Region.wanted ok (yielded ops a.tmps) = true then _ else _
    rw [if_pos hwk]
    exact .inl h'
set_option maxRecDepth 100000 in
set_option maxHeartbeats 8000000 in
theorem preverse_two {w : World} {B g c : Nat} {x y : List UInt8} (h : OwnH w B (.slice (some ⟨g, 0, none⟩) 2 c) [x, y]) (hB : B ≤ w.heap.size) :
    Calls Tryd.prog 129 #[.slice (some ⟨g, 0, none⟩) 2 c] w fun e w' => e = .returned (.tuple #[]) ∧ OwnH w' B (.slice (some ⟨g, 0, none⟩) 2 c) [y, x] ∧ Below B w w' := by
  have hxl := h.1 x (by simp)
  have hyl := h.1 y (by simp)
  obtain ⟨X, hX⟩ : ∃ X, u8A x = X := ⟨_, rfl⟩
  obtain ⟨Y, hY⟩ : ∃ Y, u8A y = Y := ⟨_, rfl⟩
  have hd : OwnH w.drew B (.slice (some ⟨g, 0, none⟩) 2 c) [x, y] := h
  have hl0 : (loadVar 29 ⟨g, 0, none⟩).run Tryd.prog w.drew = .ok (.agg X) w.drew := run_load_own (i := 0) hd (by omega) x rfl X hX
  have hl1 : (loadVar 29 ⟨g, 32, none⟩).run Tryd.prog w.drew = .ok (.agg Y) w.drew := run_load_own (i := 1) hd (by omega) y rfl Y hY
  obtain ⟨w3, hs0, h3, hg3, hBg⟩ := run_storeVar_own (i := 0) hd rfl (by omega) y hyl Y hY
  obtain ⟨w4, hs1, h4, hg4, _⟩ := run_storeVar_own (i := 1) h3 rfl (by omega) x hxl X hX
  rw [Nat.zero_mul] at hs0
  rw [Nat.one_mul] at hs1
  have HF := Lib.hid (show OwnH w4 B (.slice (some ⟨g, 0, none⟩) 2 c) [y, x] from h4)
  have HB := Lib.hid (show Below B w w4 by
    have h5 : Below B w w.drew := (Below.refl _ _).drew
    have h6 := h5.grown hg3 (by exact hB) (fun k hk => by injection hk with hk; omega)
    exact h6.grown hg4 (Nat.le_trans hB h6.size) (fun k hk => by injection hk with hk; omega))
  have HL0 := Lib.hid (fun (o : Oper) (ρ : Operand → Value) (p : Operand) (ho : o.op = .load 29 p) (hp : ρ p = .pointer (some ⟨g, 0, none⟩)) => show (execOp ρ o).run Tryd.prog w.drew = .ok (.value (.agg X)) w.drew by
    unfold execOp
    simp only [ho, hp, Instr.loadAt, Instr.sureAddr, Sem.run_bind, Sem.run_pure, Result.andThen_ok, hl0])
  have HL1 := Lib.hid (fun (o : Oper) (ρ : Operand → Value) (p : Operand) (ho : o.op = .load 29 p) (hp : ρ p = .pointer (some ⟨g, 32, none⟩)) => show (execOp ρ o).run Tryd.prog w.drew = .ok (.value (.agg Y)) w.drew by
    unfold execOp
    simp only [ho, hp, Instr.loadAt, Instr.sureAddr, Sem.run_bind, Sem.run_pure, Result.andThen_ok, hl1])
  have HS0 := Lib.hid (show (Instr.storeAt 29 (.pointer (some ⟨g, 0, none⟩)) (.agg Y)).run Tryd.prog w.drew = .ok () w3 by simp [Instr.storeAt, Instr.sureAddr, hs0])
  have HS1 := Lib.hid (show (Instr.storeAt 29 (.pointer (some ⟨g, 32, none⟩)) (.agg X)).run Tryd.prog w3 = .ok () w4 by simp [Instr.storeAt, Instr.sureAddr, hs1])
  clear h hd h3 h4 hg3 hg4 hxl hyl hX hY hl0 hl1 hs0 hs1
  go_enter Tryd.func129, Tryd.ntmps129
  go_wp2_with fail
  go_loopw [2, 3] (fun s t wq => (s = .int .i64 0 ∧ t = .int .i64 1 ∧ w = wq) ∨ (s = .int .i64 1 ∧ t = .int .i64 0 ∧ w4 = wq)) (fun s _ _ => 1 - (intOf s).toNat)
  case atStart => exact .inl ⟨rfl, rfl, rfl⟩
  case round =>
    rcases hrel with ⟨rfl, rfl, rfl⟩ | ⟨rfl, rfl, rfl⟩
    · go_wp2_with fail
      refine wp_region_any (by kernel_rfl) ?_
      change wpAny _ _ _ _ _ _ _ w.drew
      refine anyTake (i := 0) (v := .slice (some ⟨g, 0, none⟩) 2 c) rfl (by kernel_rfl) (by kernel_rfl) (by kernel_rfl) (fun _ _ _ h => h) (by rfl) (fun W => by go_simp) ?_
      simp only [Act.put, List.setIfInBounds_toArray, List.set_cons_zero, List.set_cons_succ]
      refine anyTake (i := 1) (v := .int .i64 0) rfl (by kernel_rfl) (by kernel_rfl) (by kernel_rfl) (fun _ _ _ h => h) (by rfl) (fun W => by go_simp) ?_
      simp only [Act.put, List.setIfInBounds_toArray, List.set_cons_zero, List.set_cons_succ]
      refine anyTake (i := 2) (v := .slice (some ⟨g, 0, none⟩) 2 c) rfl (by kernel_rfl) (by kernel_rfl) (by kernel_rfl) (fun _ _ _ h => h) (by rfl) (fun W => by go_simp) ?_
      simp only [Act.put, List.setIfInBounds_toArray, List.set_cons_zero, List.set_cons_succ]
      refine anyTake (i := 3) (v := .int .i64 1) rfl (by kernel_rfl) (by kernel_rfl) (by kernel_rfl) (fun _ _ _ h => h) (by rfl) (fun W => by go_simp) ?_
      simp only [Act.put, List.setIfInBounds_toArray, List.set_cons_zero, List.set_cons_succ]
      refine anyTake (i := 4) (v := .slice (some ⟨g, 0, none⟩) 2 c) rfl (by kernel_rfl) (by kernel_rfl) (by kernel_rfl) (fun _ _ _ h => h) (by rfl) (fun W => by go_simp) ?_
      simp only [Act.put, List.setIfInBounds_toArray, List.set_cons_zero, List.set_cons_succ]
      refine anyTake (i := 5) (v := .int .i64 1) rfl (by kernel_rfl) (by kernel_rfl) (by kernel_rfl) (fun _ _ _ h => h) (by rfl) (fun W => by go_simp) ?_
      simp only [Act.put, List.setIfInBounds_toArray, List.set_cons_zero, List.set_cons_succ]
      refine anyTake (i := 6) (v := .pointer (some ⟨g, 32, none⟩)) rfl (by kernel_rfl) (by kernel_rfl) (by kernel_rfl) (fun _ _ _ h => h) (by rfl) (fun W => by go_simp) ?_
      simp only [Act.put, List.setIfInBounds_toArray, List.set_cons_zero, List.set_cons_succ]
      refine anyTake (i := 8) (v := .slice (some ⟨g, 0, none⟩) 2 c) rfl (by kernel_rfl) (by kernel_rfl) (by kernel_rfl) (fun _ _ _ h => h) (by rfl) (fun W => by go_simp) ?_
      simp only [Act.put, List.setIfInBounds_toArray, List.set_cons_zero, List.set_cons_succ]
      refine anyTake (i := 9) (v := .int .i64 0) rfl (by kernel_rfl) (by kernel_rfl) (by kernel_rfl) (fun _ _ _ h => h) (by rfl) (fun W => by go_simp) ?_
      simp only [Act.put, List.setIfInBounds_toArray, List.set_cons_zero, List.set_cons_succ]
      refine anyTake (i := 10) (v := .pointer (some ⟨g, 0, none⟩)) rfl (by kernel_rfl) (by kernel_rfl) (by kernel_rfl) (fun _ _ _ h => h) (by rfl) (fun W => by go_simp) ?_
      simp only [Act.put, List.setIfInBounds_toArray, List.set_cons_zero, List.set_cons_succ]
      refine anyTwo (i := 7) (k := 11) rfl rfl (by kernel_rfl) (by rfl) (by rfl) (wp_run (HL1.out _ _ (.tmp 20) rfl rfl) ?_) (wp_run (HL0.out _ _ (.tmp 24) rfl rfl) ?_)
      · simp only [Act.put, List.setIfInBounds_toArray, List.set_cons_zero, List.set_cons_succ]
        refine anyOne (i := 11) rfl (by kernel_rfl) (by rfl) (wp_run (HL0.out _ _ (.tmp 24) rfl rfl) ?_)
        simp only [Act.put, List.setIfInBounds_toArray, List.set_cons_zero, List.set_cons_succ]
        refine anyTake (i := 12) (v := .pointer (some ⟨g, 0, none⟩)) rfl (by kernel_rfl) (by kernel_rfl) (by kernel_rfl) (fun _ _ _ h => h) (by rfl) (fun W => by go_simp) ?_
        simp only [Act.put, List.setIfInBounds_toArray, List.set_cons_zero, List.set_cons_succ]
        refine anyOne (i := 13) rfl (by kernel_rfl) (by rfl) (wp_skip (run_store_exec (p := .tmp 26) (y := .tmp 21) rfl HS0.out) ?_)
        simp only [Act.put]
        refine anyTake (i := 14) (v := .pointer (some ⟨g, 32, none⟩)) rfl (by kernel_rfl) (by kernel_rfl) (by kernel_rfl) (fun _ _ _ h => h) (by rfl) (fun W => by go_simp) ?_
        simp only [Act.put, List.setIfInBounds_toArray, List.set_cons_zero, List.set_cons_succ]
        refine anyOne (i := 15) rfl (by kernel_rfl) (by rfl) (wp_skip (run_store_exec (p := .tmp 27) (y := .tmp 25) rfl HS1.out) ?_)
        simp only [Act.put]
        refine wpAny_done (by kernel_rfl) ?_ _
        go_wp2_with fail
        go_roundw
        case rel => simp
        case measure => simp [intOf]
      · simp only [Act.put, List.setIfInBounds_toArray, List.set_cons_zero, List.set_cons_succ]
        refine anyOne (i := 7) rfl (by kernel_rfl) (by rfl) (wp_run (HL1.out _ _ (.tmp 20) rfl rfl) ?_)
        simp only [Act.put, List.setIfInBounds_toArray, List.set_cons_zero, List.set_cons_succ]
        refine anyTake (i := 12) (v := .pointer (some ⟨g, 0, none⟩)) rfl (by kernel_rfl) (by kernel_rfl) (by kernel_rfl) (fun _ _ _ h => h) (by rfl) (fun W => by go_simp) ?_
        simp only [Act.put, List.setIfInBounds_toArray, List.set_cons_zero, List.set_cons_succ]
        refine anyOne (i := 13) rfl (by kernel_rfl) (by rfl) (wp_skip (run_store_exec (p := .tmp 26) (y := .tmp 21) rfl HS0.out) ?_)
        simp only [Act.put]
        refine anyTake (i := 14) (v := .pointer (some ⟨g, 32, none⟩)) rfl (by kernel_rfl) (by kernel_rfl) (by kernel_rfl) (fun _ _ _ h => h) (by rfl) (fun W => by go_simp) ?_
        simp only [Act.put, List.setIfInBounds_toArray, List.set_cons_zero, List.set_cons_succ]
        refine anyOne (i := 15) rfl (by kernel_rfl) (by rfl) (wp_skip (run_store_exec (p := .tmp 27) (y := .tmp 25) rfl HS1.out) ?_)
        simp only [Act.put]
        refine wpAny_done (by kernel_rfl) ?_ _
        go_wp2_with fail
        go_roundw
        case rel => simp
        case measure => simp [intOf]
    · go_wp2_with fail
      go_end0
      exact ⟨rfl, HF.out, HB.out⟩
end Go.Proofs.YtfgieebccjoboaaDoor
namespace Go.Proofs.YtfgieebccjoboaaDoor
open Go.RowKit

/-- A row of rows, all from block B on. -/
def RB (w : World) (B : Nat) (v : Value) (ls : List (List (List UInt8))) : Prop := ∃ vs, w.ownsRow B 33 1 v ls.length vs ∧ vs.length = ls.length ∧ ∀ i (h : i < ls.length), ∃ u, vs[i]? = some u ∧ OwnH w B u ls[i]
theorem RB.rl {w : World} {B : Nat} {v : Value} {ls : List (List (List UInt8))} (h : RB w B v ls) : RL w B v ls := by
  obtain ⟨vs, h1, h2, h3⟩ := h
  exact ⟨vs, h1, h2, fun i hi => by
    obtain ⟨u, h4, h5⟩ := h3 i hi
    exact ⟨u, h4, HxV.of h5⟩⟩
theorem RB.nil (w : World) (B : Nat) : RB w B (.slice none 0 0) [] := ⟨[], World.ownsRow_nil _ _ _ _, rfl, fun i h => by simp at h⟩
theorem RB.on {w w' : World} {B : Nat} {v : Value} {ls : List (List (List UInt8))} (h : RB w B v ls) (hb : Below w.heap.size w w') : RB w' B v ls := by
  obtain ⟨vs, h1, h2, h3⟩ := h
  exact ⟨vs, own_keepK h1 hb, h2, fun i hi => by
    obtain ⟨u, h4, h5⟩ := h3 i hi
    exact ⟨u, h4, h5.on hb⟩⟩
theorem RB.form {w : World} {B n : Nat} {v : Value} {ls : List (List (List UInt8))} (h : RB w B v ls) (hn : ls.length = n) : ∃ A c, v = .slice A n c ∧ n ≤ c ∧ c ≤ maxLen := h.rl.form hn
/-- A block ahead of all of them has changed. -/
theorem RB.far {w w' : World} {B g : Nat} {v : Value} {ls : List (List (List UInt8))} (h : RB w B v ls) (hg : w.grownBy w' (some g)) (hgB : g < B) : RB w' B v ls := by
  obtain ⟨vs, h1, h2, h3⟩ := h
  refine ⟨vs, ⟨h1.1, ?_⟩, h2, fun i hi => ?_⟩
  · rcases h1.2 with h0 | ⟨b, cap, cur, rfl, q1, q2, q3⟩
    · exact .inl h0
    · exact .inr ⟨b, cap, cur, rfl, q1, (hg.block b (Array.getElem?_eq_some_iff.1 q2).1 (fun e => by injection e with e; omega)).trans q2, q3⟩
  · obtain ⟨u, h4, h5⟩ := h3 i hi
    exact ⟨u, h4, h5.apart hg fun b hb e => by
      injection e with e
      have := h5.lt b hb
      omega⟩
theorem own_apart_rows {w w' : World} {u v : Value} {l : List (List UInt8)} {B C n : Nat} {xs : List Value} (h : OwnH w C u l) (hown : w.ownsRow B 33 1 v n xs) (hg : w.grownBy w' v.ownBlock) : OwnH w' C u l := by
  refine h.apart hg fun g hgv e => ?_
  rcases h.2.2 with ⟨rfl, _⟩ | ⟨g1, cap1, cur1, rfl, _, h3, _⟩
  · simp [Value.ownBlock] at hgv
  · rcases hown.2 with ⟨rfl, _⟩ | ⟨g2, cap2, cur2, rfl, _, h4, _⟩
    · simp [Value.ownBlock] at e
    · simp only [Value.ownBlock, Option.some.injEq] at hgv e
      subst hgv
      subst e
      have := h3.symm.trans h4
      injection this with k1
      injection k1 with _ k2 _
      exact absurd k2.symm ty_hashes
theorem wpList_append_rowB {w : World} {ops : Array Oper} {rest : List Oper} {o : Oper} {a : Act} {Q : Exit → Act → World → Prop} (hgd : o.guard = none) (s x : Operand)
    (ho : o.op = .call { callee := .builtin .append, args := #[s, x], argTypes := #[107, 107] })
    (base : Nat) (v : Value) (ls : List (List (List UInt8))) (hs : a.eval s = v) (hown : RB w base v ls) (b : Nat) (u : Value) (l : List (List UInt8)) (hu : OwnH w base u l) (hb : w.heap[b]? = some (.cells #[u] 33 (0, 0))) (hx : a.eval x = .slice (some ⟨b, 0, none⟩) 1 1)
    (hlim : ls.length + 1 ≤ 1000000) (hbase : base ≤ w.heap.size)
    (h : ∀ v' w', RB w' base v' (ls ++ [l]) → w.grownBy w' v.ownBlock → (∀ g, v.ownBlock = some g → base ≤ g) → wpList Tryd.prog ops Q rest (a.put o.dst v') w') : wpList Tryd.prog ops Q (o :: rest) a w := by
  obtain ⟨i, hi, hz, hsz, hby⟩ := info_parts infoHashes
  obtain ⟨vs, h1, h2, h3⟩ := hown
  obtain ⟨A, c, rfl, _, _⟩ := hu.form rfl
  have hlt := fun g hg => (h1.lt g hg).1
  refine wpList_append_own (P := Tryd.prog) _ hgd s x 107 ho base 33 i (.slice none 0 0) 1 24 Tryd.underlying107 hi hz hsz hby rfl (by omega) v ls.length vs hs h1 ⟨b, 0, none⟩ 1 1 [.slice A l.length c] hx rfl (fun j u hj => ?_) (fun u hu => ?_) (by unfold maxLen; omega) (by omega) hbase
    (fun v' w' k1 k2 _ => h v' w' ⟨vs ++ [.slice A l.length c], by rw [List.length_append]; exact k1, by rw [List.length_append, List.length_append, h2]; rfl, fun i hi => ?_⟩ k2 hlt)
  · exact World.news_of_block hb j u (by simpa using hj)
  · simp at hu
    subst hu
    rfl
  · by_cases hil : i < ls.length
    · obtain ⟨u, h4, h5⟩ := h3 i hil
      refine ⟨u, ?_, by rw [List.getElem_append_left hil]; exact own_apart_rows h5 h1 k2⟩
      rw [List.getElem?_append_left (by omega)]
      exact h4
    · have hie : i = ls.length := by simp at hi; omega
      subst hie
      refine ⟨_, ?_, by simpa using own_apart_rows hu h1 k2⟩
      rw [List.getElem?_append_right (by omega), h2, Nat.sub_self]
      rfl
/-- A slice literal of two hashes. -/
theorem wpList_build_hash2 {w : World} {ops : Array Oper} {rest : List Oper} {o : Oper} {a : Act} {Q : Exit → Act → World → Prop} (hgd : o.guard = none) (x y : Operand)
    (ho : o.op = .buildSlice 33 2 #[(0, x), (1, y)]) (X Y : Array Value) (hx : a.eval x = .agg X) (hy : a.eval y = .agg Y) (hX : X.size = 32) (hY : Y.size = 32)
    (h : wpList Tryd.prog ops Q rest (a.put o.dst (.slice (some ⟨w.heap.size, 0, none⟩) 2 2)) (w.alloc (.cells (X ++ Y) 29))) : wpList Tryd.prog ops Q (o :: rest) a w := by
  obtain ⟨i, z, hi, hzz, hzs, hsz, hby⟩ := hash_parts
  refine wpList_buildSlice (P := Tryd.prog) hgd 33 29 2 #[(0, x), (1, y)] ho (X ++ Y) i z Tryd.underlying33 hi hzz (by rw [hsz]; decide) (by rw [hsz]; decide) ?_ h
  rw [hsz]
  have e : ((#[(0, x), (1, y)] : Array (Nat × Operand)).map fun (i, x) => (i, a.eval x)).toList = [(0, .agg X), (1, .agg Y)] := by simp [hx, hy]
  rw [e]
  have h := Great.fill_whole (s := 32) (by omega) [.agg X, .agg Y] (madeCells z.cells (2 * 32)) (fun v hv => by
    simp at hv
    rcases hv with rfl | rfl
    · exact hX
    · exact hY) (by simp [madeCells])
  have e2 : ([Value.agg X, .agg Y].flatMap fun v => v.cells.toList).toArray = X ++ Y := by
    simp only [List.flatMap_cons, List.flatMap_nil, List.append_nil, Value.cells]
    simp
  rw [e2] at h
  exact h
theorem own_two {w : World} {B : Nat} {a b : List UInt8} (ha : a.length = 32) (hb : b.length = 32) (hB : B ≤ w.heap.size) : OwnH (w.alloc (.cells (u8A a ++ u8A b) 29)) B (.slice (some ⟨w.heap.size, 0, none⟩) 2 2) [a, b] := by
  refine ⟨fun r hr => ?_, ?_⟩
  · simp at hr
    rcases hr with rfl | rfl
    · exact ha
    · exact hb
  · have h := World.ownsRow_lit (base := B) (e := 29) (size := 32) w (u8A a ++ u8A b) 2 hB (by unfold maxLen; omega) (by rw [Array.size_append, u8A_size, u8A_size, ha, hb])
    have e : (u8A a ++ u8A b).toList = [a, b].flatMap Lib.byteCells := by simp [u8A]
    rw [e] at h
    exact h
theorem own_one {w : World} {B : Nat} {a : List UInt8} (ha : a.length = 32) (hB : B ≤ w.heap.size) : OwnH (w.alloc (.cells (u8A a) 29)) B (.slice (some ⟨w.heap.size, 0, none⟩) 1 1) [a] := by
  refine ⟨fun r hr => ?_, ?_⟩
  · rw [List.mem_singleton.1 hr]; exact ha
  · have h := World.ownsRow_lit (base := B) (e := 29) (size := 32) w (u8A a) 1 hB (by unfold maxLen; omega) (by rw [u8A_size, ha])
    have e : (u8A a).toList = [a].flatMap Lib.byteCells := by simp [u8A]
    rw [e] at h
    exact h
/-- A way as pairs, from below, and the root. -/
def pairW (i : Nat) (a x : List UInt8) : List (List UInt8) := if i % 2 = 1 then [x, a] else [a, x]
def pairsW : Nat → List UInt8 → List (List UInt8) → List (List (List UInt8))
  | _, _, [] => []
  | i, a, x :: p => pairW i a x :: pairsW (i / 2) (shaL (tree.text nodeT i a x)) p
theorem pairsW_len : ∀ (p : List (List UInt8)) (i : Nat) (a : List UInt8), (pairsW i a p).length = p.length
  | [], _, _ => rfl
  | x :: p, i, a => by rw [pairsW, List.length_cons, List.length_cons, pairsW_len p]
theorem pairsW_snoc (p : List (List UInt8)) (x : List UInt8) : ∀ (i : Nat) (a : List UInt8), pairsW i a (p ++ [x]) = pairsW i a p ++ [pairW (i / 2 ^ p.length) (climbH i a p) x] := by
  induction p with
  | nil => intro i a; simp [pairsW, climbH, tree.climb]
  | cons y r ih =>
    intro i a
    rw [List.cons_append, pairsW, pairsW, ih, List.length_cons, Nat.pow_succ, Nat.mul_comm, ← Nat.div_div_eq_div_mul]
    rfl
def wayL (i : Nat) (a : List UInt8) (p : List (List UInt8)) : List (List (List UInt8)) := pairsW i a p ++ [[climbH i a p]]
theorem wayL_len (i : Nat) (a : List UInt8) (p : List (List UInt8)) : (wayL i a p).length = p.length + 1 := by simp [wayL, pairsW_len]
end Go.Proofs.YtfgieebccjoboaaDoor
namespace Go.Proofs.YtfgieebccjoboaaDoor
open Go.RowKit

theorem own_ranges {w : World} {B g c : Nat} {x y : List UInt8} (h : OwnH w B (.slice (some ⟨g, 0, none⟩) 2 c) [x, y]) : w.rangeAt g 0 (Lib.byteCells x) ∧ w.rangeAt g 32 (Lib.byteCells y) := by
  constructor
  · obtain ⟨b, off, e, _, hra, _⟩ := h.hv.at_ (i := 0) (by omega)
    injection e with e
    injection e with e1 e2
    subst e1 e2
    exact hra
  · obtain ⟨b, off, e, _, hra, _⟩ := h.hv.at_ (i := 1) (by omega)
    injection e with e
    injection e with e1 e2
    subst e1 e2
    exact hra
set_option maxRecDepth 100000 in
set_option maxHeartbeats 8000000 in
theorem pway_no (n i : Int) (lf : List UInt8) (A : Option Addr) (m c : Nat) (ps : List (List UInt8)) (w : World) (hm : ps.length = m) (hno : ¬ climbOK n i ps.length) :
    Calls Tryd.prog 112 #[.func (.func 76) #[] #[], .int .i64 n, .int .i64 i, .agg (u8A lf), .slice A m c] w fun e w' => e = .returned (.tuple #[.slice none 0 0, .bool false]) ∧ Below w.heap.size w w' := by
  generalize u8A lf = X
  have HAL := Lib.hid (show Below w.heap.size w (w.alloc (.cells X 29)) from (Below.refl _ _).alloc (Nat.le_refl _) _)
  by_cases g1 : i < 0
  · clear hno
    go_enter Tryd.func112, Tryd.ntmps112
    go_wp2_with fail
    go_ret2
    exact ⟨rfl, HAL.out⟩
  · by_cases g2 : n ≤ i
    · clear hno
      go_enter Tryd.func112, Tryd.ntmps112
      go_wp2_with fail
      go_ret2
      exact ⟨rfl, HAL.out⟩
    · by_cases g3 : 256 < n
      · clear hno
        go_enter Tryd.func112, Tryd.ntmps112
        go_wp2_with fail
        go_ret2
        exact ⟨rfl, HAL.out⟩
      · obtain ⟨k, hk⟩ : ∃ k, tree.high n.toNat = k := ⟨_, rfl⟩
        have HH := Lib.hid (fun W => (show Calls Tryd.prog 128 #[.int .i64 n] W fun e W' => e = .returned (.int .i64 (k : Int)) ∧ W = W' from by
          have := pheight_any n W (by omega) (by omega)
          rw [hk] at this
          exact this))
        have hne : ¬ (m : Int) = (k : Int) := fun e => hno ⟨by omega, by omega, by omega, by omega⟩
        have hne2 : ¬ m = k := by omega
        clear hno hk
        go_enter Tryd.func112, Tryd.ntmps112
        go_wp2_with fail
        with_reducible refine (HH.out _).mono ?_
        rintro e w2 ⟨rfl, rfl⟩
        go_wp2_with fail
        go_ret2
        exact ⟨rfl, HAL.out⟩
set_option maxRecDepth 100000 in
set_option maxHeartbeats 8000000 in
theorem pway_yes (n i : Int) (lf : List UInt8) (A : Option Addr) (m c : Nat) (ps : List (List UInt8)) (w : World) (hm : ps.length = m) (h1 : m ≤ 1024) (hlf : lf.length = 32) (hl : ∀ r ∈ ps, r.length = 32) (hr : RdH w w.heap.size A ps) (htab : Pow10 w.heap.size w) (hok : climbOK n i ps.length) :
    Calls Tryd.prog 112 #[.func (.func 76) #[] #[], .int .i64 n, .int .i64 i, .agg (u8A lf), .slice A m c] w fun e w' => ∃ v, e = .returned (.tuple #[v, .bool true]) ∧ RL w' w.heap.size v (wayL i.toNat lf ps) ∧ Below w.heap.size w w' := by
  obtain ⟨I, hI⟩ : ∃ I : Nat, i = (I : Int) := ⟨i.toNat, by have := hok.1; omega⟩
  subst hI
  have g1 : ¬ (I : Int) < 0 := by omega
  have g2 : ¬ n ≤ (I : Int) := by have := hok.2.1; omega
  have g3 : ¬ 256 < n := by have := hok.2.2.1; omega
  have HH := Lib.hid (fun W => (show Calls Tryd.prog 128 #[.int .i64 n] W fun e W' => e = .returned (.int .i64 (m : Int)) ∧ W = W' from by
    have := pheight_any n W (by omega) (by omega)
    rw [← hok.2.2.2, hm] at this
    exact this))
  have HM := Lib.hid hm
  have HRD := Lib.hid hr
  have HLL := Lib.hid hl
  have HT := Lib.hid htab
  have hI256 : I < 256 := by omega
  rw [Int.toNat_natCast]
  obtain ⟨X0, hX0⟩ : ∃ X, u8A lf = X := ⟨_, rfl⟩
  rw [hX0]
  have HAL := Lib.hid (show Below w.heap.size w (w.alloc (.cells X0 29)) from (Below.refl _ _).alloc (Nat.le_refl _) _)
  have HC0 := Lib.hid (show Blk (w.alloc (.cells X0 29)) w.heap.size (u8A (climbH I lf (ps.take 0))) 29 by
    show Blk _ _ (u8A lf) _
    rw [hX0]
    exact Blk.new _ _ _)
  clear hok hl hr htab hm hX0
  go_enter Tryd.func112, Tryd.ntmps112
  go_wp2_with fail
  with_reducible refine (HH.out _).mono ?_
  rintro e w2 ⟨rfl, rfl⟩
  go_wp2_with fail
  generalize w.alloc (.cells X0 29) = w1 at *
  go_loopw [2, 12, 36] (fun iv wv t wq => ∃ j p : Nat, j ≤ m ∧ iv = .int .i64 (p : Int) ∧ t = .int .i64 (j : Int) ∧ Hid (p = I / 2 ^ j) ∧ p ≤ 256 ∧ Hid (RB wq (w.heap.size + 1) wv (pairsW I lf (ps.take j))) ∧ Hid (Blk wq w.heap.size (u8A (climbH I lf (ps.take j))) 29) ∧ Hid (Below w.heap.size w wq)) (fun _ _ t _ => m - (intOf t).toNat)
  case atStart => exact ⟨0, I, Nat.zero_le _, rfl, rfl, Lib.hid (by simp), by omega, Lib.hid (RB.nil _ _), HC0, HAL⟩
  case round =>
    clear HC0 HAL HH
    obtain ⟨j, p, hj, rfl, rfl, HP, hp256, HW, HC, HBEL⟩ := hrel
    have hbel := HBEL.out
    have HTL := Lib.hid (show (ps.take j).length = j by rw [List.length_take, HM.out]; omega)
    obtain ⟨V, d, rfl, _, _⟩ := HW.out.form (n := j) (by rw [pairsW_len]; exact HTL.out)
    by_cases hlt : j < m
    · have hji : (j : Int) < (m : Int) := by omega
      have hjl : j < ps.length := by rw [HM.out]; exact hlt
      obtain ⟨x, hx⟩ : ∃ x, ps[j] = x := ⟨_, rfl⟩
      have hxl : x.length = 32 := by rw [← hx]; exact HLL.out _ (List.getElem_mem _)
      have HST := Lib.hid (show climbH I lf (ps.take (j + 1)) = shaL (tree.text nodeT p (climbH I lf (ps.take j)) x) by
        have h := climb_snoc (ps.take j) x I lf
        rw [HTL.out, ← HP.out] at h
        rw [← h, List.take_succ_eq_append_getElem hjl, hx])
      have HPT := Lib.hid (show pairsW I lf (ps.take (j + 1)) = pairsW I lf (ps.take j) ++ [pairW p (climbH I lf (ps.take j)) x] by
        have h := pairsW_snoc (ps.take j) x I lf
        rw [HTL.out, ← HP.out] at h
        rw [← h, List.take_succ_eq_append_getElem hjl, hx])
      have HCL := Lib.hid (climbH_len hlf (ps.take j) I)
      have HP2 := Lib.hid (show p / 2 = I / 2 ^ (j + 1) by rw [HP.out, Nat.pow_succ, Nat.div_div_eq_div_mul])
      have HLJ := Lib.hid (show (pairsW I lf (ps.take j)).length + 1 ≤ 1000000 by rw [pairsW_len, HTL.out]; omega)
      have HLN := Lib.hid (show (pairsW I lf (ps.take (j + 1))).length = j + 1 by rw [pairsW_len, List.length_take, HM.out]; omega)
      rcases HRD.out with h0 | ⟨b, off, rfl, hbs, hcs⟩
      · rw [h0] at hjl; simp at hjl
      have hra := hcs j hjl
      rw [hx] at hra
      have HRA := Lib.hid (rangeAt_keep hra fun k => hbel.cell hbs)
      generalize climbH I lf (ps.take j) = cur at *
      obtain ⟨C, hC⟩ : ∃ C, u8A cur = C := ⟨_, rfl⟩
      obtain ⟨Z, hZ⟩ : ∃ Z, u8A x = Z := ⟨_, rfl⟩
      have HEC := Lib.hid hC
      have HEZ := Lib.hid hZ
      have HCZ := Lib.hid (show (u8A cur).size = 32 by rw [u8A_size]; exact HCL.out)
      have HCS := Lib.hid (show C.size = 32 by rw [← hC]; exact HCZ.out)
      have HZS := Lib.hid (show Z.size = 32 by rw [← hZ, u8A_size]; exact hxl)
      have HZO := Lib.hid (show Z.all (·.oneCell') = true by rw [← hZ]; exact u8A_one _)
      clear hC hZ hra hcs hx hjl
      go_upto_region 7 with (first
        | (with_reducible refine wpList_load_hash rfl (.tmp 38) rfl b (off + j * 32) rfl x hxl HRA.out Z HEZ.out ?_)
        | (with_reducible refine wpList_store_blk rfl 29 (.tmp 14) (.tmp 39) rfl wr.heap.size Z rfl rfl 29 _ (Blk.new _ _ _) (by rw [HZS.out]; kernel_rfl) (by rw [HZS.out]; kernel_rfl) HZO.out ?_))
      generalize hw6 : World.setRow _ _ _ = w6
      have hf : Blk w6 wr.heap.size (u8A x) 29 ∧ Below wr.heap.size wr w6 := by
        rw [← hw6, HEZ.out]
        exact ⟨(Blk.new _ _ _).row _, below_row ((Below.refl _ _).alloc (Nat.le_refl _) _) (by simp) (Nat.le_refl _) _⟩
      have HZ6 := Lib.hid (range_of_blk hf.1)
      have HB6 := Lib.hid hf.2
      have HC6 := Lib.hid (range_of_blk (HC.out.below hf.2 HC.out.lt))
      clear hf hw6
      go_upto_region 8 with (first
        | (with_reducible refine wpList_load_hash rfl (.tmp 8) rfl w.heap.size 0 rfl cur HCL.out HC6.out C HEC.out ?_)
        | (with_reducible refine wpList_load_hash rfl (.tmp 14) rfl wr.heap.size 0 rfl x hxl HZ6.out Z HEZ.out ?_)
        | (with_reducible refine wpList_build_hash2 rfl (.tmp 40) (.tmp 41) rfl C Z rfl rfl HCS.out HZS.out ?_))
      generalize hw7 : w6.alloc _ = w7
      have HO7 := Lib.hid (show OwnH w7 w6.heap.size (.slice (some ⟨w6.heap.size, 0, none⟩) 2 2) [cur, x] by
        rw [← hw7, ← HEC.out, ← HEZ.out]
        exact own_two HCL.out hxl (Nat.le_refl _))
      have HB7 := Lib.hid (show Below wr.heap.size wr w7 by
        rw [← hw7]
        exact HB6.out.trans (((Below.refl _ _).alloc (Nat.le_refl _) _).mono HB6.out.size))
      have hBle : w.heap.size + 1 ≤ w6.heap.size := Nat.le_trans HC.out.lt HB6.out.size
      have h67 : w6.heap.size ≤ w7.heap.size := by rw [← hw7]; simp
      have h6r := HB6.out.size
      clear hw7 HZ6 HB6 HC6 HRA HZO
      by_cases he : p % 2 = 1
      · have hei : (p : Int) % 2 = 1 := by omega
        have HRV := Lib.hid (preverse_two HO7.out h67)
        have HPAR := Lib.hid (show pairW p cur x = [x, cur] ∧ tree.text nodeT p cur x = nodeT x cur from ⟨if_pos he, if_neg (by omega)⟩)
        go_wp2_with fail
        with_reducible refine (HRV.out).mono ?_
        rintro e w8 ⟨rfl, hown8, hb8⟩
        have HO8 := Lib.hid hown8
        have HB8 := Lib.hid (HB7.out.trans (hb8.mono h6r))
        clear hown8 hb8 HO7 HB7 HRV
        have HSN := Lib.hid (show climbH I lf (ps.take (j + 1)) = nodeH x cur by rw [HST.out, HPAR.out.2]; rfl)
        have HPS := Lib.hid (show pairsW I lf (ps.take (j + 1)) = pairsW I lf (ps.take j) ++ [[x, cur]] by rw [HPT.out, HPAR.out.1])
        obtain ⟨X, hX⟩ : ∃ X, X = (Lib.byteCells x).toArray := ⟨_, rfl⟩
        obtain ⟨Y, hY⟩ : ∃ Y, Y = (Lib.byteCells cur).toArray := ⟨_, rfl⟩
        obtain ⟨R, hR⟩ : ∃ R, u8A (nodeH x cur) = R := ⟨_, rfl⟩
        have HEX := Lib.hid hX
        have HEY := Lib.hid hY
        have HER := Lib.hid hR
        have HIX := Lib.hid (show (Tryd.prog.info? 29).map (·.size) = some (Lib.byteCells x).length by rw [Lib.byteCells_length, hxl]; kernel_rfl)
        have HIY := Lib.hid (show (Tryd.prog.info? 29).map (·.size) = some (Lib.byteCells cur).length by rw [Lib.byteCells_length, HCL.out]; kernel_rfl)
        have HRZ := Lib.hid (show R.size = 32 by rw [← hR, u8A_size, nodeH_len])
        have HRO := Lib.hid (show R.all (·.oneCell') = true by rw [← hR]; exact u8A_one _)
        have hal : Below w8.heap.size w8 (w8.alloc (.cells #[.slice (some ⟨w6.heap.size, 0, none⟩) 2 2] 33)) := (Below.refl _ _).alloc (Nat.le_refl _) _
        have hb08 := hbel.trans (HB8.out.mono hbel.size)
        have HO9 := Lib.hid (HO8.out.on hal)
        have HOB9 := Lib.hid (show OwnH (w8.alloc (.cells #[.slice (some ⟨w6.heap.size, 0, none⟩) 2 2] 33)) (w.heap.size + 1) (.slice (some ⟨w6.heap.size, 0, none⟩) 2 2) [x, cur] from ⟨HO9.out.1, own_baseK HO9.out.2 hBle⟩)
        have HW9 := Lib.hid ((HW.out.on HB8.out).on hal)
        have HC8 := Lib.hid (HC.out.below HB8.out HC.out.lt)
        have HC9 := Lib.hid (HC8.out.below hal HC8.out.lt)
        have HBL9 := Lib.hid (show (w8.alloc (.cells #[.slice (some ⟨w6.heap.size, 0, none⟩) 2 2] 33)).heap[w8.heap.size]? = some (.cells #[.slice (some ⟨w6.heap.size, 0, none⟩) 2 2] 33 (0, 0)) from heap_alloc_new _ _)
        have HB9 := Lib.hid (hb08.trans (hal.mono hb08.size))
        have HSZ := Lib.hid (show w.heap.size + 1 ≤ (w8.alloc (.cells #[.slice (some ⟨w6.heap.size, 0, none⟩) 2 2] 33)).heap.size from HC9.out.lt)
        clear hX hY hR hal hb08
        go_wp2_with (at_builtin; refine wpList_append_rowB rfl _ _ rfl (w.heap.size + 1) _ (pairsW I lf (ps.take j)) rfl HW9.out w8.heap.size (.slice (some ⟨w6.heap.size, 0, none⟩) 2 2) [x, cur] HOB9.out HBL9.out rfl HLJ.out HSZ.out ?_)
        intro v10 w10 hrb10 hg10 hin10
        rw [← HPS.out] at hrb10
        obtain ⟨A10, c10, rfl, _, _⟩ := hrb10.form HLN.out
        have HW10 := Lib.hid hrb10
        have HB10 := Lib.hid (HB9.out.grown hg10 HB9.out.size (fun k hk => by have := hin10 k hk; omega))
        have HC10 := Lib.hid (show Blk w10 w.heap.size (u8A cur) 29 from (hg10.block _ HC9.out.lt (fun e => by have := hin10 _ e.symm; omega)).trans HC9.out)
        have HO10 := Lib.hid (show OwnH w10 w6.heap.size (.slice (some ⟨w6.heap.size, 0, none⟩) 2 2) [x, cur] by
          obtain ⟨vs, k1, _⟩ := HW9.out
          exact own_apart_rows HO9.out k1 hg10)
        have HK10 := Lib.hid (fun W (hb : Below w10.heap.size w10 W) => own_ranges (HO10.out.on hb))
        have HND := Lib.hid (fun W (hb : Below w10.heap.size w10 W) => (show Calls Tryd.prog 76 #[.agg X, .agg Y] W fun e W' => e = .returned (.agg R) ∧ Below W.heap.size W W' from by
          rw [HEX.out, HEY.out, ← HER.out]
          exact pnode_any x cur W hxl HCL.out (tab_on HT.out (HB10.out.trans (hb.mono HB10.out.size)) (HB10.out.trans (hb.mono HB10.out.size)).size)))
        clear hrb10 hg10 hin10 HO10 HO9 HOB9 HW9 HC9 HC8 HBL9 HB9 HSZ HO8 HB8 HPS HST HPAR HPT HW HC HLN HLJ
        go_wp2_with fail
        refine wp_region_loose 8 1 (fun i => false) (promises [.is (.func (.func 76) #[] #[]), .is (.slice (some ⟨w6.heap.size, 0, none⟩) 2 2), .is (.pointer (some ⟨w6.heap.size, 0, none⟩)), .is (.agg X), .is (.slice (some ⟨w6.heap.size, 0, none⟩) 2 2), .is (.pointer (some ⟨w6.heap.size, 32, none⟩)), .is (.agg Y), .is (.agg R)]) (by kernel_rfl) rfl (by kernel_rfl) (fun i v w w' h hb => Spec.keep h hb) ⟨?_, ?_, ?_, ?_, ?_, ?_, ?_, ?_, trivial⟩ ?_
        · refine StepOKl.of ?_
          intro ac w hb hu hk
          refine ⟨wanted_none rfl, ?_⟩
          have e0 : ac.eval (.tmp 0) = .func (.func 76) #[] #[] := hu.is (t := 0) (by kernel_rfl)
          exact step_value (BigFrame.run_move (.tmp 0) rfl w) (Below.refl _ _) e0
        · refine StepOKl.of ?_
          intro ac w hb hu hk
          refine ⟨wanted_none rfl, ?_⟩
          have e15 : ac.eval (.tmp 15) = .slice (some ⟨w6.heap.size, 0, none⟩) 2 2 := hu.is (t := 15) (by kernel_rfl)
          exact step_value (BigFrame.run_move (.tmp 15) rfl w) (Below.refl _ _) e15
        · refine StepOKl.of ?_
          intro ac w hb hu hk
          refine ⟨wanted_none rfl, ?_⟩
          have e53 : ac.eval (.tmp 53) = (.slice (some ⟨w6.heap.size, 0, none⟩) 2 2) := (hk ⟨1, .data⟩ (by simp) rfl).is rfl rfl
          refine step_value (w' := w) (v := (.pointer (some ⟨w6.heap.size, 0, none⟩))) ?_ (Below.refl _ _) rfl
          have ec0 : ac.eval (.const (Value.int IntKind.i64 0)) = Value.int IntKind.i64 0 := rfl
          generalize ac.eval = ρ at e53 ec0 ⊢
          go_simp
        · refine StepOKl.of ?_
          intro ac w hb hu hk
          refine ⟨wanted_none rfl, ?_⟩
          have e54 : ac.eval (.tmp 54) = (.pointer (some ⟨w6.heap.size, 0, none⟩)) := (hk ⟨2, .data⟩ (by simp) rfl).is rfl rfl
          refine step_value (w' := w) (v := .agg X) (run_load_row 29 (.tmp 54) rfl w6.heap.size (0) e54 (Lib.byteCells x) _ (HK10.out w hb).1 Tryd.underlying29 rfl HIX.out HEX.out) (Below.refl _ _) rfl
        · refine StepOKl.of ?_
          intro ac w hb hu hk
          refine ⟨wanted_none rfl, ?_⟩
          have e15 : ac.eval (.tmp 15) = .slice (some ⟨w6.heap.size, 0, none⟩) 2 2 := hu.is (t := 15) (by kernel_rfl)
          exact step_value (BigFrame.run_move (.tmp 15) rfl w) (Below.refl _ _) e15
        · refine StepOKl.of ?_
          intro ac w hb hu hk
          refine ⟨wanted_none rfl, ?_⟩
          have e56 : ac.eval (.tmp 56) = (.slice (some ⟨w6.heap.size, 0, none⟩) 2 2) := (hk ⟨4, .data⟩ (by simp) rfl).is rfl rfl
          refine step_value (w' := w) (v := (.pointer (some ⟨w6.heap.size, 32, none⟩))) ?_ (Below.refl _ _) rfl
          have ec0 : ac.eval (.const (Value.int IntKind.i64 1)) = Value.int IntKind.i64 1 := rfl
          generalize ac.eval = ρ at e56 ec0 ⊢
          go_simp
        · refine StepOKl.of ?_
          intro ac w hb hu hk
          refine ⟨wanted_none rfl, ?_⟩
          have e57 : ac.eval (.tmp 57) = (.pointer (some ⟨w6.heap.size, 32, none⟩)) := (hk ⟨5, .data⟩ (by simp) rfl).is rfl rfl
          refine step_value (w' := w) (v := .agg Y) (run_load_row 29 (.tmp 57) rfl w6.heap.size (32) e57 (Lib.byteCells cur) _ (HK10.out w hb).2 Tryd.underlying29 rfl HIY.out HEY.out) (Below.refl _ _) rfl
        · refine StepOKl.of ?_
          intro ac w hb hu hk
          refine ⟨wanted_none rfl, ?_⟩
          have e52 : ac.eval (.tmp 52) = (.func (.func 76) #[] #[]) := (hk ⟨0, .data⟩ (by simp) rfl).is rfl rfl
          have e55 : ac.eval (.tmp 55) = (.agg X) := (hk ⟨3, .data⟩ (by simp) rfl).is rfl rfl
          have e58 : ac.eval (.tmp 58) = (.agg Y) := (hk ⟨6, .data⟩ (by simp) rfl).is rfl rfl
          refine step_enter (f := 76) (args := #[.agg X, .agg Y]) ?_ ?_
          · generalize ac.eval = ρ at e52 e55 e58 ⊢
            go_simp
          · exact (HND.out w hb).mono fun e w' ⟨he, hq⟩ => ⟨_, he, rfl, hq⟩
        · intro ac w' hb hu hk hap
          obtain ⟨_, h52, rfl⟩ := (hk 0 (by decide)).put rfl rfl
          obtain ⟨_, h53, rfl⟩ := (hk 1 (by decide)).put rfl rfl
          obtain ⟨_, h54, rfl⟩ := (hk 2 (by decide)).put rfl rfl
          obtain ⟨_, h55, rfl⟩ := (hk 3 (by decide)).put rfl rfl
          obtain ⟨_, h56, rfl⟩ := (hk 4 (by decide)).put rfl rfl
          obtain ⟨_, h57, rfl⟩ := (hk 5 (by decide)).put rfl rfl
          obtain ⟨_, h58, rfl⟩ := (hk 6 (by decide)).put rfl rfl
          obtain ⟨_, h59, rfl⟩ := (hk 7 (by decide)).put rfl rfl
          clear hap
          have hF : AllPuts ac.tmps ((52, _) :: (53, _) :: (54, _) :: (55, _) :: (56, _) :: (57, _) :: (58, _) :: (59, _) :: []) := ⟨h52, h53, h54, h55, h56, h57, h58, h59, trivial⟩
          obtain rfl := frame_puts hu (by kernel_rfl) hF
          simp only [puts, Act.put, List.setIfInBounds_toArray, List.set_cons_zero, List.set_cons_succ, List.drop_succ_cons, List.drop_zero]
          clear hk hu hF h52 h53 h54 h55 h56 h57 h58 h59
          have hbe : Below w.heap.size w w' := HB10.out.trans (hb.mono HB10.out.size)
          have HW11 := Lib.hid (show RB (w'.setRow w.heap.size R) (w.heap.size + 1) (.slice A10 (j + 1) c10) (pairsW I lf (ps.take (j + 1))) from (HW10.out.on hb).far (setRow_grown _ _ _) (Nat.lt_succ_self _))
          have HCO := Lib.hid (HC10.out.below hb HC10.out.lt)
          have HC11 := Lib.hid (show Blk (w'.setRow w.heap.size R) w.heap.size (u8A (climbH I lf (ps.take (j + 1)))) 29 by
            rw [HSN.out, HER.out]
            exact HCO.out.row R)
          have HB11 := Lib.hid (below_row hbe hbe.size (Nat.le_refl _) R)
          clear hb hbe HND HK10 HW10 HC10 HB10
          go_wp2_with (with_reducible refine wpList_store_blk rfl 29 (.tmp 8) (.tmp 59) rfl w.heap.size R rfl rfl 29 (u8A cur) HCO.out (by rw [HRZ.out]; kernel_rfl) (by rw [HRZ.out]; exact HCZ.out) HRO.out ?_)
          go_roundw
          case rel => exact ⟨j + 1, p / 2, hlt, by go_num, by go_num, HP2, by omega, HW11, HC11, HB11⟩
          case measure => simp [intOf]; omega
      · have hei : (p : Int) % 2 = 0 := by omega
        have HPAR := Lib.hid (show pairW p cur x = [cur, x] ∧ tree.text nodeT p cur x = nodeT cur x from ⟨if_neg he, if_pos (by omega)⟩)
        have HO8 := HO7
        have HB8 := HB7
        clear HO7 HB7
        have HSN := Lib.hid (show climbH I lf (ps.take (j + 1)) = nodeH cur x by rw [HST.out, HPAR.out.2]; rfl)
        have HPS := Lib.hid (show pairsW I lf (ps.take (j + 1)) = pairsW I lf (ps.take j) ++ [[cur, x]] by rw [HPT.out, HPAR.out.1])
        obtain ⟨X, hX⟩ : ∃ X, X = (Lib.byteCells cur).toArray := ⟨_, rfl⟩
        obtain ⟨Y, hY⟩ : ∃ Y, Y = (Lib.byteCells x).toArray := ⟨_, rfl⟩
        obtain ⟨R, hR⟩ : ∃ R, u8A (nodeH cur x) = R := ⟨_, rfl⟩
        have HEX := Lib.hid hX
        have HEY := Lib.hid hY
        have HER := Lib.hid hR
        have HIX := Lib.hid (show (Tryd.prog.info? 29).map (·.size) = some (Lib.byteCells cur).length by rw [Lib.byteCells_length, HCL.out]; kernel_rfl)
        have HIY := Lib.hid (show (Tryd.prog.info? 29).map (·.size) = some (Lib.byteCells x).length by rw [Lib.byteCells_length, hxl]; kernel_rfl)
        have HRZ := Lib.hid (show R.size = 32 by rw [← hR, u8A_size, nodeH_len])
        have HRO := Lib.hid (show R.all (·.oneCell') = true by rw [← hR]; exact u8A_one _)
        have hal : Below w7.heap.size w7 (w7.alloc (.cells #[.slice (some ⟨w6.heap.size, 0, none⟩) 2 2] 33)) := (Below.refl _ _).alloc (Nat.le_refl _) _
        have hb08 := hbel.trans (HB8.out.mono hbel.size)
        have HO9 := Lib.hid (HO8.out.on hal)
        have HOB9 := Lib.hid (show OwnH (w7.alloc (.cells #[.slice (some ⟨w6.heap.size, 0, none⟩) 2 2] 33)) (w.heap.size + 1) (.slice (some ⟨w6.heap.size, 0, none⟩) 2 2) [cur, x] from ⟨HO9.out.1, own_baseK HO9.out.2 hBle⟩)
        have HW9 := Lib.hid ((HW.out.on HB8.out).on hal)
        have HC8 := Lib.hid (HC.out.below HB8.out HC.out.lt)
        have HC9 := Lib.hid (HC8.out.below hal HC8.out.lt)
        have HBL9 := Lib.hid (show (w7.alloc (.cells #[.slice (some ⟨w6.heap.size, 0, none⟩) 2 2] 33)).heap[w7.heap.size]? = some (.cells #[.slice (some ⟨w6.heap.size, 0, none⟩) 2 2] 33 (0, 0)) from heap_alloc_new _ _)
        have HB9 := Lib.hid (hb08.trans (hal.mono hb08.size))
        have HSZ := Lib.hid (show w.heap.size + 1 ≤ (w7.alloc (.cells #[.slice (some ⟨w6.heap.size, 0, none⟩) 2 2] 33)).heap.size from HC9.out.lt)
        clear hX hY hR hal hb08
        go_wp2_with (at_builtin; refine wpList_append_rowB rfl _ _ rfl (w.heap.size + 1) _ (pairsW I lf (ps.take j)) rfl HW9.out w7.heap.size (.slice (some ⟨w6.heap.size, 0, none⟩) 2 2) [cur, x] HOB9.out HBL9.out rfl HLJ.out HSZ.out ?_)
        intro v10 w10 hrb10 hg10 hin10
        rw [← HPS.out] at hrb10
        obtain ⟨A10, c10, rfl, _, _⟩ := hrb10.form HLN.out
        have HW10 := Lib.hid hrb10
        have HB10 := Lib.hid (HB9.out.grown hg10 HB9.out.size (fun k hk => by have := hin10 k hk; omega))
        have HC10 := Lib.hid (show Blk w10 w.heap.size (u8A cur) 29 from (hg10.block _ HC9.out.lt (fun e => by have := hin10 _ e.symm; omega)).trans HC9.out)
        have HO10 := Lib.hid (show OwnH w10 w6.heap.size (.slice (some ⟨w6.heap.size, 0, none⟩) 2 2) [cur, x] by
          obtain ⟨vs, k1, _⟩ := HW9.out
          exact own_apart_rows HO9.out k1 hg10)
        have HK10 := Lib.hid (fun W (hb : Below w10.heap.size w10 W) => own_ranges (HO10.out.on hb))
        have HND := Lib.hid (fun W (hb : Below w10.heap.size w10 W) => (show Calls Tryd.prog 76 #[.agg X, .agg Y] W fun e W' => e = .returned (.agg R) ∧ Below W.heap.size W W' from by
          rw [HEX.out, HEY.out, ← HER.out]
          exact pnode_any cur x W HCL.out hxl (tab_on HT.out (HB10.out.trans (hb.mono HB10.out.size)) (HB10.out.trans (hb.mono HB10.out.size)).size)))
        clear hrb10 hg10 hin10 HO10 HO9 HOB9 HW9 HC9 HC8 HBL9 HB9 HSZ HO8 HB8 HPS HST HPAR HPT HW HC HLN HLJ
        go_wp2_with fail
        refine wp_region_loose 8 1 (fun i => false) (promises [.is (.func (.func 76) #[] #[]), .is (.slice (some ⟨w6.heap.size, 0, none⟩) 2 2), .is (.pointer (some ⟨w6.heap.size, 0, none⟩)), .is (.agg X), .is (.slice (some ⟨w6.heap.size, 0, none⟩) 2 2), .is (.pointer (some ⟨w6.heap.size, 32, none⟩)), .is (.agg Y), .is (.agg R)]) (by kernel_rfl) rfl (by kernel_rfl) (fun i v w w' h hb => Spec.keep h hb) ⟨?_, ?_, ?_, ?_, ?_, ?_, ?_, ?_, trivial⟩ ?_
        · refine StepOKl.of ?_
          intro ac w hb hu hk
          refine ⟨wanted_none rfl, ?_⟩
          have e0 : ac.eval (.tmp 0) = .func (.func 76) #[] #[] := hu.is (t := 0) (by kernel_rfl)
          exact step_value (BigFrame.run_move (.tmp 0) rfl w) (Below.refl _ _) e0
        · refine StepOKl.of ?_
          intro ac w hb hu hk
          refine ⟨wanted_none rfl, ?_⟩
          have e15 : ac.eval (.tmp 15) = .slice (some ⟨w6.heap.size, 0, none⟩) 2 2 := hu.is (t := 15) (by kernel_rfl)
          exact step_value (BigFrame.run_move (.tmp 15) rfl w) (Below.refl _ _) e15
        · refine StepOKl.of ?_
          intro ac w hb hu hk
          refine ⟨wanted_none rfl, ?_⟩
          have e53 : ac.eval (.tmp 53) = (.slice (some ⟨w6.heap.size, 0, none⟩) 2 2) := (hk ⟨1, .data⟩ (by simp) rfl).is rfl rfl
          refine step_value (w' := w) (v := (.pointer (some ⟨w6.heap.size, 0, none⟩))) ?_ (Below.refl _ _) rfl
          have ec0 : ac.eval (.const (Value.int IntKind.i64 0)) = Value.int IntKind.i64 0 := rfl
          generalize ac.eval = ρ at e53 ec0 ⊢
          go_simp
        · refine StepOKl.of ?_
          intro ac w hb hu hk
          refine ⟨wanted_none rfl, ?_⟩
          have e54 : ac.eval (.tmp 54) = (.pointer (some ⟨w6.heap.size, 0, none⟩)) := (hk ⟨2, .data⟩ (by simp) rfl).is rfl rfl
          refine step_value (w' := w) (v := .agg X) (run_load_row 29 (.tmp 54) rfl w6.heap.size (0) e54 (Lib.byteCells cur) _ (HK10.out w hb).1 Tryd.underlying29 rfl HIX.out HEX.out) (Below.refl _ _) rfl
        · refine StepOKl.of ?_
          intro ac w hb hu hk
          refine ⟨wanted_none rfl, ?_⟩
          have e15 : ac.eval (.tmp 15) = .slice (some ⟨w6.heap.size, 0, none⟩) 2 2 := hu.is (t := 15) (by kernel_rfl)
          exact step_value (BigFrame.run_move (.tmp 15) rfl w) (Below.refl _ _) e15
        · refine StepOKl.of ?_
          intro ac w hb hu hk
          refine ⟨wanted_none rfl, ?_⟩
          have e56 : ac.eval (.tmp 56) = (.slice (some ⟨w6.heap.size, 0, none⟩) 2 2) := (hk ⟨4, .data⟩ (by simp) rfl).is rfl rfl
          refine step_value (w' := w) (v := (.pointer (some ⟨w6.heap.size, 32, none⟩))) ?_ (Below.refl _ _) rfl
          have ec0 : ac.eval (.const (Value.int IntKind.i64 1)) = Value.int IntKind.i64 1 := rfl
          generalize ac.eval = ρ at e56 ec0 ⊢
          go_simp
        · refine StepOKl.of ?_
          intro ac w hb hu hk
          refine ⟨wanted_none rfl, ?_⟩
          have e57 : ac.eval (.tmp 57) = (.pointer (some ⟨w6.heap.size, 32, none⟩)) := (hk ⟨5, .data⟩ (by simp) rfl).is rfl rfl
          refine step_value (w' := w) (v := .agg Y) (run_load_row 29 (.tmp 57) rfl w6.heap.size (32) e57 (Lib.byteCells x) _ (HK10.out w hb).2 Tryd.underlying29 rfl HIY.out HEY.out) (Below.refl _ _) rfl
        · refine StepOKl.of ?_
          intro ac w hb hu hk
          refine ⟨wanted_none rfl, ?_⟩
          have e52 : ac.eval (.tmp 52) = (.func (.func 76) #[] #[]) := (hk ⟨0, .data⟩ (by simp) rfl).is rfl rfl
          have e55 : ac.eval (.tmp 55) = (.agg X) := (hk ⟨3, .data⟩ (by simp) rfl).is rfl rfl
          have e58 : ac.eval (.tmp 58) = (.agg Y) := (hk ⟨6, .data⟩ (by simp) rfl).is rfl rfl
          refine step_enter (f := 76) (args := #[.agg X, .agg Y]) ?_ ?_
          · generalize ac.eval = ρ at e52 e55 e58 ⊢
            go_simp
          · exact (HND.out w hb).mono fun e w' ⟨he, hq⟩ => ⟨_, he, rfl, hq⟩
        · intro ac w' hb hu hk hap
          obtain ⟨_, h52, rfl⟩ := (hk 0 (by decide)).put rfl rfl
          obtain ⟨_, h53, rfl⟩ := (hk 1 (by decide)).put rfl rfl
          obtain ⟨_, h54, rfl⟩ := (hk 2 (by decide)).put rfl rfl
          obtain ⟨_, h55, rfl⟩ := (hk 3 (by decide)).put rfl rfl
          obtain ⟨_, h56, rfl⟩ := (hk 4 (by decide)).put rfl rfl
          obtain ⟨_, h57, rfl⟩ := (hk 5 (by decide)).put rfl rfl
          obtain ⟨_, h58, rfl⟩ := (hk 6 (by decide)).put rfl rfl
          obtain ⟨_, h59, rfl⟩ := (hk 7 (by decide)).put rfl rfl
          clear hap
          have hF : AllPuts ac.tmps ((52, _) :: (53, _) :: (54, _) :: (55, _) :: (56, _) :: (57, _) :: (58, _) :: (59, _) :: []) := ⟨h52, h53, h54, h55, h56, h57, h58, h59, trivial⟩
          obtain rfl := frame_puts hu (by kernel_rfl) hF
          simp only [puts, Act.put, List.setIfInBounds_toArray, List.set_cons_zero, List.set_cons_succ, List.drop_succ_cons, List.drop_zero]
          clear hk hu hF h52 h53 h54 h55 h56 h57 h58 h59
          have hbe : Below w.heap.size w w' := HB10.out.trans (hb.mono HB10.out.size)
          have HW11 := Lib.hid (show RB (w'.setRow w.heap.size R) (w.heap.size + 1) (.slice A10 (j + 1) c10) (pairsW I lf (ps.take (j + 1))) from (HW10.out.on hb).far (setRow_grown _ _ _) (Nat.lt_succ_self _))
          have HCO := Lib.hid (HC10.out.below hb HC10.out.lt)
          have HC11 := Lib.hid (show Blk (w'.setRow w.heap.size R) w.heap.size (u8A (climbH I lf (ps.take (j + 1)))) 29 by
            rw [HSN.out, HER.out]
            exact HCO.out.row R)
          have HB11 := Lib.hid (below_row hbe hbe.size (Nat.le_refl _) R)
          clear hb hbe HND HK10 HW10 HC10 HB10
          go_wp2_with (with_reducible refine wpList_store_blk rfl 29 (.tmp 8) (.tmp 59) rfl w.heap.size R rfl rfl 29 (u8A cur) HCO.out (by rw [HRZ.out]; kernel_rfl) (by rw [HRZ.out]; exact HCZ.out) HRO.out ?_)
          go_roundw
          case rel => exact ⟨j + 1, p / 2, hlt, by go_num, by go_num, HP2, by omega, HW11, HC11, HB11⟩
          case measure => simp [intOf]; omega
    · obtain rfl : j = m := by omega
      have hji : ¬ (j : Int) < (j : Int) := by omega
      have HTA := Lib.hid (show ps.take j = ps from List.take_of_length_le (by rw [HM.out]; exact Nat.le_refl _))
      rw [HTA.out] at HW HC HTL
      have HCL := Lib.hid (climbH_len hlf ps I)
      have HWL := Lib.hid (show wayL I lf ps = pairsW I lf ps ++ [[climbH I lf ps]] from rfl)
      have HLJ := Lib.hid (show (pairsW I lf ps).length + 1 ≤ 1000000 by rw [pairsW_len, HTL.out]; omega)
      generalize climbH I lf ps = cur at *
      obtain ⟨C, hC⟩ : ∃ C, u8A cur = C := ⟨_, rfl⟩
      have HEC := Lib.hid hC
      have HCS := Lib.hid (show C.size = 32 by rw [← hC, u8A_size]; exact HCL.out)
      have HCR := Lib.hid (range_of_blk HC.out)
      have hal : Below wr.heap.size wr (wr.alloc (.cells C 29)) := (Below.refl _ _).alloc (Nat.le_refl _) _
      have hal2 : Below (wr.alloc (.cells C 29)).heap.size (wr.alloc (.cells C 29)) ((wr.alloc (.cells C 29)).alloc (.cells #[.slice (some ⟨wr.heap.size, 0, none⟩) 1 1] 33)) := (Below.refl _ _).alloc (Nat.le_refl _) _
      have hlt8 := HC.out.lt
      have HO9 := Lib.hid (show OwnH ((wr.alloc (.cells C 29)).alloc (.cells #[.slice (some ⟨wr.heap.size, 0, none⟩) 1 1] 33)) (w.heap.size + 1) (.slice (some ⟨wr.heap.size, 0, none⟩) 1 1) [cur] by
        rw [← hC]
        rw [← hC] at hal2
        exact (own_one HCL.out hlt8).on hal2)
      have HW9 := Lib.hid ((HW.out.on hal).on hal2)
      have hb1 := hbel.trans (hal.mono hbel.size)
      have HB9 := Lib.hid (hb1.trans (hal2.mono hb1.size))
      have HBL9 := Lib.hid (show ((wr.alloc (.cells C 29)).alloc (.cells #[.slice (some ⟨wr.heap.size, 0, none⟩) 1 1] 33)).heap[wr.heap.size + 1]? = some (.cells #[.slice (some ⟨wr.heap.size, 0, none⟩) 1 1] 33 (0, 0)) from by
        have h := heap_alloc_new (wr.alloc (.cells C 29)) (.cells #[.slice (some ⟨wr.heap.size, 0, none⟩) 1 1] 33)
        rw [show (wr.alloc (.cells C 29)).heap.size = wr.heap.size + 1 by simp] at h
        exact h)
      have HSZ := Lib.hid (show w.heap.size + 1 ≤ ((wr.alloc (.cells C 29)).alloc (.cells #[.slice (some ⟨wr.heap.size, 0, none⟩) 1 1] 33)).heap.size from Nat.le_trans hlt8 (Nat.le_trans hal.size hal2.size))
      clear hC hal hal2 hb1 HW HC
      go_wp2_with (first
        | (with_reducible refine wpList_load_hash rfl (.tmp 8) rfl w.heap.size 0 rfl cur HCL.out HCR.out C HEC.out ?_)
        | (with_reducible refine wpList_build_hash rfl (.tmp 64) rfl C rfl HCS.out ?_)
        | (at_builtin; refine wpList_append_rowB rfl _ _ rfl (w.heap.size + 1) _ (pairsW I lf ps) rfl HW9.out (wr.heap.size + 1) (.slice (some ⟨wr.heap.size, 0, none⟩) 1 1) [cur] HO9.out HBL9.out rfl HLJ.out HSZ.out ?_))
      intro v10 w10 hrb10 hg10 hin10
      rw [← HWL.out] at hrb10
      have HBE := Lib.hid (HB9.out.grown hg10 HB9.out.size (fun k hk => by have := hin10 k hk; omega))
      have HRE := Lib.hid (show RL w10 w.heap.size v10 (wayL I lf ps) by
        obtain ⟨vs, k1, k2⟩ := hrb10.rl
        exact ⟨vs, own_baseK k1 (Nat.le_succ _), k2⟩)
      clear hrb10 hg10 hin10 HO9 HW9 HB9 HBL9 HSZ
      go_wp2_with fail
      go_ret2
      exact ⟨_, rfl, HRE.out, HBE.out⟩
end Go.Proofs.YtfgieebccjoboaaDoor
namespace Go.Proofs.YtfgieebccjoboaaDoor
open Go.RowKit

def isUn (x : List UInt8 × List UInt8) : Bool := !(x.1 == x.2)
def firstUn (ss ts : List (List UInt8)) : Option (List UInt8 × List UInt8) := (ss.zip ts).find? isUn
/-- The first unlike pair below row k, from above and from the left. -/
def seekUn : Nat → List (List (List UInt8)) → List (List (List UInt8)) → Option (List UInt8 × List UInt8)
  | 0, _, _ => none
  | k + 1, ls, ks => (firstUn (textsH (ls.getD k [])) (textsH (ks.getD k []))).or (seekUn k ls ks)
def clashV (N : Nat) (ls ks : List (List (List UInt8))) : Option (List UInt8 × List UInt8) := if (ls.getD N []).getD 0 [] = (ks.getD N []).getD 0 [] then seekUn N ls ks else none
theorem find_or {α : Type} (f : α → Bool) (l : List α) (x : α) : (l ++ [x]).find? f = (l.find? f).or (if f x then some x else none) := by
  rw [List.find?_append, List.find?_singleton]
theorem find_same {α : Type} {f g : α → Bool} : ∀ {l : List α}, (∀ x ∈ l, f x = g x) → l.find? f = l.find? g
  | [], _ => rfl
  | x :: r, h => by rw [List.find?_cons, List.find?_cons, h x (by simp), find_same fun y hy => h y (List.mem_cons_of_mem _ hy)]
theorem un_self (l : List (List UInt8)) : (l.zip l).find? isUn = none := by
  rw [List.find?_eq_none]
  intro x hx
  obtain ⟨i, hi⟩ := List.mem_iff_getElem?.1 hx
  obtain ⟨h1, h2⟩ := List.getElem?_zip_eq_some.1 hi
  rw [h1] at h2
  injection h2 with h2
  simp [isUn, h2]
theorem texts_way : ∀ (p : List (List UInt8)) (i : Nat) (a : List UInt8) (k : Nat), k < p.length → textsH ((wayL i a p).getD k []) = [(wayH i a p).getD k []]
  | [], _, _, _, h => by simp at h
  | x :: p, i, a, 0, _ => by
    show textsH (pairW i a x) = [tree.text nodeT i a x]
    unfold pairW tree.text
    by_cases h : i % 2 = 1
    · rw [if_pos h, if_neg (by omega)]; rfl
    · rw [if_neg h, if_pos (by omega)]; rfl
  | x :: p, i, a, k + 1, h => by
    have := texts_way p (i / 2) (shaL (tree.text nodeT i a x)) k (by simpa using h)
    exact this
theorem seek_rev (ls ks : List (List (List UInt8))) (ss ts : List (List UInt8)) (hl : ss.length = ts.length) (h1 : ∀ k, k < ss.length → textsH (ls.getD k []) = [ss.getD k []]) (h2 : ∀ k, k < ts.length → textsH (ks.getD k []) = [ts.getD k []]) :
    ∀ k, k ≤ ss.length → seekUn k ls ks = ((ss.zip ts).take k).reverse.find? isUn
  | 0, _ => by simp [seekUn]
  | k + 1, h => by
    have hz : k < (ss.zip ts).length := by rw [List.length_zip]; omega
    have e : (ss.zip ts)[k] = (ss.getD k [], ts.getD k []) := by
      rw [List.getElem_zip]
      simp [List.getD_eq_getElem?_getD, show k < ss.length by omega, show k < ts.length by omega]
    rw [seekUn, seek_rev ls ks ss ts hl h1 h2 k (by omega), h1 k (by omega), h2 k (by omega), List.take_succ_eq_append_getElem hz, List.reverse_append, e, List.reverse_singleton, List.singleton_append]
    unfold firstUn
    rw [List.zip_cons_cons, List.zip_nil_left, List.find?_singleton, List.find?_cons]
    cases isUn (ss.getD k [], ts.getD k []) <;> simp
theorem text_inj {i : Nat} {a b x y : List UInt8} (h : tree.text nodeT i a x = tree.text nodeT i b y) : a = b ∧ x = y := by
  unfold tree.text at h
  by_cases h2 : i % 2 = 0
  · rw [if_pos h2, if_pos h2] at h
    exact nodeT_inj _ _ _ _ h
  · rw [if_neg h2, if_neg h2] at h
    exact (nodeT_inj _ _ _ _ h).symm
theorem find_way : ∀ (p q : List (List UInt8)) (i : Nat) (a b : List UInt8), p.length = q.length → climbH i a p = climbH i b q →
    ((wayH i a p).zip (wayH i b q)).reverse.find? isUn = ((wayH i a p).zip (wayH i b q)).reverse.find? isBr ∧ (((wayH i a p).zip (wayH i b q)).reverse.find? isUn = none → a = b ∧ p = q)
  | [], [], _, _, _, _, h => ⟨rfl, fun _ => ⟨h, rfl⟩⟩
  | [], _ :: _, _, _, _, hl, _ => by simp at hl
  | _ :: _, [], _, _, _, hl, _ => by simp at hl
  | x :: p, y :: q, i, a, b, hl, h => by
    obtain ⟨h1, h2⟩ := find_way p q (i / 2) (shaL (tree.text nodeT i a x)) (shaL (tree.text nodeT i b y)) (by simpa using hl) h
    have ew : ((wayH i a (x :: p)).zip (wayH i b (y :: q))).reverse = ((wayH (i / 2) (shaL (tree.text nodeT i a x)) p).zip (wayH (i / 2) (shaL (tree.text nodeT i b y)) q)).reverse ++ [(tree.text nodeT i a x, tree.text nodeT i b y)] := by
      show (((tree.text nodeT i a x :: _ : List (List UInt8))).zip (tree.text nodeT i b y :: _)).reverse = _
      rw [List.zip_cons_cons, List.reverse_cons]
      rfl
    rw [ew, find_or, find_or, ← h1]
    cases hc : ((wayH (i / 2) (shaL (tree.text nodeT i a x)) p).zip (wayH (i / 2) (shaL (tree.text nodeT i b y)) q)).reverse.find? isUn with
    | some z => exact ⟨rfl, fun e => by simp at e⟩
    | none =>
      obtain ⟨h3, h4⟩ := h2 hc
      have e : isBr (tree.text nodeT i a x, tree.text nodeT i b y) = isUn (tree.text nodeT i a x, tree.text nodeT i b y) := by
        simp [isBr, isUn, h3]
      refine ⟨by rw [e], fun hn => ?_⟩
      have ht : tree.text nodeT i a x = tree.text nodeT i b y := by
        by_cases hu : isUn (tree.text nodeT i a x, tree.text nodeT i b y) = true
        · simp [hu] at hn
        · simpa [isUn] using hu
      obtain ⟨rfl, rfl⟩ := text_inj ht
      exact ⟨rfl, by rw [h4]⟩
theorem wayL_top (i : Nat) (a : List UInt8) (p : List (List UInt8)) : ((wayL i a p).getD p.length []).getD 0 [] = climbH i a p := by
  have e : (wayL i a p).getD p.length [] = [climbH i a p] := by
    unfold wayL
    rw [List.getD_eq_getElem?_getD, List.getElem?_append_right (by rw [pairsW_len]; exact Nat.le_refl _), pairsW_len, Nat.sub_self]
    rfl
  rw [e]
  rfl
theorem clash_way {n i : Int} {a b : List UInt8} {p q : List (List UInt8)} (h1 : climbOK n i p.length) (h2 : climbOK n i q.length) : clashV p.length (wayL i.toNat a p) (wayL i.toNat b q) = brkV n i a b p q := by
  have hl : p.length = q.length := by
    have e1 := h1.2.2.2
    have e2 := h2.2.2.2
    omega
  have hwa : (wayH i.toNat a p).length = p.length := tree.way_len _ _ p _ _
  have hwb : (wayH i.toNat b q).length = q.length := tree.way_len _ _ q _ _
  have hs : seekUn p.length (wayL i.toNat a p) (wayL i.toNat b q) = ((wayH i.toNat a p).zip (wayH i.toNat b q)).reverse.find? isUn := by
    rw [seek_rev _ _ (wayH i.toNat a p) (wayH i.toNat b q) (by rw [hwa, hwb, hl]) (fun k hk => texts_way p _ _ k (by rwa [hwa] at hk)) (fun k hk => texts_way q _ _ k (by rwa [hwb] at hk)) _ (by rw [hwa]; exact Nat.le_refl _),
      List.take_of_length_le (by rw [List.length_zip, hwa]; exact Nat.min_le_left _ _)]
  have ht : ((wayL i.toNat b q).getD p.length []).getD 0 [] = climbH i.toNat b q := by
    rw [hl]
    exact wayL_top _ _ _
  unfold clashV brkV
  rw [wayL_top, ht, hs]
  have e1 : climbV n i a p = climbH i.toNat a p := if_pos h1
  have e2 : climbV n i b q = climbH i.toNat b q := if_pos h2
  by_cases hc : climbH i.toNat a p = climbH i.toNat b q
  · rw [if_pos hc]
    obtain ⟨h3, h4⟩ := find_way p q i.toNat a b hl hc
    by_cases he : a = b ∧ p = q
    · rw [if_neg (fun h : brkOK n i a b p q => h.2.2.2 he)]
      obtain ⟨rfl, rfl⟩ := he
      rw [List.find?_eq_none]
      intro x hx
      exact List.find?_eq_none.1 (un_self _) x (List.mem_reverse.1 hx)
    · rw [if_pos (show brkOK n i a b p q from ⟨h1, h2, by rw [e1, e2]; exact hc, he⟩), h3]
      rfl
  · rw [if_neg hc, if_neg (fun h : brkOK n i a b p q => hc (by have := h.2.2.1; rwa [e1, e2] at this))]
theorem up_texts : ∀ l : List (List UInt8), upH l = (textsH l).map shaL
  | [] => rfl
  | [_] => rfl
  | a :: b :: r => by
    have := up_texts r
    show tree.nd nodeT shaL a b :: upH r = shaL (nodeT a b) :: (textsH r).map shaL
    rw [this]
    rfl
theorem isBr_row {A B : List (List UInt8)} (hu : upH A = upH B) : firstUn (textsH A) (textsH B) = firstBr (textsH A) (textsH B) := by
  unfold firstUn firstBr
  rw [up_texts, up_texts] at hu
  refine find_same fun x hx => ?_
  obtain ⟨i, hi⟩ := List.mem_iff_getElem?.1 hx
  obtain ⟨h1, h2⟩ := List.getElem?_zip_eq_some.1 hi
  have h3 := congrArg (fun l : List (List UInt8) => l[i]?) hu
  simp only [List.getElem?_map, h1, h2, Option.map_some, Option.some.injEq] at h3
  simp [isUn, isBr, h3]
theorem un_none {A B : List (List UInt8)} (hl : A.length = B.length) (h2 : A.length % 2 = 0) (hu : upH A = upH B) (hn : firstUn (textsH A) (textsH B) = none) : A = B := by
  by_cases h : A = B
  · exact h
  · obtain ⟨i, s, t, k1, k2, k3, _⟩ := tree.texts_break nodeT shaL nodeT_inj A B hl h2 hu h
    have hm : (s, t) ∈ (textsH A).zip (textsH B) := List.mem_of_getElem? (List.getElem?_zip_eq_some.2 ⟨k1, k2⟩)
    have := List.find?_eq_none.1 hn _ hm
    simp [isUn, k3] at this
theorem seek_lev {K : Nat} {R S : List (List UInt8)} (hR : R.length = 2 ^ K) (hS : S.length = 2 ^ K) : ∀ j, j ≤ K → upNH j R = upNH j S → seekUn j (levL K R) (levL K S) = seekBr j R S
  | 0, _, _ => rfl
  | j + 1, h, he => by
    have e1 : ∀ T : List (List UInt8), (levL K T).getD j [] = upNH j T := fun T => by
      have hj : j < (levL K T).length := by rw [levL_len]; omega
      rw [show (levL K T).getD j [] = (levL K T)[j] by simp [List.getD_eq_getElem?_getD, hj], levL_at T hj]
    have hl : (upNH j R).length = (upNH j S).length := by rw [upNH_len, upNH_len, hR, hS]
    have h2 : (upNH j R).length % 2 = 0 := by
      rw [upNH_len, hR, Nat.pow_div (by omega) (by omega), show K - j = K - (j + 1) + 1 by omega, Nat.pow_succ]
      omega
    rw [upNH_succ, upNH_succ] at he
    rw [seekUn, seekBr, e1, e1, isBr_row he]
    cases hc : firstBr (textsH (upNH j R)) (textsH (upNH j S)) with
    | some x => rfl
    | none =>
      rw [Option.none_or, Option.none_or]
      exact seek_lev hR hS j (by omega) (un_none hl h2 he (by rw [isBr_row he, hc]))
theorem seekUn_self (ls : List (List (List UInt8))) : ∀ k, seekUn k ls ls = none
  | 0 => rfl
  | k + 1 => by rw [seekUn, seekUn_self, firstUn, un_self]; rfl
theorem clash_lev {l k : List (List UInt8)} (hl : l.length = k.length) : clashV (tree.high l.length) (levL (tree.high l.length) (rowH l)) (levL (tree.high l.length) (rowH k)) = unlV l k := by
  obtain ⟨K, hK⟩ : ∃ K, tree.high l.length = K := ⟨_, rfl⟩
  have hR : (rowH l).length = 2 ^ K := by rw [rowH_len, hK]
  have hS : (rowH k).length = 2 ^ K := by rw [rowH_len, ← hl, hK]
  have e1 : rootV l = rootH K (rowH l) := by unfold rootV; rw [hK]
  have e2 : rootV k = rootH K (rowH k) := by unfold rootV; rw [← hl, hK]
  unfold clashV unlV
  rw [hK, levL_top, levL_top]
  by_cases hc : rootH K (rowH l) = rootH K (rowH k)
  · rw [if_pos hc]
    by_cases he : l = k
    · subst he
      rw [if_neg (fun h : unlOK l l => h.2.1 rfl), seekUn_self]
    · rw [if_pos (show unlOK l k from ⟨hl, he, by rw [e1, e2]; exact hc⟩)]
      refine seek_lev hR hS K (Nat.le_refl _) ?_
      have h1 : ∀ T : List (List UInt8), T.length = 2 ^ K → upNH K T = [rootH K T] := fun T hT => by
        have e := upNH_len K T
        rw [hT, Nat.div_self (Nat.two_pow_pos K)] at e
        show upNH K T = [(upNH K T).getD 0 []]
        match upNH K T, e with
        | [x], _ => rfl
      rw [h1 _ hR, h1 _ hS, hc]
  · rw [if_neg hc, if_neg (fun h : unlOK l k => hc (by have := h.2.2; rwa [e1, e2] at this))]
end Go.Proofs.YtfgieebccjoboaaDoor
namespace Go.Proofs.YtfgieebccjoboaaDoor
open Go.RowKit

theorem wayL_top_len (i : Nat) (a : List UInt8) (p : List (List UInt8)) : 0 < ((wayL i a p).getD p.length []).length := by
  have e : (wayL i a p).getD p.length [] = [climbH i a p] := by
    unfold wayL
    rw [List.getD_eq_getElem?_getD, List.getElem?_append_right (by rw [pairsW_len]; exact Nat.le_refl _), pairsW_len, Nat.sub_self]
    rfl
  rw [e]
  exact Nat.one_pos
set_option maxRecDepth 100000 in
set_option maxHeartbeats 8000000 in
theorem pclimb_any (n i : Int) (lf : List UInt8) (A : Option Addr) (m c : Nat) (ps : List (List UInt8)) (w : World) (hm : ps.length = m) (h1 : m ≤ 1024) (hlf : lf.length = 32) (hl : ∀ r ∈ ps, r.length = 32) (hr : RdH w w.heap.size A ps) (htab : Pow10 w.heap.size w) :
    Calls Tryd.prog 80 #[.int .i64 n, .int .i64 i, .agg (u8A lf), .slice A m c] w (ClimbEnd w n i lf ps) := by
  obtain ⟨X, hX⟩ : ∃ X, u8A lf = X := ⟨_, rfl⟩
  have HX := Lib.hid hX
  have HM := Lib.hid hm
  rw [hX]
  have HWN := Lib.hid (fun W (hno : ¬ climbOK n i ps.length) => (show Calls Tryd.prog 112 #[.func (.func 76) #[] #[], .int .i64 n, .int .i64 i, .agg X, .slice A m c] W fun e w' => e = .returned (.tuple #[.slice none 0 0, .bool false]) ∧ Below W.heap.size W w' from by
    rw [← hX]
    exact pway_no n i lf A m c ps W hm hno))
  have HWY := Lib.hid (fun W (h : Below w.heap.size w W) (hok : climbOK n i ps.length) => (show Calls Tryd.prog 112 #[.func (.func 76) #[] #[], .int .i64 n, .int .i64 i, .agg X, .slice A m c] W fun e w' => ∃ v, e = .returned (.tuple #[v, .bool true]) ∧ RL w' W.heap.size v (wayL i.toNat lf ps) ∧ Below W.heap.size W w' from by
    rw [← hX]
    exact pway_yes n i lf A m c ps W hm h1 hlf hl ((hr.below h (Nat.le_refl _)).more h.size) (tab_on htab h h.size) hok))
  have HXL := Lib.hid hlf
  clear hX hm hl hr htab
  go_enter Tryd.func80, Tryd.ntmps80
  go_upto_region 1 with fail
  generalize hw3 : World.alloc _ _ = w3
  obtain ⟨g6, hg6⟩ : ∃ g, w.heap.size = g := ⟨_, rfl⟩
  obtain ⟨g8, hg8⟩ : ∃ g, w.heap.size + 1 = g := ⟨_, rfl⟩
  have hf : Blk w3 g6 X 29 ∧ (∃ rs, Blk w3 g8 rs 29 ∧ rs.size = 32) ∧ Below w.heap.size w w3 := by
    obtain ⟨Y, hw, hY⟩ : ∃ Y, w3 = (w.alloc (.cells X 29)).alloc (.cells Y 29) ∧ Y.size = 32 := ⟨_, hw3.symm, rfl⟩
    have e1 : (w.alloc (.cells X 29)).heap.size = w.heap.size + 1 := by simp
    rw [hw, ← hg6, ← hg8]
    refine ⟨(Blk.new w _ _).alloc _, ⟨Y, ?_, hY⟩, ((Below.refl _ _).alloc (Nat.le_refl _) _).alloc (by simp) _⟩
    rw [← e1]; exact Blk.new _ _ _
  have HRX := Lib.hid (range_of_blk (l := lf) (by rw [HX.out]; exact hf.1))
  have HB8 := Lib.hid hf.2.1
  have HB3 := Lib.hid hf.2.2
  have HG := Lib.hid (show w.heap.size = g6 ∧ g6 + 1 = g8 from ⟨hg6, by omega⟩)
  clear hf hw3
  rw [hg8, hg6]
  clear hg6 hg8
  by_cases hok : climbOK n i ps.length
  · obtain ⟨V, hV⟩ : ∃ V, u8A (climbV n i lf ps) = V := ⟨_, rfl⟩
    have e1 : climbV n i lf ps = climbH i.toNat lf ps := if_pos hok
    have HVE := Lib.hid hV
    have HVZ := Lib.hid (show V.size = 32 by rw [← hV, u8A_size]; exact climbV_len HXL.out ps)
    have HVO := Lib.hid (show V.all (·.oneCell') = true by rw [← hV]; exact u8A_one _)
    have HWW := Lib.hid (HWY.out w3 HB3.out hok)
    have HLN := Lib.hid (show (wayL i.toNat lf ps).length = m + 1 by rw [wayL_len, HM.out])
    have HTP := Lib.hid (fun W B v (h : RL W B v (wayL i.toNat lf ps)) => (show Calls Tryd.prog 74 #[v] W fun e w' => e = .returned (.agg V) ∧ Below W.heap.size W w' from by
      rw [← hV, e1]
      exact ptop_any (n := m) h HLN.out rfl _ (by rw [← HM.out]; exact wayL_top _ _ _) (by rw [← HM.out]; exact wayL_top_len _ _ _) (by omega)))
    have HOK := Lib.hid hok
    clear hV e1 hok HWN HWY
    go_wp2_with (with_reducible refine wpList_load_hash rfl (.tmp 6) rfl g6 0 rfl lf HXL.out HRX.out X HX.out ?_)
    with_reducible refine (HWW.out).mono ?_
    rintro e w4 ⟨v4, rfl, hrl4, hb4⟩
    have HR4 := Lib.hid hrl4
    obtain ⟨A4, c4, rfl, _, _⟩ := hrl4.form HLN.out
    have HT4 := Lib.hid (HTP.out _ _ _ hrl4)
    have HB4 := Lib.hid hb4
    clear hrl4 hb4 HTP HWW
    go_wp2_with fail
    with_reducible refine (HT4.out).mono ?_
    rintro e w5 ⟨rfl, hb5⟩
    obtain ⟨rs, hrs, hrz⟩ := HB8.out
    have hb45 := HB4.out.trans (hb5.mono HB4.out.size)
    have HRS := Lib.hid (hrs.below hb45 hrs.lt)
    have HRZ := Lib.hid hrz
    have HBE := Lib.hid (HB3.out.trans (hb45.mono HB3.out.size))
    clear hrs hrz HB8 hb5 hb45 HT4 HR4 HB4
    go_wp2_with (with_reducible refine wpList_store_blk rfl 29 (.tmp 8) (.tmp 24) rfl g8 V rfl rfl 29 rs HRS.out (by rw [HVZ.out]; kernel_rfl) (by rw [HVZ.out, HRZ.out]) HVO.out ?_)
    refine bodyPost_ret (v := .tuple #[.agg V, .bool true]) (results_cell_tmp (p := 8) (q := 9) (ty := 29) (by kernel_rfl) _ _ g8 29 _ (0, 0) _ (.bool true) rfl rfl (HRS.out.row V) Tryd.underlying29 rfl (by rw [HVZ.out]; kernel_rfl)) rfl
      ⟨by rw [decide_eq_true HOK.out, HVE.out], below_row HBE.out HBE.out.size (by have := HG.out; omega) _⟩
  · obtain ⟨Z, hZ⟩ : ∃ Z, u8A zeroH = Z := ⟨_, rfl⟩
    have HZ := Lib.hid hZ
    have HZS := Lib.hid (show Z.size = 32 by rw [← hZ]; rfl)
    have HZO := Lib.hid (show Z.all (·.oneCell') = true by rw [← hZ]; exact u8A_one _)
    have HN := Lib.hid hok
    have HWW := Lib.hid (HWN.out w3 hok)
    obtain ⟨rs, hrs, hrz⟩ := HB8.out
    have HRS0 := Lib.hid hrs
    have HRZ := Lib.hid hrz
    clear hZ hok HWN HWY hrs hrz HB8
    go_wp2_with (with_reducible refine wpList_load_hash rfl (.tmp 6) rfl g6 0 rfl lf HXL.out HRX.out X HX.out ?_)
    with_reducible refine (HWW.out).mono ?_
    rintro e w4 ⟨rfl, hb4⟩
    have HRS := Lib.hid (HRS0.out.below hb4 HRS0.out.lt)
    have HBE := Lib.hid (HB3.out.trans (hb4.mono HB3.out.size))
    clear hb4 HRS0
    go_wp2_with (first
      | (with_reducible refine wpList_build_zero rfl rfl Z HZ.out ?_)
      | (with_reducible refine wpList_store_blk rfl 29 (.tmp 8) (.tmp 22) rfl g8 Z rfl rfl 29 rs HRS.out (by rw [HZS.out]; kernel_rfl) (by rw [HZS.out, HRZ.out]) HZO.out ?_))
    refine bodyPost_ret (v := .tuple #[.agg Z, .bool false]) (results_cell_tmp (p := 8) (q := 9) (ty := 29) (by kernel_rfl) _ _ g8 29 _ (0, 0) _ (.bool false) rfl rfl (HRS.out.row Z) Tryd.underlying29 rfl (by rw [HZS.out]; kernel_rfl)) rfl
      ⟨by rw [decide_eq_false HN.out, show climbV n i lf ps = zeroH from if_neg HN.out, HZ.out], below_row HBE.out HBE.out.size (by have := HG.out; omega) _⟩
end Go.Proofs.YtfgieebccjoboaaDoor
namespace Go.Proofs.YtfgieebccjoboaaDoor
open Go.RowKit

end Go.Proofs.YtfgieebccjoboaaDoor
namespace Go.Proofs.YtfgieebccjoboaaDoor
open Go.RowKit

set_option maxRecDepth 100000 in
set_option maxHeartbeats 8000000 in
theorem pequal_any {w : World} {a b : Value} {hs ks : List (List UInt8)} (ha : HV w a hs) (hb : HV w b ks) (h1 : hs.length ≤ 100000) :
    Calls Tryd.prog 138 #[a, b] w fun e w' => e = .returned (.bool (decide (hs = ks))) ∧ Below w.heap.size w w' := by
  obtain ⟨hl1, A, c, rfl, _, hr1⟩ := ha
  obtain ⟨hl2, B, d, rfl, _, hr2⟩ := hb
  obtain ⟨n, hn⟩ : ∃ n, hs.length = n := ⟨_, rfl⟩
  obtain ⟨m, hm⟩ : ∃ m, ks.length = m := ⟨_, rfl⟩
  have HN := Lib.hid hn
  have HM := Lib.hid hm
  rw [hn] at h1
  rw [hn, hm]
  clear hn hm
  by_cases hnm : n = m
  · have hne : ((n : Int) != (m : Int)) = false := by simp [hnm]
    subst hnm
    go_enter Tryd.func138, Tryd.ntmps138
    go_wp2_with fail
    go_loopw [13] (fun t wr => ∃ j : Nat, j ≤ n ∧ t = .int .i64 j ∧ Hid (hs.take j = ks.take j) ∧ Below w.heap.size w wr) (fun t _ => n - (intOf t).toNat)
    case atStart => exact ⟨0, Nat.zero_le _, rfl, Lib.hid rfl, Below.refl _ _⟩
    case round =>
      obtain ⟨j, hj, rfl, HT0, hbel⟩ := hrel
      by_cases hlt : j < n
      · have hji : (j : Int) < (n : Int) := by omega
        have hj1 : j < hs.length := by rw [HN.out]; exact hlt
        have hj2 : j < ks.length := by rw [HM.out]; exact hlt
        rcases hr1 with h0 | ⟨b1, o1, rfl, hb1, hc1⟩
        · rw [h0] at hj1; simp at hj1
        rcases hr2 with h0 | ⟨b2, o2, rfl, hb2, hc2⟩
        · rw [h0] at hj2; simp at hj2
        have hx1 := hc1 j hj1
        have hy1 := hc2 j hj2
        have HXL := Lib.hid (hl1 _ (List.getElem_mem hj1))
        have HYL := Lib.hid (hl2 _ (List.getElem_mem hj2))
        have HTY := Lib.hid (fun e => hashes_eq hj1 hj2 HT0.out e)
        have HTN := Lib.hid (fun e => hashes_ne hj1 hj2 e)
        obtain ⟨x, hx⟩ : ∃ x, hs[j] = x := ⟨_, rfl⟩
        obtain ⟨y, hy⟩ : ∃ y, ks[j] = y := ⟨_, rfl⟩
        rw [hx] at hx1 HXL HTY HTN
        rw [hy] at hy1 HYL HTY HTN
        obtain ⟨X, hX⟩ : ∃ X, X = (Lib.byteCells x).toArray := ⟨_, rfl⟩
        obtain ⟨Y, hY⟩ : ∃ Y, Y = (Lib.byteCells y).toArray := ⟨_, rfl⟩
        have HEX := Lib.hid hX
        have HEY := Lib.hid hY
        have HIX := Lib.hid (show (Tryd.prog.info? 29).map (·.size) = some (Lib.byteCells x).length by rw [Lib.byteCells_length, HXL.out]; kernel_rfl)
        have HIY := Lib.hid (show (Tryd.prog.info? 29).map (·.size) = some (Lib.byteCells y).length by rw [Lib.byteCells_length, HYL.out]; kernel_rfl)
        have HXB := Lib.hid (fun W (hb : Below wr.heap.size wr W) => rangeAt_keep hx1 fun j => (hbel.trans (hb.mono hbel.size)).cell hb1)
        have HYB := Lib.hid (fun W (hb : Below wr.heap.size wr W) => rangeAt_keep hy1 fun j => (hbel.trans (hb.mono hbel.size)).cell hb2)
        clear hx1 hy1 hc1 hc2 hx hy hX hY hj1 hj2
        by_cases he : x = y
        · have HT := Lib.hid (HTY.out he)
          have HD := Lib.hid (show decide (x = y) = true from decide_eq_true he)
          have HQ := Lib.hid (fun W => (show (Op.equalIn 10000 29 (.agg X) (.agg Y)).run Tryd.prog W = .ok true W by rw [HEX.out, HEY.out, ← HD.out]; exact run_hash_eq W x y HXL.out HYL.out))
          clear HT0 HTY HTN he HD
          go_wp2_with fail
          refine wp_region_loose 9 0 (fun i => false) (promises [.is (.slice (some ⟨b1, o1, none⟩) n c), .is (.int .i64 (j : Int)), .is (.pointer (some ⟨b1, o1 + j * 32, none⟩)), .is (.agg X), .is (.slice (some ⟨b2, o2, none⟩) n d), .is (.int .i64 (j : Int)), .is (.pointer (some ⟨b2, o2 + j * 32, none⟩)), .is (.agg Y), .is (.bool false)]) (by kernel_rfl) rfl (by kernel_rfl) (fun i v w w' h hb => Spec.keep h hb) ⟨?_, ?_, ?_, ?_, ?_, ?_, ?_, ?_, ?_, trivial⟩ ?_
          · refine StepOKl.of ?_
            intro ac w hb hu hk
            refine ⟨wanted_none rfl, ?_⟩
            have e0 : ac.eval (.tmp 0) = .slice (some ⟨b1, o1, none⟩) n c := hu.is (t := 0) (by kernel_rfl)
            exact step_value (BigFrame.run_move (.tmp 0) rfl w) (Below.refl _ _) e0
          · refine StepOKl.of ?_
            intro ac w hb hu hk
            refine ⟨wanted_none rfl, ?_⟩
            have e5 : ac.eval (.tmp 5) = .int .i64 (j : Int) := hu.is (t := 5) (by kernel_rfl)
            exact step_value (BigFrame.run_move (.tmp 5) rfl w) (Below.refl _ _) e5
          · refine StepOKl.of ?_
            intro ac w hb hu hk
            refine ⟨wanted_none rfl, ?_⟩
            have e16 : ac.eval (.tmp 16) = (.slice (some ⟨b1, o1, none⟩) n c) := (hk ⟨0, .data⟩ (by simp) rfl).is rfl rfl
            have e17 : ac.eval (.tmp 17) = (.int .i64 (j : Int)) := (hk ⟨1, .data⟩ (by simp) rfl).is rfl rfl
            refine step_value (w' := w) (v := (.pointer (some ⟨b1, o1 + j * 32, none⟩))) ?_ (Below.refl _ _) rfl
            generalize ac.eval = ρ at e16 e17 ⊢
            go_simp
          · refine StepOKl.of ?_
            intro ac w hb hu hk
            refine ⟨wanted_none rfl, ?_⟩
            have e18 : ac.eval (.tmp 18) = (.pointer (some ⟨b1, o1 + j * 32, none⟩)) := (hk ⟨2, .data⟩ (by simp) rfl).is rfl rfl
            refine step_value (w' := w) (v := .agg X) (run_load_row 29 (.tmp 18) rfl b1 (o1 + j * 32) e18 (Lib.byteCells x) _ (HXB.out w hb) Tryd.underlying29 rfl HIX.out HEX.out) (Below.refl _ _) rfl
          · refine StepOKl.of ?_
            intro ac w hb hu hk
            refine ⟨wanted_none rfl, ?_⟩
            have e1 : ac.eval (.tmp 1) = .slice (some ⟨b2, o2, none⟩) n d := hu.is (t := 1) (by kernel_rfl)
            exact step_value (BigFrame.run_move (.tmp 1) rfl w) (Below.refl _ _) e1
          · refine StepOKl.of ?_
            intro ac w hb hu hk
            refine ⟨wanted_none rfl, ?_⟩
            have e5 : ac.eval (.tmp 5) = .int .i64 (j : Int) := hu.is (t := 5) (by kernel_rfl)
            exact step_value (BigFrame.run_move (.tmp 5) rfl w) (Below.refl _ _) e5
          · refine StepOKl.of ?_
            intro ac w hb hu hk
            refine ⟨wanted_none rfl, ?_⟩
            have e20 : ac.eval (.tmp 20) = (.slice (some ⟨b2, o2, none⟩) n d) := (hk ⟨4, .data⟩ (by simp) rfl).is rfl rfl
            have e21 : ac.eval (.tmp 21) = (.int .i64 (j : Int)) := (hk ⟨5, .data⟩ (by simp) rfl).is rfl rfl
            refine step_value (w' := w) (v := (.pointer (some ⟨b2, o2 + j * 32, none⟩))) ?_ (Below.refl _ _) rfl
            generalize ac.eval = ρ at e20 e21 ⊢
            go_simp
          · refine StepOKl.of ?_
            intro ac w hb hu hk
            refine ⟨wanted_none rfl, ?_⟩
            have e22 : ac.eval (.tmp 22) = (.pointer (some ⟨b2, o2 + j * 32, none⟩)) := (hk ⟨6, .data⟩ (by simp) rfl).is rfl rfl
            refine step_value (w' := w) (v := .agg Y) (run_load_row 29 (.tmp 22) rfl b2 (o2 + j * 32) e22 (Lib.byteCells y) _ (HYB.out w hb) Tryd.underlying29 rfl HIY.out HEY.out) (Below.refl _ _) rfl
          · refine StepOKl.of ?_
            intro ac w hb hu hk
            refine ⟨wanted_none rfl, ?_⟩
            have e19 : ac.eval (.tmp 19) = (.agg X) := (hk ⟨3, .data⟩ (by simp) rfl).is rfl rfl
            have e23 : ac.eval (.tmp 23) = (.agg Y) := (hk ⟨7, .data⟩ (by simp) rfl).is rfl rfl
            refine step_value (w' := w) (v := .bool false) ?_ (Below.refl _ _) rfl
            have hq := HQ.out w
            generalize ac.eval = ρ at e19 e23 ⊢
            go_simp
          · intro ac w' hb hu hk hap
            obtain ⟨_, h16, rfl⟩ := (hk 0 (by decide)).put rfl rfl
            obtain ⟨_, h17, rfl⟩ := (hk 1 (by decide)).put rfl rfl
            obtain ⟨_, h18, rfl⟩ := (hk 2 (by decide)).put rfl rfl
            obtain ⟨_, h19, rfl⟩ := (hk 3 (by decide)).put rfl rfl
            obtain ⟨_, h20, rfl⟩ := (hk 4 (by decide)).put rfl rfl
            obtain ⟨_, h21, rfl⟩ := (hk 5 (by decide)).put rfl rfl
            obtain ⟨_, h22, rfl⟩ := (hk 6 (by decide)).put rfl rfl
            obtain ⟨_, h23, rfl⟩ := (hk 7 (by decide)).put rfl rfl
            obtain ⟨_, h24, rfl⟩ := (hk 8 (by decide)).put rfl rfl
            clear hap
            have hF : AllPuts ac.tmps ((16, _) :: (17, _) :: (18, _) :: (19, _) :: (20, _) :: (21, _) :: (22, _) :: (23, _) :: (24, _) :: []) := ⟨h16, h17, h18, h19, h20, h21, h22, h23, h24, trivial⟩
            obtain rfl := frame_puts hu (by kernel_rfl) hF
            simp only [puts, Act.put, List.setIfInBounds_toArray, List.set_cons_zero, List.set_cons_succ, List.drop_succ_cons, List.drop_nil]
            clear hk hu hF h16 h17 h18 h19 h20 h21 h22 h23 h24
            have hb2 := hbel.trans (hb.mono hbel.size)
            clear hb hbel HXB HYB HQ
            go_wp2_with fail
            go_roundw
            case rel => exact ⟨j + 1, by omega, by go_num, HT, hb2⟩
            case measure => simp [intOf]; omega
        · have HF := Lib.hid (show decide (hs = ks) = false from decide_eq_false (HTN.out he))
          have HD := Lib.hid (show decide (x = y) = false from decide_eq_false he)
          have HQ := Lib.hid (fun W => (show (Op.equalIn 10000 29 (.agg X) (.agg Y)).run Tryd.prog W = .ok false W by rw [HEX.out, HEY.out, ← HD.out]; exact run_hash_eq W x y HXL.out HYL.out))
          clear HT0 HTY HTN he HD
          go_wp2_with fail
          refine wp_region_loose 9 0 (fun i => false) (promises [.is (.slice (some ⟨b1, o1, none⟩) n c), .is (.int .i64 (j : Int)), .is (.pointer (some ⟨b1, o1 + j * 32, none⟩)), .is (.agg X), .is (.slice (some ⟨b2, o2, none⟩) n d), .is (.int .i64 (j : Int)), .is (.pointer (some ⟨b2, o2 + j * 32, none⟩)), .is (.agg Y), .is (.bool true)]) (by kernel_rfl) rfl (by kernel_rfl) (fun i v w w' h hb => Spec.keep h hb) ⟨?_, ?_, ?_, ?_, ?_, ?_, ?_, ?_, ?_, trivial⟩ ?_
          · refine StepOKl.of ?_
            intro ac w hb hu hk
            refine ⟨wanted_none rfl, ?_⟩
            have e0 : ac.eval (.tmp 0) = .slice (some ⟨b1, o1, none⟩) n c := hu.is (t := 0) (by kernel_rfl)
            exact step_value (BigFrame.run_move (.tmp 0) rfl w) (Below.refl _ _) e0
          · refine StepOKl.of ?_
            intro ac w hb hu hk
            refine ⟨wanted_none rfl, ?_⟩
            have e5 : ac.eval (.tmp 5) = .int .i64 (j : Int) := hu.is (t := 5) (by kernel_rfl)
            exact step_value (BigFrame.run_move (.tmp 5) rfl w) (Below.refl _ _) e5
          · refine StepOKl.of ?_
            intro ac w hb hu hk
            refine ⟨wanted_none rfl, ?_⟩
            have e16 : ac.eval (.tmp 16) = (.slice (some ⟨b1, o1, none⟩) n c) := (hk ⟨0, .data⟩ (by simp) rfl).is rfl rfl
            have e17 : ac.eval (.tmp 17) = (.int .i64 (j : Int)) := (hk ⟨1, .data⟩ (by simp) rfl).is rfl rfl
            refine step_value (w' := w) (v := (.pointer (some ⟨b1, o1 + j * 32, none⟩))) ?_ (Below.refl _ _) rfl
            generalize ac.eval = ρ at e16 e17 ⊢
            go_simp
          · refine StepOKl.of ?_
            intro ac w hb hu hk
            refine ⟨wanted_none rfl, ?_⟩
            have e18 : ac.eval (.tmp 18) = (.pointer (some ⟨b1, o1 + j * 32, none⟩)) := (hk ⟨2, .data⟩ (by simp) rfl).is rfl rfl
            refine step_value (w' := w) (v := .agg X) (run_load_row 29 (.tmp 18) rfl b1 (o1 + j * 32) e18 (Lib.byteCells x) _ (HXB.out w hb) Tryd.underlying29 rfl HIX.out HEX.out) (Below.refl _ _) rfl
          · refine StepOKl.of ?_
            intro ac w hb hu hk
            refine ⟨wanted_none rfl, ?_⟩
            have e1 : ac.eval (.tmp 1) = .slice (some ⟨b2, o2, none⟩) n d := hu.is (t := 1) (by kernel_rfl)
            exact step_value (BigFrame.run_move (.tmp 1) rfl w) (Below.refl _ _) e1
          · refine StepOKl.of ?_
            intro ac w hb hu hk
            refine ⟨wanted_none rfl, ?_⟩
            have e5 : ac.eval (.tmp 5) = .int .i64 (j : Int) := hu.is (t := 5) (by kernel_rfl)
            exact step_value (BigFrame.run_move (.tmp 5) rfl w) (Below.refl _ _) e5
          · refine StepOKl.of ?_
            intro ac w hb hu hk
            refine ⟨wanted_none rfl, ?_⟩
            have e20 : ac.eval (.tmp 20) = (.slice (some ⟨b2, o2, none⟩) n d) := (hk ⟨4, .data⟩ (by simp) rfl).is rfl rfl
            have e21 : ac.eval (.tmp 21) = (.int .i64 (j : Int)) := (hk ⟨5, .data⟩ (by simp) rfl).is rfl rfl
            refine step_value (w' := w) (v := (.pointer (some ⟨b2, o2 + j * 32, none⟩))) ?_ (Below.refl _ _) rfl
            generalize ac.eval = ρ at e20 e21 ⊢
            go_simp
          · refine StepOKl.of ?_
            intro ac w hb hu hk
            refine ⟨wanted_none rfl, ?_⟩
            have e22 : ac.eval (.tmp 22) = (.pointer (some ⟨b2, o2 + j * 32, none⟩)) := (hk ⟨6, .data⟩ (by simp) rfl).is rfl rfl
            refine step_value (w' := w) (v := .agg Y) (run_load_row 29 (.tmp 22) rfl b2 (o2 + j * 32) e22 (Lib.byteCells y) _ (HYB.out w hb) Tryd.underlying29 rfl HIY.out HEY.out) (Below.refl _ _) rfl
          · refine StepOKl.of ?_
            intro ac w hb hu hk
            refine ⟨wanted_none rfl, ?_⟩
            have e19 : ac.eval (.tmp 19) = (.agg X) := (hk ⟨3, .data⟩ (by simp) rfl).is rfl rfl
            have e23 : ac.eval (.tmp 23) = (.agg Y) := (hk ⟨7, .data⟩ (by simp) rfl).is rfl rfl
            refine step_value (w' := w) (v := .bool true) ?_ (Below.refl _ _) rfl
            have hq := HQ.out w
            generalize ac.eval = ρ at e19 e23 ⊢
            go_simp
          · intro ac w' hb hu hk hap
            obtain ⟨_, h16, rfl⟩ := (hk 0 (by decide)).put rfl rfl
            obtain ⟨_, h17, rfl⟩ := (hk 1 (by decide)).put rfl rfl
            obtain ⟨_, h18, rfl⟩ := (hk 2 (by decide)).put rfl rfl
            obtain ⟨_, h19, rfl⟩ := (hk 3 (by decide)).put rfl rfl
            obtain ⟨_, h20, rfl⟩ := (hk 4 (by decide)).put rfl rfl
            obtain ⟨_, h21, rfl⟩ := (hk 5 (by decide)).put rfl rfl
            obtain ⟨_, h22, rfl⟩ := (hk 6 (by decide)).put rfl rfl
            obtain ⟨_, h23, rfl⟩ := (hk 7 (by decide)).put rfl rfl
            obtain ⟨_, h24, rfl⟩ := (hk 8 (by decide)).put rfl rfl
            clear hap
            have hF : AllPuts ac.tmps ((16, _) :: (17, _) :: (18, _) :: (19, _) :: (20, _) :: (21, _) :: (22, _) :: (23, _) :: (24, _) :: []) := ⟨h16, h17, h18, h19, h20, h21, h22, h23, h24, trivial⟩
            obtain rfl := frame_puts hu (by kernel_rfl) hF
            simp only [puts, Act.put, List.setIfInBounds_toArray, List.set_cons_zero, List.set_cons_succ, List.drop_succ_cons, List.drop_nil]
            clear hk hu hF h16 h17 h18 h19 h20 h21 h22 h23 h24
            have hb2 := hbel.trans (hb.mono hbel.size)
            clear hb hbel HXB HYB HQ
            go_wp2_with fail
            go_ret
            exact ⟨ret_bool HF.out.symm, hb2⟩
      · obtain rfl : j = n := by omega
        have hji : ¬ (j : Int) < (j : Int) := by omega
        have HF := Lib.hid (show decide (hs = ks) = true from decide_eq_true (by
          have := HT0.out
          rwa [List.take_of_length_le (by rw [HN.out]; exact Nat.le_refl _), List.take_of_length_le (by rw [HM.out]; exact Nat.le_refl _)] at this))
        clear HT0
        go_wp2_with fail
        go_ret
        exact ⟨ret_bool HF.out.symm, hbel⟩
  · have hne : ((n : Int) != (m : Int)) = true := by simp only [bne_iff_ne, ne_eq]; omega
    have HF := Lib.hid (show decide (hs = ks) = false from decide_eq_false (fun e => hnm (by rw [← HN.out, ← HM.out, e])))
    clear hnm
    go_enter Tryd.func138, Tryd.ntmps138
    go_wp2_with fail
    go_ret
    exact ⟨ret_bool HF.out.symm, Below.refl _ _⟩
end Go.Proofs.YtfgieebccjoboaaDoor
namespace Go.Proofs.YtfgieebccjoboaaDoor
open Go.RowKit

theorem un_hit {ss ts : List (List UInt8)} {i : Nat} {s t : List UInt8} (h1 : ss[i]? = some s) (h2 : ts[i]? = some t) (hno : ∀ x ∈ (ss.zip ts).take i, isUn x = false) (hyes : isUn (s, t) = true) : firstUn ss ts = some (s, t) := by
  have e : ss.zip ts = (ss.zip ts).take i ++ (s, t) :: (ss.zip ts).drop (i + 1) := by
    have h := List.take_append_drop (i + 1) (ss.zip ts)
    rw [zip_step h1 h2, List.append_assoc] at h
    exact h.symm
  unfold firstUn
  rw [e, List.find?_append]
  have hn : ((ss.zip ts).take i).find? isUn = none := by
    rw [List.find?_eq_none]
    intro x hx
    rw [hno x hx]
    simp
  rw [hn]
  simp [hyes]
theorem un_no {ss ts : List (List UInt8)} (h : ∀ x ∈ ss.zip ts, isUn x = false) : firstUn ss ts = none := by
  unfold firstUn
  rw [List.find?_eq_none]
  intro x hx
  rw [h x hx]
  simp
theorem rl_at {w : World} {B M c i b : Nat} {ls : List (List (List UInt8))} (h : RL w B (.slice (some ⟨b, 0, none⟩) M c) ls) (hi : i < ls.length) :
    b < w.heap.size ∧ ∃ A d, w.cell? ⟨b, i, none⟩ = some (.slice A (ls.getD i []).length d) ∧ HV w (.slice A (ls.getD i []).length d) (ls.getD i []) := by
  obtain ⟨h1, A, d, h2, h3⟩ := h.at_ hi
  rw [Nat.zero_add] at h2
  rw [show ls.getD i [] = ls[i] by simp [List.getD_eq_getElem?_getD, hi]]
  exact ⟨h1, A, d, h2, h3⟩
theorem hv_two {w : World} {n c i b o : Nat} {hs : List (List UInt8)} (h : HV w (.slice (some ⟨b, o, none⟩) n c) hs) (hi : i + 1 < n) (hc : n ≤ c) : HV w (.slice (some ⟨b, o + i * 32, none⟩) 2 (c - i)) [hs.getD i [], hs.getD (i + 1) []] := by
  obtain ⟨b1, o1, e1, hb1, hr1, hl1⟩ := h.at_ (i := i) (by omega)
  obtain ⟨b2, o2, e2, _, hr2, hl2⟩ := h.at_ (i := i + 1) hi
  injection e1 with e1
  injection e1 with e3 e4
  subst e3 e4
  injection e2 with e2
  injection e2 with e3 e4
  subst e3 e4
  refine ⟨fun r hr => ?_, some ⟨b, o + i * 32, none⟩, c - i, rfl, by simp; omega, .inr ⟨b, o + i * 32, rfl, hb1, fun j hj => ?_⟩⟩
  · simp at hr
    rcases hr with rfl | rfl
    · exact hl1
    · exact hl2
  · match j, hj with
    | 0, _ => exact hr1
    | 1, _ =>
      have e : o + i * 32 + 1 * 32 = o + (i + 1) * 32 := by omega
      rw [e]
      exact hr2
    | k + 2, hj => exact absurd hj (by simp)
theorem tv_sets {w : World} {g n1 n2 c1 c2 : Nat} {A1 A2 : Option Addr} {T : TypeId} {v : Value} {l : List UInt8} (h : TV w v l) (hg : Blk w g #[.slice A1 n1 c1, .slice A2 n2 c2] T) (X Y : Option Addr) (n m c d : Nat) : TV ((w.setCell ⟨g, 0, none⟩ (.slice X n c)).setCell ⟨g, 1, none⟩ (.slice Y m d)) v l := by
  obtain ⟨Z, e, h1, h2, h3⟩ := h
  exact ⟨Z, e, h1, h2, Rd.sizes ((h3.set_far hg 0 _).set_far (hg.set 0 (.slice X n c)) 1 _)⟩
theorem brk_said {W w : World} {g n m c d : Nat} {r : Option (List UInt8 × List UInt8)} {X Y : Option Addr} {k : Bool} (hA : TV w (.slice X n c) (r.getD ([], [])).1) (hB : TV w (.slice Y m d) (r.getD ([], [])).2) (hg : Blk w g #[.slice none 0 0, .slice none 0 0] 41) (hb : Below W.heap.size W w) (hgW : W.heap.size ≤ g) (hk : r.isSome = k) :
    BrkSaid W r (.returned (.tuple #[.agg #[.slice X n c, .slice Y m d], .bool k])) ((w.setCell ⟨g, 0, none⟩ (.slice X n c)).setCell ⟨g, 1, none⟩ (.slice Y m d)) := by
  subst hk
  exact ⟨_, _, rfl, tv_sets hA hg _ _ _ _ _ _, tv_sets hB hg _ _ _ _ _ _, (hb.setCell (p := ⟨g, 0, none⟩) hgW _).setCell (p := ⟨g, 1, none⟩) hgW _⟩
set_option maxRecDepth 100000 in
set_option maxHeartbeats 8000000 in
theorem pclash_any {w : World} {B1 B2 N : Nat} {va vb : Value} {ls ks : List (List (List UInt8))} (ha : RL w B1 va ls) (hb : RL w B2 vb ks) (hN : ls.length = N + 1) (hM : ks.length = N + 1) (hN1 : N ≤ 1000) (hrow : ∀ j, j < N → (ls.getD j []).length = (ks.getD j []).length ∧ (ls.getD j []).length % 2 = 0 ∧ (ls.getD j []).length ≤ 1024)
    (hta : 0 < (ls.getD N []).length) (htb : 0 < (ks.getD N []).length) (htab : Pow10 w.heap.size w) : Calls Tryd.prog 131 #[va, vb] w (BrkSaid w (clashV N ls ks)) := by
  obtain ⟨M, hMM⟩ : ∃ M, N + 1 = M := ⟨_, rfl⟩
  have HMM := Lib.hid hMM
  have HN := Lib.hid (show ls.length = M by omega)
  have HM := Lib.hid (show ks.length = M by omega)
  have HROW := Lib.hid hrow
  have HT := Lib.hid htab
  obtain ⟨x, hx⟩ : ∃ x, (ls.getD N []).getD 0 [] = x := ⟨_, rfl⟩
  obtain ⟨y, hy⟩ : ∃ y, (ks.getD N []).getD 0 [] = y := ⟨_, rfl⟩
  obtain ⟨X, hX⟩ : ∃ X, u8A x = X := ⟨_, rfl⟩
  obtain ⟨Y, hY⟩ : ∃ X, u8A y = X := ⟨_, rfl⟩
  have HA := Lib.hid ha
  have HB := Lib.hid hb
  have HTA := Lib.hid (fun W (h : RL W B1 va ls) => (show Calls Tryd.prog 74 #[va] W fun e w' => e = .returned (.agg X) ∧ Below W.heap.size W w' from by
    rw [← hX]
    exact ptop_any h HN.out hMM x hx hta (by omega)))
  have HTB := Lib.hid (fun W (h : RL W B2 vb ks) => (show Calls Tryd.prog 74 #[vb] W fun e w' => e = .returned (.agg Y) ∧ Below W.heap.size W w' from by
    rw [← hY]
    exact ptop_any h HM.out hMM y hy htb (by omega)))
  obtain ⟨A, ca, rfl, _, hca⟩ := ha.form HN.out
  obtain ⟨B, cb, rfl, _, hcb⟩ := hb.form HM.out
  obtain ⟨ga, rfl⟩ := RL.some ha (by omega)
  obtain ⟨gb, rfl⟩ := RL.some hb (by omega)
  have hxl : x.length = 32 := by
    obtain ⟨_, A, d, _, hv⟩ := rl_at ha (i := N) (by omega)
    obtain ⟨_, _, _, _, _, hl⟩ := hv.at_ (i := 0) hta
    rw [hx] at hl
    exact hl
  have hyl : y.length = 32 := by
    obtain ⟨_, A, d, _, hv⟩ := rl_at hb (i := N) (by omega)
    obtain ⟨_, _, _, _, _, hl⟩ := hv.at_ (i := 0) htb
    rw [hy] at hl
    exact hl
  have HEQX := Lib.hid (fun W => (show (Op.equalIn 10000 29 (.agg X) (.agg Y)).run Tryd.prog W = .ok (decide (x = y)) W by
    rw [← hX, ← hY]
    exact run_hash_eq W _ _ hxl hyl))
  have HCV := Lib.hid (show clashV N ls ks = if x = y then seekUn N ls ks else none by unfold clashV; rw [hx, hy])
  have HAL := Lib.hid (show Below w.heap.size w (w.alloc (.cells #[.slice none 0 0, .slice none 0 0] 41)) from (Below.refl _ _).alloc (Nat.le_refl _) _)
  have HB4 := Lib.hid (show Blk (w.alloc (.cells #[.slice none 0 0, .slice none 0 0] 41)) w.heap.size #[.slice none 0 0, .slice none 0 0] 41 from Blk.new _ _ _)
  have HA1 := Lib.hid (ha.on HAL.out)
  have HB1 := Lib.hid (hb.on HAL.out)
  have HTA1 := Lib.hid (HTA.out _ HA1.out)
  have hM1 : M ≤ 1001 := by omega
  have hMN : (M : Int) - 2 = (N : Int) - 1 := by omega
  have hN0 : N < M := by omega
  have hcm : (ca : Int) ≤ 9223372036854775807 := by unfold maxLen at hca; omega
  have hcm2 : (cb : Int) ≤ 9223372036854775807 := by unfold maxLen at hcb; omega
  clear ha hb hN hM hrow hta htb htab hx hy hX hY HTA HA HB hca hcb hMM
  go_enter Tryd.func131, Tryd.ntmps131
  go_wp2_with fail
  with_reducible refine (HTA1.out).mono ?_
  rintro e w2 ⟨rfl, hb2⟩
  generalize w.alloc (.cells #[.slice none 0 0, .slice none 0 0] 41) = w1 at *
  have HA2 := Lib.hid (HA1.out.on hb2)
  have HB2 := Lib.hid (HB1.out.on hb2)
  have HTB2 := Lib.hid (HTB.out _ HB2.out)
  have HB42 := Lib.hid (HB4.out.below hb2 HB4.out.lt)
  have HW2 := Lib.hid (HAL.out.trans (hb2.mono HAL.out.size))
  clear hb2 HA1 HB1 HTA1 HTB HB4 HAL
  by_cases hxy : x = y
  · have heq := fun W => (HEQX.out W).trans (by rw [decide_eq_true hxy])
    have HCV2 := Lib.hid (show clashV N ls ks = seekUn N ls ks by rw [HCV.out, if_pos hxy])
    clear HEQX HCV hxy
    go_wp2_with fail
    with_reducible refine (HTB2.out).mono ?_
    rintro e w3 ⟨rfl, hb3⟩
    have HA3 := Lib.hid (HA2.out.on hb3)
    have HB3 := Lib.hid (HB2.out.on hb3)
    have HB43 := Lib.hid (HB42.out.below hb3 HB42.out.lt)
    have HW3 := Lib.hid (HW2.out.trans (hb3.mono HW2.out.size))
    clear hb3 HA2 HB2 HB42 HW2 HTB2
    obtain ⟨g4, hg4⟩ : ∃ g, w.heap.size = g := ⟨_, rfl⟩
    have HG4 := Lib.hid (show w.heap.size ≤ g4 by omega)
    rw [hg4] at HB43 ⊢
    clear hg4
    go_wp2_with fail
    clear heq
    go_loopw [6] (fun t wq => ∃ (z : Int) (e : Nat), t = .int .i64 z ∧ z + 1 = (e : Int) ∧ e ≤ N ∧ Hid (clashV N ls ks = seekUn e ls ks) ∧ Below w3.heap.size w3 wq) (fun t _ => (intOf t + 1).toNat)
    case atStart => exact ⟨_, N, rfl, by omega, Nat.le_refl _, HCV2, Below.refl _ _⟩
    case round =>
      clear HCV2
      obtain ⟨z, e, rfl, hze, heN, HSK, hbq⟩ := hrel
      have hbw : Below w.heap.size w wr := HW3.out.trans (hbq.mono HW3.out.size)
      have H4q := Lib.hid (HB43.out.below hbq HB43.out.lt)
      rcases Nat.eq_zero_or_pos e with rfl | he
      · obtain rfl : z = -1 := by omega
        have HV0 := Lib.hid (show clashV N ls ks = none by rw [HSK.out]; rfl)
        have H4w := H4q
        have HBW := Lib.hid hbw
        clear HSK hbq
        have hc0 := H4w.out.cell 0
        have hc1 := H4w.out.cell 1
        have hf0 := H4w.out.frozen 0
        have hf1 := H4w.out.frozen 1
        simp at hc0 hc1
        go_wp2_with fail
        refine bodyPost_ret (v := .tuple #[.agg #[.slice none 0 0, .slice none 0 0], .bool false]) (results_cell_tmp (p := 4) (q := 5) (ty := 41) (by kernel_rfl) _ _ g4 41 _ (0, 0) _ (.bool false) rfl rfl ((H4w.out.set 0 _).set 1 _) Tryd.underlying41 rfl (by kernel_rfl)) rfl
          (brk_said (r := clashV N ls ks) (by rw [HV0.out]; exact TV.nil _) (by rw [HV0.out]; exact TV.nil _) H4w.out HBW.out HG4.out (by rw [HV0.out]; rfl))
      · obtain ⟨v, rfl⟩ : ∃ v, e = v + 1 := ⟨e - 1, by omega⟩
        obtain rfl : z = (v : Int) := by omega
        have hvj : v < M := by omega
        have hvi : (v : Int) < (M : Int) := by omega
        have hv0 : (0 : Int) ≤ (v : Int) := by omega
        have HSK2 := Lib.hid (show clashV N ls ks = (firstUn (textsH (ls.getD v [])) (textsH (ks.getD v []))).or (seekUn v ls ks) by rw [HSK.out]; rfl)
        obtain ⟨hgs, A1, d1, hcs, hv1⟩ := rl_at (HA3.out.on hbq) (i := v) (by rw [HN.out]; omega)
        obtain ⟨hgt, A2, d2, hct, hv2⟩ := rl_at (HB3.out.on hbq) (i := v) (by rw [HM.out]; omega)
        obtain ⟨hr1, hr2, hr3⟩ := HROW.out v (by omega)
        rw [← hr1] at hct hv2
        obtain ⟨q, hq⟩ : ∃ q, (ls.getD v []).length = q := ⟨_, rfl⟩
        rw [hq] at hcs hct hv1 hv2
        obtain ⟨hf, hhf⟩ : ∃ h, q = 2 * h := ⟨q / 2, by omega⟩
        have hq10 : q ≤ 1024 := by omega
        have HLX := Lib.hid hq
        have HLY := Lib.hid (show (ks.getD v []).length = q by omega)
        have HTXA := Lib.hid (fun i h => texts_at (ls.getD v []) i h)
        have HTXB := Lib.hid (fun i h => texts_at (ks.getD v []) i h)
        have HZL := Lib.hid (show ((textsH (ls.getD v [])).zip (textsH (ks.getD v []))).length = hf by rw [List.length_zip, textsH_len, textsH_len, HLX.out, HLY.out]; omega)
        generalize textsH (ls.getD v []) = ta at *
        generalize textsH (ks.getD v []) = tb at *
        generalize ls.getD v [] = xl at *
        generalize ks.getD v [] = yl at *
        have HV1x := Lib.hid hv1
        have HV2x := Lib.hid hv2
        have hd1 : q ≤ d1 := by
          obtain ⟨_, _, _, e, h, _⟩ := hv1
          injection e with _ e2 e3
          omega
        have hd2 : q ≤ d2 := by
          obtain ⟨_, _, _, e, h, _⟩ := hv2
          injection e with _ e2 e3
          omega
        obtain ⟨wu, rfl⟩ : ∃ y : World, y = wr := ⟨_, rfl⟩
        have HQH := Lib.hid hhf
        clear hv1 hv2 HSK hr1 hr2 hr3 hq
        go_wp2_with fail
        go_loopw [7] (fun t wq => ∃ i p : Nat, i ≤ hf ∧ t = .int .i64 (p : Int) ∧ Hid (p = 2 * i) ∧ Hid (∀ x ∈ (ta.zip tb).take i, isUn x = false) ∧ Below wu.heap.size wu wq) (fun t _ => q - (intOf t).toNat)
        case atStart => exact ⟨0, 0, Nat.zero_le _, rfl, Lib.hid rfl, Lib.hid (fun x hx => by simp at hx), Below.refl _ _⟩
        case round =>
          obtain ⟨i, p, hif, rfl, HP, HNO, hbu⟩ := hrel
          have hpi := HP.out
          have hcs1 := (hbu.cell (p := ⟨ga, v, none⟩) hgs).trans hcs
          have hct1 := (hbu.cell (p := ⟨gb, v, none⟩) hgt).trans hct
          by_cases hlt : i < hf
          · have hpq : (p : Int) < (q : Int) := by omega
            have hpp : (0 : Int) ≤ (p : Int) := by omega
            obtain ⟨p2, hp2⟩ : ∃ k, p + 2 = k := ⟨_, rfl⟩
            have hp2i : (p : Int) + 2 = (p2 : Int) := by omega
            have hpp2 : p < p2 := by omega
            have hp22 : p2 - p = 2 := by omega
            have hd1' : p2 ≤ d1 := by omega
            have hd2' : p2 ≤ d2 := by omega
            have hple : p ≤ p2 := by omega
            have hne1 : ¬ d1 = p := by omega
            have hne2 : ¬ d2 = p := by omega
            have hwp : IntKind.i64.wrap (p2 : Int) = (p2 : Int) := IntWalk.i64_in _ (by omega)
            obtain ⟨b1, o1, hA1, hb1, hxa, hxal⟩ := (HV1x.out.on hbu).at_ (i := p) (by omega)
            obtain ⟨b2, o2, hA2, hb2, hya, hyal⟩ := (HV2x.out.on hbu).at_ (i := p) (by omega)
            obtain ⟨_, _, hA1', _, hxb, hxbl⟩ := (HV1x.out.on hbu).at_ (i := p + 1) (by omega)
            obtain ⟨_, _, hA2', _, hyb, hybl⟩ := (HV2x.out.on hbu).at_ (i := p + 1) (by omega)
            subst hA1 hA2
            injection hA1' with hA1'
            injection hA1' with e1 e2
            subst e1 e2
            injection hA2' with hA2'
            injection hA2' with e3 e4
            subst e3 e4
            have hh1 := hv_two (HV1x.out.on hbu) (i := p) (by omega) hd1
            have hh2 := hv_two (HV2x.out.on hbu) (i := p) (by omega) hd2
            have hta := HTXA.out i (by rw [HLX.out]; omega)
            have htb := HTXB.out i (by rw [HLY.out]; omega)
            rw [← hpi] at hta htb
            generalize xl.getD p [] = xa at *
            generalize xl.getD (p + 1) [] = xb at *
            generalize yl.getD p [] = ya at *
            generalize yl.getD (p + 1) [] = yb at *
            rw [show o1 + (p + 1) * 32 = o1 + p * 32 + 32 by omega] at hxb
            rw [show o2 + (p + 1) * 32 = o2 + p * 32 + 32 by omega] at hyb
            obtain ⟨D, hD⟩ : ∃ D, decide ([xa, xb] = [ya, yb]) = D := ⟨_, rfl⟩
            have hun : isUn (nodeT xa xb, nodeT ya yb) = !D := by
              rw [← hD]
              unfold isUn
              by_cases h : [xa, xb] = [ya, yb]
              · injection h with h1 h2
                injection h2 with h2 _
                simp [h1, h2]
              · have hne : ¬ nodeT xa xb = nodeT ya yb := fun e => h (by rw [(nodeT_inj _ _ _ _ e).1, (nodeT_inj _ _ _ _ e).2])
                have h1 : (nodeT xa xb == nodeT ya yb) = false := by simpa using hne
                have h2 : decide ([xa, xb] = [ya, yb]) = false := decide_eq_false h
                rw [h1, h2]
            have HHIT := Lib.hid (fun (h : D = false) => (show clashV N ls ks = some (nodeT xa xb, nodeT ya yb) by
              rw [HSK2.out, un_hit hta htb HNO.out (by rw [hun, h]; rfl)]
              rfl))
            have HNX := Lib.hid (fun (h : D = true) => (show ∀ x ∈ (ta.zip tb).take (i + 1), isUn x = false from fun x hx => by
              rw [zip_step hta htb] at hx
              rcases List.mem_append.1 hx with hx | hx
              · exact HNO.out x hx
              · simp at hx
                rw [hx, hun, h]
                rfl))
            obtain ⟨wm, rfl⟩ : ∃ y : World, y = wr := ⟨_, rfl⟩
            have HEQ := Lib.hid (fun W (h : Below wm.heap.size wm W) => (show Calls Tryd.prog 138 #[.slice (some ⟨b1, o1 + p * 32, none⟩) 2 (d1 - p), .slice (some ⟨b2, o2 + p * 32, none⟩) 2 (d2 - p)] W fun e w' => e = .returned (.bool D) ∧ Below W.heap.size W w' from by
              rw [← hD]
              exact pequal_any (hh1.on h) (hh2.on h) (by simp)))
            have HRG := Lib.hid (fun W (h : Below wm.heap.size wm W) => (⟨(h.cell (p := ⟨ga, v, none⟩) (Nat.lt_of_lt_of_le hgs hbu.size)).trans hcs1, (h.cell (p := ⟨gb, v, none⟩) (Nat.lt_of_lt_of_le hgt hbu.size)).trans hct1⟩ :
              W.cell? ⟨ga, v, none⟩ = some (.slice (some ⟨b1, o1, none⟩) q d1) ∧ W.cell? ⟨gb, v, none⟩ = some (.slice (some ⟨b2, o2, none⟩) q d2)))
            have HRG2 := Lib.hid (fun W (h : Below wm.heap.size wm W) => (⟨rangeAt_keep hxa fun j => h.cell (p := ⟨b1, _, none⟩) hb1, rangeAt_keep hxb fun j => h.cell (p := ⟨b1, _, none⟩) hb1, rangeAt_keep hya fun j => h.cell (p := ⟨b2, _, none⟩) hb2, rangeAt_keep hyb fun j => h.cell (p := ⟨b2, _, none⟩) hb2⟩ :
              W.rangeAt b1 (o1 + p * 32) (Lib.byteCells xa) ∧ W.rangeAt b1 (o1 + p * 32 + 32) (Lib.byteCells xb) ∧ W.rangeAt b2 (o2 + p * 32) (Lib.byteCells ya) ∧ W.rangeAt b2 (o2 + p * 32 + 32) (Lib.byteCells yb)))
            obtain ⟨tx1, htx1⟩ : ∃ t, nodeT xa xb = t := ⟨_, rfl⟩
            obtain ⟨tx2, htx2⟩ : ∃ t, nodeT ya yb = t := ⟨_, rfl⟩
            obtain ⟨n1, hn1⟩ : ∃ k, tx1.length = k := ⟨_, rfl⟩
            obtain ⟨n2, hn2⟩ : ∃ k, tx2.length = k := ⟨_, rfl⟩
            obtain ⟨XA, hXA⟩ : ∃ X, u8A xa = X := ⟨_, rfl⟩
            obtain ⟨XB, hXB⟩ : ∃ X, u8A xb = X := ⟨_, rfl⟩
            obtain ⟨YA, hYA⟩ : ∃ X, u8A ya = X := ⟨_, rfl⟩
            obtain ⟨YB, hYB⟩ : ∃ X, u8A yb = X := ⟨_, rfl⟩
            have HXA := Lib.hid hXA
            have HXB := Lib.hid hXB
            have HYA := Lib.hid hYA
            have HYB := Lib.hid hYB
            have HXAL := Lib.hid hxal
            have HXBL := Lib.hid hxbl
            have HYAL := Lib.hid hyal
            have HYBL := Lib.hid hybl
            have HTX := Lib.hid (show nodeT xa xb = tx1 ∧ nodeT ya yb = tx2 from ⟨htx1, htx2⟩)
            have HNN := Lib.hid (show tx1.length = n1 ∧ tx2.length = n2 from ⟨hn1, hn2⟩)
            rw [htx1, htx2] at HHIT
            clear hXA hXB hYA hYB htx1 htx2 hn1 hn2 hxa hxb hya hyb hxal hxbl hyal hybl hta htb HNO hh1 hh2 hun hD hpi hp2
            go_wp2_with fail
            refine wp_region_loose 18 0 (fun i => false) (promises [.is (.slice (some ⟨ga, 0, none⟩) M ca), .is (.int .i64 (v : Int)), .is (.pointer (some ⟨ga, v, none⟩)), .is (.slice (some ⟨b1, o1, none⟩) q d1), .is (.int .i64 (p : Int)), .is (.int .i64 (p : Int)), .is (.int .i64 (p2 : Int)), .is (.slice (some ⟨b1, o1 + p * 32, none⟩) 2 (d1 - p)), .is (.slice (some ⟨gb, 0, none⟩) M cb), .is (.int .i64 (v : Int)), .is (.pointer (some ⟨gb, v, none⟩)), .is (.slice (some ⟨b2, o2, none⟩) q d2), .is (.int .i64 (p : Int)), .is (.int .i64 (p : Int)), .is (.int .i64 (p2 : Int)), .is (.slice (some ⟨b2, o2 + p * 32, none⟩) 2 (d2 - p)), .is (.slice (some ⟨b1, o1 + p * 32, none⟩) 2 (d1 - p)), .is (.slice (some ⟨b2, o2 + p * 32, none⟩) 2 (d2 - p))]) (by kernel_rfl) rfl (by kernel_rfl) (fun i v w w' h hb => Spec.keep h hb) ⟨?_, ?_, ?_, ?_, ?_, ?_, ?_, ?_, ?_, ?_, ?_, ?_, ?_, ?_, ?_, ?_, ?_, ?_, trivial⟩ ?_
            · refine StepOKl.of ?_
              intro ac w hb hu hk
              refine ⟨wanted_none rfl, ?_⟩
              have e0 : ac.eval (.tmp 0) = .slice (some ⟨ga, 0, none⟩) M ca := hu.is (t := 0) (by kernel_rfl)
              exact step_value (BigFrame.run_move (.tmp 0) rfl w) (Below.refl _ _) e0
            · refine StepOKl.of ?_
              intro ac w hb hu hk
              refine ⟨wanted_none rfl, ?_⟩
              have e6 : ac.eval (.tmp 6) = .int .i64 (v : Int) := hu.is (t := 6) (by kernel_rfl)
              exact step_value (BigFrame.run_move (.tmp 6) rfl w) (Below.refl _ _) e6
            · refine StepOKl.of ?_
              intro ac w hb hu hk
              refine ⟨wanted_none rfl, ?_⟩
              have e32 : ac.eval (.tmp 32) = (.slice (some ⟨ga, 0, none⟩) M ca) := (hk ⟨0, .data⟩ (by simp) rfl).is rfl rfl
              have e33 : ac.eval (.tmp 33) = (.int .i64 (v : Int)) := (hk ⟨1, .data⟩ (by simp) rfl).is rfl rfl
              refine step_value (w' := w) (v := (.pointer (some ⟨ga, v, none⟩))) ?_ (Below.refl _ _) rfl
              generalize ac.eval = ρ at e32 e33 ⊢
              go_simp
            · refine StepOKl.of ?_
              intro ac w hb hu hk
              refine ⟨wanted_none rfl, ?_⟩
              have e34 : ac.eval (.tmp 34) = (.pointer (some ⟨ga, v, none⟩)) := (hk ⟨2, .data⟩ (by simp) rfl).is rfl rfl
              refine step_value (w' := w) (v := .slice (some ⟨b1, o1, none⟩) q d1) ?_ (Below.refl _ _) rfl
              have hc := (HRG.out w hb).1
              generalize ac.eval = ρ at e34 hc ⊢
              go_simp
            · refine StepOKl.of ?_
              intro ac w hb hu hk
              refine ⟨wanted_none rfl, ?_⟩
              have e7 : ac.eval (.tmp 7) = .int .i64 (p : Int) := hu.is (t := 7) (by kernel_rfl)
              exact step_value (BigFrame.run_move (.tmp 7) rfl w) (Below.refl _ _) e7
            · refine StepOKl.of ?_
              intro ac w hb hu hk
              refine ⟨wanted_none rfl, ?_⟩
              have e7 : ac.eval (.tmp 7) = .int .i64 (p : Int) := hu.is (t := 7) (by kernel_rfl)
              exact step_value (BigFrame.run_move (.tmp 7) rfl w) (Below.refl _ _) e7
            · refine StepOKl.of ?_
              intro ac w hb hu hk
              refine ⟨wanted_none rfl, ?_⟩
              have e37 : ac.eval (.tmp 37) = (.int .i64 (p : Int)) := (hk ⟨5, .data⟩ (by simp) rfl).is rfl rfl
              refine step_value (w' := w) (v := (.int .i64 (p2 : Int))) ?_ (Below.refl _ _) rfl
              have ec0 : ac.eval (.const (Value.int IntKind.i64 2)) = Value.int IntKind.i64 2 := rfl
              generalize ac.eval = ρ at e37 ec0 ⊢
              go_simp
            · refine StepOKl.of ?_
              intro ac w hb hu hk
              refine ⟨wanted_none rfl, ?_⟩
              have e35 : ac.eval (.tmp 35) = (.slice (some ⟨b1, o1, none⟩) q d1) := (hk ⟨3, .data⟩ (by simp) rfl).is rfl rfl
              have e36 : ac.eval (.tmp 36) = (.int .i64 (p : Int)) := (hk ⟨4, .data⟩ (by simp) rfl).is rfl rfl
              have e38 : ac.eval (.tmp 38) = (.int .i64 (p2 : Int)) := (hk ⟨6, .data⟩ (by simp) rfl).is rfl rfl
              refine step_value (w' := w) (v := .slice (some ⟨b1, o1 + p * 32, none⟩) 2 (d1 - p)) ?_ (Below.refl _ _) rfl
              generalize ac.eval = ρ at e35 e36 e38 ⊢
              go_simp
            · refine StepOKl.of ?_
              intro ac w hb hu hk
              refine ⟨wanted_none rfl, ?_⟩
              have e1 : ac.eval (.tmp 1) = .slice (some ⟨gb, 0, none⟩) M cb := hu.is (t := 1) (by kernel_rfl)
              exact step_value (BigFrame.run_move (.tmp 1) rfl w) (Below.refl _ _) e1
            · refine StepOKl.of ?_
              intro ac w hb hu hk
              refine ⟨wanted_none rfl, ?_⟩
              have e6 : ac.eval (.tmp 6) = .int .i64 (v : Int) := hu.is (t := 6) (by kernel_rfl)
              exact step_value (BigFrame.run_move (.tmp 6) rfl w) (Below.refl _ _) e6
            · refine StepOKl.of ?_
              intro ac w hb hu hk
              refine ⟨wanted_none rfl, ?_⟩
              have e40 : ac.eval (.tmp 40) = (.slice (some ⟨gb, 0, none⟩) M cb) := (hk ⟨8, .data⟩ (by simp) rfl).is rfl rfl
              have e41 : ac.eval (.tmp 41) = (.int .i64 (v : Int)) := (hk ⟨9, .data⟩ (by simp) rfl).is rfl rfl
              refine step_value (w' := w) (v := (.pointer (some ⟨gb, v, none⟩))) ?_ (Below.refl _ _) rfl
              generalize ac.eval = ρ at e40 e41 ⊢
              go_simp
            · refine StepOKl.of ?_
              intro ac w hb hu hk
              refine ⟨wanted_none rfl, ?_⟩
              have e42 : ac.eval (.tmp 42) = (.pointer (some ⟨gb, v, none⟩)) := (hk ⟨10, .data⟩ (by simp) rfl).is rfl rfl
              refine step_value (w' := w) (v := .slice (some ⟨b2, o2, none⟩) q d2) ?_ (Below.refl _ _) rfl
              have hc := (HRG.out w hb).2
              generalize ac.eval = ρ at e42 hc ⊢
              go_simp
            · refine StepOKl.of ?_
              intro ac w hb hu hk
              refine ⟨wanted_none rfl, ?_⟩
              have e7 : ac.eval (.tmp 7) = .int .i64 (p : Int) := hu.is (t := 7) (by kernel_rfl)
              exact step_value (BigFrame.run_move (.tmp 7) rfl w) (Below.refl _ _) e7
            · refine StepOKl.of ?_
              intro ac w hb hu hk
              refine ⟨wanted_none rfl, ?_⟩
              have e7 : ac.eval (.tmp 7) = .int .i64 (p : Int) := hu.is (t := 7) (by kernel_rfl)
              exact step_value (BigFrame.run_move (.tmp 7) rfl w) (Below.refl _ _) e7
            · refine StepOKl.of ?_
              intro ac w hb hu hk
              refine ⟨wanted_none rfl, ?_⟩
              have e45 : ac.eval (.tmp 45) = (.int .i64 (p : Int)) := (hk ⟨13, .data⟩ (by simp) rfl).is rfl rfl
              refine step_value (w' := w) (v := (.int .i64 (p2 : Int))) ?_ (Below.refl _ _) rfl
              have ec0 : ac.eval (.const (Value.int IntKind.i64 2)) = Value.int IntKind.i64 2 := rfl
              generalize ac.eval = ρ at e45 ec0 ⊢
              go_simp
            · refine StepOKl.of ?_
              intro ac w hb hu hk
              refine ⟨wanted_none rfl, ?_⟩
              have e43 : ac.eval (.tmp 43) = (.slice (some ⟨b2, o2, none⟩) q d2) := (hk ⟨11, .data⟩ (by simp) rfl).is rfl rfl
              have e44 : ac.eval (.tmp 44) = (.int .i64 (p : Int)) := (hk ⟨12, .data⟩ (by simp) rfl).is rfl rfl
              have e46 : ac.eval (.tmp 46) = (.int .i64 (p2 : Int)) := (hk ⟨14, .data⟩ (by simp) rfl).is rfl rfl
              refine step_value (w' := w) (v := .slice (some ⟨b2, o2 + p * 32, none⟩) 2 (d2 - p)) ?_ (Below.refl _ _) rfl
              generalize ac.eval = ρ at e43 e44 e46 ⊢
              go_simp
            · refine StepOKl.of ?_
              intro ac w hb hu hk
              refine ⟨wanted_none rfl, ?_⟩
              have e39 : ac.eval (.tmp 39) = (.slice (some ⟨b1, o1 + p * 32, none⟩) 2 (d1 - p)) := (hk ⟨7, .data⟩ (by simp) rfl).is rfl rfl
              exact step_value (BigFrame.run_assign (.tmp 39) rfl w) (Below.refl _ _) e39
            · refine StepOKl.of ?_
              intro ac w hb hu hk
              refine ⟨wanted_none rfl, ?_⟩
              have e47 : ac.eval (.tmp 47) = (.slice (some ⟨b2, o2 + p * 32, none⟩) 2 (d2 - p)) := (hk ⟨15, .data⟩ (by simp) rfl).is rfl rfl
              exact step_value (BigFrame.run_assign (.tmp 47) rfl w) (Below.refl _ _) e47
            · intro ac w' hb hu hk hap
              obtain ⟨_, h8, rfl⟩ := (hk 16 (by decide)).put rfl rfl
              obtain ⟨_, h9, rfl⟩ := (hk 17 (by decide)).put rfl rfl
              obtain ⟨_, h32, rfl⟩ := (hk 0 (by decide)).put rfl rfl
              obtain ⟨_, h33, rfl⟩ := (hk 1 (by decide)).put rfl rfl
              obtain ⟨_, h34, rfl⟩ := (hk 2 (by decide)).put rfl rfl
              obtain ⟨_, h35, rfl⟩ := (hk 3 (by decide)).put rfl rfl
              obtain ⟨_, h36, rfl⟩ := (hk 4 (by decide)).put rfl rfl
              obtain ⟨_, h37, rfl⟩ := (hk 5 (by decide)).put rfl rfl
              obtain ⟨_, h38, rfl⟩ := (hk 6 (by decide)).put rfl rfl
              obtain ⟨_, h39, rfl⟩ := (hk 7 (by decide)).put rfl rfl
              obtain ⟨_, h40, rfl⟩ := (hk 8 (by decide)).put rfl rfl
              obtain ⟨_, h41, rfl⟩ := (hk 9 (by decide)).put rfl rfl
              obtain ⟨_, h42, rfl⟩ := (hk 10 (by decide)).put rfl rfl
              obtain ⟨_, h43, rfl⟩ := (hk 11 (by decide)).put rfl rfl
              obtain ⟨_, h44, rfl⟩ := (hk 12 (by decide)).put rfl rfl
              obtain ⟨_, h45, rfl⟩ := (hk 13 (by decide)).put rfl rfl
              obtain ⟨_, h46, rfl⟩ := (hk 14 (by decide)).put rfl rfl
              obtain ⟨_, h47, rfl⟩ := (hk 15 (by decide)).put rfl rfl
              clear hap
              have hF : AllPuts ac.tmps ((8, _) :: (9, _) :: (32, _) :: (33, _) :: (34, _) :: (35, _) :: (36, _) :: (37, _) :: (38, _) :: (39, _) :: (40, _) :: (41, _) :: (42, _) :: (43, _) :: (44, _) :: (45, _) :: (46, _) :: (47, _) :: []) := ⟨h8, h9, h32, h33, h34, h35, h36, h37, h38, h39, h40, h41, h42, h43, h44, h45, h46, h47, trivial⟩
              obtain rfl := frame_puts hu (by kernel_rfl) hF
              simp only [puts, Act.put, List.setIfInBounds_toArray, List.set_cons_zero, List.set_cons_succ, List.drop_succ_cons, List.drop_nil]
              clear hk hu hF h8 h9 h32 h33 h34 h35 h36 h37 h38 h39 h40 h41 h42 h43 h44 h45 h46 h47
              have HEC := Lib.hid (HEQ.out w' hb)
              have HB9 := Lib.hid hb
              clear hb HEQ
              go_wp2_with fail
              with_reducible refine (HEC.out).mono ?_
              rintro e w7 ⟨rfl, hb7⟩
              have hb27 : Below wm.heap.size wm w7 := HB9.out.trans (hb7.mono HB9.out.size)
              have HB7 := Lib.hid hb27
              clear hb7 HEC HB9
              cases hD : D
              · have HHT := Lib.hid (HHIT.out hD)
                clear HNX HHIT hD
                have hb37 : Below wu.heap.size wu w7 := hbu.trans (hb27.mono hbu.size)
                clear hb27
                have HRW := Lib.hid (fun W (h : Below w7.heap.size w7 W) => HRG2.out W (HB7.out.trans (h.mono HB7.out.size)))
                have HT1 := Lib.hid (fun W (h : Below w7.heap.size w7 W) => (show Calls Tryd.prog 110 #[.agg XA, .agg XB] W fun e W' => ∃ A c, e = .returned (.slice A n1 c) ∧ n1 ≤ c ∧ Rd W' W'.heap.size A tx1 ∧ Below W.heap.size W W' from by
                  rw [← HXA.out, ← HXB.out, ← HNN.out.1, ← HTX.out.1]
                  exact pnodetext_any xa xb W HXAL.out HXBL.out (tab_on HT.out ((hbw.trans (hb37.mono hbw.size)).trans (h.mono (hbw.trans (hb37.mono hbw.size)).size)) ((hbw.trans (hb37.mono hbw.size)).trans (h.mono (hbw.trans (hb37.mono hbw.size)).size)).size)))
                have HT2 := Lib.hid (fun W (h : Below w7.heap.size w7 W) => (show Calls Tryd.prog 110 #[.agg YA, .agg YB] W fun e W' => ∃ A c, e = .returned (.slice A n2 c) ∧ n2 ≤ c ∧ Rd W' W'.heap.size A tx2 ∧ Below W.heap.size W W' from by
                  rw [← HYA.out, ← HYB.out, ← HNN.out.2, ← HTX.out.2]
                  exact pnodetext_any ya yb W HYAL.out HYBL.out (tab_on HT.out ((hbw.trans (hb37.mono hbw.size)).trans (h.mono (hbw.trans (hb37.mono hbw.size)).size)) ((hbw.trans (hb37.mono hbw.size)).trans (h.mono (hbw.trans (hb37.mono hbw.size)).size)).size)))
                clear HRG HRG2
                go_wp2_with fail
                refine wp_region_loose 14 3 (fun i => false) (promises [.is (.slice (some ⟨b1, o1 + p * 32, none⟩) 2 (d1 - p)), .is (.pointer (some ⟨b1, o1 + p * 32, none⟩)), .is (.agg XA), .is (.slice (some ⟨b1, o1 + p * 32, none⟩) 2 (d1 - p)), .is (.pointer (some ⟨b1, o1 + p * 32 + 32, none⟩)), .is (.agg XB), .bytes n1 tx1, .is (.slice (some ⟨b2, o2 + p * 32, none⟩) 2 (d2 - p)), .is (.pointer (some ⟨b2, o2 + p * 32, none⟩)), .is (.agg YA), .is (.slice (some ⟨b2, o2 + p * 32, none⟩) 2 (d2 - p)), .is (.pointer (some ⟨b2, o2 + p * 32 + 32, none⟩)), .is (.agg YB), .bytes n2 tx2]) (by kernel_rfl) rfl (by kernel_rfl) (fun i v w w' h hb => Spec.keep h hb) ⟨?_, ?_, ?_, ?_, ?_, ?_, ?_, ?_, ?_, ?_, ?_, ?_, ?_, ?_, trivial⟩ ?_
                · refine StepOKl.of ?_
                  intro ac w hb hu hk
                  refine ⟨wanted_none rfl, ?_⟩
                  have e8 : ac.eval (.tmp 8) = .slice (some ⟨b1, o1 + p * 32, none⟩) 2 (d1 - p) := hu.is (t := 8) (by kernel_rfl)
                  exact step_value (BigFrame.run_move (.tmp 8) rfl w) (Below.refl _ _) e8
                · refine StepOKl.of ?_
                  intro ac w hb hu hk
                  refine ⟨wanted_none rfl, ?_⟩
                  have e52 : ac.eval (.tmp 52) = (.slice (some ⟨b1, o1 + p * 32, none⟩) 2 (d1 - p)) := (hk ⟨0, .data⟩ (by simp) rfl).is rfl rfl
                  refine step_value (w' := w) (v := (.pointer (some ⟨b1, o1 + p * 32, none⟩))) ?_ (Below.refl _ _) rfl
                  have ec0 : ac.eval (.const (Value.int IntKind.i64 0)) = Value.int IntKind.i64 0 := rfl
                  generalize ac.eval = ρ at e52 ec0 ⊢
                  go_simp
                · refine StepOKl.of ?_
                  intro ac w hb hu hk
                  refine ⟨wanted_none rfl, ?_⟩
                  have e53 : ac.eval (.tmp 53) = (.pointer (some ⟨b1, o1 + p * 32, none⟩)) := (hk ⟨1, .data⟩ (by simp) rfl).is rfl rfl
                  refine step_value (w' := w) (v := .agg XA) (run_load_hash (.tmp 53) rfl b1 (o1 + p * 32) e53 xa HXAL.out (HRW.out w hb).1 HXA.out) (Below.refl _ _) rfl
                · refine StepOKl.of ?_
                  intro ac w hb hu hk
                  refine ⟨wanted_none rfl, ?_⟩
                  have e8 : ac.eval (.tmp 8) = .slice (some ⟨b1, o1 + p * 32, none⟩) 2 (d1 - p) := hu.is (t := 8) (by kernel_rfl)
                  exact step_value (BigFrame.run_move (.tmp 8) rfl w) (Below.refl _ _) e8
                · refine StepOKl.of ?_
                  intro ac w hb hu hk
                  refine ⟨wanted_none rfl, ?_⟩
                  have e55 : ac.eval (.tmp 55) = (.slice (some ⟨b1, o1 + p * 32, none⟩) 2 (d1 - p)) := (hk ⟨3, .data⟩ (by simp) rfl).is rfl rfl
                  refine step_value (w' := w) (v := (.pointer (some ⟨b1, o1 + p * 32 + 32, none⟩))) ?_ (Below.refl _ _) rfl
                  have ec0 : ac.eval (.const (Value.int IntKind.i64 1)) = Value.int IntKind.i64 1 := rfl
                  generalize ac.eval = ρ at e55 ec0 ⊢
                  go_simp
                · refine StepOKl.of ?_
                  intro ac w hb hu hk
                  refine ⟨wanted_none rfl, ?_⟩
                  have e56 : ac.eval (.tmp 56) = (.pointer (some ⟨b1, o1 + p * 32 + 32, none⟩)) := (hk ⟨4, .data⟩ (by simp) rfl).is rfl rfl
                  refine step_value (w' := w) (v := .agg XB) (run_load_hash (.tmp 56) rfl b1 (o1 + p * 32 + 32) e56 xb HXBL.out (HRW.out w hb).2.1 HXB.out) (Below.refl _ _) rfl
                · refine StepOKl.of ?_
                  intro ac w hb hu hk
                  refine ⟨wanted_none rfl, ?_⟩
                  have e54 : ac.eval (.tmp 54) = (.agg XA) := (hk ⟨2, .data⟩ (by simp) rfl).is rfl rfl
                  have e57 : ac.eval (.tmp 57) = (.agg XB) := (hk ⟨5, .data⟩ (by simp) rfl).is rfl rfl
                  have ef : ac.eval (.func 110) = .func (.func 110) #[] #[] := rfl
                  refine step_enter (f := 110) (args := #[.agg XA, .agg XB]) ?_ ?_
                  · generalize ac.eval = ρ at e54 e57 ef ⊢
                    go_simp
                  · exact (HT1.out w hb).mono fun e w' ⟨Z, zc, he, hz, hr, hq⟩ => ⟨_, he, ⟨Z, zc, rfl, hz, hr⟩, hq⟩
                · refine StepOKl.of ?_
                  intro ac w hb hu hk
                  refine ⟨wanted_none rfl, ?_⟩
                  have e9 : ac.eval (.tmp 9) = .slice (some ⟨b2, o2 + p * 32, none⟩) 2 (d2 - p) := hu.is (t := 9) (by kernel_rfl)
                  exact step_value (BigFrame.run_move (.tmp 9) rfl w) (Below.refl _ _) e9
                · refine StepOKl.of ?_
                  intro ac w hb hu hk
                  refine ⟨wanted_none rfl, ?_⟩
                  have e59 : ac.eval (.tmp 59) = (.slice (some ⟨b2, o2 + p * 32, none⟩) 2 (d2 - p)) := (hk ⟨7, .data⟩ (by simp) rfl).is rfl rfl
                  refine step_value (w' := w) (v := (.pointer (some ⟨b2, o2 + p * 32, none⟩))) ?_ (Below.refl _ _) rfl
                  have ec0 : ac.eval (.const (Value.int IntKind.i64 0)) = Value.int IntKind.i64 0 := rfl
                  generalize ac.eval = ρ at e59 ec0 ⊢
                  go_simp
                · refine StepOKl.of ?_
                  intro ac w hb hu hk
                  refine ⟨wanted_none rfl, ?_⟩
                  have e60 : ac.eval (.tmp 60) = (.pointer (some ⟨b2, o2 + p * 32, none⟩)) := (hk ⟨8, .data⟩ (by simp) rfl).is rfl rfl
                  refine step_value (w' := w) (v := .agg YA) (run_load_hash (.tmp 60) rfl b2 (o2 + p * 32) e60 ya HYAL.out (HRW.out w hb).2.2.1 HYA.out) (Below.refl _ _) rfl
                · refine StepOKl.of ?_
                  intro ac w hb hu hk
                  refine ⟨wanted_none rfl, ?_⟩
                  have e9 : ac.eval (.tmp 9) = .slice (some ⟨b2, o2 + p * 32, none⟩) 2 (d2 - p) := hu.is (t := 9) (by kernel_rfl)
                  exact step_value (BigFrame.run_move (.tmp 9) rfl w) (Below.refl _ _) e9
                · refine StepOKl.of ?_
                  intro ac w hb hu hk
                  refine ⟨wanted_none rfl, ?_⟩
                  have e62 : ac.eval (.tmp 62) = (.slice (some ⟨b2, o2 + p * 32, none⟩) 2 (d2 - p)) := (hk ⟨10, .data⟩ (by simp) rfl).is rfl rfl
                  refine step_value (w' := w) (v := (.pointer (some ⟨b2, o2 + p * 32 + 32, none⟩))) ?_ (Below.refl _ _) rfl
                  have ec0 : ac.eval (.const (Value.int IntKind.i64 1)) = Value.int IntKind.i64 1 := rfl
                  generalize ac.eval = ρ at e62 ec0 ⊢
                  go_simp
                · refine StepOKl.of ?_
                  intro ac w hb hu hk
                  refine ⟨wanted_none rfl, ?_⟩
                  have e63 : ac.eval (.tmp 63) = (.pointer (some ⟨b2, o2 + p * 32 + 32, none⟩)) := (hk ⟨11, .data⟩ (by simp) rfl).is rfl rfl
                  refine step_value (w' := w) (v := .agg YB) (run_load_hash (.tmp 63) rfl b2 (o2 + p * 32 + 32) e63 yb HYBL.out (HRW.out w hb).2.2.2 HYB.out) (Below.refl _ _) rfl
                · refine StepOKl.of ?_
                  intro ac w hb hu hk
                  refine ⟨wanted_none rfl, ?_⟩
                  have e61 : ac.eval (.tmp 61) = (.agg YA) := (hk ⟨9, .data⟩ (by simp) rfl).is rfl rfl
                  have e64 : ac.eval (.tmp 64) = (.agg YB) := (hk ⟨12, .data⟩ (by simp) rfl).is rfl rfl
                  have ef : ac.eval (.func 110) = .func (.func 110) #[] #[] := rfl
                  refine step_enter (f := 110) (args := #[.agg YA, .agg YB]) ?_ ?_
                  · generalize ac.eval = ρ at e61 e64 ef ⊢
                    go_simp
                  · exact (HT2.out w hb).mono fun e w' ⟨Z, zc, he, hz, hr, hq⟩ => ⟨_, he, ⟨Z, zc, rfl, hz, hr⟩, hq⟩
                · intro ac w' hb hu hk hap
                  obtain ⟨_, h52, rfl⟩ := (hk 0 (by decide)).put rfl rfl
                  obtain ⟨_, h53, rfl⟩ := (hk 1 (by decide)).put rfl rfl
                  obtain ⟨_, h54, rfl⟩ := (hk 2 (by decide)).put rfl rfl
                  obtain ⟨_, h55, rfl⟩ := (hk 3 (by decide)).put rfl rfl
                  obtain ⟨_, h56, rfl⟩ := (hk 4 (by decide)).put rfl rfl
                  obtain ⟨_, h57, rfl⟩ := (hk 5 (by decide)).put rfl rfl
                  obtain ⟨_, h58, ⟨X58, xc58, rfl, hxc58, hX58⟩⟩ := (hk 6 (by decide)).put rfl rfl
                  obtain ⟨_, h59, rfl⟩ := (hk 7 (by decide)).put rfl rfl
                  obtain ⟨_, h60, rfl⟩ := (hk 8 (by decide)).put rfl rfl
                  obtain ⟨_, h61, rfl⟩ := (hk 9 (by decide)).put rfl rfl
                  obtain ⟨_, h62, rfl⟩ := (hk 10 (by decide)).put rfl rfl
                  obtain ⟨_, h63, rfl⟩ := (hk 11 (by decide)).put rfl rfl
                  obtain ⟨_, h64, rfl⟩ := (hk 12 (by decide)).put rfl rfl
                  obtain ⟨_, h65, ⟨X65, xc65, rfl, hxc65, hX65⟩⟩ := (hk 13 (by decide)).put rfl rfl
                  clear hap
                  have hF : AllPuts ac.tmps ((52, _) :: (53, _) :: (54, _) :: (55, _) :: (56, _) :: (57, _) :: (58, _) :: (59, _) :: (60, _) :: (61, _) :: (62, _) :: (63, _) :: (64, _) :: (65, _) :: []) := ⟨h52, h53, h54, h55, h56, h57, h58, h59, h60, h61, h62, h63, h64, h65, trivial⟩
                  obtain rfl := frame_puts hu (by kernel_rfl) hF
                  simp only [puts, Act.put, List.setIfInBounds_toArray, List.set_cons_zero, List.set_cons_succ, List.drop_succ_cons, List.drop_zero]
                  clear hk hu hF h52 h53 h54 h55 h56 h57 h58 h59 h60 h61 h62 h63 h64 h65
                  have hqw : Below wu.heap.size wu w' := hb37.trans (hb.mono hb37.size)
                  have h43 := H4q.out.below hqw H4q.out.lt
                  have hc0 := h43.cell 0
                  have hc1 := h43.cell 1
                  have hf0 := h43.frozen 0
                  have hf1 := h43.frozen 1
                  simp at hc0 hc1
                  have HTX1 := Lib.hid (show TV w' (.slice X58 n1 xc58) tx1 from ⟨X58, xc58, by rw [HNN.out.1], by rw [HNN.out.1]; exact hxc58, hX58⟩)
                  have HTX2 := Lib.hid (show TV w' (.slice X65 n2 xc65) tx2 from ⟨X65, xc65, by rw [HNN.out.2], by rw [HNN.out.2]; exact hxc65, hX65⟩)
                  have hbw3 := hbw.trans (hqw.mono hbw.size)
                  have H43 := Lib.hid h43
                  clear hqw h43 hb HRW HT1 HT2 hbu hcs1 hct1 hX58 hxc58 hX65 hxc65
                  go_wp2_with fail
                  refine bodyPost_ret (v := .tuple #[.agg #[.slice X58 n1 xc58, .slice X65 n2 xc65], .bool true]) (results_cell_tmp (p := 4) (q := 5) (ty := 41) (by kernel_rfl) _ _ g4 41 _ (0, 0) _ (.bool true) rfl rfl ((H43.out.set 0 _).set 1 _) Tryd.underlying41 rfl (by kernel_rfl)) rfl
                    (brk_said (r := clashV N ls ks) (by rw [HHT.out]; exact HTX1.out) (by rw [HHT.out]; exact HTX2.out) H43.out hbw3 HG4.out (by rw [HHT.out]; rfl))
              · have HD2 := Lib.hid (HNX.out hD)
                have hb03 : Below wu.heap.size wu w7 := hbu.trans (hb27.mono hbu.size)
                clear hD hb27 HNX HHIT hbu hcs1 hct1
                go_wp2_with fail
                go_roundw
                case rel => exact ⟨i + 1, p + 2, hlt, by go_num, Lib.hid (by rw [HP.out]; omega), HD2, hb03⟩
                case measure => simp [intOf]; omega
          · have hpq : ¬ (p : Int) < (q : Int) := by omega
            have hie : i = hf := by omega
            have HSK4 := Lib.hid (show clashV N ls ks = seekUn v ls ks by
              rw [HSK2.out, un_no (fun x hx => HNO.out x (by rw [List.take_of_length_le (by rw [HZL.out]; omega)]; exact hx)), Option.none_or])
            have hbq2 : Below w3.heap.size w3 wr := hbq.trans (hbu.mono hbq.size)
            clear hpi hie HNO HSK2 hbu hlt
            go_wp2_with fail
            go_roundw
            case rel => exact ⟨_, v, rfl, by omega, by omega, HSK4, hbq2⟩
            case measure => simp [intOf]
  · have heq := fun W => (HEQX.out W).trans (by rw [decide_eq_false hxy])
    have HV0 := Lib.hid (show clashV N ls ks = none by rw [HCV.out, if_neg hxy])
    clear HEQX HCV hxy
    go_wp2_with fail
    with_reducible refine (HTB2.out).mono ?_
    rintro e w3 ⟨rfl, hb3⟩
    have HB43 := Lib.hid (HB42.out.below hb3 HB42.out.lt)
    have HBW := Lib.hid (HW2.out.trans (hb3.mono HW2.out.size))
    clear hb3 HA2 HB2 HB42 HW2 HTB2
    obtain ⟨g4, hg4⟩ : ∃ g, w.heap.size = g := ⟨_, rfl⟩
    have HG4 := Lib.hid (show w.heap.size ≤ g4 by omega)
    rw [hg4] at HB43 ⊢
    clear hg4
    have H4w := HB43
    have hc0 := H4w.out.cell 0
    have hc1 := H4w.out.cell 1
    have hf0 := H4w.out.frozen 0
    have hf1 := H4w.out.frozen 1
    simp at hc0 hc1
    go_wp2_with fail
    refine bodyPost_ret (v := .tuple #[.agg #[.slice none 0 0, .slice none 0 0], .bool false]) (results_cell_tmp (p := 4) (q := 5) (ty := 41) (by kernel_rfl) _ _ g4 41 _ (0, 0) _ (.bool false) rfl rfl ((H4w.out.set 0 _).set 1 _) Tryd.underlying41 rfl (by kernel_rfl)) rfl
      (brk_said (r := clashV N ls ks) (by rw [HV0.out]; exact TV.nil _) (by rw [HV0.out]; exact TV.nil _) H4w.out HBW.out HG4.out (by rw [HV0.out]; rfl))
end Go.Proofs.YtfgieebccjoboaaDoor
namespace Go.Proofs.YtfgieebccjoboaaDoor
open Go.RowKit

theorem wayL_row : ∀ (p : List (List UInt8)) (i : Nat) (a : List UInt8) (j : Nat), j < p.length → ((wayL i a p).getD j []).length = 2
  | [], _, _, _, h => by simp at h
  | x :: p, i, a, 0, _ => by
    show (pairW i a x).length = 2
    unfold pairW
    by_cases h : i % 2 = 1
    · rw [if_pos h]; rfl
    · rw [if_neg h]; rfl
  | x :: p, i, a, k + 1, h => wayL_row p (i / 2) (shaL (tree.text nodeT i a x)) k (by simpa using h)
set_option maxRecDepth 100000 in
set_option maxHeartbeats 8000000 in
theorem pbreakby_any (n i : Int) (a b : List UInt8) (A B : Option Addr) (m l c d : Nat) (p q : List (List UInt8)) (w : World) (hm : p.length = m) (hl : q.length = l) (h1 : m ≤ 1024) (h2 : l ≤ 1024) (ha : a.length = 32) (hb : b.length = 32) (hpl : ∀ r ∈ p, r.length = 32) (hql : ∀ r ∈ q, r.length = 32)
    (hp : RdH w w.heap.size A p) (hq : RdH w w.heap.size B q) (htab : Pow10 w.heap.size w) :
    Calls Tryd.prog 114 #[.func (.func 76) #[] #[], .int .i64 n, .int .i64 i, .agg (u8A a), .agg (u8A b), .slice A m c, .slice B l d] w (BrkSaid w (brkV n i a b p q)) := by
  obtain ⟨X, hX⟩ : ∃ X, u8A a = X := ⟨_, rfl⟩
  obtain ⟨Y, hY⟩ : ∃ X, u8A b = X := ⟨_, rfl⟩
  have HX := Lib.hid hX
  have HY := Lib.hid hY
  have HXL := Lib.hid ha
  have HYL := Lib.hid hb
  have HM := Lib.hid hm
  have HL := Lib.hid hl
  have HT := Lib.hid htab
  rw [hX, hY]
  have HN1 := Lib.hid (fun W (hno : ¬ climbOK n i p.length) => (show Calls Tryd.prog 112 #[.func (.func 76) #[] #[], .int .i64 n, .int .i64 i, .agg X, .slice A m c] W fun e w' => e = .returned (.tuple #[.slice none 0 0, .bool false]) ∧ Below W.heap.size W w' from by
    rw [← hX]
    exact pway_no n i a A m c p W hm hno))
  have HN2 := Lib.hid (fun W (hno : ¬ climbOK n i q.length) => (show Calls Tryd.prog 112 #[.func (.func 76) #[] #[], .int .i64 n, .int .i64 i, .agg Y, .slice B l d] W fun e w' => e = .returned (.tuple #[.slice none 0 0, .bool false]) ∧ Below W.heap.size W w' from by
    rw [← hY]
    exact pway_no n i b B l d q W hl hno))
  have HY1 := Lib.hid (fun W (h : Below w.heap.size w W) (hok : climbOK n i p.length) => (show Calls Tryd.prog 112 #[.func (.func 76) #[] #[], .int .i64 n, .int .i64 i, .agg X, .slice A m c] W fun e w' => ∃ v, e = .returned (.tuple #[v, .bool true]) ∧ RL w' W.heap.size v (wayL i.toNat a p) ∧ Below W.heap.size W w' from by
    rw [← hX]
    exact pway_yes n i a A m c p W hm h1 ha hpl ((hp.below h (Nat.le_refl _)).more h.size) (tab_on htab h h.size) hok))
  have HY2 := Lib.hid (fun W (h : Below w.heap.size w W) (hok : climbOK n i q.length) => (show Calls Tryd.prog 112 #[.func (.func 76) #[] #[], .int .i64 n, .int .i64 i, .agg Y, .slice B l d] W fun e w' => ∃ v, e = .returned (.tuple #[v, .bool true]) ∧ RL w' W.heap.size v (wayL i.toNat b q) ∧ Below W.heap.size W w' from by
    rw [← hY]
    exact pway_yes n i b B l d q W hl h2 hb hql ((hq.below h (Nat.le_refl _)).more h.size) (tab_on htab h h.size) hok))
  have HW1 := Lib.hid (show (wayL i.toNat a p).length = m + 1 by rw [wayL_len, hm])
  have HW2 := Lib.hid (show (wayL i.toNat b q).length = l + 1 by rw [wayL_len, hl])
  clear hX hY ha hb hm hl hpl hql hp hq htab
  go_enter Tryd.func114, Tryd.ntmps114
  go_upto_region 1 with fail
  generalize hw3 : World.alloc _ _ = w3
  obtain ⟨g10, hg10⟩ : ∃ g, w.heap.size = g := ⟨_, rfl⟩
  obtain ⟨g11, hg11⟩ : ∃ g, w.heap.size + 1 = g := ⟨_, rfl⟩
  obtain ⟨g14, hg14⟩ : ∃ g, w.heap.size + 1 + 1 = g := ⟨_, rfl⟩
  have hf : Blk w3 g10 X 29 ∧ Blk w3 g11 Y 29 ∧ Blk w3 g14 #[.slice none 0 0, .slice none 0 0] 41 ∧ Below w.heap.size w w3 := by
    have e1 : (w.alloc (.cells X 29)).heap.size = w.heap.size + 1 := by simp
    have e2 : ((w.alloc (.cells X 29)).alloc (.cells Y 29)).heap.size = w.heap.size + 1 + 1 := by simp
    rw [← hw3, ← hg10, ← hg11, ← hg14]
    refine ⟨((Blk.new w _ _).alloc _).alloc _, ?_, ?_, (((Below.refl _ _).alloc (Nat.le_refl _) _).alloc (by simp) _).alloc (by simp; omega) _⟩
    · rw [← e1]; exact (Blk.new _ _ _).alloc _
    · rw [← e2]; exact Blk.new _ _ _
  have HRX := Lib.hid (range_of_blk (l := a) (by rw [HX.out]; exact hf.1))
  have HBY := Lib.hid (show Blk w3 g11 (u8A b) 29 by rw [HY.out]; exact hf.2.1)
  have HB14 := Lib.hid hf.2.2.1
  have HB3 := Lib.hid hf.2.2.2
  have HG := Lib.hid (show w.heap.size ≤ g14 by omega)
  clear hf hw3
  rw [hg14, hg11, hg10]
  clear hg14 hg11 hg10
  by_cases k1 : climbOK n i p.length
  · have HC1 := Lib.hid (HY1.out w3 HB3.out k1)
    have K1 := Lib.hid k1
    clear HN1 HY1 k1
    go_wp2_with (with_reducible refine wpList_load_hash rfl (.tmp 10) rfl g10 0 rfl a HXL.out HRX.out X HX.out ?_)
    with_reducible refine (HC1.out).mono ?_
    rintro e w4 ⟨v4, rfl, hrl4, hb4⟩
    obtain ⟨A4, c4, rfl, _, _⟩ := hrl4.form HW1.out
    have HR4 := Lib.hid hrl4
    have HB4 := Lib.hid (HB3.out.trans (hb4.mono HB3.out.size))
    have HB144 := Lib.hid (HB14.out.below hb4 HB14.out.lt)
    have HRY := Lib.hid (range_of_blk (HBY.out.below hb4 HBY.out.lt))
    clear hrl4 hb4 HC1 HB14 HB3 HBY HRX
    by_cases k2 : climbOK n i q.length
    · have HC2 := Lib.hid (HY2.out w4 HB4.out k2)
      have HML := Lib.hid (show l = m by
        have e1 := K1.out.2.2.2
        have e2 := k2.2.2.2
        have e3 := HM.out
        have e4 := HL.out
        omega)
      have hm8 : m ≤ 8 := by
        have e := K1.out.2.2.2
        have e2 := tree.high_least 8 n.toNat (show n.toNat ≤ 2 ^ 8 by have := K1.out.2.2.1; omega)
        have e3 := HM.out
        omega
      have HCV := Lib.hid (show clashV m (wayL i.toNat a p) (wayL i.toNat b q) = brkV n i a b p q by rw [← HM.out]; exact clash_way K1.out k2)
      clear HN2 HY2 k2
      go_wp2_with (with_reducible refine wpList_load_hash rfl (.tmp 11) rfl g11 0 rfl b HYL.out HRY.out Y HY.out ?_)
      with_reducible refine (HC2.out).mono ?_
      rintro e w5 ⟨v5, rfl, hrl5, hb5⟩
      obtain ⟨A5, c5, rfl, _, _⟩ := hrl5.form HW2.out
      have hb05 := HB4.out.trans (hb5.mono HB4.out.size)
      have HB5 := Lib.hid hb05
      have HB145 := Lib.hid (HB144.out.below hb5 HB144.out.lt)
      have HCL := Lib.hid (show Calls Tryd.prog 131 #[.slice A4 (m + 1) c4, .slice A5 (l + 1) c5] w5 (BrkSaid w5 (brkV n i a b p q)) by
        rw [← HCV.out]
        exact pclash_any (N := m) (HR4.out.on hb5) hrl5 HW1.out (by rw [HW2.out, HML.out]) (by omega)
          (fun j hj => by
            rw [wayL_row p i.toNat a j (by rw [HM.out]; exact hj), wayL_row q i.toNat b j (by rw [HL.out, HML.out]; exact hj)]
            omega)
          (by rw [← HM.out]; exact wayL_top_len _ _ _) (by rw [← HML.out, ← HL.out]; exact wayL_top_len _ _ _) (tab_on HT.out hb05 hb05.size))
      clear hrl5 hb5 hb05 HC2 HB144 HB4 HRY HR4 HCV
      go_wp2_with fail
      with_reducible refine (HCL.out).mono ?_
      rintro e w6 ⟨A6, B6, rfl, hA6, hB6, hb6⟩
      have HE := Lib.hid (HB145.out.below hb6 HB145.out.lt)
      have HBE := Lib.hid (HB5.out.trans (hb6.mono HB5.out.size))
      obtain ⟨X6, x6, rfl, hx1, hx2⟩ := id hA6
      obtain ⟨Y6, y6, rfl, hy1, hy2⟩ := id hB6
      have HA6 := Lib.hid hA6
      have HB6 := Lib.hid hB6
      clear hA6 hB6 hx1 hx2 hy1 hy2 hb6 HCL HB145 HB5
      generalize brkV n i a b p q = r at *
      generalize (r.getD ([], [])).1.length = n1 at *
      generalize (r.getD ([], [])).2.length = n2 at *
      obtain ⟨k, hk⟩ : ∃ k, r.isSome = k := ⟨_, rfl⟩
      have HK := Lib.hid hk
      rw [hk]
      clear hk
      have hc0 := HE.out.cell 0
      have hc1 := HE.out.cell 1
      have hf0 := HE.out.frozen 0
      have hf1 := HE.out.frozen 1
      simp at hc0 hc1
      go_wp2_with fail
      refine bodyPost_ret (v := .tuple #[.agg #[.slice X6 n1 x6, .slice Y6 n2 y6], .bool k]) (results_cell_tmp (p := 14) (q := 15) (ty := 41) (by kernel_rfl) _ _ g14 41 _ (0, 0) _ (.bool k) rfl rfl ((HE.out.set 0 _).set 1 _) Tryd.underlying41 rfl (by kernel_rfl)) rfl
        (brk_said (r := r) HA6.out HB6.out HE.out HBE.out HG.out HK.out)
    · have HC2 := Lib.hid (HN2.out w4 k2)
      have HV0 := Lib.hid (show brkV n i a b p q = none from if_neg (fun h => k2 h.2.1))
      clear HN2 HY2 k2
      go_wp2_with (with_reducible refine wpList_load_hash rfl (.tmp 11) rfl g11 0 rfl b HYL.out HRY.out Y HY.out ?_)
      with_reducible refine (HC2.out).mono ?_
      rintro e w5 ⟨rfl, hb5⟩
      have HE := Lib.hid (HB144.out.below hb5 HB144.out.lt)
      have HBE := Lib.hid (HB4.out.trans (hb5.mono HB4.out.size))
      clear hb5 HC2 HB144 HB4 HRY HR4
      have hc0 := HE.out.cell 0
      have hc1 := HE.out.cell 1
      have hf0 := HE.out.frozen 0
      have hf1 := HE.out.frozen 1
      simp at hc0 hc1
      go_wp2_with fail
      refine bodyPost_ret (v := .tuple #[.agg #[.slice none 0 0, .slice none 0 0], .bool false]) (results_cell_tmp (p := 14) (q := 15) (ty := 41) (by kernel_rfl) _ _ g14 41 _ (0, 0) _ (.bool false) rfl rfl ((HE.out.set 0 _).set 1 _) Tryd.underlying41 rfl (by kernel_rfl)) rfl
        (brk_said (r := brkV n i a b p q) (by rw [HV0.out]; exact TV.nil _) (by rw [HV0.out]; exact TV.nil _) HE.out HBE.out HG.out (by rw [HV0.out]; rfl))
  · have HC1 := Lib.hid (HN1.out w3 k1)
    have HV0 := Lib.hid (show brkV n i a b p q = none from if_neg (fun h => k1 h.1))
    clear HN1 HY1 HN2 HY2 k1
    go_wp2_with (with_reducible refine wpList_load_hash rfl (.tmp 10) rfl g10 0 rfl a HXL.out HRX.out X HX.out ?_)
    with_reducible refine (HC1.out).mono ?_
    rintro e w4 ⟨rfl, hb4⟩
    have HE := Lib.hid (HB14.out.below hb4 HB14.out.lt)
    have HBE := Lib.hid (HB3.out.trans (hb4.mono HB3.out.size))
    clear hb4 HC1 HB14 HB3 HBY HRX
    have hc0 := HE.out.cell 0
    have hc1 := HE.out.cell 1
    have hf0 := HE.out.frozen 0
    have hf1 := HE.out.frozen 1
    simp at hc0 hc1
    go_wp2_with fail
    refine bodyPost_ret (v := .tuple #[.agg #[.slice none 0 0, .slice none 0 0], .bool false]) (results_cell_tmp (p := 14) (q := 15) (ty := 41) (by kernel_rfl) _ _ g14 41 _ (0, 0) _ (.bool false) rfl rfl ((HE.out.set 0 _).set 1 _) Tryd.underlying41 rfl (by kernel_rfl)) rfl
      (brk_said (r := brkV n i a b p q) (by rw [HV0.out]; exact TV.nil _) (by rw [HV0.out]; exact TV.nil _) HE.out HBE.out HG.out (by rw [HV0.out]; rfl))
set_option maxRecDepth 100000 in
set_option maxHeartbeats 8000000 in
theorem pbreak_any (n i : Int) (a b : List UInt8) (A B : Option Addr) (m l c d : Nat) (p q : List (List UInt8)) (w : World) (hm : p.length = m) (hl : q.length = l) (h1 : m ≤ 1024) (h2 : l ≤ 1024) (ha : a.length = 32) (hb : b.length = 32) (hpl : ∀ r ∈ p, r.length = 32) (hql : ∀ r ∈ q, r.length = 32)
    (hp : RdH w w.heap.size A p) (hq : RdH w w.heap.size B q) (htab : Pow10 w.heap.size w) :
    Calls Tryd.prog 82 #[.int .i64 n, .int .i64 i, .agg (u8A a), .agg (u8A b), .slice A m c, .slice B l d] w (BrkSaid w (brkV n i a b p q)) := by
  obtain ⟨X, hX⟩ : ∃ X, u8A a = X := ⟨_, rfl⟩
  obtain ⟨Y, hY⟩ : ∃ X, u8A b = X := ⟨_, rfl⟩
  have HX := Lib.hid hX
  have HY := Lib.hid hY
  have HXL := Lib.hid ha
  have HYL := Lib.hid hb
  have HCL := Lib.hid (fun W (h : Below w.heap.size w W) => (show Calls Tryd.prog 114 #[.func (.func 76) #[] #[], .int .i64 n, .int .i64 i, .agg X, .agg Y, .slice A m c, .slice B l d] W (BrkSaid W (brkV n i a b p q)) from by
    rw [← hX, ← hY]
    exact pbreakby_any n i a b A B m l c d p q W hm hl h1 h2 ha hb hpl hql ((hp.below h (Nat.le_refl _)).more h.size) ((hq.below h (Nat.le_refl _)).more h.size) (tab_on htab h h.size)))
  rw [hX, hY]
  clear hX hY ha hb hm hl hpl hql hp hq htab h1 h2
  generalize brkV n i a b p q = r at *
  go_enter Tryd.func82, Tryd.ntmps82
  go_upto_region 1 with fail
  generalize hw3 : World.alloc _ _ = w3
  obtain ⟨g8, hg8⟩ : ∃ g, w.heap.size = g := ⟨_, rfl⟩
  obtain ⟨g9, hg9⟩ : ∃ g, w.heap.size + 1 = g := ⟨_, rfl⟩
  obtain ⟨g12, hg12⟩ : ∃ g, w.heap.size + 1 + 1 = g := ⟨_, rfl⟩
  have hf : Blk w3 g8 X 29 ∧ Blk w3 g9 Y 29 ∧ Blk w3 g12 #[.slice none 0 0, .slice none 0 0] 41 ∧ Below w.heap.size w w3 := by
    have e1 : (w.alloc (.cells X 29)).heap.size = w.heap.size + 1 := by simp
    have e2 : ((w.alloc (.cells X 29)).alloc (.cells Y 29)).heap.size = w.heap.size + 1 + 1 := by simp
    rw [← hw3, ← hg8, ← hg9, ← hg12]
    refine ⟨((Blk.new w _ _).alloc _).alloc _, ?_, ?_, (((Below.refl _ _).alloc (Nat.le_refl _) _).alloc (by simp) _).alloc (by simp; omega) _⟩
    · rw [← e1]; exact (Blk.new _ _ _).alloc _
    · rw [← e2]; exact Blk.new _ _ _
  have HRX := Lib.hid (range_of_blk (l := a) (by rw [HX.out]; exact hf.1))
  have HRY := Lib.hid (range_of_blk (l := b) (by rw [HY.out]; exact hf.2.1))
  have HB12 := Lib.hid hf.2.2.1
  have HB3 := Lib.hid hf.2.2.2
  have HG := Lib.hid (show w.heap.size ≤ g12 by omega)
  have HC3 := Lib.hid (HCL.out w3 hf.2.2.2)
  clear hf hw3 HCL
  rw [hg12, hg9, hg8]
  clear hg12 hg9 hg8
  go_wp2_with (first
    | (with_reducible refine wpList_load_hash rfl (.tmp 8) rfl g8 0 rfl a HXL.out HRX.out X HX.out ?_)
    | (with_reducible refine wpList_load_hash rfl (.tmp 9) rfl g9 0 rfl b HYL.out HRY.out Y HY.out ?_))
  with_reducible refine (HC3.out).mono ?_
  rintro e w6 ⟨A6, B6, rfl, hA6, hB6, hb6⟩
  have HE := Lib.hid (HB12.out.below hb6 HB12.out.lt)
  have HBE := Lib.hid (HB3.out.trans (hb6.mono HB3.out.size))
  obtain ⟨X6, x6, rfl, hx1, hx2⟩ := id hA6
  obtain ⟨Y6, y6, rfl, hy1, hy2⟩ := id hB6
  have HA6 := Lib.hid hA6
  have HB6 := Lib.hid hB6
  clear hA6 hB6 hx1 hx2 hy1 hy2 hb6 HC3 HB12 HB3 HRX HRY
  generalize (r.getD ([], [])).1.length = n1 at *
  generalize (r.getD ([], [])).2.length = n2 at *
  obtain ⟨k, hk⟩ : ∃ k, r.isSome = k := ⟨_, rfl⟩
  have HK := Lib.hid hk
  rw [hk]
  clear hk
  have hc0 := HE.out.cell 0
  have hc1 := HE.out.cell 1
  have hf0 := HE.out.frozen 0
  have hf1 := HE.out.frozen 1
  simp at hc0 hc1
  go_wp2_with fail
  refine bodyPost_ret (v := .tuple #[.agg #[.slice X6 n1 x6, .slice Y6 n2 y6], .bool k]) (results_cell_tmp (p := 12) (q := 13) (ty := 41) (by kernel_rfl) _ _ g12 41 _ (0, 0) _ (.bool k) rfl rfl ((HE.out.set 0 _).set 1 _) Tryd.underlying41 rfl (by kernel_rfl)) rfl
    (brk_said (r := r) HA6.out HB6.out HE.out HBE.out HG.out HK.out)
end Go.Proofs.YtfgieebccjoboaaDoor
namespace Go.Proofs.YtfgieebccjoboaaDoor
open Go.RowKit

theorem levL_getD {K j : Nat} (T : List (List UInt8)) (h : j ≤ K) : (levL K T).getD j [] = upNH j T := by
  have hj : j < (levL K T).length := by rw [levL_len]; omega
  rw [show (levL K T).getD j [] = (levL K T)[j] by simp [List.getD_eq_getElem?_getD, hj], levL_at T hj]
theorem levL_rows {K : Nat} {R S : List (List UInt8)} (hR : R.length = 2 ^ K) (hS : S.length = 2 ^ K) (h : 2 ^ K ≤ 1024) : ∀ j, j < K → ((levL K R).getD j []).length = ((levL K S).getD j []).length ∧ ((levL K R).getD j []).length % 2 = 0 ∧ ((levL K R).getD j []).length ≤ 1024 := fun j hj => by
  rw [levL_getD R (by omega), levL_getD S (by omega), upNH_len, upNH_len, hR, hS]
  refine ⟨rfl, ?_, Nat.le_trans (Nat.div_le_self _ _) h⟩
  rw [Nat.pow_div (by omega) (by omega), show K - j = K - (j + 1) + 1 by omega, Nat.pow_succ]
  omega
end Go.Proofs.YtfgieebccjoboaaDoor
