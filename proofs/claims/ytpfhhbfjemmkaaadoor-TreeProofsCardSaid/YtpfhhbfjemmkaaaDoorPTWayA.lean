/- The program's tree of hashes: the hashes beside a leaf's way. Two hashes turned round where they lie. Rows of rows of hashes, all from a block of the call's own on; two hashes in a slice; a way as pairs. The program's tree of hashes: the way from a leaf up. -/
import Derived.Test.YtpfhhbfjemmkaaaDoorPTLev
import Derived.Test.YtpfhhbfjemmkaaaDoorRTMay
import Derived.Test.YtpfhhbfjemmkaaaDoorPTOwn
import Derived.Test.YtpfhhbfjemmkaaaDoorTreeC
import Derived.RegionTactic
namespace Go.Proofs.YtpfhhbfjemmkaaaDoor
open Go.RowKit

set_option maxHeartbeats 2000000 in
theorem pproof_no (i : Int) (A : Option Addr) (n c : Nat) (w : World) (h : i < 0 ∨ (n : Int) ≤ i) :
    Calls Tryd.prog 15 #[.int .i64 i, .slice A n c] w fun e w' => e = .returned (.tuple #[.slice none 0 0, .int .i64 1]) ∧ Below w.heap.size w w' := by
  by_cases h0 : i < 0
  · clear h
    go_enter Tryd.func15, Tryd.ntmps15
    go_wp2_with fail
    go_ret2
    exact ⟨rfl, Below.refl _ _⟩
  · have h2 : (n : Int) ≤ i := by omega
    clear h
    go_enter Tryd.func15, Tryd.ntmps15
    go_wp2_with fail
    go_ret2
    exact ⟨rfl, Below.refl _ _⟩
set_option maxRecDepth 100000 in
set_option maxHeartbeats 8000000 in
theorem pproof_yes (A : Option Addr) (n c i : Nat) (hs : List (List UInt8)) (w : World) (hn : hs.length = n) (h1 : n ≤ 1024) (hi : i < n) (hl : ∀ r ∈ hs, r.length = 32) (hr : RdH w w.heap.size A hs) (htab : Pow10 w.heap.size w) :
    Calls Tryd.prog 15 #[.int .i64 (i : Int), .slice A n c] w fun e w' => ∃ v, e = .returned (.tuple #[v, .int .i64 0]) ∧ OwnH w' w.heap.size v (proofV hs i) ∧ Below w.heap.size w w' := by
  obtain ⟨K, hK⟩ : ∃ K, tree.high n = K := ⟨_, rfl⟩
  have hk10 : K ≤ 10 := by rw [← hK]; exact tree.high_least 10 n (by simpa using h1)
  have HLV := Lib.hid (show Calls Tryd.prog 40 #[.func (.func 26) #[] #[], .slice A n c] w fun e w' => ∃ v, e = .returned v ∧ RL w' w.heap.size v (levL K (rowH hs)) ∧ Below w.heap.size w w' by
    rw [← hK]
    exact plevels_any A n c hs w hn h1 hl hr htab)
  have hp1 : 2 ^ K ≤ 1024 := by rw [← hK]; exact high_small h1
  have HIK := Lib.hid (show i < 2 ^ K by
    have := tree.high_le n
    rw [hK] at this
    omega)
  have HRL := Lib.hid (show (rowH hs).length = 2 ^ K by rw [rowH_len, hn, hK])
  have HPV := Lib.hid (show proofV hs i = proofH K i (rowH hs) by unfold proofV; rw [hn, hK])
  rw [HPV.out]
  generalize rowH hs = R at *
  have hi0 : ¬ (i : Int) < 0 := by omega
  have hin : (i : Int) < (n : Int) := by omega
  clear hn hl hr htab hK HPV
  go_enter Tryd.func15, Tryd.ntmps15
  go_wp2_with fail
  with_reducible refine (HLV.out).mono ?_
  rintro e w2 ⟨v2, rfl, hrl2, hb2⟩
  obtain ⟨A2, c2, rfl, hc2, hcm2⟩ := hrl2.form (levL_len K R)
  obtain ⟨b2, rfl⟩ := RL.some hrl2 (by rw [levL_len]; omega)
  have HR2 := Lib.hid hrl2
  have HB2 := Lib.hid hb2
  have hw02 := hb2.size
  obtain ⟨N, hN⟩ : ∃ N, K + 1 = N := ⟨_, rfl⟩
  have hNK : (N : Int) - 1 = (K : Int) := by omega
  have hKc : (K : Int) ≤ (c2 : Int) := by omega
  have hK0 : (0 : Int) ≤ (K : Int) := by omega
  have hcm3 : (c2 : Int) ≤ 9223372036854775807 := by unfold maxLen at hcm2; omega
  rw [hN] at HR2 ⊢
  clear hrl2 hb2 HLV hN hc2
  go_wp2_with fail
  go_loopw [0, 7, 26] (fun t o v wr => ∃ j p : Nat, j ≤ K ∧ Hid (p = i / 2 ^ j) ∧ Hid (OwnH wr w2.heap.size o (proofH j i R)) ∧ t = .int .i64 (p : Int) ∧ v = .int .i64 (j : Int) ∧ Hid (Below w2.heap.size w2 wr)) (fun _ _ v _ => K - (intOf v).toNat)
  case atStart => exact ⟨0, i, Nat.zero_le _, Lib.hid (by simp), Lib.hid (OwnH.nil _ _), rfl, rfl, Lib.hid (Below.refl _ _)⟩
  case round =>
    obtain ⟨j, p, hjk, HP, HO, rfl, rfl, HBW⟩ := hrel
    by_cases hlt : j < K
    · have hji : (j : Int) < (K : Int) := by omega
      have HR3 := HR2.out.on HBW.out
      have hjl : j < (levL K R).length := by rw [levL_len]; omega
      obtain ⟨_, X, d, hcell, hv⟩ := HR3.at_ hjl
      rw [levL_at R hjl] at hcell hv
      obtain ⟨m, hm⟩ : ∃ m, (upNH j R).length = m := ⟨_, rfl⟩
      have HM := Lib.hid (show m = 2 ^ (K - j) by rw [← hm, upNH_len, HRL.out, Nat.pow_div hjk (by omega)])
      rw [hm] at hcell hv
      rw [Nat.zero_add] at hcell
      have hm1 : m ≤ 1024 := by
        rw [HM.out]
        exact Nat.le_trans (Nat.pow_le_pow_right (by omega) (Nat.sub_le K j)) hp1
      have HME := Lib.hid (show m % 2 = 0 by rw [HM.out, show K - j = K - (j + 1) + 1 by omega, Nat.pow_succ]; omega)
      have hpm : p < m := by
        rw [HP.out, HM.out, Nat.div_lt_iff_lt_mul (Nat.pow_pos (by omega)), ← Nat.pow_add, show K - j + j = K by omega]
        exact HIK.out
      obtain ⟨q, hq⟩ : ∃ q, tree.beside p = q := ⟨_, rfl⟩
      have hqm : q < m := by rw [← hq]; exact beside_lt hpm HME.out
      obtain ⟨b, off, rfl, hbw, hra, hl0⟩ := hv.at_ (i := q) hqm
      have HSN := Lib.hid (proofH_snoc j i R)
      rw [← HP.out, hq] at HSN
      obtain ⟨O3, d3, rfl, _, _⟩ := HO.out.form (proofH_len j i R)
      obtain ⟨wo, rfl⟩ : ∃ y : World, y = wr := ⟨_, rfl⟩
      have hp0 : (0 : Int) ≤ (p : Int) := by omega
      have hpi : (p : Int) < (m : Int) := by omega
      have hqi : (q : Int) < (m : Int) := by omega
      have hxor : bits BinOp.xor IntKind.i64 (p : Int) 1 = (q : Int) := by rw [xor_one (by omega), hq]
      have HP2 := Lib.hid (show p / 2 = i / 2 ^ (j + 1) by rw [HP.out, Nat.pow_succ, Nat.div_div_eq_div_mul])
      have hjl2 : (proofH j i R).length ≤ 1000000 := by rw [proofH_len]; omega
      generalize (upNH j R).getD q [] = x at *
      obtain ⟨Z, hZ⟩ : ∃ Z, u8A x = Z := ⟨_, rfl⟩
      have hzz : Z.size = 32 := by rw [← hZ, u8A_size, hl0]
      have HZZ := Lib.hid hZ
      have HRA := Lib.hid hra
      have HL0 := Lib.hid hl0
      have hal : Below wo.heap.size wo (wo.alloc (.cells Z 25)) := (Below.refl _ _).alloc (Nat.le_refl _) _
      have HOW := Lib.hid (HO.out.on hal)
      have HBZ := Lib.hid (show Blk (wo.alloc (.cells Z 25)) wo.heap.size (u8A x) 25 by
        rw [hZ]
        exact Blk.new _ _ _)
      have HBAL := Lib.hid (HBW.out.trans (hal.mono HBW.out.size))
      have hle2 : w2.heap.size ≤ (wo.alloc (.cells Z 25)).heap.size := HBAL.out.size
      clear hZ hra hl0 hq hal HO hbw hm HM HME HBW hv HR3 hjl hpm hqm
      go_wp2_with (first
        | (with_reducible refine wpList_load_hash rfl (.tmp 34) rfl b (off + q * 32) rfl x HL0.out HRA.out Z HZZ.out ?_)
        | (with_reducible refine wpList_build_hash rfl (.tmp 35) rfl Z rfl hzz ?_)
        | (at_builtin; refine wpList_append_hashG rfl _ _ rfl w2.heap.size _ (proofH j i R) rfl HOW.out wo.heap.size x HL0.out HBZ.out rfl hjl2 hle2 ?_))
      intro v7 w7 hown7 hg7
      rw [← HSN.out] at hown7
      have HB7 := Lib.hid (HBAL.out.grown hg7 hle2 (fun k hk => HOW.out.lt k hk))
      obtain ⟨O7, d7, hv7, _⟩ := hown7.form (proofH_len (j + 1) i R)
      subst hv7
      have HO7 := Lib.hid hown7
      clear hown7 hg7 HOW HBZ HBAL hle2 HRA
      go_wp2_with fail
      go_roundw
      case rel => exact ⟨j + 1, p / 2, hlt, HP2, HO7, by go_num, by go_num, HB7⟩
      case measure => simp [intOf]; omega
    · obtain rfl : j = K := by omega
      have hji : ¬ (j : Int) < (j : Int) := by omega
      obtain ⟨O3, d3, rfl, _, _⟩ := HO.out.form (proofH_len j i R)
      have HOB := Lib.hid (show OwnH wr w.heap.size (.slice O3 j d3) (proofH j i R) from ⟨HO.out.1, own_baseK HO.out.2 hw02⟩)
      have HBE := Lib.hid (HB2.out.trans (HBW.out.mono hw02))
      clear HO HBW
      go_wp2_with fail
      go_ret2
      exact ⟨_, rfl, HOB.out, HBE.out⟩
end Go.Proofs.YtpfhhbfjemmkaaaDoor
namespace Go.Proofs.YtpfhhbfjemmkaaaDoor
open Go.RowKit

set_option maxRecDepth 100000 in
theorem run_load_own {w : World} {B g n c : Nat} {hs : List (List UInt8)} {i : Nat} (h : OwnH w B (.slice (some ⟨g, 0, none⟩) n c) hs) (hi : i < n) (x : List UInt8) (hx : hs.getD i [] = x) (X : Array Value) (hX : u8A x = X) :
    (loadVar 25 ⟨g, i * 32, none⟩).run Tryd.prog w = .ok (.agg X) w := by
  subst hX
  obtain ⟨b, off, e, _, hra, hl⟩ := h.hv.at_ (i := i) hi
  injection e with e
  injection e with e1 e2
  subst e1 e2
  rw [hx] at hra hl
  rw [Nat.zero_add] at hra
  obtain ⟨j, _, hj, _, _, hsz, _⟩ := hash_parts
  exact run_loadVar_mid w g (i * 32) 25 (Lib.byteCells x) _ hra Tryd.underlying25 rfl (by rw [hj, Option.map_some, hsz, Lib.byteCells_length, hl])
theorem run_storeVar_own {w : World} {B g n c : Nat} {hs : List (List UInt8)} {i : Nat} (h : OwnH w B (.slice (some ⟨g, 0, none⟩) n c) hs) (hn : hs.length = n) (hi : i < n) (x : List UInt8) (hx : x.length = 32) (X : Array Value) (hX : u8A x = X) :
    ∃ w', (storeVar 25 ⟨g, i * 32, none⟩ (.agg X)).run Tryd.prog w = .ok () w' ∧ OwnH w' B (.slice (some ⟨g, 0, none⟩) n c) (hs.set i x) ∧ w.grownBy w' (some g) ∧ B ≤ g := by
  subst hX
  obtain ⟨w', h1, h2⟩ := run_store_own h hn hi x hx
  refine ⟨w', ?_, h2⟩
  simpa [Instr.storeAt, Instr.sureAddr] using h1
/-- One operation of a region walked by hand, its run known. -/
theorem wp_run {P : Program} {o : Oper} {a : Act} {w w' : World} {K : Act → World → Prop} {Q : Exit → Act → World → Prop} {v : Value} (h : (execOp a.eval o).run P w = .ok (.value v) w') (hk : K (a.put o.dst v) w') : Oper.wp P o a w K Q := by
  unfold Oper.wp
  rw [h]
  exact hk
theorem run_store_exec {P : Program} {o : Oper} {ρ : Operand → Value} {w w' : World} {ty : TypeId} {p y : Operand} (ho : o.op = .store ty p y) (hs : (Instr.storeAt ty (ρ p) (ρ y)).run P w = .ok () w') : (execOp ρ o).run P w = .ok .skip w' := by
  unfold execOp
  simp only [ho, Sem.run_bind, Sem.run_pure, Result.andThen_ok, hs]
theorem wp_skip {P : Program} {o : Oper} {a : Act} {w w' : World} {K : Act → World → Prop} {Q : Exit → Act → World → Prop} (h : (execOp a.eval o).run P w = .ok .skip w') (hk : K (a.put o.dst undef) w') : Oper.wp P o a w K Q := by
  unfold Oper.wp
  rw [h]
  exact hk
theorem anyTake {P : Program} {md : Region.Mode} {ops : Array Oper} {Q : Exit → Act → World → Prop} {i : Nat} {oi : Oper} {v : Value} {fuel : Nat} {listed : Array Bool} {a : Act} {w : World} (hi : ops.toList[i]? = some oi)
    (hs : Region.noSelect ops = true) (hf : Region.free md ops listed i = true) (hr : (Region.ready md ops listed).contains i = true)
    (hQ : ∀ c a w, Q (.panic c) (a.put oi.dst v) w → Q (.panic c) a w) (hw : Region.wanted oi (yielded ops a.tmps) = true) (hy : ∀ w, (execOp a.eval oi).run P w = .ok (.value v) w)
    (h : wpAny P md ops Q fuel (listed.setIfInBounds i true) (a.put oi.dst v) w) : wpAny P md ops Q (fuel + 1) listed a w :=
  wpAny_take (by rw [← Array.getElem?_toList]; exact hi) hs hf hr hQ (.inl ⟨hw, hy⟩) h
theorem anyOne {P : Program} {md : Region.Mode} {ops : Array Oper} {Q : Exit → Act → World → Prop} {i : Nat} {oi : Oper} {fuel : Nat} {listed : Array Bool} {a : Act} {w : World} (hi : ops.toList[i]? = some oi) (hr : Region.ready md ops listed = [i])
    (hw : Region.wanted oi (yielded ops a.tmps) = true) (h : Oper.wp P oi a w (wpAny P md ops Q fuel (listed.setIfInBounds i true)) Q) : wpAny P md ops Q (fuel + 1) listed a w := by
  have ho : ops[i]? = some oi := by rw [← Array.getElem?_toList]; exact hi
  refine wpAny_all hr (by simp) fun j hj => ?_
  rw [List.mem_singleton.1 hj]
  unfold wpOp
  rw [ho]
  show if Region.wanted oi (yielded ops a.tmps) = true then _ else _
  rw [if_pos hw]
  exact .inl h
theorem anyTwo {P : Program} {md : Region.Mode} {ops : Array Oper} {Q : Exit → Act → World → Prop} {i k : Nat} {oi ok : Oper} {fuel : Nat} {listed : Array Bool} {a : Act} {w : World} (hi : ops.toList[i]? = some oi) (hk : ops.toList[k]? = some ok) (hr : Region.ready md ops listed = [i, k])
    (hwi : Region.wanted oi (yielded ops a.tmps) = true) (hwk : Region.wanted ok (yielded ops a.tmps) = true) (h : Oper.wp P oi a w (wpAny P md ops Q fuel (listed.setIfInBounds i true)) Q) (h' : Oper.wp P ok a w (wpAny P md ops Q fuel (listed.setIfInBounds k true)) Q) : wpAny P md ops Q (fuel + 1) listed a w := by
  have ho : ops[i]? = some oi := by rw [← Array.getElem?_toList]; exact hi
  have ho' : ops[k]? = some ok := by rw [← Array.getElem?_toList]; exact hk
  refine wpAny_all hr (by simp) fun j hj => ?_
  have hj' : j = i ∨ j = k := by simpa using hj
  rcases hj' with rfl | rfl
  · unfold wpOp
    rw [ho]
    show if Region.wanted oi (yielded ops a.tmps) = true then _ else _
    rw [if_pos hwi]
    exact .inl h
  · unfold wpOp
    rw [ho']
    show if Region.wanted ok (yielded ops a.tmps) = true then _ else _
    rw [if_pos hwk]
    exact .inl h'
set_option maxRecDepth 100000 in
set_option maxHeartbeats 8000000 in
theorem preverse_two {w : World} {B g c : Nat} {x y : List UInt8} (h : OwnH w B (.slice (some ⟨g, 0, none⟩) 2 c) [x, y]) (hB : B ≤ w.heap.size) :
    Calls Tryd.prog 57 #[.slice (some ⟨g, 0, none⟩) 2 c] w fun e w' => e = .returned (.tuple #[]) ∧ OwnH w' B (.slice (some ⟨g, 0, none⟩) 2 c) [y, x] ∧ Below B w w' := by
  have hxl := h.1 x (by simp)
  have hyl := h.1 y (by simp)
  obtain ⟨X, hX⟩ : ∃ X, u8A x = X := ⟨_, rfl⟩
  obtain ⟨Y, hY⟩ : ∃ Y, u8A y = Y := ⟨_, rfl⟩
  have hd : OwnH w.drew B (.slice (some ⟨g, 0, none⟩) 2 c) [x, y] := h
  have hl0 : (loadVar 25 ⟨g, 0, none⟩).run Tryd.prog w.drew = .ok (.agg X) w.drew := run_load_own (i := 0) hd (by omega) x rfl X hX
  have hl1 : (loadVar 25 ⟨g, 32, none⟩).run Tryd.prog w.drew = .ok (.agg Y) w.drew := run_load_own (i := 1) hd (by omega) y rfl Y hY
  obtain ⟨w3, hs0, h3, hg3, hBg⟩ := run_storeVar_own (i := 0) hd rfl (by omega) y hyl Y hY
  obtain ⟨w4, hs1, h4, hg4, _⟩ := run_storeVar_own (i := 1) h3 rfl (by omega) x hxl X hX
  rw [Nat.zero_mul] at hs0
  rw [Nat.one_mul] at hs1
  have HF := Lib.hid (show OwnH w4 B (.slice (some ⟨g, 0, none⟩) 2 c) [y, x] from h4)
  have HB := Lib.hid (show Below B w w4 by
    have h5 : Below B w w.drew := (Below.refl _ _).drew
    have h6 := h5.grown hg3 (by exact hB) (fun k hk => by injection hk with hk; omega)
    exact h6.grown hg4 (Nat.le_trans hB h6.size) (fun k hk => by injection hk with hk; omega))
  have HL0 := Lib.hid (fun (o : Oper) (ρ : Operand → Value) (p : Operand) (ho : o.op = .load 25 p) (hp : ρ p = .pointer (some ⟨g, 0, none⟩)) => show (execOp ρ o).run Tryd.prog w.drew = .ok (.value (.agg X)) w.drew by
    unfold execOp
    simp only [ho, hp, Instr.loadAt, Instr.sureAddr, Sem.run_bind, Sem.run_pure, Result.andThen_ok, hl0])
  have HL1 := Lib.hid (fun (o : Oper) (ρ : Operand → Value) (p : Operand) (ho : o.op = .load 25 p) (hp : ρ p = .pointer (some ⟨g, 32, none⟩)) => show (execOp ρ o).run Tryd.prog w.drew = .ok (.value (.agg Y)) w.drew by
    unfold execOp
    simp only [ho, hp, Instr.loadAt, Instr.sureAddr, Sem.run_bind, Sem.run_pure, Result.andThen_ok, hl1])
  have HS0 := Lib.hid (show (Instr.storeAt 25 (.pointer (some ⟨g, 0, none⟩)) (.agg Y)).run Tryd.prog w.drew = .ok () w3 by simp [Instr.storeAt, Instr.sureAddr, hs0])
  have HS1 := Lib.hid (show (Instr.storeAt 25 (.pointer (some ⟨g, 32, none⟩)) (.agg X)).run Tryd.prog w3 = .ok () w4 by simp [Instr.storeAt, Instr.sureAddr, hs1])
  clear h hd h3 h4 hg3 hg4 hxl hyl hX hY hl0 hl1 hs0 hs1
  go_enter Tryd.func57, Tryd.ntmps57
  go_wp2_with fail
  go_loopw [2, 3] (fun s t wq => (s = .int .i64 0 ∧ t = .int .i64 1 ∧ w = wq) ∨ (s = .int .i64 1 ∧ t = .int .i64 0 ∧ w4 = wq)) (fun s _ _ => 1 - (intOf s).toNat)
  case atStart => exact .inl ⟨rfl, rfl, rfl⟩
  case round =>
    rcases hrel with ⟨rfl, rfl, rfl⟩ | ⟨rfl, rfl, rfl⟩
    · go_wp2_with fail
      refine wp_region_any (by kernel_rfl) ?_
      change wpAny _ _ _ _ _ _ _ w.drew
      refine anyTake (i := 0) (v := .slice (some ⟨g, 0, none⟩) 2 c) rfl (by kernel_rfl) (by kernel_rfl) (by kernel_rfl) (fun _ _ _ h => h) (by rfl) (fun W => by go_simp) ?_
      simp only [Act.put, List.setIfInBounds_toArray, List.set_cons_zero, List.set_cons_succ]
      refine anyTake (i := 1) (v := .int .i64 0) rfl (by kernel_rfl) (by kernel_rfl) (by kernel_rfl) (fun _ _ _ h => h) (by rfl) (fun W => by go_simp) ?_
      simp only [Act.put, List.setIfInBounds_toArray, List.set_cons_zero, List.set_cons_succ]
      refine anyTake (i := 2) (v := .slice (some ⟨g, 0, none⟩) 2 c) rfl (by kernel_rfl) (by kernel_rfl) (by kernel_rfl) (fun _ _ _ h => h) (by rfl) (fun W => by go_simp) ?_
      simp only [Act.put, List.setIfInBounds_toArray, List.set_cons_zero, List.set_cons_succ]
      refine anyTake (i := 3) (v := .int .i64 1) rfl (by kernel_rfl) (by kernel_rfl) (by kernel_rfl) (fun _ _ _ h => h) (by rfl) (fun W => by go_simp) ?_
      simp only [Act.put, List.setIfInBounds_toArray, List.set_cons_zero, List.set_cons_succ]
      refine anyTake (i := 4) (v := .slice (some ⟨g, 0, none⟩) 2 c) rfl (by kernel_rfl) (by kernel_rfl) (by kernel_rfl) (fun _ _ _ h => h) (by rfl) (fun W => by go_simp) ?_
      simp only [Act.put, List.setIfInBounds_toArray, List.set_cons_zero, List.set_cons_succ]
      refine anyTake (i := 5) (v := .int .i64 1) rfl (by kernel_rfl) (by kernel_rfl) (by kernel_rfl) (fun _ _ _ h => h) (by rfl) (fun W => by go_simp) ?_
      simp only [Act.put, List.setIfInBounds_toArray, List.set_cons_zero, List.set_cons_succ]
      refine anyTake (i := 6) (v := .pointer (some ⟨g, 32, none⟩)) rfl (by kernel_rfl) (by kernel_rfl) (by kernel_rfl) (fun _ _ _ h => h) (by rfl) (fun W => by go_simp) ?_
      simp only [Act.put, List.setIfInBounds_toArray, List.set_cons_zero, List.set_cons_succ]
      refine anyTake (i := 8) (v := .slice (some ⟨g, 0, none⟩) 2 c) rfl (by kernel_rfl) (by kernel_rfl) (by kernel_rfl) (fun _ _ _ h => h) (by rfl) (fun W => by go_simp) ?_
      simp only [Act.put, List.setIfInBounds_toArray, List.set_cons_zero, List.set_cons_succ]
      refine anyTake (i := 9) (v := .int .i64 0) rfl (by kernel_rfl) (by kernel_rfl) (by kernel_rfl) (fun _ _ _ h => h) (by rfl) (fun W => by go_simp) ?_
      simp only [Act.put, List.setIfInBounds_toArray, List.set_cons_zero, List.set_cons_succ]
      refine anyTake (i := 10) (v := .pointer (some ⟨g, 0, none⟩)) rfl (by kernel_rfl) (by kernel_rfl) (by kernel_rfl) (fun _ _ _ h => h) (by rfl) (fun W => by go_simp) ?_
      simp only [Act.put, List.setIfInBounds_toArray, List.set_cons_zero, List.set_cons_succ]
      refine anyTwo (i := 7) (k := 11) rfl rfl (by kernel_rfl) (by rfl) (by rfl) (wp_run (HL1.out _ _ (.tmp 20) rfl rfl) ?_) (wp_run (HL0.out _ _ (.tmp 24) rfl rfl) ?_)
      · simp only [Act.put, List.setIfInBounds_toArray, List.set_cons_zero, List.set_cons_succ]
        refine anyOne (i := 11) rfl (by kernel_rfl) (by rfl) (wp_run (HL0.out _ _ (.tmp 24) rfl rfl) ?_)
        simp only [Act.put, List.setIfInBounds_toArray, List.set_cons_zero, List.set_cons_succ]
        refine anyTake (i := 12) (v := .pointer (some ⟨g, 0, none⟩)) rfl (by kernel_rfl) (by kernel_rfl) (by kernel_rfl) (fun _ _ _ h => h) (by rfl) (fun W => by go_simp) ?_
        simp only [Act.put, List.setIfInBounds_toArray, List.set_cons_zero, List.set_cons_succ]
        refine anyOne (i := 13) rfl (by kernel_rfl) (by rfl) (wp_skip (run_store_exec (p := .tmp 26) (y := .tmp 21) rfl HS0.out) ?_)
        simp only [Act.put]
        refine anyTake (i := 14) (v := .pointer (some ⟨g, 32, none⟩)) rfl (by kernel_rfl) (by kernel_rfl) (by kernel_rfl) (fun _ _ _ h => h) (by rfl) (fun W => by go_simp) ?_
        simp only [Act.put, List.setIfInBounds_toArray, List.set_cons_zero, List.set_cons_succ]
        refine anyOne (i := 15) rfl (by kernel_rfl) (by rfl) (wp_skip (run_store_exec (p := .tmp 27) (y := .tmp 25) rfl HS1.out) ?_)
        simp only [Act.put]
        refine wpAny_done (by kernel_rfl) ?_ _
        go_wp2_with fail
        go_roundw
        case rel => simp
        case measure => simp [intOf]
      · simp only [Act.put, List.setIfInBounds_toArray, List.set_cons_zero, List.set_cons_succ]
        refine anyOne (i := 7) rfl (by kernel_rfl) (by rfl) (wp_run (HL1.out _ _ (.tmp 20) rfl rfl) ?_)
        simp only [Act.put, List.setIfInBounds_toArray, List.set_cons_zero, List.set_cons_succ]
        refine anyTake (i := 12) (v := .pointer (some ⟨g, 0, none⟩)) rfl (by kernel_rfl) (by kernel_rfl) (by kernel_rfl) (fun _ _ _ h => h) (by rfl) (fun W => by go_simp) ?_
        simp only [Act.put, List.setIfInBounds_toArray, List.set_cons_zero, List.set_cons_succ]
        refine anyOne (i := 13) rfl (by kernel_rfl) (by rfl) (wp_skip (run_store_exec (p := .tmp 26) (y := .tmp 21) rfl HS0.out) ?_)
        simp only [Act.put]
        refine anyTake (i := 14) (v := .pointer (some ⟨g, 32, none⟩)) rfl (by kernel_rfl) (by kernel_rfl) (by kernel_rfl) (fun _ _ _ h => h) (by rfl) (fun W => by go_simp) ?_
        simp only [Act.put, List.setIfInBounds_toArray, List.set_cons_zero, List.set_cons_succ]
        refine anyOne (i := 15) rfl (by kernel_rfl) (by rfl) (wp_skip (run_store_exec (p := .tmp 27) (y := .tmp 25) rfl HS1.out) ?_)
        simp only [Act.put]
        refine wpAny_done (by kernel_rfl) ?_ _
        go_wp2_with fail
        go_roundw
        case rel => simp
        case measure => simp [intOf]
    · go_wp2_with fail
      go_end0
      exact ⟨rfl, HF.out, HB.out⟩
end Go.Proofs.YtpfhhbfjemmkaaaDoor
namespace Go.Proofs.YtpfhhbfjemmkaaaDoor
open Go.RowKit

/-- A row of rows, all from block B on. -/
def RB (w : World) (B : Nat) (v : Value) (ls : List (List (List UInt8))) : Prop := ∃ vs, w.ownsRow B 23 1 v ls.length vs ∧ vs.length = ls.length ∧ ∀ i (h : i < ls.length), ∃ u, vs[i]? = some u ∧ OwnH w B u ls[i]
theorem RB.rl {w : World} {B : Nat} {v : Value} {ls : List (List (List UInt8))} (h : RB w B v ls) : RL w B v ls := by
  obtain ⟨vs, h1, h2, h3⟩ := h
  exact ⟨vs, h1, h2, fun i hi => by
    obtain ⟨u, h4, h5⟩ := h3 i hi
    exact ⟨u, h4, HxV.of h5⟩⟩
theorem RB.nil (w : World) (B : Nat) : RB w B (.slice none 0 0) [] := ⟨[], World.ownsRow_nil _ _ _ _, rfl, fun i h => by simp at h⟩
theorem RB.on {w w' : World} {B : Nat} {v : Value} {ls : List (List (List UInt8))} (h : RB w B v ls) (hb : Below w.heap.size w w') : RB w' B v ls := by
  obtain ⟨vs, h1, h2, h3⟩ := h
  exact ⟨vs, own_keepK h1 hb, h2, fun i hi => by
    obtain ⟨u, h4, h5⟩ := h3 i hi
    exact ⟨u, h4, h5.on hb⟩⟩
theorem RB.form {w : World} {B n : Nat} {v : Value} {ls : List (List (List UInt8))} (h : RB w B v ls) (hn : ls.length = n) : ∃ A c, v = .slice A n c ∧ n ≤ c ∧ c ≤ maxLen := h.rl.form hn
/-- A block ahead of all of them has changed. -/
theorem RB.far {w w' : World} {B g : Nat} {v : Value} {ls : List (List (List UInt8))} (h : RB w B v ls) (hg : w.grownBy w' (some g)) (hgB : g < B) : RB w' B v ls := by
  obtain ⟨vs, h1, h2, h3⟩ := h
  refine ⟨vs, ⟨h1.1, ?_⟩, h2, fun i hi => ?_⟩
  · rcases h1.2 with h0 | ⟨b, cap, cur, rfl, q1, q2, q3⟩
    · exact .inl h0
    · exact .inr ⟨b, cap, cur, rfl, q1, (hg.block b (Array.getElem?_eq_some_iff.1 q2).1 (fun e => by injection e with e; omega)).trans q2, q3⟩
  · obtain ⟨u, h4, h5⟩ := h3 i hi
    exact ⟨u, h4, h5.apart hg fun b hb e => by
      injection e with e
      have := h5.lt b hb
      omega⟩
theorem own_apart_rows {w w' : World} {u v : Value} {l : List (List UInt8)} {B C n : Nat} {xs : List Value} (h : OwnH w C u l) (hown : w.ownsRow B 23 1 v n xs) (hg : w.grownBy w' v.ownBlock) : OwnH w' C u l := by
  refine h.apart hg fun g hgv e => ?_
  rcases h.2.2 with ⟨rfl, _⟩ | ⟨g1, cap1, cur1, rfl, _, h3, _⟩
  · simp [Value.ownBlock] at hgv
  · rcases hown.2 with ⟨rfl, _⟩ | ⟨g2, cap2, cur2, rfl, _, h4, _⟩
    · simp [Value.ownBlock] at e
    · simp only [Value.ownBlock, Option.some.injEq] at hgv e
      subst hgv
      subst e
      have := h3.symm.trans h4
      injection this with k1
      injection k1 with _ k2 _
      exact absurd k2.symm ty_hashes
theorem wpList_append_rowB {w : World} {ops : Array Oper} {rest : List Oper} {o : Oper} {a : Act} {Q : Exit → Act → World → Prop} (hgd : o.guard = none) (s x : Operand)
    (ho : o.op = .call { callee := .builtin .append, args := #[s, x], argTypes := #[62, 62] })
    (base : Nat) (v : Value) (ls : List (List (List UInt8))) (hs : a.eval s = v) (hown : RB w base v ls) (b : Nat) (u : Value) (l : List (List UInt8)) (hu : OwnH w base u l) (hb : w.heap[b]? = some (.cells #[u] 23 (0, 0))) (hx : a.eval x = .slice (some ⟨b, 0, none⟩) 1 1)
    (hlim : ls.length + 1 ≤ 1000000) (hbase : base ≤ w.heap.size)
    (h : ∀ v' w', RB w' base v' (ls ++ [l]) → w.grownBy w' v.ownBlock → (∀ g, v.ownBlock = some g → base ≤ g) → wpList Tryd.prog ops Q rest (a.put o.dst v') w') : wpList Tryd.prog ops Q (o :: rest) a w := by
  obtain ⟨i, hi, hz, hsz, hby⟩ := info_parts infoHashes
  obtain ⟨vs, h1, h2, h3⟩ := hown
  obtain ⟨A, c, rfl, _, _⟩ := hu.form rfl
  have hlt := fun g hg => (h1.lt g hg).1
  refine wpList_append_own (P := Tryd.prog) _ hgd s x 62 ho base 23 i (.slice none 0 0) 1 24 Tryd.underlying62 hi hz hsz hby rfl (by omega) v ls.length vs hs h1 ⟨b, 0, none⟩ 1 1 [.slice A l.length c] hx rfl (fun j u hj => ?_) (fun u hu => ?_) (by unfold maxLen; omega) (by omega) hbase
    (fun v' w' k1 k2 _ => h v' w' ⟨vs ++ [.slice A l.length c], by rw [List.length_append]; exact k1, by rw [List.length_append, List.length_append, h2]; rfl, fun i hi => ?_⟩ k2 hlt)
  · exact World.news_of_block hb j u (by simpa using hj)
  · simp at hu
    subst hu
    rfl
  · by_cases hil : i < ls.length
    · obtain ⟨u, h4, h5⟩ := h3 i hil
      refine ⟨u, ?_, by rw [List.getElem_append_left hil]; exact own_apart_rows h5 h1 k2⟩
      rw [List.getElem?_append_left (by omega)]
      exact h4
    · have hie : i = ls.length := by simp at hi; omega
      subst hie
      refine ⟨_, ?_, by simpa using own_apart_rows hu h1 k2⟩
      rw [List.getElem?_append_right (by omega), h2, Nat.sub_self]
      rfl
/-- A slice literal of two hashes. -/
theorem wpList_build_hash2 {w : World} {ops : Array Oper} {rest : List Oper} {o : Oper} {a : Act} {Q : Exit → Act → World → Prop} (hgd : o.guard = none) (x y : Operand)
    (ho : o.op = .buildSlice 23 2 #[(0, x), (1, y)]) (X Y : Array Value) (hx : a.eval x = .agg X) (hy : a.eval y = .agg Y) (hX : X.size = 32) (hY : Y.size = 32)
    (h : wpList Tryd.prog ops Q rest (a.put o.dst (.slice (some ⟨w.heap.size, 0, none⟩) 2 2)) (w.alloc (.cells (X ++ Y) 25))) : wpList Tryd.prog ops Q (o :: rest) a w := by
  obtain ⟨i, z, hi, hzz, hzs, hsz, hby⟩ := hash_parts
  refine wpList_buildSlice (P := Tryd.prog) hgd 23 25 2 #[(0, x), (1, y)] ho (X ++ Y) i z Tryd.underlying23 hi hzz (by rw [hsz]; decide) (by rw [hsz]; decide) ?_ h
  rw [hsz]
  have e : ((#[(0, x), (1, y)] : Array (Nat × Operand)).map fun (i, x) => (i, a.eval x)).toList = [(0, .agg X), (1, .agg Y)] := by simp [hx, hy]
  rw [e]
  have h := Great.fill_whole (s := 32) (by omega) [.agg X, .agg Y] (madeCells z.cells (2 * 32)) (fun v hv => by
    simp at hv
    rcases hv with rfl | rfl
    · exact hX
    · exact hY) (by simp [madeCells])
  have e2 : ([Value.agg X, .agg Y].flatMap fun v => v.cells.toList).toArray = X ++ Y := by
    simp only [List.flatMap_cons, List.flatMap_nil, List.append_nil, Value.cells]
    simp
  rw [e2] at h
  exact h
theorem own_two {w : World} {B : Nat} {a b : List UInt8} (ha : a.length = 32) (hb : b.length = 32) (hB : B ≤ w.heap.size) : OwnH (w.alloc (.cells (u8A a ++ u8A b) 25)) B (.slice (some ⟨w.heap.size, 0, none⟩) 2 2) [a, b] := by
  refine ⟨fun r hr => ?_, ?_⟩
  · simp at hr
    rcases hr with rfl | rfl
    · exact ha
    · exact hb
  · have h := World.ownsRow_lit (base := B) (e := 25) (size := 32) w (u8A a ++ u8A b) 2 hB (by unfold maxLen; omega) (by rw [Array.size_append, u8A_size, u8A_size, ha, hb])
    have e : (u8A a ++ u8A b).toList = [a, b].flatMap Lib.byteCells := by simp [u8A]
    rw [e] at h
    exact h
theorem own_one {w : World} {B : Nat} {a : List UInt8} (ha : a.length = 32) (hB : B ≤ w.heap.size) : OwnH (w.alloc (.cells (u8A a) 25)) B (.slice (some ⟨w.heap.size, 0, none⟩) 1 1) [a] := by
  refine ⟨fun r hr => ?_, ?_⟩
  · rw [List.mem_singleton.1 hr]; exact ha
  · have h := World.ownsRow_lit (base := B) (e := 25) (size := 32) w (u8A a) 1 hB (by unfold maxLen; omega) (by rw [u8A_size, ha])
    have e : (u8A a).toList = [a].flatMap Lib.byteCells := by simp [u8A]
    rw [e] at h
    exact h
/-- A way as pairs, from below, and the root. -/
def pairW (i : Nat) (a x : List UInt8) : List (List UInt8) := if i % 2 = 1 then [x, a] else [a, x]
def pairsW : Nat → List UInt8 → List (List UInt8) → List (List (List UInt8))
  | _, _, [] => []
  | i, a, x :: p => pairW i a x :: pairsW (i / 2) (shaL (tree.text nodeT i a x)) p
theorem pairsW_len : ∀ (p : List (List UInt8)) (i : Nat) (a : List UInt8), (pairsW i a p).length = p.length
  | [], _, _ => rfl
  | x :: p, i, a => by rw [pairsW, List.length_cons, List.length_cons, pairsW_len p]
theorem pairsW_snoc (p : List (List UInt8)) (x : List UInt8) : ∀ (i : Nat) (a : List UInt8), pairsW i a (p ++ [x]) = pairsW i a p ++ [pairW (i / 2 ^ p.length) (climbH i a p) x] := by
  induction p with
  | nil => intro i a; simp [pairsW, climbH, tree.climb]
  | cons y r ih =>
    intro i a
    rw [List.cons_append, pairsW, pairsW, ih, List.length_cons, Nat.pow_succ, Nat.mul_comm, ← Nat.div_div_eq_div_mul]
    rfl
def wayL (i : Nat) (a : List UInt8) (p : List (List UInt8)) : List (List (List UInt8)) := pairsW i a p ++ [[climbH i a p]]
theorem wayL_len (i : Nat) (a : List UInt8) (p : List (List UInt8)) : (wayL i a p).length = p.length + 1 := by simp [wayL, pairsW_len]
end Go.Proofs.YtpfhhbfjemmkaaaDoor
namespace Go.Proofs.YtpfhhbfjemmkaaaDoor
open Go.RowKit

theorem own_ranges {w : World} {B g c : Nat} {x y : List UInt8} (h : OwnH w B (.slice (some ⟨g, 0, none⟩) 2 c) [x, y]) : w.rangeAt g 0 (Lib.byteCells x) ∧ w.rangeAt g 32 (Lib.byteCells y) := by
  constructor
  · obtain ⟨b, off, e, _, hra, _⟩ := h.hv.at_ (i := 0) (by omega)
    injection e with e
    injection e with e1 e2
    subst e1 e2
    exact hra
  · obtain ⟨b, off, e, _, hra, _⟩ := h.hv.at_ (i := 1) (by omega)
    injection e with e
    injection e with e1 e2
    subst e1 e2
    exact hra
set_option maxRecDepth 100000 in
set_option maxHeartbeats 8000000 in
theorem pway_no (n i : Int) (lf : List UInt8) (A : Option Addr) (m c : Nat) (ps : List (List UInt8)) (w : World) (hm : ps.length = m) (hno : ¬ climbOK n i ps.length) :
    Calls Tryd.prog 41 #[.func (.func 26) #[] #[], .int .i64 n, .int .i64 i, .agg (u8A lf), .slice A m c] w fun e w' => e = .returned (.tuple #[.slice none 0 0, .bool false]) ∧ Below w.heap.size w w' := by
  generalize u8A lf = X
  have HAL := Lib.hid (show Below w.heap.size w (w.alloc (.cells X 25)) from (Below.refl _ _).alloc (Nat.le_refl _) _)
  by_cases g1 : i < 0
  · clear hno
    go_enter Tryd.func41, Tryd.ntmps41
    go_wp2_with fail
    go_ret2
    exact ⟨rfl, HAL.out⟩
  · by_cases g2 : n ≤ i
    · clear hno
      go_enter Tryd.func41, Tryd.ntmps41
      go_wp2_with fail
      go_ret2
      exact ⟨rfl, HAL.out⟩
    · by_cases g3 : 256 < n
      · clear hno
        go_enter Tryd.func41, Tryd.ntmps41
        go_wp2_with fail
        go_ret2
        exact ⟨rfl, HAL.out⟩
      · obtain ⟨k, hk⟩ : ∃ k, tree.high n.toNat = k := ⟨_, rfl⟩
        have HH := Lib.hid (fun W => (show Calls Tryd.prog 42 #[.int .i64 n] W fun e W' => e = .returned (.int .i64 (k : Int)) ∧ W = W' from by
          have := pheight_any n W (by omega) (by omega)
          rw [hk] at this
          exact this))
        have hne : ¬ (m : Int) = (k : Int) := fun e => hno ⟨by omega, by omega, by omega, by omega⟩
        have hne2 : ¬ m = k := by omega
        clear hno hk
        go_enter Tryd.func41, Tryd.ntmps41
        go_wp2_with fail
        with_reducible refine (HH.out _).mono ?_
        rintro e w2 ⟨rfl, rfl⟩
        go_wp2_with fail
        go_ret2
        exact ⟨rfl, HAL.out⟩
set_option maxRecDepth 100000 in
set_option maxHeartbeats 8000000 in
theorem pway_yes (n i : Int) (lf : List UInt8) (A : Option Addr) (m c : Nat) (ps : List (List UInt8)) (w : World) (hm : ps.length = m) (h1 : m ≤ 1024) (hlf : lf.length = 32) (hl : ∀ r ∈ ps, r.length = 32) (hr : RdH w w.heap.size A ps) (htab : Pow10 w.heap.size w) (hok : climbOK n i ps.length) :
    Calls Tryd.prog 41 #[.func (.func 26) #[] #[], .int .i64 n, .int .i64 i, .agg (u8A lf), .slice A m c] w fun e w' => ∃ v, e = .returned (.tuple #[v, .bool true]) ∧ RL w' w.heap.size v (wayL i.toNat lf ps) ∧ Below w.heap.size w w' := by
  obtain ⟨I, hI⟩ : ∃ I : Nat, i = (I : Int) := ⟨i.toNat, by have := hok.1; omega⟩
  subst hI
  have g1 : ¬ (I : Int) < 0 := by omega
  have g2 : ¬ n ≤ (I : Int) := by have := hok.2.1; omega
  have g3 : ¬ 256 < n := by have := hok.2.2.1; omega
  have HH := Lib.hid (fun W => (show Calls Tryd.prog 42 #[.int .i64 n] W fun e W' => e = .returned (.int .i64 (m : Int)) ∧ W = W' from by
    have := pheight_any n W (by omega) (by omega)
    rw [← hok.2.2.2, hm] at this
    exact this))
  have HM := Lib.hid hm
  have HRD := Lib.hid hr
  have HLL := Lib.hid hl
  have HT := Lib.hid htab
  have hI256 : I < 256 := by omega
  rw [Int.toNat_natCast]
  obtain ⟨X0, hX0⟩ : ∃ X, u8A lf = X := ⟨_, rfl⟩
  rw [hX0]
  have HAL := Lib.hid (show Below w.heap.size w (w.alloc (.cells X0 25)) from (Below.refl _ _).alloc (Nat.le_refl _) _)
  have HC0 := Lib.hid (show Blk (w.alloc (.cells X0 25)) w.heap.size (u8A (climbH I lf (ps.take 0))) 25 by
    show Blk _ _ (u8A lf) _
    rw [hX0]
    exact Blk.new _ _ _)
  clear hok hl hr htab hm hX0
  go_enter Tryd.func41, Tryd.ntmps41
  go_wp2_with fail
  with_reducible refine (HH.out _).mono ?_
  rintro e w2 ⟨rfl, rfl⟩
  go_wp2_with fail
  generalize w.alloc (.cells X0 25) = w1 at *
  go_loopw [2, 12, 36] (fun iv wv t wq => ∃ j p : Nat, j ≤ m ∧ iv = .int .i64 (p : Int) ∧ t = .int .i64 (j : Int) ∧ Hid (p = I / 2 ^ j) ∧ p ≤ 256 ∧ Hid (RB wq (w.heap.size + 1) wv (pairsW I lf (ps.take j))) ∧ Hid (Blk wq w.heap.size (u8A (climbH I lf (ps.take j))) 25) ∧ Hid (Below w.heap.size w wq)) (fun _ _ t _ => m - (intOf t).toNat)
  case atStart => exact ⟨0, I, Nat.zero_le _, rfl, rfl, Lib.hid (by simp), by omega, Lib.hid (RB.nil _ _), HC0, HAL⟩
  case round =>
    clear HC0 HAL HH
    obtain ⟨j, p, hj, rfl, rfl, HP, hp256, HW, HC, HBEL⟩ := hrel
    have hbel := HBEL.out
    have HTL := Lib.hid (show (ps.take j).length = j by rw [List.length_take, HM.out]; omega)
    obtain ⟨V, d, rfl, _, _⟩ := HW.out.form (n := j) (by rw [pairsW_len]; exact HTL.out)
    by_cases hlt : j < m
    · have hji : (j : Int) < (m : Int) := by omega
      have hjl : j < ps.length := by rw [HM.out]; exact hlt
      obtain ⟨x, hx⟩ : ∃ x, ps[j] = x := ⟨_, rfl⟩
      have hxl : x.length = 32 := by rw [← hx]; exact HLL.out _ (List.getElem_mem _)
      have HST := Lib.hid (show climbH I lf (ps.take (j + 1)) = shaL (tree.text nodeT p (climbH I lf (ps.take j)) x) by
        have h := climb_snoc (ps.take j) x I lf
        rw [HTL.out, ← HP.out] at h
        rw [← h, List.take_succ_eq_append_getElem hjl, hx])
      have HPT := Lib.hid (show pairsW I lf (ps.take (j + 1)) = pairsW I lf (ps.take j) ++ [pairW p (climbH I lf (ps.take j)) x] by
        have h := pairsW_snoc (ps.take j) x I lf
        rw [HTL.out, ← HP.out] at h
        rw [← h, List.take_succ_eq_append_getElem hjl, hx])
      have HCL := Lib.hid (climbH_len hlf (ps.take j) I)
      have HP2 := Lib.hid (show p / 2 = I / 2 ^ (j + 1) by rw [HP.out, Nat.pow_succ, Nat.div_div_eq_div_mul])
      have HLJ := Lib.hid (show (pairsW I lf (ps.take j)).length + 1 ≤ 1000000 by rw [pairsW_len, HTL.out]; omega)
      have HLN := Lib.hid (show (pairsW I lf (ps.take (j + 1))).length = j + 1 by rw [pairsW_len, List.length_take, HM.out]; omega)
      rcases HRD.out with h0 | ⟨b, off, rfl, hbs, hcs⟩
      · rw [h0] at hjl; simp at hjl
      have hra := hcs j hjl
      rw [hx] at hra
      have HRA := Lib.hid (rangeAt_keep hra fun k => hbel.cell hbs)
      generalize climbH I lf (ps.take j) = cur at *
      obtain ⟨C, hC⟩ : ∃ C, u8A cur = C := ⟨_, rfl⟩
      obtain ⟨Z, hZ⟩ : ∃ Z, u8A x = Z := ⟨_, rfl⟩
      have HEC := Lib.hid hC
      have HEZ := Lib.hid hZ
      have HCZ := Lib.hid (show (u8A cur).size = 32 by rw [u8A_size]; exact HCL.out)
      have HCS := Lib.hid (show C.size = 32 by rw [← hC]; exact HCZ.out)
      have HZS := Lib.hid (show Z.size = 32 by rw [← hZ, u8A_size]; exact hxl)
      have HZO := Lib.hid (show Z.all (·.oneCell') = true by rw [← hZ]; exact u8A_one _)
      clear hC hZ hra hcs hx hjl
      go_upto_region 7 with (first
        | (with_reducible refine wpList_load_hash rfl (.tmp 38) rfl b (off + j * 32) rfl x hxl HRA.out Z HEZ.out ?_)
        | (with_reducible refine wpList_store_blk rfl 25 (.tmp 14) (.tmp 39) rfl wr.heap.size Z rfl rfl 25 _ (Blk.new _ _ _) (by rw [HZS.out]; kernel_rfl) (by rw [HZS.out]; kernel_rfl) HZO.out ?_))
      generalize hw6 : World.setRow _ _ _ = w6
      have hf : Blk w6 wr.heap.size (u8A x) 25 ∧ Below wr.heap.size wr w6 := by
        rw [← hw6, HEZ.out]
        exact ⟨(Blk.new _ _ _).row _, below_row ((Below.refl _ _).alloc (Nat.le_refl _) _) (by simp) (Nat.le_refl _) _⟩
      have HZ6 := Lib.hid (range_of_blk hf.1)
      have HB6 := Lib.hid hf.2
      have HC6 := Lib.hid (range_of_blk (HC.out.below hf.2 HC.out.lt))
      clear hf hw6
      go_upto_region 8 with (first
        | (with_reducible refine wpList_load_hash rfl (.tmp 8) rfl w.heap.size 0 rfl cur HCL.out HC6.out C HEC.out ?_)
        | (with_reducible refine wpList_load_hash rfl (.tmp 14) rfl wr.heap.size 0 rfl x hxl HZ6.out Z HEZ.out ?_)
        | (with_reducible refine wpList_build_hash2 rfl (.tmp 40) (.tmp 41) rfl C Z rfl rfl HCS.out HZS.out ?_))
      generalize hw7 : w6.alloc _ = w7
      have HO7 := Lib.hid (show OwnH w7 w6.heap.size (.slice (some ⟨w6.heap.size, 0, none⟩) 2 2) [cur, x] by
        rw [← hw7, ← HEC.out, ← HEZ.out]
        exact own_two HCL.out hxl (Nat.le_refl _))
      have HB7 := Lib.hid (show Below wr.heap.size wr w7 by
        rw [← hw7]
        exact HB6.out.trans (((Below.refl _ _).alloc (Nat.le_refl _) _).mono HB6.out.size))
      have hBle : w.heap.size + 1 ≤ w6.heap.size := Nat.le_trans HC.out.lt HB6.out.size
      have h67 : w6.heap.size ≤ w7.heap.size := by rw [← hw7]; simp
      have h6r := HB6.out.size
      clear hw7 HZ6 HB6 HC6 HRA HZO
      by_cases he : p % 2 = 1
      · have hei : (p : Int) % 2 = 1 := by omega
        have HRV := Lib.hid (preverse_two HO7.out h67)
        have HPAR := Lib.hid (show pairW p cur x = [x, cur] ∧ tree.text nodeT p cur x = nodeT x cur from ⟨if_pos he, if_neg (by omega)⟩)
        go_wp2_with fail
        with_reducible refine (HRV.out).mono ?_
        rintro e w8 ⟨rfl, hown8, hb8⟩
        have HO8 := Lib.hid hown8
        have HB8 := Lib.hid (HB7.out.trans (hb8.mono h6r))
        clear hown8 hb8 HO7 HB7 HRV
        have HSN := Lib.hid (show climbH I lf (ps.take (j + 1)) = nodeH x cur by rw [HST.out, HPAR.out.2]; rfl)
        have HPS := Lib.hid (show pairsW I lf (ps.take (j + 1)) = pairsW I lf (ps.take j) ++ [[x, cur]] by rw [HPT.out, HPAR.out.1])
        obtain ⟨X, hX⟩ : ∃ X, X = (Lib.byteCells x).toArray := ⟨_, rfl⟩
        obtain ⟨Y, hY⟩ : ∃ Y, Y = (Lib.byteCells cur).toArray := ⟨_, rfl⟩
        obtain ⟨R, hR⟩ : ∃ R, u8A (nodeH x cur) = R := ⟨_, rfl⟩
        have HEX := Lib.hid hX
        have HEY := Lib.hid hY
        have HER := Lib.hid hR
        have HIX := Lib.hid (show (Tryd.prog.info? 25).map (·.size) = some (Lib.byteCells x).length by rw [Lib.byteCells_length, hxl]; kernel_rfl)
        have HIY := Lib.hid (show (Tryd.prog.info? 25).map (·.size) = some (Lib.byteCells cur).length by rw [Lib.byteCells_length, HCL.out]; kernel_rfl)
        have HRZ := Lib.hid (show R.size = 32 by rw [← hR, u8A_size, nodeH_len])
        have HRO := Lib.hid (show R.all (·.oneCell') = true by rw [← hR]; exact u8A_one _)
        have hal : Below w8.heap.size w8 (w8.alloc (.cells #[.slice (some ⟨w6.heap.size, 0, none⟩) 2 2] 23)) := (Below.refl _ _).alloc (Nat.le_refl _) _
        have hb08 := hbel.trans (HB8.out.mono hbel.size)
        have HO9 := Lib.hid (HO8.out.on hal)
        have HOB9 := Lib.hid (show OwnH (w8.alloc (.cells #[.slice (some ⟨w6.heap.size, 0, none⟩) 2 2] 23)) (w.heap.size + 1) (.slice (some ⟨w6.heap.size, 0, none⟩) 2 2) [x, cur] from ⟨HO9.out.1, own_baseK HO9.out.2 hBle⟩)
        have HW9 := Lib.hid ((HW.out.on HB8.out).on hal)
        have HC8 := Lib.hid (HC.out.below HB8.out HC.out.lt)
        have HC9 := Lib.hid (HC8.out.below hal HC8.out.lt)
        have HBL9 := Lib.hid (show (w8.alloc (.cells #[.slice (some ⟨w6.heap.size, 0, none⟩) 2 2] 23)).heap[w8.heap.size]? = some (.cells #[.slice (some ⟨w6.heap.size, 0, none⟩) 2 2] 23 (0, 0)) from heap_alloc_new _ _)
        have HB9 := Lib.hid (hb08.trans (hal.mono hb08.size))
        have HSZ := Lib.hid (show w.heap.size + 1 ≤ (w8.alloc (.cells #[.slice (some ⟨w6.heap.size, 0, none⟩) 2 2] 23)).heap.size from HC9.out.lt)
        clear hX hY hR hal hb08
        go_wp2_with (at_builtin; refine wpList_append_rowB rfl _ _ rfl (w.heap.size + 1) _ (pairsW I lf (ps.take j)) rfl HW9.out w8.heap.size (.slice (some ⟨w6.heap.size, 0, none⟩) 2 2) [x, cur] HOB9.out HBL9.out rfl HLJ.out HSZ.out ?_)
        intro v10 w10 hrb10 hg10 hin10
        rw [← HPS.out] at hrb10
        obtain ⟨A10, c10, rfl, _, _⟩ := hrb10.form HLN.out
        have HW10 := Lib.hid hrb10
        have HB10 := Lib.hid (HB9.out.grown hg10 HB9.out.size (fun k hk => by have := hin10 k hk; omega))
        have HC10 := Lib.hid (show Blk w10 w.heap.size (u8A cur) 25 from (hg10.block _ HC9.out.lt (fun e => by have := hin10 _ e.symm; omega)).trans HC9.out)
        have HO10 := Lib.hid (show OwnH w10 w6.heap.size (.slice (some ⟨w6.heap.size, 0, none⟩) 2 2) [x, cur] by
          obtain ⟨vs, k1, _⟩ := HW9.out
          exact own_apart_rows HO9.out k1 hg10)
        have HK10 := Lib.hid (fun W (hb : Below w10.heap.size w10 W) => own_ranges (HO10.out.on hb))
        have HND := Lib.hid (fun W (hb : Below w10.heap.size w10 W) => (show Calls Tryd.prog 26 #[.agg X, .agg Y] W fun e W' => e = .returned (.agg R) ∧ Below W.heap.size W W' from by
          rw [HEX.out, HEY.out, ← HER.out]
          exact pnode_any x cur W hxl HCL.out (tab_on HT.out (HB10.out.trans (hb.mono HB10.out.size)) (HB10.out.trans (hb.mono HB10.out.size)).size)))
        clear hrb10 hg10 hin10 HO10 HO9 HOB9 HW9 HC9 HC8 HBL9 HB9 HSZ HO8 HB8 HPS HST HPAR HPT HW HC HLN HLJ
        go_wp2_with fail
        refine wp_region_loose 8 1 (fun i => false) (promises [.is (.func (.func 26) #[] #[]), .is (.slice (some ⟨w6.heap.size, 0, none⟩) 2 2), .is (.pointer (some ⟨w6.heap.size, 0, none⟩)), .is (.agg X), .is (.slice (some ⟨w6.heap.size, 0, none⟩) 2 2), .is (.pointer (some ⟨w6.heap.size, 32, none⟩)), .is (.agg Y), .is (.agg R)]) (by kernel_rfl) rfl (by kernel_rfl) (fun i v w w' h hb => Spec.keep h hb) ⟨?_, ?_, ?_, ?_, ?_, ?_, ?_, ?_, trivial⟩ ?_
        · refine StepOKl.of ?_
          intro ac w hb hu hk
          refine ⟨wanted_none rfl, ?_⟩
          have e0 : ac.eval (.tmp 0) = .func (.func 26) #[] #[] := hu.is (t := 0) (by kernel_rfl)
          exact step_value (BigFrame.run_move (.tmp 0) rfl w) (Below.refl _ _) e0
        · refine StepOKl.of ?_
          intro ac w hb hu hk
          refine ⟨wanted_none rfl, ?_⟩
          have e15 : ac.eval (.tmp 15) = .slice (some ⟨w6.heap.size, 0, none⟩) 2 2 := hu.is (t := 15) (by kernel_rfl)
          exact step_value (BigFrame.run_move (.tmp 15) rfl w) (Below.refl _ _) e15
        · refine StepOKl.of ?_
          intro ac w hb hu hk
          refine ⟨wanted_none rfl, ?_⟩
          have e53 : ac.eval (.tmp 53) = (.slice (some ⟨w6.heap.size, 0, none⟩) 2 2) := (hk ⟨1, .data⟩ (by simp) rfl).is rfl rfl
          refine step_value (w' := w) (v := (.pointer (some ⟨w6.heap.size, 0, none⟩))) ?_ (Below.refl _ _) rfl
          have ec0 : ac.eval (.const (Value.int IntKind.i64 0)) = Value.int IntKind.i64 0 := rfl
          generalize ac.eval = ρ at e53 ec0 ⊢
          go_simp
        · refine StepOKl.of ?_
          intro ac w hb hu hk
          refine ⟨wanted_none rfl, ?_⟩
          have e54 : ac.eval (.tmp 54) = (.pointer (some ⟨w6.heap.size, 0, none⟩)) := (hk ⟨2, .data⟩ (by simp) rfl).is rfl rfl
          refine step_value (w' := w) (v := .agg X) (run_load_row 25 (.tmp 54) rfl w6.heap.size (0) e54 (Lib.byteCells x) _ (HK10.out w hb).1 Tryd.underlying25 rfl HIX.out HEX.out) (Below.refl _ _) rfl
        · refine StepOKl.of ?_
          intro ac w hb hu hk
          refine ⟨wanted_none rfl, ?_⟩
          have e15 : ac.eval (.tmp 15) = .slice (some ⟨w6.heap.size, 0, none⟩) 2 2 := hu.is (t := 15) (by kernel_rfl)
          exact step_value (BigFrame.run_move (.tmp 15) rfl w) (Below.refl _ _) e15
        · refine StepOKl.of ?_
          intro ac w hb hu hk
          refine ⟨wanted_none rfl, ?_⟩
          have e56 : ac.eval (.tmp 56) = (.slice (some ⟨w6.heap.size, 0, none⟩) 2 2) := (hk ⟨4, .data⟩ (by simp) rfl).is rfl rfl
          refine step_value (w' := w) (v := (.pointer (some ⟨w6.heap.size, 32, none⟩))) ?_ (Below.refl _ _) rfl
          have ec0 : ac.eval (.const (Value.int IntKind.i64 1)) = Value.int IntKind.i64 1 := rfl
          generalize ac.eval = ρ at e56 ec0 ⊢
          go_simp
        · refine StepOKl.of ?_
          intro ac w hb hu hk
          refine ⟨wanted_none rfl, ?_⟩
          have e57 : ac.eval (.tmp 57) = (.pointer (some ⟨w6.heap.size, 32, none⟩)) := (hk ⟨5, .data⟩ (by simp) rfl).is rfl rfl
          refine step_value (w' := w) (v := .agg Y) (run_load_row 25 (.tmp 57) rfl w6.heap.size (32) e57 (Lib.byteCells cur) _ (HK10.out w hb).2 Tryd.underlying25 rfl HIY.out HEY.out) (Below.refl _ _) rfl
        · refine StepOKl.of ?_
          intro ac w hb hu hk
          refine ⟨wanted_none rfl, ?_⟩
          have e52 : ac.eval (.tmp 52) = (.func (.func 26) #[] #[]) := (hk ⟨0, .data⟩ (by simp) rfl).is rfl rfl
          have e55 : ac.eval (.tmp 55) = (.agg X) := (hk ⟨3, .data⟩ (by simp) rfl).is rfl rfl
          have e58 : ac.eval (.tmp 58) = (.agg Y) := (hk ⟨6, .data⟩ (by simp) rfl).is rfl rfl
          refine step_enter (f := 26) (args := #[.agg X, .agg Y]) ?_ ?_
          · generalize ac.eval = ρ at e52 e55 e58 ⊢
            go_simp
          · exact (HND.out w hb).mono fun e w' ⟨he, hq⟩ => ⟨_, he, rfl, hq⟩
        · intro ac w' hb hu hk hap
          obtain ⟨_, h52, rfl⟩ := (hk 0 (by decide)).put rfl rfl
          obtain ⟨_, h53, rfl⟩ := (hk 1 (by decide)).put rfl rfl
          obtain ⟨_, h54, rfl⟩ := (hk 2 (by decide)).put rfl rfl
          obtain ⟨_, h55, rfl⟩ := (hk 3 (by decide)).put rfl rfl
          obtain ⟨_, h56, rfl⟩ := (hk 4 (by decide)).put rfl rfl
          obtain ⟨_, h57, rfl⟩ := (hk 5 (by decide)).put rfl rfl
          obtain ⟨_, h58, rfl⟩ := (hk 6 (by decide)).put rfl rfl
          obtain ⟨_, h59, rfl⟩ := (hk 7 (by decide)).put rfl rfl
          clear hap
          have hF : AllPuts ac.tmps ((52, _) :: (53, _) :: (54, _) :: (55, _) :: (56, _) :: (57, _) :: (58, _) :: (59, _) :: []) := ⟨h52, h53, h54, h55, h56, h57, h58, h59, trivial⟩
          obtain rfl := frame_puts hu (by kernel_rfl) hF
          simp only [puts, Act.put, List.setIfInBounds_toArray, List.set_cons_zero, List.set_cons_succ, List.drop_succ_cons, List.drop_zero]
          clear hk hu hF h52 h53 h54 h55 h56 h57 h58 h59
          have hbe : Below w.heap.size w w' := HB10.out.trans (hb.mono HB10.out.size)
          have HW11 := Lib.hid (show RB (w'.setRow w.heap.size R) (w.heap.size + 1) (.slice A10 (j + 1) c10) (pairsW I lf (ps.take (j + 1))) from (HW10.out.on hb).far (setRow_grown _ _ _) (Nat.lt_succ_self _))
          have HCO := Lib.hid (HC10.out.below hb HC10.out.lt)
          have HC11 := Lib.hid (show Blk (w'.setRow w.heap.size R) w.heap.size (u8A (climbH I lf (ps.take (j + 1)))) 25 by
            rw [HSN.out, HER.out]
            exact HCO.out.row R)
          have HB11 := Lib.hid (below_row hbe hbe.size (Nat.le_refl _) R)
          clear hb hbe HND HK10 HW10 HC10 HB10
          go_wp2_with (with_reducible refine wpList_store_blk rfl 25 (.tmp 8) (.tmp 59) rfl w.heap.size R rfl rfl 25 (u8A cur) HCO.out (by rw [HRZ.out]; kernel_rfl) (by rw [HRZ.out]; exact HCZ.out) HRO.out ?_)
          go_roundw
          case rel => exact ⟨j + 1, p / 2, hlt, by go_num, by go_num, HP2, by omega, HW11, HC11, HB11⟩
          case measure => simp [intOf]; omega
      · have hei : (p : Int) % 2 = 0 := by omega
        have HPAR := Lib.hid (show pairW p cur x = [cur, x] ∧ tree.text nodeT p cur x = nodeT cur x from ⟨if_neg he, if_pos (by omega)⟩)
        have HO8 := HO7
        have HB8 := HB7
        clear HO7 HB7
        have HSN := Lib.hid (show climbH I lf (ps.take (j + 1)) = nodeH cur x by rw [HST.out, HPAR.out.2]; rfl)
        have HPS := Lib.hid (show pairsW I lf (ps.take (j + 1)) = pairsW I lf (ps.take j) ++ [[cur, x]] by rw [HPT.out, HPAR.out.1])
        obtain ⟨X, hX⟩ : ∃ X, X = (Lib.byteCells cur).toArray := ⟨_, rfl⟩
        obtain ⟨Y, hY⟩ : ∃ Y, Y = (Lib.byteCells x).toArray := ⟨_, rfl⟩
        obtain ⟨R, hR⟩ : ∃ R, u8A (nodeH cur x) = R := ⟨_, rfl⟩
        have HEX := Lib.hid hX
        have HEY := Lib.hid hY
        have HER := Lib.hid hR
        have HIX := Lib.hid (show (Tryd.prog.info? 25).map (·.size) = some (Lib.byteCells cur).length by rw [Lib.byteCells_length, HCL.out]; kernel_rfl)
        have HIY := Lib.hid (show (Tryd.prog.info? 25).map (·.size) = some (Lib.byteCells x).length by rw [Lib.byteCells_length, hxl]; kernel_rfl)
        have HRZ := Lib.hid (show R.size = 32 by rw [← hR, u8A_size, nodeH_len])
        have HRO := Lib.hid (show R.all (·.oneCell') = true by rw [← hR]; exact u8A_one _)
        have hal : Below w7.heap.size w7 (w7.alloc (.cells #[.slice (some ⟨w6.heap.size, 0, none⟩) 2 2] 23)) := (Below.refl _ _).alloc (Nat.le_refl _) _
        have hb08 := hbel.trans (HB8.out.mono hbel.size)
        have HO9 := Lib.hid (HO8.out.on hal)
        have HOB9 := Lib.hid (show OwnH (w7.alloc (.cells #[.slice (some ⟨w6.heap.size, 0, none⟩) 2 2] 23)) (w.heap.size + 1) (.slice (some ⟨w6.heap.size, 0, none⟩) 2 2) [cur, x] from ⟨HO9.out.1, own_baseK HO9.out.2 hBle⟩)
        have HW9 := Lib.hid ((HW.out.on HB8.out).on hal)
        have HC8 := Lib.hid (HC.out.below HB8.out HC.out.lt)
        have HC9 := Lib.hid (HC8.out.below hal HC8.out.lt)
        have HBL9 := Lib.hid (show (w7.alloc (.cells #[.slice (some ⟨w6.heap.size, 0, none⟩) 2 2] 23)).heap[w7.heap.size]? = some (.cells #[.slice (some ⟨w6.heap.size, 0, none⟩) 2 2] 23 (0, 0)) from heap_alloc_new _ _)
        have HB9 := Lib.hid (hb08.trans (hal.mono hb08.size))
        have HSZ := Lib.hid (show w.heap.size + 1 ≤ (w7.alloc (.cells #[.slice (some ⟨w6.heap.size, 0, none⟩) 2 2] 23)).heap.size from HC9.out.lt)
        clear hX hY hR hal hb08
        go_wp2_with (at_builtin; refine wpList_append_rowB rfl _ _ rfl (w.heap.size + 1) _ (pairsW I lf (ps.take j)) rfl HW9.out w7.heap.size (.slice (some ⟨w6.heap.size, 0, none⟩) 2 2) [cur, x] HOB9.out HBL9.out rfl HLJ.out HSZ.out ?_)
        intro v10 w10 hrb10 hg10 hin10
        rw [← HPS.out] at hrb10
        obtain ⟨A10, c10, rfl, _, _⟩ := hrb10.form HLN.out
        have HW10 := Lib.hid hrb10
        have HB10 := Lib.hid (HB9.out.grown hg10 HB9.out.size (fun k hk => by have := hin10 k hk; omega))
        have HC10 := Lib.hid (show Blk w10 w.heap.size (u8A cur) 25 from (hg10.block _ HC9.out.lt (fun e => by have := hin10 _ e.symm; omega)).trans HC9.out)
        have HO10 := Lib.hid (show OwnH w10 w6.heap.size (.slice (some ⟨w6.heap.size, 0, none⟩) 2 2) [cur, x] by
          obtain ⟨vs, k1, _⟩ := HW9.out
          exact own_apart_rows HO9.out k1 hg10)
        have HK10 := Lib.hid (fun W (hb : Below w10.heap.size w10 W) => own_ranges (HO10.out.on hb))
        have HND := Lib.hid (fun W (hb : Below w10.heap.size w10 W) => (show Calls Tryd.prog 26 #[.agg X, .agg Y] W fun e W' => e = .returned (.agg R) ∧ Below W.heap.size W W' from by
          rw [HEX.out, HEY.out, ← HER.out]
          exact pnode_any cur x W HCL.out hxl (tab_on HT.out (HB10.out.trans (hb.mono HB10.out.size)) (HB10.out.trans (hb.mono HB10.out.size)).size)))
        clear hrb10 hg10 hin10 HO10 HO9 HOB9 HW9 HC9 HC8 HBL9 HB9 HSZ HO8 HB8 HPS HST HPAR HPT HW HC HLN HLJ
        go_wp2_with fail
        refine wp_region_loose 8 1 (fun i => false) (promises [.is (.func (.func 26) #[] #[]), .is (.slice (some ⟨w6.heap.size, 0, none⟩) 2 2), .is (.pointer (some ⟨w6.heap.size, 0, none⟩)), .is (.agg X), .is (.slice (some ⟨w6.heap.size, 0, none⟩) 2 2), .is (.pointer (some ⟨w6.heap.size, 32, none⟩)), .is (.agg Y), .is (.agg R)]) (by kernel_rfl) rfl (by kernel_rfl) (fun i v w w' h hb => Spec.keep h hb) ⟨?_, ?_, ?_, ?_, ?_, ?_, ?_, ?_, trivial⟩ ?_
        · refine StepOKl.of ?_
          intro ac w hb hu hk
          refine ⟨wanted_none rfl, ?_⟩
          have e0 : ac.eval (.tmp 0) = .func (.func 26) #[] #[] := hu.is (t := 0) (by kernel_rfl)
          exact step_value (BigFrame.run_move (.tmp 0) rfl w) (Below.refl _ _) e0
        · refine StepOKl.of ?_
          intro ac w hb hu hk
          refine ⟨wanted_none rfl, ?_⟩
          have e15 : ac.eval (.tmp 15) = .slice (some ⟨w6.heap.size, 0, none⟩) 2 2 := hu.is (t := 15) (by kernel_rfl)
          exact step_value (BigFrame.run_move (.tmp 15) rfl w) (Below.refl _ _) e15
        · refine StepOKl.of ?_
          intro ac w hb hu hk
          refine ⟨wanted_none rfl, ?_⟩
          have e53 : ac.eval (.tmp 53) = (.slice (some ⟨w6.heap.size, 0, none⟩) 2 2) := (hk ⟨1, .data⟩ (by simp) rfl).is rfl rfl
          refine step_value (w' := w) (v := (.pointer (some ⟨w6.heap.size, 0, none⟩))) ?_ (Below.refl _ _) rfl
          have ec0 : ac.eval (.const (Value.int IntKind.i64 0)) = Value.int IntKind.i64 0 := rfl
          generalize ac.eval = ρ at e53 ec0 ⊢
          go_simp
        · refine StepOKl.of ?_
          intro ac w hb hu hk
          refine ⟨wanted_none rfl, ?_⟩
          have e54 : ac.eval (.tmp 54) = (.pointer (some ⟨w6.heap.size, 0, none⟩)) := (hk ⟨2, .data⟩ (by simp) rfl).is rfl rfl
          refine step_value (w' := w) (v := .agg X) (run_load_row 25 (.tmp 54) rfl w6.heap.size (0) e54 (Lib.byteCells cur) _ (HK10.out w hb).1 Tryd.underlying25 rfl HIX.out HEX.out) (Below.refl _ _) rfl
        · refine StepOKl.of ?_
          intro ac w hb hu hk
          refine ⟨wanted_none rfl, ?_⟩
          have e15 : ac.eval (.tmp 15) = .slice (some ⟨w6.heap.size, 0, none⟩) 2 2 := hu.is (t := 15) (by kernel_rfl)
          exact step_value (BigFrame.run_move (.tmp 15) rfl w) (Below.refl _ _) e15
        · refine StepOKl.of ?_
          intro ac w hb hu hk
          refine ⟨wanted_none rfl, ?_⟩
          have e56 : ac.eval (.tmp 56) = (.slice (some ⟨w6.heap.size, 0, none⟩) 2 2) := (hk ⟨4, .data⟩ (by simp) rfl).is rfl rfl
          refine step_value (w' := w) (v := (.pointer (some ⟨w6.heap.size, 32, none⟩))) ?_ (Below.refl _ _) rfl
          have ec0 : ac.eval (.const (Value.int IntKind.i64 1)) = Value.int IntKind.i64 1 := rfl
          generalize ac.eval = ρ at e56 ec0 ⊢
          go_simp
        · refine StepOKl.of ?_
          intro ac w hb hu hk
          refine ⟨wanted_none rfl, ?_⟩
          have e57 : ac.eval (.tmp 57) = (.pointer (some ⟨w6.heap.size, 32, none⟩)) := (hk ⟨5, .data⟩ (by simp) rfl).is rfl rfl
          refine step_value (w' := w) (v := .agg Y) (run_load_row 25 (.tmp 57) rfl w6.heap.size (32) e57 (Lib.byteCells x) _ (HK10.out w hb).2 Tryd.underlying25 rfl HIY.out HEY.out) (Below.refl _ _) rfl
        · refine StepOKl.of ?_
          intro ac w hb hu hk
          refine ⟨wanted_none rfl, ?_⟩
          have e52 : ac.eval (.tmp 52) = (.func (.func 26) #[] #[]) := (hk ⟨0, .data⟩ (by simp) rfl).is rfl rfl
          have e55 : ac.eval (.tmp 55) = (.agg X) := (hk ⟨3, .data⟩ (by simp) rfl).is rfl rfl
          have e58 : ac.eval (.tmp 58) = (.agg Y) := (hk ⟨6, .data⟩ (by simp) rfl).is rfl rfl
          refine step_enter (f := 26) (args := #[.agg X, .agg Y]) ?_ ?_
          · generalize ac.eval = ρ at e52 e55 e58 ⊢
            go_simp
          · exact (HND.out w hb).mono fun e w' ⟨he, hq⟩ => ⟨_, he, rfl, hq⟩
        · intro ac w' hb hu hk hap
          obtain ⟨_, h52, rfl⟩ := (hk 0 (by decide)).put rfl rfl
          obtain ⟨_, h53, rfl⟩ := (hk 1 (by decide)).put rfl rfl
          obtain ⟨_, h54, rfl⟩ := (hk 2 (by decide)).put rfl rfl
          obtain ⟨_, h55, rfl⟩ := (hk 3 (by decide)).put rfl rfl
          obtain ⟨_, h56, rfl⟩ := (hk 4 (by decide)).put rfl rfl
          obtain ⟨_, h57, rfl⟩ := (hk 5 (by decide)).put rfl rfl
          obtain ⟨_, h58, rfl⟩ := (hk 6 (by decide)).put rfl rfl
          obtain ⟨_, h59, rfl⟩ := (hk 7 (by decide)).put rfl rfl
          clear hap
          have hF : AllPuts ac.tmps ((52, _) :: (53, _) :: (54, _) :: (55, _) :: (56, _) :: (57, _) :: (58, _) :: (59, _) :: []) := ⟨h52, h53, h54, h55, h56, h57, h58, h59, trivial⟩
          obtain rfl := frame_puts hu (by kernel_rfl) hF
          simp only [puts, Act.put, List.setIfInBounds_toArray, List.set_cons_zero, List.set_cons_succ, List.drop_succ_cons, List.drop_zero]
          clear hk hu hF h52 h53 h54 h55 h56 h57 h58 h59
          have hbe : Below w.heap.size w w' := HB10.out.trans (hb.mono HB10.out.size)
          have HW11 := Lib.hid (show RB (w'.setRow w.heap.size R) (w.heap.size + 1) (.slice A10 (j + 1) c10) (pairsW I lf (ps.take (j + 1))) from (HW10.out.on hb).far (setRow_grown _ _ _) (Nat.lt_succ_self _))
          have HCO := Lib.hid (HC10.out.below hb HC10.out.lt)
          have HC11 := Lib.hid (show Blk (w'.setRow w.heap.size R) w.heap.size (u8A (climbH I lf (ps.take (j + 1)))) 25 by
            rw [HSN.out, HER.out]
            exact HCO.out.row R)
          have HB11 := Lib.hid (below_row hbe hbe.size (Nat.le_refl _) R)
          clear hb hbe HND HK10 HW10 HC10 HB10
          go_wp2_with (with_reducible refine wpList_store_blk rfl 25 (.tmp 8) (.tmp 59) rfl w.heap.size R rfl rfl 25 (u8A cur) HCO.out (by rw [HRZ.out]; kernel_rfl) (by rw [HRZ.out]; exact HCZ.out) HRO.out ?_)
          go_roundw
          case rel => exact ⟨j + 1, p / 2, hlt, by go_num, by go_num, HP2, by omega, HW11, HC11, HB11⟩
          case measure => simp [intOf]; omega
    · obtain rfl : j = m := by omega
      have hji : ¬ (j : Int) < (j : Int) := by omega
      have HTA := Lib.hid (show ps.take j = ps from List.take_of_length_le (by rw [HM.out]; exact Nat.le_refl _))
      rw [HTA.out] at HW HC HTL
      have HCL := Lib.hid (climbH_len hlf ps I)
      have HWL := Lib.hid (show wayL I lf ps = pairsW I lf ps ++ [[climbH I lf ps]] from rfl)
      have HLJ := Lib.hid (show (pairsW I lf ps).length + 1 ≤ 1000000 by rw [pairsW_len, HTL.out]; omega)
      generalize climbH I lf ps = cur at *
      obtain ⟨C, hC⟩ : ∃ C, u8A cur = C := ⟨_, rfl⟩
      have HEC := Lib.hid hC
      have HCS := Lib.hid (show C.size = 32 by rw [← hC, u8A_size]; exact HCL.out)
      have HCR := Lib.hid (range_of_blk HC.out)
      have hal : Below wr.heap.size wr (wr.alloc (.cells C 25)) := (Below.refl _ _).alloc (Nat.le_refl _) _
      have hal2 : Below (wr.alloc (.cells C 25)).heap.size (wr.alloc (.cells C 25)) ((wr.alloc (.cells C 25)).alloc (.cells #[.slice (some ⟨wr.heap.size, 0, none⟩) 1 1] 23)) := (Below.refl _ _).alloc (Nat.le_refl _) _
      have hlt8 := HC.out.lt
      have HO9 := Lib.hid (show OwnH ((wr.alloc (.cells C 25)).alloc (.cells #[.slice (some ⟨wr.heap.size, 0, none⟩) 1 1] 23)) (w.heap.size + 1) (.slice (some ⟨wr.heap.size, 0, none⟩) 1 1) [cur] by
        rw [← hC]
        rw [← hC] at hal2
        exact (own_one HCL.out hlt8).on hal2)
      have HW9 := Lib.hid ((HW.out.on hal).on hal2)
      have hb1 := hbel.trans (hal.mono hbel.size)
      have HB9 := Lib.hid (hb1.trans (hal2.mono hb1.size))
      have HBL9 := Lib.hid (show ((wr.alloc (.cells C 25)).alloc (.cells #[.slice (some ⟨wr.heap.size, 0, none⟩) 1 1] 23)).heap[wr.heap.size + 1]? = some (.cells #[.slice (some ⟨wr.heap.size, 0, none⟩) 1 1] 23 (0, 0)) from by
        have h := heap_alloc_new (wr.alloc (.cells C 25)) (.cells #[.slice (some ⟨wr.heap.size, 0, none⟩) 1 1] 23)
        rw [show (wr.alloc (.cells C 25)).heap.size = wr.heap.size + 1 by simp] at h
        exact h)
      have HSZ := Lib.hid (show w.heap.size + 1 ≤ ((wr.alloc (.cells C 25)).alloc (.cells #[.slice (some ⟨wr.heap.size, 0, none⟩) 1 1] 23)).heap.size from Nat.le_trans hlt8 (Nat.le_trans hal.size hal2.size))
      clear hC hal hal2 hb1 HW HC
      go_wp2_with (first
        | (with_reducible refine wpList_load_hash rfl (.tmp 8) rfl w.heap.size 0 rfl cur HCL.out HCR.out C HEC.out ?_)
        | (with_reducible refine wpList_build_hash rfl (.tmp 64) rfl C rfl HCS.out ?_)
        | (at_builtin; refine wpList_append_rowB rfl _ _ rfl (w.heap.size + 1) _ (pairsW I lf ps) rfl HW9.out (wr.heap.size + 1) (.slice (some ⟨wr.heap.size, 0, none⟩) 1 1) [cur] HO9.out HBL9.out rfl HLJ.out HSZ.out ?_))
      intro v10 w10 hrb10 hg10 hin10
      rw [← HWL.out] at hrb10
      have HBE := Lib.hid (HB9.out.grown hg10 HB9.out.size (fun k hk => by have := hin10 k hk; omega))
      have HRE := Lib.hid (show RL w10 w.heap.size v10 (wayL I lf ps) by
        obtain ⟨vs, k1, k2⟩ := hrb10.rl
        exact ⟨vs, own_baseK k1 (Nat.le_succ _), k2⟩)
      clear hrb10 hg10 hin10 HO9 HW9 HB9 HBL9 HSZ
      go_wp2_with fail
      go_ret2
      exact ⟨_, rfl, HRE.out, HBE.out⟩
end Go.Proofs.YtpfhhbfjemmkaaaDoor
