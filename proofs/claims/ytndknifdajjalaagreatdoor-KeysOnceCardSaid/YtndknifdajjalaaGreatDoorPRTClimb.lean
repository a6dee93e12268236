/- The document's own tree: the root that a leaf and a proof make. -/
import Derived.Deep.RegionHeld3
import Derived.Test.YtndknifdajjalaaGreatDoorPTreeB
import Derived.Test.YtndknifdajjalaaGreatDoorPHashB2
import Derived.Test.YtndknifdajjalaaGreatDoorPFreeL
namespace Go.Proofs.YtndknifdajjalaaGreatDoor
open Go.RowKit

theorem nodeH_len (a b : List UInt8) : (nodeH a b).length = 32 := outTo_len _ 8 (by omega)
/-- The row above. -/
def upH (l : List (List UInt8)) : List (List UInt8) := tree.up nodeT shaL l
theorem upH_len (l : List (List UInt8)) : (upH l).length = l.length / 2 := tree.up_len _ _ l
theorem upH_step (l : List (List UInt8)) {k : Nat} (h : 2 * k + 1 < l.length) : (upH l).take (k + 1) = (upH l).take k ++ [nodeH (l.getD (2 * k) []) (l.getD (2 * k + 1) [])] := by
  have hk : k < (upH l).length := by rw [upH_len]; omega
  rw [List.take_succ_eq_append_getElem hk]
  have e := tree.up_at nodeT shaL [] l k h
  have e2 : (upH l)[k] = (upH l).getD k [] := by simp [List.getD_eq_getElem?_getD, hk]
  rw [e2]
  unfold upH
  rw [e]
  rfl
theorem run_load_row {P : Program} {w : World} {ρ : Operand → Value} {o : Oper} (ty : TypeId) (x : Operand) (ho : o.op = .load ty x) (b off : Nat) (hx : ρ x = .pointer (some ⟨b, off, none⟩)) (cs : List Value) (d : TypeDesc) (hS : w.rangeAt b off cs)
    (hu : P.underlying ty = some d) (hd : d.isRow = true) (hi : (P.info? ty).map (·.size) = some cs.length) {X : Array Value} (hX : X = cs.toArray) : (execOp ρ o).run P w = .ok (.value (.agg X)) w := by
  subst hX
  unfold execOp
  simp only [ho, hx, Instr.loadAt, Instr.sureAddr, Sem.run_bind, Sem.run_pure, Result.andThen_ok, run_loadVar_mid w b off ty cs d hS hu hd hi]
set_option maxRecDepth 100000 in
set_option maxHeartbeats 8000000 in
theorem rup_any (A : Option Addr) (n c : Nat) (hs : List (List UInt8)) (w : World) (hn : hs.length = n) (h1 : n ≤ 100000) (hl : ∀ r ∈ hs, r.length = 32) (hr : RdH w w.heap.size A hs) :
    Calls Tryz.prog 81 #[.slice A n c] w fun e w' => ∃ v, e = .returned v ∧ OwnH w' w.heap.size v (upH hs) ∧ Below w.heap.size w w' := by
  have HN := Lib.hid hn
  have HL := Lib.hid hl
  have HR := Lib.hid hr
  clear hn hl hr
  go_enter Tryz.func81, Tryz.ntmps81
  go_wp2_with fail
  go_loopw [3, 4] (fun v t wq => ∃ k p : Nat, 2 * k ≤ n ∧ t = .int .i64 p ∧ Hid (p = 2 * k) ∧ Hid (OwnH wq w.heap.size v ((upH hs).take k)) ∧ Below w.heap.size w wq) (fun _ t _ => n - (intOf t).toNat)
  case atStart => exact ⟨0, 0, by omega, rfl, Lib.hid rfl, Lib.hid (by simpa using OwnH.nil w w.heap.size), Below.refl _ _⟩
  case round =>
    obtain ⟨k, p, hkn, rfl, HP, HO, hbel⟩ := hrel
    have hp := HP.out
    obtain ⟨q, hq⟩ : ∃ q, p + 1 = q := ⟨_, rfl⟩
    have HQ := Lib.hid hq
    have hqi : (p : Int) + 1 = (q : Int) := by omega
    have hw1 : IntKind.i64.wrap (q : Int) = (q : Int) := IntWalk.i64_in _ (by omega)
    by_cases hlt : q < n
    · have hpi : (q : Int) < (n : Int) := by omega
      have hp0 : (p : Int) < (n : Int) := by omega
      have hle := hbel.size
      have hstep := upH_step hs (k := k) (by rw [HN.out]; omega)
      rw [← hp, hq] at hstep
      have hplen : q < hs.length := by rw [HN.out]; exact hlt
      have hkk : k ≤ 100000 := by omega
      have hkl : ((upH hs).take k).length = k := by rw [List.length_take, upH_len, HN.out]; omega
      have HPN := Lib.hid (show p + 2 ≤ n by omega)
      clear hp hq
      obtain ⟨A3, c3, rfl, _, _⟩ := HO.out.form hkl
      rcases HR.out with h0 | ⟨b, off, rfl, hb, hc⟩
      · rw [h0] at hplen; simp at hplen
      · have hx := hc p (by omega)
        have hy := hc q hplen
        rw [show hs[p]'(by omega) = hs.getD p [] by simp [List.getD_eq_getElem?_getD, show p < hs.length by omega]] at hx
        rw [show hs[q]'hplen = hs.getD q [] by simp [List.getD_eq_getElem?_getD, hplen]] at hy
        have hxl : (hs.getD p []).length = 32 := by
          rw [show hs.getD p [] = hs[p]'(by omega) by simp [List.getD_eq_getElem?_getD, show p < hs.length by omega]]
          exact HL.out _ (List.getElem_mem _)
        have hyl : (hs.getD q []).length = 32 := by
          rw [show hs.getD q [] = hs[q]'hplen by simp [List.getD_eq_getElem?_getD, hplen]]
          exact HL.out _ (List.getElem_mem _)
        generalize hs.getD p [] = x at *
        generalize hs.getD q [] = y at *
        have HST := Lib.hid hstep
        have HKEEP := Lib.hid (fun W (h : Below wr.heap.size wr W) => (⟨rangeAt_keep hx fun j => (hbel.trans (h.mono hle)).cell hb, rangeAt_keep hy fun j => (hbel.trans (h.mono hle)).cell hb⟩ : W.rangeAt b (off + p * 32) (Lib.byteCells x) ∧ W.rangeAt b (off + q * 32) (Lib.byteCells y)))
        obtain ⟨X, hX⟩ : ∃ X, X = (Lib.byteCells x).toArray := ⟨_, rfl⟩
        obtain ⟨Y, hY⟩ : ∃ Y, Y = (Lib.byteCells y).toArray := ⟨_, rfl⟩
        obtain ⟨Z, hZ⟩ : ∃ Z, u8A (nodeH x y) = Z := ⟨_, rfl⟩
        have HEX := Lib.hid hX
        have HEY := Lib.hid hY
        have HEZ := Lib.hid hZ
        have HIX := Lib.hid (show (Tryz.prog.info? 44).map (·.size) = some (Lib.byteCells x).length by rw [Lib.byteCells_length, hxl]; kernel_rfl)
        have HIY := Lib.hid (show (Tryz.prog.info? 44).map (·.size) = some (Lib.byteCells y).length by rw [Lib.byteCells_length, hyl]; kernel_rfl)
        have HND := Lib.hid (fun W => (show Calls Tryz.prog 71 #[.agg X, .agg Y] W fun e W' => e = .returned (.agg Z) ∧ Below W.heap.size W W' from by rw [hX, hY, ← hZ]; exact rnode_any x y W hxl hyl))
        have HTL := Lib.hid (show ((upH hs).take k).length ≤ 1000000 by omega)
        have hzz : Z.size = 32 := by rw [← hZ, u8A_size, nodeH_len]
        clear hx hy hstep hc hxl hyl hX hY hZ hkl
        go_wp2_with fail
        refine wp_region_loose1 11 3 (fun i => false) (promises [.is (.slice A3 k c3), .is (.slice (some ⟨b, off, none⟩) n c), .is (.int .i64 (p : Int)), .is (.pointer (some ⟨b, off + p * 32, none⟩)), .is (.agg X), .is (.slice (some ⟨b, off, none⟩) n c), .is (.int .i64 (p : Int)), .is (.int .i64 (q : Int)), .is (.pointer (some ⟨b, off + q * 32, none⟩)), .is (.agg Y), .is (.agg Z)]) _ (.slice A3 k c3) (by kernel_rfl) rfl (by kernel_rfl) (by kernel_rfl) rfl (.inl ⟨wanted_none rfl, fun w => BigFrame.run_move (.tmp 3) rfl w⟩) (fun _ _ => rfl) (fun _ _ _ h => h) (fun i v w w' h hb => Spec.keep h hb) ⟨?_, ?_, ?_, ?_, ?_, ?_, ?_, ?_, ?_, ?_, ?_, trivial⟩ ?_
        · refine StepOKl.of ?_
          intro ac w hb hu hk
          refine ⟨wanted_none rfl, ?_⟩
          have e3 : ac.eval (.tmp 3) = .slice A3 k c3 := hu.is (t := 3) (by kernel_rfl)
          exact step_value (BigFrame.run_move (.tmp 3) rfl w) (Below.refl _ _) e3
        · refine StepOKl.of ?_
          intro ac w hb hu hk
          refine ⟨wanted_none rfl, ?_⟩
          have e0 : ac.eval (.tmp 0) = .slice (some ⟨b, off, none⟩) n c := hu.is (t := 0) (by kernel_rfl)
          exact step_value (BigFrame.run_move (.tmp 0) rfl w) (Below.refl _ _) e0
        · refine StepOKl.of ?_
          intro ac w hb hu hk
          refine ⟨wanted_none rfl, ?_⟩
          have e4 : ac.eval (.tmp 4) = .int .i64 (p : Int) := hu.is (t := 4) (by kernel_rfl)
          exact step_value (BigFrame.run_move (.tmp 4) rfl w) (Below.refl _ _) e4
        · refine StepOKl.of ?_
          intro ac w hb hu hk
          refine ⟨wanted_none rfl, ?_⟩
          have e13 : ac.eval (.tmp 13) = (.slice (some ⟨b, off, none⟩) n c) := (hk ⟨1, .data⟩ (by simp) rfl).is rfl rfl
          have e14 : ac.eval (.tmp 14) = (.int .i64 (p : Int)) := (hk ⟨2, .data⟩ (by simp) rfl).is rfl rfl
          refine step_value (w' := w) (v := (.pointer (some ⟨b, off + p * 32, none⟩))) ?_ (Below.refl _ _) rfl
          generalize ac.eval = ρ at e13 e14 ⊢
          go_simp
        · refine StepOKl.of ?_
          intro ac w hb hu hk
          refine ⟨wanted_none rfl, ?_⟩
          have e15 : ac.eval (.tmp 15) = (.pointer (some ⟨b, off + p * 32, none⟩)) := (hk ⟨3, .data⟩ (by simp) rfl).is rfl rfl
          refine step_value (w' := w) (v := .agg X) (run_load_row 44 (.tmp 15) rfl b (off + p * 32) e15 (Lib.byteCells x) _ (HKEEP.out w hb).1 Tryz.underlying44 rfl HIX.out HEX.out) (Below.refl _ _) rfl
        · refine StepOKl.of ?_
          intro ac w hb hu hk
          refine ⟨wanted_none rfl, ?_⟩
          have e0 : ac.eval (.tmp 0) = .slice (some ⟨b, off, none⟩) n c := hu.is (t := 0) (by kernel_rfl)
          exact step_value (BigFrame.run_move (.tmp 0) rfl w) (Below.refl _ _) e0
        · refine StepOKl.of ?_
          intro ac w hb hu hk
          refine ⟨wanted_none rfl, ?_⟩
          have e4 : ac.eval (.tmp 4) = .int .i64 (p : Int) := hu.is (t := 4) (by kernel_rfl)
          exact step_value (BigFrame.run_move (.tmp 4) rfl w) (Below.refl _ _) e4
        · refine StepOKl.of ?_
          intro ac w hb hu hk
          refine ⟨wanted_none rfl, ?_⟩
          have e18 : ac.eval (.tmp 18) = (.int .i64 (p : Int)) := (hk ⟨6, .data⟩ (by simp) rfl).is rfl rfl
          refine step_value (w' := w) (v := .int .i64 (q : Int)) ?_ (Below.refl _ _) rfl
          have ec : ac.eval (.const (.int .i64 1)) = .int .i64 1 := rfl
          generalize ac.eval = ρ at e18 ec ⊢
          go_simp
        · refine StepOKl.of ?_
          intro ac w hb hu hk
          refine ⟨wanted_none rfl, ?_⟩
          have e17 : ac.eval (.tmp 17) = (.slice (some ⟨b, off, none⟩) n c) := (hk ⟨5, .data⟩ (by simp) rfl).is rfl rfl
          have e19 : ac.eval (.tmp 19) = (.int .i64 (q : Int)) := (hk ⟨7, .data⟩ (by simp) rfl).is rfl rfl
          refine step_value (w' := w) (v := (.pointer (some ⟨b, off + q * 32, none⟩))) ?_ (Below.refl _ _) rfl
          generalize ac.eval = ρ at e17 e19 ⊢
          go_simp
        · refine StepOKl.of ?_
          intro ac w hb hu hk
          refine ⟨wanted_none rfl, ?_⟩
          have e20 : ac.eval (.tmp 20) = (.pointer (some ⟨b, off + q * 32, none⟩)) := (hk ⟨8, .data⟩ (by simp) rfl).is rfl rfl
          refine step_value (w' := w) (v := .agg Y) (run_load_row 44 (.tmp 20) rfl b (off + q * 32) e20 (Lib.byteCells y) _ (HKEEP.out w hb).2 Tryz.underlying44 rfl HIY.out HEY.out) (Below.refl _ _) rfl
        · refine StepOKl.of ?_
          intro ac w hb hu hk
          refine ⟨wanted_none rfl, ?_⟩
          have e16 : ac.eval (.tmp 16) = (.agg X) := (hk ⟨4, .data⟩ (by simp) rfl).is rfl rfl
          have e21 : ac.eval (.tmp 21) = (.agg Y) := (hk ⟨9, .data⟩ (by simp) rfl).is rfl rfl
          have ef : ac.eval (.func 71) = .func (.func 71) #[] #[] := rfl
          refine step_enter (f := 71) (args := #[.agg X, .agg Y]) ?_ ?_
          · generalize ac.eval = ρ at e16 e21 ef ⊢
            go_simp
          · exact (HND.out w).mono fun e w' ⟨he, hq⟩ => ⟨_, he, rfl, hq⟩
        · intro ac w' hb hu hk hap
          obtain ⟨_, h12, rfl⟩ := (hk 0 (by decide)).put rfl rfl
          obtain ⟨_, h13, rfl⟩ := (hk 1 (by decide)).put rfl rfl
          obtain ⟨_, h14, rfl⟩ := (hk 2 (by decide)).put rfl rfl
          obtain ⟨_, h15, rfl⟩ := (hk 3 (by decide)).put rfl rfl
          obtain ⟨_, h16, rfl⟩ := (hk 4 (by decide)).put rfl rfl
          obtain ⟨_, h17, rfl⟩ := (hk 5 (by decide)).put rfl rfl
          obtain ⟨_, h18, rfl⟩ := (hk 6 (by decide)).put rfl rfl
          obtain ⟨_, h19, rfl⟩ := (hk 7 (by decide)).put rfl rfl
          obtain ⟨_, h20, rfl⟩ := (hk 8 (by decide)).put rfl rfl
          obtain ⟨_, h21, rfl⟩ := (hk 9 (by decide)).put rfl rfl
          obtain ⟨_, h22, rfl⟩ := (hk 10 (by decide)).put rfl rfl
          clear hap
          have hF : AllPuts ac.tmps ((12, _) :: (13, _) :: (14, _) :: (15, _) :: (16, _) :: (17, _) :: (18, _) :: (19, _) :: (20, _) :: (21, _) :: (22, _) :: []) := ⟨h12, h13, h14, h15, h16, h17, h18, h19, h20, h21, h22, trivial⟩
          obtain rfl := frame_puts hu (by kernel_rfl) hF
          simp only [puts, Act.put, List.setIfInBounds_toArray, List.set_cons_zero, List.set_cons_succ, List.drop_succ_cons, List.drop_zero]
          clear hk hu hF h12 h13 h14 h15 h16 h17 h18 h19 h20 h21 h22
          have hw' : Below w.heap.size w w' := hbel.trans (hb.mono hle)
          have hle' : w.heap.size ≤ w'.heap.size := hw'.size
          have hal : Below w'.heap.size w' (w'.alloc (.cells Z 44)) := (Below.refl _ _).alloc (Nat.le_refl _) _
          have hw2 : Below w.heap.size w (w'.alloc (.cells Z 44)) := hw'.trans (hal.mono hle')
          have HOW := Lib.hid ((HO.out.on hb).on hal)
          have HBZ := Lib.hid (show Blk (w'.alloc (.cells Z 44)) w'.heap.size (u8A (nodeH x y)) 44 by
            rw [HEZ.out]
            exact Blk.new _ _ _)
          have HNL := Lib.hid (nodeH_len x y)
          clear HND HKEEP HO hbel hle hal
          go_wp2_with (first | (with_reducible refine wpList_build_hash rfl (.tmp 22) rfl Z rfl hzz ?_) | (at_builtin; refine wpList_append_hash rfl _ _ rfl w.heap.size _ ((upH hs).take k) rfl HOW.out w'.heap.size (nodeH x y) HNL.out HBZ.out rfl HTL.out (by simp; omega) ?_))
          intro v7 w7 hown7 hb7
          rw [← HST.out] at hown7
          have HO7 := Lib.hid hown7
          have hb8 : Below w.heap.size w w7 := hw2.trans hb7
          clear hown7 hb7 HOW HBZ hw' hw2 hb
          go_wp2_with fail
          go_roundw
          case rel => exact ⟨k + 1, p + 2, by have := HPN.out; have := HP.out; omega, by go_num, Lib.hid (by rw [HP.out]; omega), HO7, hb8⟩
          case measure => simp [intOf]; omega
    · have hpi : ¬ (q : Int) < (n : Int) := by omega
      have HE := Lib.hid (show (upH hs).take k = upH hs from List.take_of_length_le (by rw [upH_len, HN.out]; omega))
      rw [HE.out] at HO
      go_wp2_with fail
      go_ret
      exact ⟨_, rfl, HO.out, hbel⟩

/-- How long a slice is. -/
def lenW : Value → Nat
  | .slice _ n _ => n
  | _ => 0
def padH : List UInt8 := shaL (netsL [[112, 97, 100]])
theorem padH_len : padH.length = 32 := outTo_len _ 8 (by omega)
def rowH (l : List (List UInt8)) : List (List UInt8) := tree.row padH l
theorem rowH_len (l : List (List UInt8)) : (rowH l).length = 2 ^ tree.high l.length := tree.row_len _ _
theorem rowH_hash {l : List (List UInt8)} (h : ∀ r ∈ l, r.length = 32) : ∀ r ∈ rowH l, r.length = 32 := fun r hr => by
  rcases List.mem_append.1 hr with hr | hr
  · exact h r hr
  · rw [(List.mem_replicate.1 hr).2]; exact padH_len
theorem high_small {n : Nat} (h : n ≤ 1024) : 2 ^ tree.high n ≤ 1024 := show 2 ^ _ ≤ 2 ^ 10 from Nat.pow_le_pow_right (by omega) (tree.high_least 10 n (by simpa using h))
set_option maxRecDepth 100000 in
set_option maxHeartbeats 4000000 in
theorem rrow7_any (A : Option Addr) (n c : Nat) (hs : List (List UInt8)) (w : World) (hn : hs.length = n) (h1 : n ≤ 1024) (hl : ∀ r ∈ hs, r.length = 32) (hr : RdH w w.heap.size A hs) :
    Calls Tryz.prog 80 #[.slice A n c] w fun e w' => ∃ v, e = .returned v ∧ OwnH w' w.heap.size v (rowH hs) ∧ Below w.heap.size w w' := by
  obtain ⟨pd, hpd⟩ : ∃ p, 2 ^ tree.high n = p := ⟨_, rfl⟩
  have HN := Lib.hid hn
  have hpn : n ≤ pd := by rw [← hpd]; exact tree.high_le n
  have hp1 : pd ≤ 1024 := by rw [← hpd]; exact high_small h1
  have HPAD := Lib.hid (fun W => (show Calls Tryz.prog 70 #[.int .i64 (n : Int)] W fun e W' => e = .returned (.int .i64 (pd : Int)) ∧ W = W' from by
    have := rpad7_any (n : Int) W (by omega)
    rw [Int.toNat_natCast, show tree.pad n = pd from hpd] at this
    exact this))
  have HROW := Lib.hid (show rowH hs = hs ++ List.replicate (pd - n) padH by unfold rowH tree.row; rw [HN.out, show tree.pad n = pd from hpd])
  have HTG := Lib.hid (fun W => (show Calls Tryz.prog 111 #[.string ⟨#[112, 97, 100]⟩, .slice none 0 0] W fun e W' => e = .returned (.agg (u8A padH)) ∧ Below W.heap.size W W' from
    rtagged_any [112, 97, 100] none 0 0 [] W (by decide) rfl (by omega) (fun r hr => by cases hr) (.inl rfl)))
  obtain ⟨Z, hZ⟩ : ∃ Z, u8A padH = Z := ⟨_, rfl⟩
  have HEZ := Lib.hid hZ
  have hzz : Z.size = 32 := by rw [← hZ, u8A_size, padH_len]
  rw [hZ] at HTG
  clear hpd hZ
  go_enter Tryz.func80, Tryz.ntmps80
  go_wp2_with (at_builtin; refine wpList_append_hashes rfl _ _ rfl w.heap.size (.slice none 0 0) [] rfl (OwnH.nil _ _) w.heap.size A n c hs rfl hn hl hr (by simp; omega) (Nat.le_refl _) ?_)
  intro v1 w1 hown1 hb1
  have HO1 := Lib.hid (show OwnH w1 w.heap.size v1 (hs ++ List.replicate 0 padH) by simpa using hown1)
  clear hown1 hr hl hn
  go_wp2_with fail
  go_loopw [3] (fun v wr => ∃ j : Nat, n + j ≤ pd ∧ Hid (OwnH wr w.heap.size v (hs ++ List.replicate j padH)) ∧ Below w.heap.size w wr) (fun v _ => pd - lenW v)
  case atStart => exact ⟨0, by omega, HO1, hb1⟩
  case round =>
    clear HO1 hb1
    obtain ⟨j, hj, HO, hbel⟩ := hrel
    obtain ⟨m, hm⟩ : ∃ m, n + j = m := ⟨_, rfl⟩
    have hlen : (hs ++ List.replicate j padH).length = m := by rw [List.length_append, List.length_replicate, HN.out]; exact hm
    obtain ⟨A', c', rfl, hc', _⟩ := HO.out.form hlen
    have HM := Lib.hid hm
    have hle := hbel.size
    by_cases hlt : m < pd
    · have hmi : (m : Int) < (pd : Int) := by omega
      have HSN := Lib.hid (show hs ++ List.replicate (j + 1) padH = hs ++ (List.replicate j padH ++ [padH]) by rw [List.replicate_succ'])
      have HT := Lib.hid (HTG.out wr)
      obtain ⟨wo, rfl⟩ : ∃ y : World, y = wr := ⟨_, rfl⟩
      clear hm
      go_wp2_with fail
      with_reducible refine (HPAD.out _).mono ?_
      rintro e w2 ⟨rfl, rfl⟩
      go_wp2_with fail
      with_reducible refine (HT.out).mono ?_
      rintro e w3 ⟨rfl, hb3⟩
      have hal : Below w3.heap.size w3 (w3.alloc (.cells Z 44)) := (Below.refl _ _).alloc (Nat.le_refl _) _
      have hw3 : Below w.heap.size w w3 := hbel.trans (hb3.mono hle)
      have hw4 : Below w.heap.size w (w3.alloc (.cells Z 44)) := hw3.trans (hal.mono hw3.size)
      have HOW := Lib.hid ((HO.out.on hb3).on hal)
      have HBZ := Lib.hid (show Blk (w3.alloc (.cells Z 44)) w3.heap.size (u8A padH) 44 by
        rw [HEZ.out]
        exact Blk.new _ _ _)
      have HNL := Lib.hid padH_len
      have hle4 := hw4.size
      clear HO HT hbel hle hb3 hw3 hal
      go_wp2_with (first | (with_reducible refine wpList_build_hash rfl (.tmp 13) rfl Z rfl hzz ?_) | (at_builtin; refine wpList_append_hash rfl _ _ rfl w.heap.size _ (hs ++ List.replicate j padH) rfl HOW.out w3.heap.size padH HNL.out HBZ.out rfl (by rw [hlen]; omega) hle4 ?_))
      intro v7 w7 hown7 hb7
      rw [← HSN.out] at hown7
      have HO7 := Lib.hid hown7
      have hb8 : Below w.heap.size w w7 := hw4.trans hb7
      obtain ⟨A7, c7, hv7, _⟩ := hown7.form (n := m + 1) (by rw [HSN.out, ← List.append_assoc, List.length_append, hlen]; rfl)
      subst hv7
      clear hown7 hb7 HOW HBZ hw4 hle4
      go_wp2_with fail
      go_roundw
      case rel => exact ⟨j + 1, by have := HM.out; omega, HO7, hb8⟩
      case measure => simp [lenW]; omega
    · have hmi : ¬ (m : Int) < (pd : Int) := by omega
      have HE := Lib.hid (show rowH hs = hs ++ List.replicate j padH by rw [HROW.out, show pd - n = j by omega])
      clear hm
      go_wp2_with fail
      with_reducible refine (HPAD.out _).mono ?_
      rintro e w2 ⟨rfl, rfl⟩
      go_wp2_with fail
      go_ret
      exact ⟨_, rfl, by rw [HE.out]; exact HO.out, hbel⟩

def rootH (k : Nat) (l : List (List UInt8)) : List UInt8 := tree.root nodeT shaL [] k l
def upNH (k : Nat) (l : List (List UInt8)) : List (List UInt8) := tree.upN nodeT shaL k l
theorem upNH_len (k : Nat) (l : List (List UInt8)) : (upNH k l).length = l.length / 2 ^ k := tree.upN_len _ _ k l
theorem upNH_succ (k : Nat) (l : List (List UInt8)) : upNH (k + 1) l = upH (upNH k l) := tree.upN_succ _ _ k l
theorem upH_hash (l : List (List UInt8)) : ∀ r ∈ upH l, r.length = 32 := by
  intro r hr
  obtain ⟨i, hi, rfl⟩ := List.getElem_of_mem hr
  have h2 : 2 * i + 1 < l.length := by rw [upH_len] at hi; omega
  have e := tree.up_at nodeT shaL [] l i h2
  rw [show (upH l)[i] = (upH l).getD i [] by simp [List.getD_eq_getElem?_getD, hi]]
  unfold upH
  rw [e]
  exact nodeH_len _ _
theorem upNH_hash {l : List (List UInt8)} (h : ∀ r ∈ l, r.length = 32) : ∀ k, ∀ r ∈ upNH k l, r.length = 32
  | 0 => h
  | k + 1 => by rw [upNH_succ]; exact upH_hash _
set_option maxRecDepth 100000 in
set_option maxHeartbeats 4000000 in
theorem rroot7_any (A : Option Addr) (n c : Nat) (hs : List (List UInt8)) (w : World) (hn : hs.length = n) (h1 : n ≤ 1024) (hl : ∀ r ∈ hs, r.length = 32) (hr : RdH w w.heap.size A hs) :
    Calls Tryz.prog 46 #[.slice A n c] w fun e w' => e = .returned (.agg (u8A (rootH (tree.high n) (rowH hs)))) ∧ Below w.heap.size w w' := by
  obtain ⟨k, hk⟩ : ∃ k, tree.high n = k := ⟨_, rfl⟩
  have HROW := Lib.hid (fun W (h : Below w.heap.size w W) => rrow7_any A n c hs W hn h1 hl ((hr.below h (Nat.le_refl _)).more h.size))
  have hp1 : 2 ^ k ≤ 1024 := by rw [← hk]; exact high_small h1
  have HRL := Lib.hid (show (rowH hs).length = 2 ^ k by rw [rowH_len, hn, hk])
  have HRH := Lib.hid (rowH_hash hl)
  have hk10 : k ≤ 10 := by rw [← hk]; exact tree.high_least 10 n (by simpa using h1)
  rw [hk]
  generalize rowH hs = R at *
  clear hn hl hr hk
  go_enter Tryz.func46, Tryz.ntmps46
  go_wp2_with fail
  generalize hw1 : World.alloc _ _ = w1
  obtain ⟨g, hg⟩ : ∃ g, w.heap.size = g := ⟨_, rfl⟩
  have hf : (∃ rs, Blk w1 g rs 44 ∧ rs.size = 32) ∧ Below w.heap.size w w1 := by
    obtain ⟨Z, hw, hZ⟩ : ∃ Z, w1 = w.alloc (.cells Z 44) ∧ Z.size = 32 := ⟨_, hw1.symm, rfl⟩
    rw [hw, ← hg]
    exact ⟨⟨Z, Blk.new _ _ _, hZ⟩, (Below.refl _ _).alloc (Nat.le_refl _) _⟩
  have HRS := Lib.hid hf.1
  have HB1 := Lib.hid hf.2
  have HR1 := Lib.hid (HROW.out w1 hf.2)
  have HGL := Lib.hid (show g < w1.heap.size by obtain ⟨rs, h, _⟩ := hf.1; exact h.lt)
  clear hf hw1 HROW
  rw [hg]
  have HG := Lib.hid hg
  clear hg
  with_reducible refine (HR1.out).mono ?_
  rintro e w2 ⟨v2, rfl, hown2, hb2⟩
  have HV2 := Lib.hid hown2.hv
  have HB2 := Lib.hid hb2
  clear hown2 hb2 HR1
  go_wp2_with fail
  go_loopw [3] (fun v wr => ∃ j m : Nat, j ≤ k ∧ Hid (m = 2 ^ (k - j)) ∧ Hid (HV wr v (upNH j R)) ∧ lenW v = m ∧ Below w1.heap.size w1 wr) (fun v _ => lenW v)
  case atStart =>
    obtain ⟨X2, c2, rfl, _⟩ := HV2.out.form HRL.out
    exact ⟨0, 2 ^ k, Nat.zero_le _, Lib.hid rfl, HV2, rfl, HB2.out⟩
  case round =>
    clear HV2 HB2
    obtain ⟨j, m, hjk, HM, HV, hlw, hbel⟩ := hrel
    have hlen : (upNH j R).length = m := by
      rw [upNH_len, HRL.out, HM.out, Nat.pow_div hjk (by omega)]
    obtain ⟨X3, c3, rfl, hc3⟩ := HV.out.form hlen
    have hm1 : m ≤ 1024 := by
      rw [HM.out]
      exact Nat.le_trans (Nat.pow_le_pow_right (by omega) (Nat.sub_le k j)) hp1
    clear hlw
    by_cases hlt : j < k
    · have hm2 : 1 < m := by rw [HM.out]; exact Nat.one_lt_two_pow (by omega)
      have hmi : (1 : Int) < (m : Int) := by omega
      have HUP := Lib.hid (rup_any X3 m c3 (upNH j R) wr hlen (by omega) HV.out.1 (by
        obtain ⟨_, Y, d, e, _, h⟩ := HV.out
        injection e with e1 _ _
        rw [e1]; exact h))
      rw [← upNH_succ] at HUP
      have HM2 := Lib.hid (show m / 2 = 2 ^ (k - (j + 1)) by
        rw [HM.out, show k - j = k - (j + 1) + 1 by omega, Nat.pow_succ]
        omega)
      have hlen2 : (upNH (j + 1) R).length = m / 2 := by rw [upNH_succ, upH_len, hlen]
      obtain ⟨wo, rfl⟩ : ∃ y : World, y = wr := ⟨_, rfl⟩
      clear HM HV hlen
      go_wp2_with fail
      with_reducible refine (HUP.out).mono ?_
      rintro e w3 ⟨v3, rfl, hown3, hb3⟩
      obtain ⟨X4, c4, rfl, _, _⟩ := hown3.form hlen2
      have HV3 := Lib.hid hown3.hv
      have hb4 : Below w1.heap.size w1 w3 := hbel.trans (hb3.mono hbel.size)
      clear hown3 hb3 HUP hlen2 hbel
      go_wp2_with fail
      go_roundw
      case rel => exact ⟨j + 1, m / 2, hlt, HM2, HV3, rfl, hb4⟩
      case measure => simp [lenW]; omega
    · obtain rfl : j = k := by omega
      obtain rfl : m = 1 := by rw [HM.out, Nat.sub_self]
      have hmi : ¬ (1 : Int) < ((1 : Nat) : Int) := by omega
      obtain ⟨b, off, rfl, hbw, hra, hl0⟩ := HV.out.at_ (i := 0) (by omega)
      rw [Nat.zero_mul, Nat.add_zero] at hra
      have HRO := Lib.hid (show rootH j R = (upNH j R).getD 0 [] from rfl)
      generalize (upNH j R).getD 0 [] = r0 at *
      obtain ⟨Z, hZ⟩ : ∃ Z, u8A r0 = Z := ⟨_, rfl⟩
      have hzs : Z.size = 32 := by rw [← hZ, u8A_size, hl0]
      have hone : Z.all (·.oneCell') = true := by rw [← hZ]; exact u8A_one _
      obtain ⟨rs, hrs0, hrz⟩ := HRS.out
      have hrs := hrs0.below hbel HGL.out
      have HBE := Lib.hid (HB1.out.trans (hbel.mono HB1.out.size))
      have hle := HBE.out.size
      have HZZ := Lib.hid hZ
      have HEE := Lib.hid (show u8A (rootH j R) = Z by rw [HRO.out]; exact hZ)
      have HRA := Lib.hid hra
      have HZS := Lib.hid hzs
      have HRZ := Lib.hid hrz
      have HONE := Lib.hid hone
      have HL0 := Lib.hid hl0
      have HRSB := Lib.hid hrs
      clear hZ hra hzs hrz hone hl0 hrs hrs0 hbel HV hlen HM
      go_wp2_with (first
        | (with_reducible refine wpList_load_hash rfl (.tmp 12) rfl b off rfl r0 HL0.out HRA.out Z HZZ.out ?_)
        | (with_reducible refine wpList_store_blk rfl 44 (.tmp 2) (.tmp 13) rfl g Z rfl rfl 44 rs HRSB.out (by rw [HZS.out]; kernel_rfl) (by rw [HZS.out, HRZ.out]) HONE.out ?_))
      refine bodyPost_ret (v := .agg Z) (results_cell_row (p := 2) (ty := 44) (by kernel_rfl) _ _ g 44 _ (0, 0) _ rfl (HRSB.out.row Z) Tryz.underlying44 rfl (by rw [HZS.out]; kernel_rfl)) rfl ⟨by rw [HEE.out], below_row HBE.out hle (by rw [HG.out]; exact Nat.le_refl _) _⟩

def proofH (k i : Nat) (l : List (List UInt8)) : List (List UInt8) := tree.proof nodeT shaL [] k i l
theorem proofH_len (k i : Nat) (l : List (List UInt8)) : (proofH k i l).length = k := tree.proof_len _ _ _ _ _ _
theorem proofH_snoc (k i : Nat) (l : List (List UInt8)) : proofH (k + 1) i l = proofH k i l ++ [(upNH k l).getD (tree.beside (i / 2 ^ k)) []] := by
  unfold proofH tree.proof
  rw [List.range_succ, List.map_append]; rfl
theorem beside_lt {i m : Nat} (h : i < m) (he : m % 2 = 0) : tree.beside i < m := by
  unfold tree.beside
  by_cases h2 : i % 2 = 0
  · rw [if_pos h2]; omega
  · rw [if_neg h2]; omega
theorem xor_one {p : Nat} (h : p < 1024) : bits BinOp.xor IntKind.i64 (p : Int) 1 = (tree.beside p : Int) := by
  have ha : (List.range 1024).all (fun p : Nat => decide (bits BinOp.xor IntKind.i64 (p : Int) 1 = (tree.beside p : Int))) = true := by kernel_rfl
  have := List.all_eq_true.1 ha p (List.mem_range.2 h)
  simpa using this
theorem own_baseK {w : World} {base base' k : Nat} {e : TypeId} {v : Value} {n : Nat} {xs : List Value} (h : w.ownsRow base e k v n xs) (hb : base' ≤ base) : w.ownsRow base' e k v n xs := by
  refine ⟨h.1, ?_⟩
  rcases h.2 with h0 | ⟨g, cap, cur, h1, h2, h3⟩
  · exact .inl h0
  · exact .inr ⟨g, cap, cur, h1, Nat.le_trans hb h2, h3⟩

theorem results_cell_tmp {P : Program} {fn : Func} {p q : Tmp} {ty : TypeId} (h : fn.results = #[.cell p ty, .tmp q]) (tmps : Array Value) (w : World) (g : Nat) (t : TypeId) (cs : Array Value) (fr : Nat × Nat) (d : TypeDesc) (v : Value)
    (hp : tmps.getD p undef = .pointer (some ⟨g, 0, none⟩)) (hv : tmps.getD q undef = v) (hg : w.heap[g]? = some (.cells cs t fr))
    (hu : P.underlying ty = some d) (hd : (match d with | .struct _ | .array _ _ => true | _ => false) = true) (hi : (P.info? ty).map (·.size) = some cs.size) :
    (results fn tmps).run P w = .ok (.tuple #[.agg cs, v]) w := by
  have hp' : tmps[p]?.getD undef = .pointer (some ⟨g, 0, none⟩) := by simpa using hp
  have hv' : tmps[q]?.getD undef = v := by simpa using hv
  simp [results, h, hp', hv', asAddr, run_loadVar_row w g t ty cs fr d hg hu hd hi]
def zeroH : List UInt8 := List.replicate 32 0
theorem built_zero : Tryz.prog.built 44 [] = some (u8A zeroH) := by kernel_rfl
theorem wpList_build_zero {w : World} {ops : Array Oper} {rest : List Oper} {o : Oper} {a : Act} {Q : Exit → Act → World → Prop} (hgd : o.guard = none) (ho : o.op = .build 44 #[]) (Z : Array Value) (hZ : u8A zeroH = Z)
    (hk : wpList Tryz.prog ops Q rest (a.put o.dst (.agg Z)) w) : wpList Tryz.prog ops Q (o :: rest) a w := by
  subst hZ
  have hb : Tryz.prog.built 44 ((#[] : Array (Nat × Operand)).map fun (i, x) => (i, a.eval x)).toList = some (u8A zeroH) := by
    have h := built_zero
    simp only [List.map_toArray, List.map_nil]
    exact h
  refine wpList_build (P := Tryz.prog) hgd 44 #[] ho (by rw [hb]; rfl) ?_
  rw [hb]
  exact hk
/-- May it be climbed? -/
def climbOK (n i : Int) (len : Nat) : Prop := 0 ≤ i ∧ i < n ∧ n ≤ 256 ∧ len = tree.high n.toNat
instance (n i : Int) (len : Nat) : Decidable (climbOK n i len) := by unfold climbOK; infer_instance
def climbH (i : Nat) (a : List UInt8) (p : List (List UInt8)) : List UInt8 := tree.climb nodeT shaL i a p
/-- What is answered. -/
def climbV (n i : Int) (a : List UInt8) (p : List (List UInt8)) : List UInt8 := if climbOK n i p.length then climbH i.toNat a p else zeroH
def ClimbEnd (W : World) (n i : Int) (a : List UInt8) (p : List (List UInt8)) (e : Ending) (w' : World) : Prop :=
  e = .returned (.tuple #[.agg (u8A (climbV n i a p)), .bool (decide (climbOK n i p.length))]) ∧ Below W.heap.size W w'

theorem climb_snoc (p : List (List UInt8)) (x : List UInt8) : ∀ (i : Nat) (a : List UInt8), climbH i a (p ++ [x]) = shaL (tree.text nodeT (i / 2 ^ p.length) (climbH i a p) x) := by
  induction p with
  | nil => intro i a; simp [climbH, tree.climb]
  | cons y r ih =>
    intro i a
    have := ih (i / 2) (shaL (tree.text nodeT i a y))
    rw [List.cons_append, List.length_cons, Nat.pow_succ, Nat.mul_comm, ← Nat.div_div_eq_div_mul]
    exact this
theorem climbH_len {a : List UInt8} (ha : a.length = 32) : ∀ (p : List (List UInt8)) (i : Nat), (climbH i a p).length = 32 := fun p i => by
  rcases List.eq_nil_or_concat p with rfl | ⟨q, x, rfl⟩
  · exact ha
  · rw [List.concat_eq_append, climb_snoc]
    exact outTo_len _ 8 (by omega)
set_option maxRecDepth 100000 in
set_option maxHeartbeats 8000000 in
theorem rclimb7_any (n i : Int) (lf : List UInt8) (A : Option Addr) (m c : Nat) (ps : List (List UInt8)) (w : World) (hm : ps.length = m) (h1 : m ≤ 1024) (hlf : lf.length = 32) (hl : ∀ r ∈ ps, r.length = 32) (hr : RdH w w.heap.size A ps) :
    Calls Tryz.prog 36 #[.int .i64 n, .int .i64 i, .agg (u8A lf), .slice A m c] w (ClimbEnd w n i lf ps) := by
  obtain ⟨X, hX⟩ : ∃ X, u8A lf = X := ⟨_, rfl⟩
  obtain ⟨Z, hZ⟩ : ∃ Z, u8A zeroH = Z := ⟨_, rfl⟩
  have HX := Lib.hid hX
  have HZ := Lib.hid hZ
  have HZS := Lib.hid (show Z.size = 32 by rw [← hZ]; rfl)
  have HZO := Lib.hid (show Z.all (·.oneCell') = true by rw [← hZ]; exact u8A_one _)
  have hxs : X.size = 32 := by rw [← hX, u8A_size, hlf]
  rw [hX]
  have HM := Lib.hid hm
  clear hX hZ
  go_enter Tryz.func36, Tryz.ntmps36
  go_upto_region 1 with fail
  generalize hw3 : World.alloc _ _ = w3
  obtain ⟨g6, hg6⟩ : ∃ g, w.heap.size = g := ⟨_, rfl⟩
  obtain ⟨g8, hg8⟩ : ∃ g, w.heap.size + 1 = g := ⟨_, rfl⟩
  have hf : Blk w3 g6 X 44 ∧ (∃ rs, Blk w3 g8 rs 44 ∧ rs.size = 32) ∧ Below w.heap.size w w3 := by
    obtain ⟨Y, hw, hY⟩ : ∃ Y, w3 = (w.alloc (.cells X 44)).alloc (.cells Y 44) ∧ Y.size = 32 := ⟨_, hw3.symm, rfl⟩
    have e1 : (w.alloc (.cells X 44)).heap.size = w.heap.size + 1 := by simp
    rw [hw, ← hg6, ← hg8]
    refine ⟨(Blk.new w _ _).alloc _, ⟨Y, ?_, hY⟩, ((Below.refl _ _).alloc (Nat.le_refl _) _).alloc (by simp) _⟩
    rw [← e1]; exact Blk.new _ _ _
  have HB6 := Lib.hid hf.1
  have HB8 := Lib.hid hf.2.1
  have HB3 := Lib.hid hf.2.2
  have HG := Lib.hid (show w.heap.size = g6 ∧ g6 + 1 = g8 from ⟨hg6, by omega⟩)
  clear hf hw3
  rw [hg8, hg6]
  clear hg6 hg8
  by_cases g1 : i < 0
  · have HN := Lib.hid (show ¬ climbOK n i ps.length from fun h => by have := h.1; omega)
    obtain ⟨rs, hrs, hrz⟩ := HB8.out
    have HRS := Lib.hid hrs
    have HRZ := Lib.hid hrz
    clear hrs hrz HB8
    go_wp2_with (first
      | (with_reducible refine wpList_build_zero rfl rfl Z HZ.out ?_)
      | (with_reducible refine wpList_store_blk rfl 44 (.tmp 8) (.tmp 23) rfl g8 Z rfl rfl 44 rs HRS.out (by rw [HZS.out]; kernel_rfl) (by rw [HZS.out, HRZ.out]) HZO.out ?_))
    refine bodyPost_ret (v := .tuple #[.agg Z, .bool false]) (results_cell_tmp (p := 8) (q := 9) (ty := 44) (by kernel_rfl) _ _ g8 44 _ (0, 0) _ (.bool false) rfl rfl (HRS.out.row Z) Tryz.underlying44 rfl (by rw [HZS.out]; kernel_rfl)) rfl
      ⟨by rw [decide_eq_false HN.out, show climbV n i lf ps = zeroH from if_neg HN.out, HZ.out], below_row HB3.out HB3.out.size (by have := HG.out; omega) _⟩
  · by_cases g2 : n ≤ i
    · have HN := Lib.hid (show ¬ climbOK n i ps.length from fun h => by have := h.2.1; omega)
      obtain ⟨rs, hrs, hrz⟩ := HB8.out
      have HRS := Lib.hid hrs
      have HRZ := Lib.hid hrz
      clear hrs hrz HB8
      go_wp2_with (first
        | (with_reducible refine wpList_build_zero rfl rfl Z HZ.out ?_)
        | (with_reducible refine wpList_store_blk rfl 44 (.tmp 8) (.tmp 23) rfl g8 Z rfl rfl 44 rs HRS.out (by rw [HZS.out]; kernel_rfl) (by rw [HZS.out, HRZ.out]) HZO.out ?_))
      refine bodyPost_ret (v := .tuple #[.agg Z, .bool false]) (results_cell_tmp (p := 8) (q := 9) (ty := 44) (by kernel_rfl) _ _ g8 44 _ (0, 0) _ (.bool false) rfl rfl (HRS.out.row Z) Tryz.underlying44 rfl (by rw [HZS.out]; kernel_rfl)) rfl
        ⟨by rw [decide_eq_false HN.out, show climbV n i lf ps = zeroH from if_neg HN.out, HZ.out], below_row HB3.out HB3.out.size (by have := HG.out; omega) _⟩
    · by_cases g3 : 256 < n
      · have HN := Lib.hid (show ¬ climbOK n i ps.length from fun h => by have := h.2.2.1; omega)
        obtain ⟨rs, hrs, hrz⟩ := HB8.out
        have HRS := Lib.hid hrs
        have HRZ := Lib.hid hrz
        clear hrs hrz HB8
        go_wp2_with (first
          | (with_reducible refine wpList_build_zero rfl rfl Z HZ.out ?_)
          | (with_reducible refine wpList_store_blk rfl 44 (.tmp 8) (.tmp 23) rfl g8 Z rfl rfl 44 rs HRS.out (by rw [HZS.out]; kernel_rfl) (by rw [HZS.out, HRZ.out]) HZO.out ?_))
        refine bodyPost_ret (v := .tuple #[.agg Z, .bool false]) (results_cell_tmp (p := 8) (q := 9) (ty := 44) (by kernel_rfl) _ _ g8 44 _ (0, 0) _ (.bool false) rfl rfl (HRS.out.row Z) Tryz.underlying44 rfl (by rw [HZS.out]; kernel_rfl)) rfl
          ⟨by rw [decide_eq_false HN.out, show climbV n i lf ps = zeroH from if_neg HN.out, HZ.out], below_row HB3.out HB3.out.size (by have := HG.out; omega) _⟩
      · obtain ⟨k, hk⟩ : ∃ k, tree.high n.toNat = k := ⟨_, rfl⟩
        have hk8 : k ≤ 8 := by rw [← hk]; exact tree.high_least 8 n.toNat (show n.toNat ≤ 256 by omega)
        have HPAD := Lib.hid (fun W => (show Calls Tryz.prog 70 #[.int .i64 n] W fun e W' => e = .returned (.int .i64 ((2 ^ k : Nat) : Int)) ∧ W = W' from by
          have := rpad7_any n W (by omega)
          rw [show tree.pad n.toNat = 2 ^ k by unfold tree.pad; rw [hk]] at this
          exact this))
        have HK := Lib.hid hk
        clear hk
        obtain ⟨pd, hpd⟩ : ∃ p : Nat, 2 ^ k = p := ⟨_, rfl⟩
        rw [hpd] at HPAD
        have HPD := Lib.hid hpd
        have hpd2 : pd ≤ 256 := by rw [← hpd]; exact show 2 ^ k ≤ 2 ^ 8 from Nat.pow_le_pow_right (by omega) hk8
        clear hpd
        go_wp2_with fail
        go_loop [10] (fun t => ∃ h : Nat, h ≤ k ∧ t = .int .i64 (h : Int)) (fun t => k - (intOf t).toNat)
        case atStart => exact ⟨0, Nat.zero_le _, rfl⟩
        case round =>
          obtain ⟨h, hh, rfl⟩ := hrel
          obtain ⟨q, hq⟩ : ∃ q : Nat, 2 ^ h = q := ⟨_, rfl⟩
          have hqi : (2 : Int) ^ h = (q : Int) := by rw [← hq]; simp
          have hqp : q ≤ pd := by rw [← hq, ← HPD.out]; exact Nat.pow_le_pow_right (by omega) hh
          have h63 : h < 64 := by omega
          have hq256 : (q : Int) ≤ 256 := by omega
          by_cases hlt : h < k
          · have hlq : q < pd := by rw [← hq, ← HPD.out]; exact Nat.pow_lt_pow_right (by omega) hlt
            have hli : (q : Int) < (pd : Int) := by omega
            clear hq
            go_wp2_with fail
            with_reducible refine (HPAD.out _).mono ?_
            rintro e w2 ⟨rfl, rfl⟩
            go_wp2_with fail
            go_round
            case rel => exact ⟨h + 1, hlt, by go_num⟩
            case measure => simp [intOf]; omega
          · obtain rfl : h = k := by omega
            have hqp2 : q = pd := by rw [← hq]; exact HPD.out
            have hli : ¬ (q : Int) < (pd : Int) := by omega
            clear hq hqp hqp2
            by_cases hmk : m = h
            · subst hmk
              have hne : ((m : Int) != (m : Int)) = false := by simp
              have HY := Lib.hid (show climbOK n i ps.length from ⟨by omega, by omega, by omega, by rw [HM.out, HK.out]⟩)
              obtain ⟨I, hI⟩ : ∃ I : Nat, i = (I : Int) := ⟨i.toNat, by omega⟩
              subst hI
              have HRD := Lib.hid hr
              have HLL := Lib.hid hl
              clear hr hl
              go_wp2_with fail
              with_reducible refine (HPAD.out _).mono ?_
              rintro e w2 ⟨rfl, rfl⟩
              go_wp2_with fail
              have HR0 := Lib.hid (show Blk w3 g6 (u8A (climbH I lf (ps.take 0))) 44 by
                show Blk w3 g6 (u8A lf) _
                rw [HX.out]
                exact HB6.out)
              have hqd : ¬ q < pd := by omega
              simp only [hqd, decide_false]
              clear hli hq256 hqi hqd
              go_loopw [1, 39] (fun iv t wr => ∃ s p : Nat, s ≤ m ∧ t = .int .i64 (s : Int) ∧ iv = .int .i64 (p : Int) ∧ Hid (p = I / 2 ^ s) ∧ p ≤ 256 ∧ Hid (Blk wr g6 (u8A (climbH I lf (ps.take s))) 44) ∧ Hid (∃ rs, Blk wr g8 rs 44 ∧ rs.size = 32) ∧ Below w.heap.size w wr) (fun _ t _ => m - (intOf t).toNat)
              case atStart => exact ⟨0, I, Nat.zero_le _, rfl, rfl, Lib.hid (by simp), by omega, HR0, HB8, HB3.out⟩
              case round =>
                clear HR0 HB8 HB3
                obtain ⟨s, p, hs, rfl, rfl, HP, hp256, HC, HB8, hbel⟩ := hrel
                by_cases hsm : s < m
                · have hsi : (s : Int) < (m : Int) := by omega
                  have hsl : s < ps.length := by rw [HM.out]; exact hsm
                  obtain ⟨x, hx⟩ : ∃ x, ps[s] = x := ⟨_, rfl⟩
                  have hxl : x.length = 32 := by rw [← hx]; exact HLL.out _ (List.getElem_mem _)
                  have HSN := Lib.hid (show climbH I lf (ps.take (s + 1)) = shaL (tree.text nodeT p (climbH I lf (ps.take s)) x) by
                    have h := climb_snoc (ps.take s) x I lf
                    rw [List.length_take, Nat.min_eq_left (by omega), ← HP.out] at h
                    rw [← h, List.take_succ_eq_append_getElem hsl, hx])
                  have HCL := Lib.hid (climbH_len hlf (ps.take s) I)
                  have HP2 := Lib.hid (show p / 2 = I / 2 ^ (s + 1) by rw [HP.out, Nat.pow_succ, Nat.div_div_eq_div_mul])
                  have hg6 := HC.out.lt
                  rcases HRD.out with h0 | ⟨b, off, rfl, hbs, hcs⟩
                  · rw [h0] at hsl; simp at hsl
                  have hra := hcs s hsl
                  rw [hx] at hra
                  generalize climbH I lf (ps.take s) = cur at *
                  obtain ⟨C, hC⟩ : ∃ C, C = (Lib.byteCells cur).toArray := ⟨_, rfl⟩
                  obtain ⟨Y, hY⟩ : ∃ Y, Y = (Lib.byteCells x).toArray := ⟨_, rfl⟩
                  have HEC := Lib.hid hC
                  have HEY := Lib.hid hY
                  have HIC := Lib.hid (show (Tryz.prog.info? 44).map (·.size) = some (Lib.byteCells cur).length by rw [Lib.byteCells_length, HCL.out]; kernel_rfl)
                  have HIY := Lib.hid (show (Tryz.prog.info? 44).map (·.size) = some (Lib.byteCells x).length by rw [Lib.byteCells_length, hxl]; kernel_rfl)
                  have HCZ := Lib.hid (show (u8A cur).size = 32 by rw [u8A_size]; exact HCL.out)
                  have HCB := Lib.hid (fun W (hb : Below wr.heap.size wr W) => range_of_blk (HC.out.below hb HC.out.lt))
                  have HRB := Lib.hid (fun W (hb : Below wr.heap.size wr W) => rangeAt_keep hra fun j => (hbel.trans (hb.mono hbel.size)).cell hbs)
                  clear hC hY hra hcs hx
                  by_cases he : p % 2 = 0
                  · have hei : (p : Int) % 2 = 0 := by omega
                    have HTX := Lib.hid (show tree.text nodeT p cur x = nodeT cur x from if_pos he)
                    rw [HTX.out] at HSN
                    obtain ⟨R, hR⟩ : ∃ R, u8A (nodeH cur x) = R := ⟨_, rfl⟩
                    have HER := Lib.hid (show u8A (climbH I lf (ps.take (s + 1))) = R by rw [HSN.out]; exact hR)
                    have HRZ := Lib.hid (show R.size = 32 by rw [← hR, u8A_size, nodeH_len])
                    have HRO := Lib.hid (show R.all (·.oneCell') = true by rw [← hR]; exact u8A_one _)
                    have HND := Lib.hid (fun W => (show Calls Tryz.prog 71 #[.agg C, .agg Y] W fun e W' => e = .returned (.agg R) ∧ Below W.heap.size W W' from by rw [HEC.out, HEY.out, ← hR]; exact rnode_any cur x W HCL.out hxl))
                    clear hR
                    go_wp2_with fail
                    refine wp_region_loose 6 1 (fun i => false) (promises [.is (.agg C), .is (.slice (some ⟨b, off, none⟩) m c), .is (.int .i64 (s : Int)), .is (.pointer (some ⟨b, off + s * 32, none⟩)), .is (.agg Y), .is (.agg R)]) (by kernel_rfl) rfl (by kernel_rfl) (fun i v w w' h hb => Spec.keep h hb) ⟨?_, ?_, ?_, ?_, ?_, ?_, trivial⟩ ?_
                    · refine StepOKl.of ?_
                      intro ac w hb hu hk
                      refine ⟨wanted_none rfl, ?_⟩
                      have e6 : ac.eval (.tmp 6) = .pointer (some ⟨g6, 0, none⟩) := hu.is (t := 6) (by kernel_rfl)
                      refine step_value (w' := w) (v := .agg C) (run_load_row 44 (.tmp 6) rfl g6 (0) e6 (Lib.byteCells cur) _ (HCB.out w hb) Tryz.underlying44 rfl HIC.out HEC.out) (Below.refl _ _) rfl
                    · refine StepOKl.of ?_
                      intro ac w hb hu hk
                      refine ⟨wanted_none rfl, ?_⟩
                      have e3 : ac.eval (.tmp 3) = .slice (some ⟨b, off, none⟩) m c := hu.is (t := 3) (by kernel_rfl)
                      exact step_value (BigFrame.run_move (.tmp 3) rfl w) (Below.refl _ _) e3
                    · refine StepOKl.of ?_
                      intro ac w hb hu hk
                      refine ⟨wanted_none rfl, ?_⟩
                      have e11 : ac.eval (.tmp 11) = .int .i64 (s : Int) := hu.is (t := 11) (by kernel_rfl)
                      exact step_value (BigFrame.run_move (.tmp 11) rfl w) (Below.refl _ _) e11
                    · refine StepOKl.of ?_
                      intro ac w hb hu hk
                      refine ⟨wanted_none rfl, ?_⟩
                      have e46 : ac.eval (.tmp 46) = (.slice (some ⟨b, off, none⟩) m c) := (hk ⟨1, .data⟩ (by simp) rfl).is rfl rfl
                      have e47 : ac.eval (.tmp 47) = (.int .i64 (s : Int)) := (hk ⟨2, .data⟩ (by simp) rfl).is rfl rfl
                      refine step_value (w' := w) (v := (.pointer (some ⟨b, off + s * 32, none⟩))) ?_ (Below.refl _ _) rfl
                      generalize ac.eval = ρ at e46 e47 ⊢
                      go_simp
                    · refine StepOKl.of ?_
                      intro ac w hb hu hk
                      refine ⟨wanted_none rfl, ?_⟩
                      have e48 : ac.eval (.tmp 48) = (.pointer (some ⟨b, off + s * 32, none⟩)) := (hk ⟨3, .data⟩ (by simp) rfl).is rfl rfl
                      refine step_value (w' := w) (v := .agg Y) (run_load_row 44 (.tmp 48) rfl b (off + s * 32) e48 (Lib.byteCells x) _ (HRB.out w hb) Tryz.underlying44 rfl HIY.out HEY.out) (Below.refl _ _) rfl
                    · refine StepOKl.of ?_
                      intro ac w hb hu hk
                      refine ⟨wanted_none rfl, ?_⟩
                      have e45 : ac.eval (.tmp 45) = (.agg C) := (hk ⟨0, .data⟩ (by simp) rfl).is rfl rfl
                      have e49 : ac.eval (.tmp 49) = (.agg Y) := (hk ⟨4, .data⟩ (by simp) rfl).is rfl rfl
                      have ef : ac.eval (.func 71) = .func (.func 71) #[] #[] := rfl
                      refine step_enter (f := 71) (args := #[.agg C, .agg Y]) ?_ ?_
                      · generalize ac.eval = ρ at e45 e49 ef ⊢
                        go_simp
                      · exact (HND.out w).mono fun e w' ⟨he, hq⟩ => ⟨_, he, rfl, hq⟩
                    · intro ac w' hb hu hk hap
                      obtain ⟨_, h45, rfl⟩ := (hk 0 (by decide)).put rfl rfl
                      obtain ⟨_, h46, rfl⟩ := (hk 1 (by decide)).put rfl rfl
                      obtain ⟨_, h47, rfl⟩ := (hk 2 (by decide)).put rfl rfl
                      obtain ⟨_, h48, rfl⟩ := (hk 3 (by decide)).put rfl rfl
                      obtain ⟨_, h49, rfl⟩ := (hk 4 (by decide)).put rfl rfl
                      obtain ⟨_, h50, rfl⟩ := (hk 5 (by decide)).put rfl rfl
                      clear hap
                      have hF : AllPuts ac.tmps ((45, _) :: (46, _) :: (47, _) :: (48, _) :: (49, _) :: (50, _) :: []) := ⟨h45, h46, h47, h48, h49, h50, trivial⟩
                      obtain rfl := frame_puts hu (by kernel_rfl) hF
                      simp only [puts, Act.put, List.setIfInBounds_toArray, List.set_cons_zero, List.set_cons_succ, List.drop_succ_cons, List.drop_zero]
                      clear hk hu hF h45 h46 h47 h48 h49 h50
                      have hC := HC.out.below hb HC.out.lt
                      obtain ⟨rs, hrs, hrz⟩ := HB8.out
                      have hr8 := hrs.below hb hrs.lt
                      have hbe : Below w.heap.size w w' := hbel.trans (hb.mono hbel.size)
                      have hgg := HG.out
                      have HB9 := Lib.hid (show ∃ rs, Blk (w'.setRow g6 R) g8 rs 44 ∧ rs.size = 32 from ⟨rs, hr8.rowOther (by omega) _, hrz⟩)
                      have HCR := Lib.hid (show Blk (w'.setRow g6 R) g6 (u8A (climbH I lf (ps.take (s + 1)))) 44 by
                        rw [HER.out]
                        exact hC.row R)
                      have hbr : Below w.heap.size w (w'.setRow g6 R) := below_row hbe hbe.size (by omega) _
                      have HCO := Lib.hid hC
                      clear hC hrs hr8 hbe hb hbel HND HCB HRB HC HB8
                      go_wp2_with (with_reducible refine wpList_store_blk rfl 44 (.tmp 6) (.tmp 50) rfl g6 R rfl rfl 44 (u8A cur) HCO.out (by rw [HRZ.out]; kernel_rfl) (by rw [HRZ.out]; exact HCZ.out) HRO.out ?_)
                      go_roundw
                      case rel => exact ⟨s + 1, p / 2, hsm, by go_num, by go_num, HP2, by omega, HCR, HB9, hbr⟩
                      case measure => simp [intOf]; omega
                  · have hei : ¬ (p : Int) % 2 = 0 := by omega
                    have HTX := Lib.hid (show tree.text nodeT p cur x = nodeT x cur from if_neg he)
                    rw [HTX.out] at HSN
                    obtain ⟨R, hR⟩ : ∃ R, u8A (nodeH x cur) = R := ⟨_, rfl⟩
                    have HER := Lib.hid (show u8A (climbH I lf (ps.take (s + 1))) = R by rw [HSN.out]; exact hR)
                    have HRZ := Lib.hid (show R.size = 32 by rw [← hR, u8A_size, nodeH_len])
                    have HRO := Lib.hid (show R.all (·.oneCell') = true by rw [← hR]; exact u8A_one _)
                    have HND := Lib.hid (fun W => (show Calls Tryz.prog 71 #[.agg Y, .agg C] W fun e W' => e = .returned (.agg R) ∧ Below W.heap.size W W' from by rw [HEC.out, HEY.out, ← hR]; exact rnode_any x cur W hxl HCL.out))
                    clear hR
                    go_wp2_with fail
                    refine wp_region_loose 6 1 (fun i => false) (promises [.is (.slice (some ⟨b, off, none⟩) m c), .is (.int .i64 (s : Int)), .is (.pointer (some ⟨b, off + s * 32, none⟩)), .is (.agg Y), .is (.agg C), .is (.agg R)]) (by kernel_rfl) rfl (by kernel_rfl) (fun i v w w' h hb => Spec.keep h hb) ⟨?_, ?_, ?_, ?_, ?_, ?_, trivial⟩ ?_
                    · refine StepOKl.of ?_
                      intro ac w hb hu hk
                      refine ⟨wanted_none rfl, ?_⟩
                      have e3 : ac.eval (.tmp 3) = .slice (some ⟨b, off, none⟩) m c := hu.is (t := 3) (by kernel_rfl)
                      exact step_value (BigFrame.run_move (.tmp 3) rfl w) (Below.refl _ _) e3
                    · refine StepOKl.of ?_
                      intro ac w hb hu hk
                      refine ⟨wanted_none rfl, ?_⟩
                      have e11 : ac.eval (.tmp 11) = .int .i64 (s : Int) := hu.is (t := 11) (by kernel_rfl)
                      exact step_value (BigFrame.run_move (.tmp 11) rfl w) (Below.refl _ _) e11
                    · refine StepOKl.of ?_
                      intro ac w hb hu hk
                      refine ⟨wanted_none rfl, ?_⟩
                      have e51 : ac.eval (.tmp 51) = (.slice (some ⟨b, off, none⟩) m c) := (hk ⟨0, .data⟩ (by simp) rfl).is rfl rfl
                      have e52 : ac.eval (.tmp 52) = (.int .i64 (s : Int)) := (hk ⟨1, .data⟩ (by simp) rfl).is rfl rfl
                      refine step_value (w' := w) (v := (.pointer (some ⟨b, off + s * 32, none⟩))) ?_ (Below.refl _ _) rfl
                      generalize ac.eval = ρ at e51 e52 ⊢
                      go_simp
                    · refine StepOKl.of ?_
                      intro ac w hb hu hk
                      refine ⟨wanted_none rfl, ?_⟩
                      have e53 : ac.eval (.tmp 53) = (.pointer (some ⟨b, off + s * 32, none⟩)) := (hk ⟨2, .data⟩ (by simp) rfl).is rfl rfl
                      refine step_value (w' := w) (v := .agg Y) (run_load_row 44 (.tmp 53) rfl b (off + s * 32) e53 (Lib.byteCells x) _ (HRB.out w hb) Tryz.underlying44 rfl HIY.out HEY.out) (Below.refl _ _) rfl
                    · refine StepOKl.of ?_
                      intro ac w hb hu hk
                      refine ⟨wanted_none rfl, ?_⟩
                      have e6 : ac.eval (.tmp 6) = .pointer (some ⟨g6, 0, none⟩) := hu.is (t := 6) (by kernel_rfl)
                      refine step_value (w' := w) (v := .agg C) (run_load_row 44 (.tmp 6) rfl g6 (0) e6 (Lib.byteCells cur) _ (HCB.out w hb) Tryz.underlying44 rfl HIC.out HEC.out) (Below.refl _ _) rfl
                    · refine StepOKl.of ?_
                      intro ac w hb hu hk
                      refine ⟨wanted_none rfl, ?_⟩
                      have e54 : ac.eval (.tmp 54) = (.agg Y) := (hk ⟨3, .data⟩ (by simp) rfl).is rfl rfl
                      have e55 : ac.eval (.tmp 55) = (.agg C) := (hk ⟨4, .data⟩ (by simp) rfl).is rfl rfl
                      have ef : ac.eval (.func 71) = .func (.func 71) #[] #[] := rfl
                      refine step_enter (f := 71) (args := #[.agg Y, .agg C]) ?_ ?_
                      · generalize ac.eval = ρ at e54 e55 ef ⊢
                        go_simp
                      · exact (HND.out w).mono fun e w' ⟨he, hq⟩ => ⟨_, he, rfl, hq⟩
                    · intro ac w' hb hu hk hap
                      obtain ⟨_, h51, rfl⟩ := (hk 0 (by decide)).put rfl rfl
                      obtain ⟨_, h52, rfl⟩ := (hk 1 (by decide)).put rfl rfl
                      obtain ⟨_, h53, rfl⟩ := (hk 2 (by decide)).put rfl rfl
                      obtain ⟨_, h54, rfl⟩ := (hk 3 (by decide)).put rfl rfl
                      obtain ⟨_, h55, rfl⟩ := (hk 4 (by decide)).put rfl rfl
                      obtain ⟨_, h56, rfl⟩ := (hk 5 (by decide)).put rfl rfl
                      clear hap
                      have hF : AllPuts ac.tmps ((51, _) :: (52, _) :: (53, _) :: (54, _) :: (55, _) :: (56, _) :: []) := ⟨h51, h52, h53, h54, h55, h56, trivial⟩
                      obtain rfl := frame_puts hu (by kernel_rfl) hF
                      simp only [puts, Act.put, List.setIfInBounds_toArray, List.set_cons_zero, List.set_cons_succ, List.drop_succ_cons, List.drop_zero]
                      clear hk hu hF h51 h52 h53 h54 h55 h56
                      have hC := HC.out.below hb HC.out.lt
                      obtain ⟨rs, hrs, hrz⟩ := HB8.out
                      have hr8 := hrs.below hb hrs.lt
                      have hbe : Below w.heap.size w w' := hbel.trans (hb.mono hbel.size)
                      have hgg := HG.out
                      have HB9 := Lib.hid (show ∃ rs, Blk (w'.setRow g6 R) g8 rs 44 ∧ rs.size = 32 from ⟨rs, hr8.rowOther (by omega) _, hrz⟩)
                      have HCR := Lib.hid (show Blk (w'.setRow g6 R) g6 (u8A (climbH I lf (ps.take (s + 1)))) 44 by
                        rw [HER.out]
                        exact hC.row R)
                      have hbr : Below w.heap.size w (w'.setRow g6 R) := below_row hbe hbe.size (by omega) _
                      have HCO := Lib.hid hC
                      clear hC hrs hr8 hbe hb hbel HND HCB HRB HC HB8
                      go_wp2_with (with_reducible refine wpList_store_blk rfl 44 (.tmp 6) (.tmp 56) rfl g6 R rfl rfl 44 (u8A cur) HCO.out (by rw [HRZ.out]; kernel_rfl) (by rw [HRZ.out]; exact HCZ.out) HRO.out ?_)
                      go_roundw
                      case rel => exact ⟨s + 1, p / 2, hsm, by go_num, by go_num, HP2, by omega, HCR, HB9, hbr⟩
                      case measure => simp [intOf]; omega
                · obtain rfl : s = m := by omega
                  have hsi : ¬ (s : Int) < (s : Int) := by omega
                  have HEQ := Lib.hid (show climbH I lf (ps.take s) = climbV n (I : Int) lf ps by
                    rw [List.take_of_length_le (by rw [HM.out]; exact Nat.le_refl _)]
                    unfold climbV
                    rw [if_pos HY.out, Int.toNat_natCast])
                  rw [HEQ.out] at HC
                  obtain ⟨V, hV⟩ : ∃ V, u8A (climbV n (I : Int) lf ps) = V := ⟨_, rfl⟩
                  have HVL := Lib.hid (show (climbV n (I : Int) lf ps).length = 32 by rw [← HEQ.out]; exact climbH_len hlf _ _)
                  have HVZ := Lib.hid (show V.size = 32 by rw [← hV, u8A_size]; exact HVL.out)
                  have HVO := Lib.hid (show V.all (·.oneCell') = true by rw [← hV]; exact u8A_one _)
                  have HVE := Lib.hid hV
                  have HRA := Lib.hid (range_of_blk HC.out)
                  obtain ⟨rs, hrs, hrz⟩ := HB8.out
                  have HRS := Lib.hid hrs
                  have HRZ := Lib.hid hrz
                  clear hV hrs hrz HB8 HC
                  go_wp2_with (first
                    | (with_reducible refine wpList_load_hash rfl (.tmp 6) rfl g6 0 rfl (climbV n (I : Int) lf ps) HVL.out HRA.out V HVE.out ?_)
                    | (with_reducible refine wpList_store_blk rfl 44 (.tmp 8) (.tmp 60) rfl g8 V rfl rfl 44 rs HRS.out (by rw [HVZ.out]; kernel_rfl) (by rw [HVZ.out, HRZ.out]) HVO.out ?_))
                  refine bodyPost_ret (v := .tuple #[.agg V, .bool true]) (results_cell_tmp (p := 8) (q := 9) (ty := 44) (by kernel_rfl) _ _ g8 44 _ (0, 0) _ (.bool true) rfl rfl (HRS.out.row V) Tryz.underlying44 rfl (by rw [HVZ.out]; kernel_rfl)) rfl
                    ⟨by rw [decide_eq_true HY.out, HVE.out], below_row hbel hbel.size (by have := HG.out; omega) _⟩
            · have hne : ((m : Int) != (h : Int)) = true := by simp only [bne_iff_ne, ne_eq]; omega
              have HN := Lib.hid (show ¬ climbOK n i ps.length from fun h8 => by
                have := h8.2.2.2
                rw [HM.out, HK.out] at this
                exact hmk this)
              obtain ⟨rs, hrs, hrz⟩ := HB8.out
              have HRS := Lib.hid hrs
              have HRZ := Lib.hid hrz
              clear hrs hrz HB8
              go_wp2_with fail
              with_reducible refine (HPAD.out _).mono ?_
              rintro e w2 ⟨rfl, rfl⟩
              go_wp2_with (first
                | (with_reducible refine wpList_build_zero rfl rfl Z HZ.out ?_)
                | (with_reducible refine wpList_store_blk rfl 44 (.tmp 8) (.tmp 36) rfl g8 Z rfl rfl 44 rs HRS.out (by rw [HZS.out]; kernel_rfl) (by rw [HZS.out, HRZ.out]) HZO.out ?_))
              refine bodyPost_ret (v := .tuple #[.agg Z, .bool false]) (results_cell_tmp (p := 8) (q := 9) (ty := 44) (by kernel_rfl) _ _ g8 44 _ (0, 0) _ (.bool false) rfl rfl (HRS.out.row Z) Tryz.underlying44 rfl (by rw [HZS.out]; kernel_rfl)) rfl
                ⟨by rw [decide_eq_false HN.out, show climbV n i lf ps = zeroH from if_neg HN.out, HZ.out], below_row HB3.out HB3.out.size (by have := HG.out; omega) _⟩
end Go.Proofs.YtndknifdajjalaaGreatDoor
