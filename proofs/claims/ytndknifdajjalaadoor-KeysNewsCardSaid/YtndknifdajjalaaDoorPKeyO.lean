/- The program's keystore: Open. -/
import Derived.Deep.CutRange
import Derived.StillTailTactics
import Derived.Test.YtndknifdajjalaaDoorPKeyP
import Derived.Test.YtndknifdajjalaaDoorPFreeL
namespace Go.Proofs.YtndknifdajjalaaDoor
open Go.RowKit
set_option maxRecDepth 100000

theorem built_keys (q : Nat) (nb : ByteArray) (v : List UInt8) (h : Int) (hv : v.length = 16) : Tryd.prog.built 50 [(0, .pointer (some ⟨q, 0, none⟩)), (1, .string nb), (2, .agg (u8A v)), (3, .int .i64 h)] = some ((Value.pointer (some ⟨q, 0, none⟩) :: Value.string nb :: (Lib.byteCells v ++ [Value.int .i64 h, Value.int .i64 0])).toArray) := by
  rcases v with _ | ⟨x0, v⟩
  · simp at hv
  rcases v with _ | ⟨x1, v⟩
  · simp at hv
  rcases v with _ | ⟨x2, v⟩
  · simp at hv
  rcases v with _ | ⟨x3, v⟩
  · simp at hv
  rcases v with _ | ⟨x4, v⟩
  · simp at hv
  rcases v with _ | ⟨x5, v⟩
  · simp at hv
  rcases v with _ | ⟨x6, v⟩
  · simp at hv
  rcases v with _ | ⟨x7, v⟩
  · simp at hv
  rcases v with _ | ⟨x8, v⟩
  · simp at hv
  rcases v with _ | ⟨x9, v⟩
  · simp at hv
  rcases v with _ | ⟨x10, v⟩
  · simp at hv
  rcases v with _ | ⟨x11, v⟩
  · simp at hv
  rcases v with _ | ⟨x12, v⟩
  · simp at hv
  rcases v with _ | ⟨x13, v⟩
  · simp at hv
  rcases v with _ | ⟨x14, v⟩
  · simp at hv
  rcases v with _ | ⟨x15, v⟩
  · simp at hv
  obtain rfl : v = [] := List.length_eq_zero_iff.1 (by simpa using hv)
  kernel_rfl
theorem wpList_build_keys {w : World} {ops : Array Oper} {rest : List Oper} {o : Oper} {a : Act} {Q : Exit → Act → World → Prop} (hgd : o.guard = none) (x0 x1 x2 x3 : Operand) (ho : o.op = .build 50 #[(0, x0), (1, x1), (2, x2), (3, x3)])
    (q : Nat) (nb : ByteArray) (sd : List UInt8) (h : Nat) (X : Array Value) (hX : u8A sd = X) (hv : sd.length = 16) (h0 : a.eval x0 = .pointer (some ⟨q, 0, none⟩)) (h1 : a.eval x1 = .string nb) (h2 : a.eval x2 = .agg X) (h3 : a.eval x3 = .int .i64 (h : Int))
    (KA : Array Value) (hKA : keysA q nb sd h 0 = KA)
    (hk : wpList Tryd.prog ops Q rest (a.put o.dst (.agg KA)) w) : wpList Tryd.prog ops Q (o :: rest) a w := by
  subst hX hKA
  have hb : Tryd.prog.built 50 ((#[(0, x0), (1, x1), (2, x2), (3, x3)] : Array (Nat × Operand)).map fun (i, x) => (i, a.eval x)).toList = some (keysA q nb sd h 0) := by
    simp only [List.map_toArray, List.map_cons, List.map_nil, h0, h1, h2, h3]
    exact built_keys q nb sd h hv
  refine wpList_build (P := Tryd.prog) hgd 50 _ ho (by rw [hb]; rfl) ?_
  rw [hb]
  exact hk
set_option maxHeartbeats 1000000 in
theorem popenk_bad (q : Option Addr) (nb : ByteArray) (sd : List UInt8) (height : Int) (w : World) (hb : height < 0 ∨ 4 < height) :
    Calls Tryd.prog 6 #[.pointer q, .string nb, .agg (u8A sd), .int .i64 height] w fun e w' => e = .returned (.tuple #[.pointer none, .int .i64 1]) ∧ Below w.heap.size w w' := by
  obtain ⟨X, hX⟩ : ∃ x, u8A sd = x := ⟨_, rfl⟩
  rw [hX]
  clear hX
  have hal : Below w.heap.size w (w.alloc (.cells X 23)) := (Below.refl _ _).alloc (Nat.le_refl _) _
  by_cases h0 : height < 0
  · go_enter Tryd.func6, Tryd.ntmps6
    go_wp2_with fail
    go_ret2
    exact ⟨rfl, hal⟩
  · have h4 : 4 < height := by omega
    go_enter Tryd.func6, Tryd.ntmps6
    go_wp2_with fail
    go_ret2
    exact ⟨rfl, hal⟩
set_option maxHeartbeats 2000000 in
theorem popenk_any {w : World} {q p g b c : Nat} {s : Dsk} {R n m : Nat} {t : Sto} {name sd : List UInt8} {h : Nat} (hs : ST w q p g b c s R n m t) (hd : ShortIn t name) (hsd : sd.length = 16) (hh : h ≤ 4) (hnl : name.length ≤ 1000) {i : Int} (hi : i = (h : Int)) {nb : ByteArray} (hnb : nb = ⟨name.toArray⟩) :
    Calls Tryd.prog 6 #[.pointer (some ⟨q, 0, none⟩), .string nb, .agg (u8A sd), .int .i64 i] w fun e w' => ∃ k, e = .returned (.tuple #[.pointer (some ⟨k, 0, none⟩), .int .i64 0]) ∧ w.heap.size ≤ k ∧ KS w' k q ⟨name.toArray⟩ sd h (nextOf t name 0) ∧ Below w.heap.size w w' := by
  subst hi hnb
  obtain ⟨X, hX⟩ : ∃ x, u8A sd = x := ⟨_, rfl⟩
  have HEX := Lib.hid hX
  have HZX := Lib.hid (show X.size = 16 by rw [← hX, u8A_size]; exact hsd)
  rw [hX]
  clear hX
  have HS := Lib.hid hs
  have HD := Lib.hid hd
  have HSD := Lib.hid hsd
  have hn8 : (⟨name.toArray⟩ : ByteArray).size ≤ 281474976710656 := by show name.toArray.size ≤ _; simp; omega
  have HCL := Lib.hid (fun (W : World) => strClone_any ⟨name.toArray⟩ W hn8)
  obtain ⟨nb, hnb⟩ : ∃ nb, (⟨name.toArray⟩ : ByteArray) = nb := ⟨_, rfl⟩
  have HNB := Lib.hid hnb
  obtain ⟨KA, hKA⟩ : ∃ KA, keysA q nb sd h 0 = KA := ⟨_, rfl⟩
  have HKA := Lib.hid hKA
  rw [hnb] at HCL
  rw [hnb]
  clear hs hd hn8 hnl hnb hKA hsd
  go_enter Tryd.func6, Tryd.ntmps6
  go_upto_region 1 with fail
  have hB := Blk.new w X 23
  have hal : Below w.heap.size w (w.alloc (.cells X 23)) := (Below.refl _ _).alloc (Nat.le_refl _) _
  obtain ⟨g6, hg6⟩ : ∃ g, w.heap.size = g := ⟨_, rfl⟩
  have HG6 := Lib.hid (show w.heap.size ≤ g6 by omega)
  rw [hg6] at hB ⊢
  generalize w.alloc (.cells X 23) = w3 at *
  have HB6 := Lib.hid hB
  have HAL := Lib.hid hal
  clear hB hal hg6
  have hn0 : ¬ (h : Int) < 0 := by omega
  have hn4 : ¬ (4 : Int) < (h : Int) := by omega
  go_upto_region 3 with fail
  have HBX := Lib.hid (fun W (hW : Below w3.heap.size w3 W) => HB6.out.below hW HB6.out.lt)
  refine wp_region_loose 5 3 (fun i => false) (promises [.is (.pointer (some ⟨q, 0, none⟩)), .is (.string nb), .is (.string nb), .is (.agg X), .is (.int .i64 (h : Int))]) (by kernel_rfl) rfl (by kernel_rfl) (fun i v w w' h hb => Spec.keep h hb) ⟨?_, ?_, ?_, ?_, ?_, trivial⟩ ?_
  · refine StepOKl.of ?_
    intro ac w hb hu hk
    refine ⟨wanted_none rfl, ?_⟩
    have e1 : ac.eval (.tmp 0) = .pointer (some ⟨q, 0, none⟩) := hu.is (t := 0) (by kernel_rfl)
    exact step_value (BigFrame.run_move (.tmp 0) rfl w) (Below.refl _ _) e1
  · refine StepOKl.of ?_
    intro ac w hb hu hk
    refine ⟨wanted_none rfl, ?_⟩
    have e1 : ac.eval (.tmp 1) = .string nb := hu.is (t := 1) (by kernel_rfl)
    exact step_value (BigFrame.run_move (.tmp 1) rfl w) (Below.refl _ _) e1
  · refine StepOKl.of ?_
    intro ac w hb hu hk
    refine ⟨wanted_none rfl, ?_⟩
    have e18 : ac.eval (.tmp 18) = .string nb := (hk ⟨1, .data⟩ (by simp) rfl).is rfl rfl
    have ef : ac.eval (.func 14) = .func (.func 14) #[] #[] := rfl
    refine step_enter (f := 14) (args := #[.string nb]) ?_ ?_
    · generalize ac.eval = ρ at e18 ef ⊢
      go_simp
    · exact (HCL.out w).mono fun e w' ⟨he, hb⟩ => ⟨_, he, rfl, hb⟩
  · refine StepOKl.of ?_
    intro ac w hb hu hk
    refine ⟨wanted_none rfl, ?_⟩
    have e6 : ac.eval (.tmp 6) = .pointer (some ⟨g6, 0, none⟩) := hu.is (t := 6) (by kernel_rfl)
    exact wp_load_row 23 (.tmp 6) rfl g6 e6 23 X (0, 0) _ (HBX.out w hb) Tryd.underlying23 rfl (by rw [HZX.out]; kernel_rfl) ⟨_, rfl, rfl, Below.refl _ _⟩
  · refine StepOKl.of ?_
    intro ac w hb hu hk
    refine ⟨wanted_none rfl, ?_⟩
    have e1 : ac.eval (.tmp 3) = .int .i64 (h : Int) := hu.is (t := 3) (by kernel_rfl)
    exact step_value (BigFrame.run_move (.tmp 3) rfl w) (Below.refl _ _) e1
  · intro ac w' hb hu hk hap
    obtain ⟨_, h17, rfl⟩ := (hk 0 (by decide)).put rfl rfl
    obtain ⟨_, h18, rfl⟩ := (hk 1 (by decide)).put rfl rfl
    obtain ⟨_, h19, rfl⟩ := (hk 2 (by decide)).put rfl rfl
    obtain ⟨_, h20, rfl⟩ := (hk 3 (by decide)).put rfl rfl
    obtain ⟨_, h21, rfl⟩ := (hk 4 (by decide)).put rfl rfl
    clear hap
    have hF : AllPuts ac.tmps ((17, _) :: (18, _) :: (19, _) :: (20, _) :: (21, _) :: []) := ⟨h17, h18, h19, h20, h21, trivial⟩
    obtain rfl := frame_puts hu (by kernel_rfl) hF
    simp only [puts, Act.put, List.setIfInBounds_toArray, List.set_cons_zero, List.set_cons_succ, List.drop_succ_cons, List.drop_zero]
    clear hk hu hF h17 h18 h19 h20 h21
    have hbw := HAL.out.trans (hb.mono HAL.out.size)
    have HBW := Lib.hid hbw
    clear hb hbw HBX HB6 HCL HAL
    go_wp2_with (with_reducible refine wpList_build_keys rfl (.tmp 17) (.tmp 19) (.tmp 20) (.tmp 21) rfl q nb sd h X HEX.out HSD.out rfl rfl rfl rfl KA HKA.out ?_)
    have hal := (Below.refl w'.heap.size w').alloc (Nat.le_refl _) (.cells KA 50)
    have hKB : KS (w'.alloc (.cells KA 50)) w'.heap.size q ⟨name.toArray⟩ sd h 0 := ⟨by rw [HNB.out, HKA.out]; exact Blk.new w' _ _, HSD.out, hh⟩
    have hba := HBW.out.trans (hal.mono HBW.out.size)
    with_reducible refine (pcatch_any hKB (HS.out.below hba) HD.out).mono ?_
    rintro e w5 ⟨rfl, K5, C5⟩
    have HK5 := Lib.hid K5
    have HB5 := Lib.hid (hba.trans (C5.below hba.size (fun j hj => by rw [hj]; exact HBW.out.size)))
    have HLE := Lib.hid HBW.out.size
    clear K5 C5 hba hKB hal
    go_wp2_with fail
    go_ret2
    exact ⟨_, rfl, HLE.out, HNB.out ▸ HK5.out, HB5.out⟩
end Go.Proofs.YtndknifdajjalaaDoor
