/- The program's store: Open. -/
import Derived.Test.YtndknifdajjalaaGreatDoorPStpG
namespace Go.Proofs.YtndknifdajjalaaGreatDoor
open Go.RowKit
set_option maxRecDepth 100000

theorem Chg.less {S T : Nat → Prop} {w w' : World} (h : Chg S w w') (hS : ∀ k, k < w.heap.size → S k → T k) : Chg T w w' := ⟨h.os, h.tape, h.output, h.size, fun k hk hs => h.block k hk fun h' => hs (hS k hk h')⟩
theorem infoEnt : (Tryz.prog.info? 114).map (fun i => (i.zero, i.size, i.bytes)) = some (some (.agg #[.bool false, .string ⟨#[]⟩, .int .i64 0]), 3, 32) := by kernel_rfl
theorem made_ents (n : Nat) : madeCells (Value.agg #[.bool false, .string ⟨#[]⟩, .int .i64 0]).cells (n * 3) = entA n (fun _ => none) := by
  apply Array.ext_getElem?
  intro k
  rw [entA_get]
  by_cases hk : k < n * 3
  · rw [if_pos hk]
    have h3 : k % 3 = 0 ∨ k % 3 = 1 ∨ k % 3 = 2 := by omega
    rcases h3 with h3 | h3 | h3 <;> simp [madeCells, hk, Value.cells, h3, entV]
  · rw [if_neg hk]
    simp [madeCells, hk]
theorem slot_name {s : Dsk} {R n i : Nat} (h : Geo s R n) (hi : i < n) {r : Rec11} (hv : slotB s.B R i = some r) : r.name.length ≤ R * 32 ∧ r.data.length ≤ R * 32 := by
  have hl := room_len h hi
  have hro : readR (roomB s.B R i) = some r := by
    unfold slotB at hv
    split at hv
    · exact hv
    · cases hv
  unfold readR at hro
  cases t1 : takeL (roomB s.B R i) with
  | none => rw [t1] at hro; cases hro
  | some x1 =>
    obtain ⟨nm, b1⟩ := x1
    rw [t1] at hro
    dsimp only at hro
    have l1 := takeL_less t1
    cases t2 : takeL b1 with
    | none => rw [t2] at hro; cases hro
    | some x2 =>
      obtain ⟨nu, b2⟩ := x2
      rw [t2] at hro
      dsimp only at hro
      have l2 := takeL_less t2
      split at hro
      · cases hro
      · cases t3 : takeL b2 with
        | none => rw [t3] at hro; cases hro
        | some x3 =>
          obtain ⟨da, b3⟩ := x3
          rw [t3] at hro
          have l3 := takeL_less t3
          have e := Option.some.inj hro
          subst e
          dsimp only
          omega

theorem psload_step {w : World} {q p g b c : Nat} {s : Dsk} {R n j : Nat} (hg : Geo s R n) (hd : s.dead = false) (hj : j < n) (hK : loadK s R n j = true) (h : SP w q p g b c (loadD s R n j) R n (loadE s R j) false) :
    Calls Tryz.prog 28 #[.pointer (some ⟨q, 0, none⟩), .int .i64 (j : Int)] w fun e w' => e = .returned (.int .i64 (if loadK s R n (j + 1) = true then 0 else 8)) ∧ SP w' q p g b c (loadD s R n (j + 1)) R n (loadE s R (j + 1)) (!loadK s R n (j + 1)) ∧ Chg (fourS q p g b) w w' := by
  obtain ⟨u1, u2⟩ := load_same hg (by omega) j (Nat.le_refl j)
  have hd1 := load_lives hg (by omega) hd hK
  by_cases hu : usedB s.B R j = true
  · cases hv : slotB s.B R j with
    | some r =>
      obtain ⟨k1, k2⟩ := load_keep (s := s) (R := R) (n := n) (k := j) (fun x => by rw [hv] at x; cases x.2)
      refine (psload_some h hj hd1 (u2.trans hv)).mono ?_
      rintro e w' ⟨rfl, S, C⟩
      rw [k1, k2, hK, loadE_succ]
      refine ⟨rfl, ?_, C⟩
      have : viewE s.B R j = some (r.name, r.num) := by unfold viewE; rw [hv]; rfl
      rw [this]
      exact S
    | none =>
      obtain ⟨k1, k2⟩ := load_free (s := s) (R := R) (n := n) (k := j) ⟨hu, hv⟩ hK
      have hpl := (h.place hj (Nat.zero_le R)).1
      have hcode := code_fit (s := loadD s R n j) (N := n * (R + 1)) (i := j * (R + 1)) (by omega) (m := 0) (by omega)
      refine (psload_none h hj hd1 (u1.trans hu) (u2.trans hv)).mono ?_
      rintro e w' ⟨rfl, S, C⟩
      rw [k1, k2, loadE_succ]
      have : viewE s.B R j = none := by unfold viewE; rw [hv]; rfl
      rw [this]
      generalize Dsk.code (loadD s R n j) (n * (R + 1)) ((j * (R + 1) : Nat) : Int) 0 = K at *
      rcases hcode with rfl | rfl
      · exact ⟨rfl, S, C⟩
      · exact ⟨rfl, S, C⟩
  · have hu' : usedB s.B R j = false := by simpa using hu
    have hv : slotB s.B R j = none := by unfold slotB; rw [if_neg hu]
    obtain ⟨k1, k2⟩ := load_keep (s := s) (R := R) (n := n) (k := j) (fun x => hu x.1)
    refine (psload_free h hj hd1 (u1.trans hu')).mono ?_
    rintro e w' ⟨rfl, B⟩
    rw [k1, k2, hK, loadE_none hv]
    exact ⟨rfl, h.below B, .of_below B⟩

/-! ### Open -/
/-- What an opening leaves. -/
def OpenPost (w : World) (p g c : Nat) (s : Dsk) (R n : Nat) (e : Ending) (w' : World) : Prop :=
  if s.dead = true ∨ openK s R n = false then e = .returned (.tuple #[.pointer none, .int .i64 8]) ∧ DP w' p g (n * (R + 1)) c (if s.dead = true then s else openD s R n) ∧ Chg (two p g) w w'
  else ∃ q b, e = .returned (.tuple #[.pointer (some ⟨q, 0, none⟩), .int .i64 0]) ∧ w.heap.size ≤ q ∧ w.heap.size ≤ b ∧ SP w' q p g b c (openD s R n) R n (viewE (openD s R n).B R) false ∧ Chg (two p g) w w'

set_option maxHeartbeats 2000000 in
theorem popen_dead {w : World} {p g c : Nat} {s : Dsk} {n R : Nat} (h : DP w p g (n * (R + 1)) c s) (hn : 1 ≤ n ∧ n ≤ 1024) (hR : 1 ≤ R ∧ R ≤ 1024) (hd : s.dead = true) :
    Calls Tryz.prog 7 #[.pointer (some ⟨p, 0, none⟩), .int .i64 (n : Int), .int .i64 (R : Int)] w fun e w' => e = .returned (.tuple #[.pointer none, .int .i64 8]) ∧ Below w.heap.size w w' := by
  have HL := Lib.hid (pdlen_any h)
  obtain ⟨i0, hi, hz0, hz1, hz2⟩ : ∃ i, Tryz.prog.info? 114 = some i ∧ i.zero = some (.agg #[.bool false, .string ⟨#[]⟩, .int .i64 0]) ∧ i.size = 3 ∧ i.bytes = 32 := by
    have h := infoEnt
    cases hi : Tryz.prog.info? 114 with
    | none => rw [hi] at h; simp at h
    | some i => rw [hi] at h; simp only [Option.map_some, Option.some.injEq, Prod.mk.injEq] at h; exact ⟨i, rfl, h⟩
  obtain ⟨M, hM⟩ : ∃ M, madeCells (Value.agg #[.bool false, .string ⟨#[]⟩, .int .i64 0]).cells (n * 3) = M := ⟨_, rfl⟩
  have hmk := fun W => run_make (P := Tryz.prog) W 74 114 i0 _ Tryz.underlying74 hi hz0 .i64 .i64 (n : Int) (n : Int) (by omega) (by omega) (by rw [hz2]; omega) (by omega)
  rw [hz1] at hmk
  simp only [Int.toNat_natCast] at hmk
  rw [hM] at hmk
  have hME : M = entA n (fun _ => none) := by rw [← hM]; exact made_ents n
  have hm1 : n * (R + 1) ≤ 4096 := h.small.2
  have hcast : ((n * (R + 1) : Nat) : Int) = (n : Int) * ((R : Int) + 1) := by rw [Int.natCast_mul]; rfl
  rw [hcast] at HL
  have hmi : (n : Int) * ((R : Int) + 1) ≤ 4096 := by omega
  have hm0 : 0 ≤ (n : Int) * ((R : Int) + 1) := by omega
  have hn1 : ¬ (n : Int) < 1 := by omega
  have hn2 : ¬ 1024 < (n : Int) := by omega
  have hR1 : ¬ (R : Int) < 1 := by omega
  have hR2 : ¬ 1024 < (R : Int) := by omega
  have H := Lib.hid h
  clear hM hcast h
  go_enter Tryz.func7, Tryz.ntmps7
  go_wp2_with fail
  with_reducible refine HL.out.mono ?_
  rintro e w' ⟨rfl, rfl⟩
  go_wp2_with fail
  have hk1 := Blk.new w (entA n (fun _ => none)) 114
  have hb1 : Below w.heap.size w (w.alloc (.cells (entA n (fun _ => none)) 114)) := (Below.refl _ _).alloc (Nat.le_refl _) _
  have hs1 : (w.alloc (.cells (entA n (fun _ => none)) 114)).heap.size = w.heap.size + 1 := by simp
  obtain ⟨b, hbe⟩ : ∃ b, w.heap.size = b := ⟨_, rfl⟩
  rw [hbe] at hk1 hs1 ⊢
  generalize w.alloc (.cells (entA n (fun _ => none)) 114) = w1 at hk1 hb1 hs1 ⊢
  have hk2 := Blk.new w1 #[.pointer (some ⟨p, 0, none⟩), .int .i64 (R : Int), .slice (some ⟨b, 0, none⟩) n n, .bool false] 76
  have hb2 : Below w1.heap.size w1 (w1.alloc (.cells #[.pointer (some ⟨p, 0, none⟩), .int .i64 (R : Int), .slice (some ⟨b, 0, none⟩) n n, .bool false] 76)) := (Below.refl _ _).alloc (Nat.le_refl _) _
  rw [hs1] at hk2
  have hp := H.out.head.lt
  have hg := H.out.body.lt
  have HB := Lib.hid (Below.then hb1 hb2)
  generalize w1.alloc (.cells #[.pointer (some ⟨p, 0, none⟩), .int .i64 (R : Int), .slice (some ⟨b, 0, none⟩) n n, .bool false] 76) = w2 at *
  have HS := Lib.hid (show SP w2 (b + 1) p g b c s R n (fun _ => none) false from ⟨H.out.below HB.out, hk2, fun _ => hk1.below hb2 hk1.lt, by omega, by omega, by omega, by omega, by omega, hR.1⟩)
  clear hk1 hk2 hb1 hb2 hs1 hME hmk HL
  go_loopw [42] (fun i wr => i = .int .i64 0 ∧ w2 = wr) (fun i _ => 0)
  case atStart => exact ⟨rfl, rfl⟩
  case round =>
    obtain ⟨rfl, rfl⟩ := hrel
    have h0n : 0 < (n : Int) := by omega
    have HLD := Lib.hid (show Calls Tryz.prog 28 #[.pointer (some ⟨b + 1, 0, none⟩), .int .i64 0] w2 fun e w' => e = .returned (.int .i64 8) ∧ Below w2.heap.size w2 w' from psload_dead HS.out (i := 0) (by omega) hd)
    go_wp2_with fail
    with_reducible refine HLD.out.mono ?_
    rintro e w3 ⟨rfl, B3⟩
    have HB3 := Lib.hid (Below.then HB.out B3)
    clear B3 HS
    go_wp2_with fail
    go_ret2
    exact ⟨rfl, HB3.out⟩

set_option maxHeartbeats 2000000 in
theorem popen_live {w : World} {p g c : Nat} {s : Dsk} {n R : Nat} (h : DP w p g (n * (R + 1)) c s) (hn : 1 ≤ n ∧ n ≤ 1024) (hR : 1 ≤ R ∧ R ≤ 1024) (hd : s.dead = false) :
    Calls Tryz.prog 7 #[.pointer (some ⟨p, 0, none⟩), .int .i64 (n : Int), .int .i64 (R : Int)] w (OpenPost w p g c s R n) := by
  have HL := Lib.hid (pdlen_any h)
  obtain ⟨i0, hi, hz0, hz1, hz2⟩ : ∃ i, Tryz.prog.info? 114 = some i ∧ i.zero = some (.agg #[.bool false, .string ⟨#[]⟩, .int .i64 0]) ∧ i.size = 3 ∧ i.bytes = 32 := by
    have h := infoEnt
    cases hi : Tryz.prog.info? 114 with
    | none => rw [hi] at h; simp at h
    | some i => rw [hi] at h; simp only [Option.map_some, Option.some.injEq, Prod.mk.injEq] at h; exact ⟨i, rfl, h⟩
  obtain ⟨M, hM⟩ : ∃ M, madeCells (Value.agg #[.bool false, .string ⟨#[]⟩, .int .i64 0]).cells (n * 3) = M := ⟨_, rfl⟩
  have hmk := fun W => run_make (P := Tryz.prog) W 74 114 i0 _ Tryz.underlying74 hi hz0 .i64 .i64 (n : Int) (n : Int) (by omega) (by omega) (by rw [hz2]; omega) (by omega)
  rw [hz1] at hmk
  simp only [Int.toNat_natCast] at hmk
  rw [hM] at hmk
  have hME : M = entA n (fun _ => none) := by rw [← hM]; exact made_ents n
  have hm1 : n * (R + 1) ≤ 4096 := h.small.2
  have hcast : ((n * (R + 1) : Nat) : Int) = (n : Int) * ((R : Int) + 1) := by rw [Int.natCast_mul]; rfl
  rw [hcast] at HL
  have hmi : (n : Int) * ((R : Int) + 1) ≤ 4096 := by omega
  have hm0 : 0 ≤ (n : Int) * ((R : Int) + 1) := by omega
  have hn1 : ¬ (n : Int) < 1 := by omega
  have hn2 : ¬ 1024 < (n : Int) := by omega
  have hR1 : ¬ (R : Int) < 1 := by omega
  have hR2 : ¬ 1024 < (R : Int) := by omega
  have H := Lib.hid h
  clear hM hcast h
  go_enter Tryz.func7, Tryz.ntmps7
  go_wp2_with fail
  with_reducible refine HL.out.mono ?_
  rintro e w' ⟨rfl, rfl⟩
  go_wp2_with fail
  have hk1 := Blk.new w (entA n (fun _ => none)) 114
  have hb1 : Below w.heap.size w (w.alloc (.cells (entA n (fun _ => none)) 114)) := (Below.refl _ _).alloc (Nat.le_refl _) _
  have hs1 : (w.alloc (.cells (entA n (fun _ => none)) 114)).heap.size = w.heap.size + 1 := by simp
  obtain ⟨b, hbe⟩ : ∃ b, w.heap.size = b := ⟨_, rfl⟩
  rw [hbe] at hk1 hs1 ⊢
  generalize w.alloc (.cells (entA n (fun _ => none)) 114) = w1 at hk1 hb1 hs1 ⊢
  have hk2 := Blk.new w1 #[.pointer (some ⟨p, 0, none⟩), .int .i64 (R : Int), .slice (some ⟨b, 0, none⟩) n n, .bool false] 76
  have hb2 : Below w1.heap.size w1 (w1.alloc (.cells #[.pointer (some ⟨p, 0, none⟩), .int .i64 (R : Int), .slice (some ⟨b, 0, none⟩) n n, .bool false] 76)) := (Below.refl _ _).alloc (Nat.le_refl _) _
  rw [hs1] at hk2
  have hp := H.out.head.lt
  have hg := H.out.body.lt
  have HB := Lib.hid (Below.then hb1 hb2)
  generalize w1.alloc (.cells #[.pointer (some ⟨p, 0, none⟩), .int .i64 (R : Int), .slice (some ⟨b, 0, none⟩) n n, .bool false] 76) = w2 at *
  have HS := Lib.hid (show SP w2 (b + 1) p g b c s R n (fun _ => none) false from ⟨H.out.below HB.out, hk2, fun _ => hk1.below hb2 hk1.lt, by omega, by omega, by omega, by omega, by omega, hR.1⟩)
  clear hk1 hk2 hb1 hb2 hs1 hME hmk HL
  have hgeo := HS.out.geo
  go_loopw [42] (fun i wr => ∃ j : Nat, j ≤ n ∧ i = .int .i64 j ∧ Hid (SP wr (b + 1) p g b c (loadD s R n j) R n (loadE s R j) false) ∧ Hid (loadK s R n j = true) ∧ Hid (Chg (fourS (b + 1) p g b) w wr)) (fun i _ => n - (intOf i).toNat)
  case atStart => exact ⟨0, Nat.zero_le _, rfl, Lib.hid (HS.out.congr (fun _ i _ => rfl)), Lib.hid rfl, Lib.hid (.of_below HB.out)⟩
  case round =>
    clear HS HB
    obtain ⟨j, hj, rfl, HS, HK, HC⟩ := hrel
    by_cases hjt : j < n
    · have hji : (j : Int) < (n : Int) := by omega
      have HL := Lib.hid (psload_step hgeo hd hjt HK.out HS.out)
      cases hk : loadK s R n (j + 1) with
      | true =>
        rw [hk, if_pos rfl] at HL
        go_wp2_with fail
        with_reducible refine HL.out.mono ?_
        rintro e w3 ⟨rfl, S3, C3⟩
        have HS3 := Lib.hid (show SP w3 (b + 1) p g b c (loadD s R n (j + 1)) R n (loadE s R (j + 1)) false from S3)
        have HC3 := Lib.hid (HC.out.trans C3)
        clear S3 C3 HL HS HC
        go_wp2_with fail
        go_roundw
        case rel => exact ⟨j + 1, by omega, by go_num, HS3, Lib.hid hk, HC3⟩
        case measure => simp [intOf]; omega
      | false =>
        rw [hk, if_neg (by simp)] at HL
        go_wp2_with fail
        with_reducible refine HL.out.mono ?_
        rintro e w3 ⟨rfl, S3, C3⟩
        have HS3 := Lib.hid (show SP w3 (b + 1) p g b c (loadD s R n (j + 1)) R n (loadE s R (j + 1)) true from S3)
        have HC3 := Lib.hid (HC.out.trans C3)
        clear S3 C3 HL HS HC
        go_wp2_with fail
        go_ret2
        obtain ⟨m1, m2⟩ := load_stop hk (n - (j + 1))
        rw [show j + 1 + (n - (j + 1)) = n by omega] at m1 m2
        obtain ⟨o1, o2⟩ := open_parts s R n
        rw [m2] at o1 o2
        rw [if_neg (by simp), m1] at o1
        unfold OpenPost
        rw [if_pos (.inr o2), if_neg (by rw [hd]; simp), o1]
        exact ⟨rfl, HS3.out.disk, HC3.out.less (fun k hk he => by
          rcases he with rfl | rfl | rfl | rfl
          · omega
          · exact .inl rfl
          · exact .inr rfl
          · omega)⟩
    · have hge : ¬ (j : Int) < (n : Int) := by omega
      obtain rfl : j = n := by omega
      have HE := Lib.hid (pselder_any HS.out (V := slotB s.B R) (fun i hi => by unfold loadE; rw [if_pos hi]; rfl) (fun i r hi hv => by have := (slot_name hgeo hi hv).1; omega))
      obtain ⟨o1, o2⟩ := open_parts s R j
      rw [HK.out, if_pos rfl] at o1
      rw [HK.out, Bool.true_and] at o2
      rw [← o1, ← o2] at HE
      have HV := Lib.hid (open_view hgeo)
      cases hk : openK s R j with
      | true =>
        rw [hk, if_pos rfl] at HE
        go_wp2_with fail
        with_reducible refine HE.out.mono ?_
        rintro e w3 ⟨rfl, S3, C3⟩
        have HS3 := Lib.hid (show SP w3 (b + 1) p g b c (openD s R j) R j (viewE (openD s R j).B R) false from S3.congr (fun _ => HV.out hk))
        have HC3 := Lib.hid (HC.out.trans C3)
        clear S3 C3 HE HS HC
        go_wp2_with fail
        go_ret2
        unfold OpenPost
        rw [if_neg (by rw [hd, hk]; simp)]
        refine ⟨b + 1, b, rfl, by omega, by omega, HS3.out, HC3.out.less (fun k hk he => by
          rcases he with rfl | rfl | rfl | rfl
          · omega
          · exact .inl rfl
          · exact .inr rfl
          · omega)⟩
      | false =>
        rw [hk, if_neg (by simp)] at HE
        go_wp2_with fail
        with_reducible refine HE.out.mono ?_
        rintro e w3 ⟨rfl, S3, C3⟩
        have HS3 := Lib.hid S3.disk
        have HC3 := Lib.hid (HC.out.trans C3)
        clear S3 C3 HE HS HC
        go_wp2_with fail
        go_ret2
        unfold OpenPost
        rw [if_pos (.inr hk), if_neg (by rw [hd]; simp)]
        exact ⟨rfl, HS3.out, HC3.out.less (fun k hk he => by
          rcases he with rfl | rfl | rfl | rfl
          · omega
          · exact .inl rfl
          · exact .inr rfl
          · omega)⟩
theorem popen_any {w : World} {p g c : Nat} {s : Dsk} {n R : Nat} (h : DP w p g (n * (R + 1)) c s) (hn : 1 ≤ n ∧ n ≤ 1024) (hR : 1 ≤ R ∧ R ≤ 1024) :
    Calls Tryz.prog 7 #[.pointer (some ⟨p, 0, none⟩), .int .i64 (n : Int), .int .i64 (R : Int)] w (OpenPost w p g c s R n) := by
  cases hd : s.dead with
  | false => exact popen_live h hn hR hd
  | true =>
    refine (popen_dead h hn hR hd).mono ?_
    rintro e w' ⟨rfl, B⟩
    unfold OpenPost
    rw [if_pos (.inl hd), if_pos hd]
    exact ⟨rfl, h.below B, .of_below B⟩
end Go.Proofs.YtndknifdajjalaaGreatDoor
