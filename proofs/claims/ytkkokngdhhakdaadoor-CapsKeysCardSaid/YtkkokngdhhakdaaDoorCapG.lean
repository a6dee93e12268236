/- The program's Dir and ReadOnly. -/
import Derived.Test.YtkkokngdhhakdaaDoorCapF
import Derived.Test.YtkkokngdhhakdaaDoorShaD
import Derived.Test.YtkkokngdhhakdaaDoorCapX
namespace Go.Proofs.YtkkokngdhhakdaaDoor
open Go.RowKit
set_option maxRecDepth 100000

theorem results_cell_tmpC {P : Program} {fn : Func} {p q : Tmp} {ty : TypeId} (h : fn.results = #[.cell p ty, .tmp q]) (tmps : Array Value) (w : World) (g : Nat) (t : TypeId) (cs : Array Value) (fr : Nat × Nat) (d : TypeDesc) (v : Value)
    (hp : tmps.getD p undef = .pointer (some ⟨g, 0, none⟩)) (hv : tmps.getD q undef = v) (hg : w.heap[g]? = some (.cells cs t fr))
    (hu : P.underlying ty = some d) (hd : (match d with | .struct _ | .array _ _ => true | _ => false) = true) (hi : (P.info? ty).map (·.size) = some cs.size) :
    (results fn tmps).run P w = .ok (.tuple #[.agg cs, v]) w := by
  have hp' : tmps[p]?.getD undef = .pointer (some ⟨g, 0, none⟩) := by simpa using hp
  have hv' : tmps[q]?.getD undef = v := by simpa using hv
  simp [results, h, hp', hv', asAddr, run_loadVar_row w g t ty cs fr d hg hu hd hi]
theorem rdr_leafC (w : World) (A : Option Addr) {n c : Nat} {l : List UInt8} (hl : l.length = n) (hc : n ≤ c) (hcm : c ≤ maxLen) (h1 : Rd w w.heap.size A l) :
    RdR (w.alloc (.cells #[.slice A n c] 26)) (w.alloc (.cells #[.slice A n c] 26)).heap.size (some ⟨w.heap.size, 0, none⟩) [l] := by
  subst hl
  have hal : Below w.heap.size w (w.alloc (.cells #[.slice A l.length c] 26)) := (Below.refl _ _).alloc (Nat.le_refl _) _
  have hblk := Blk.new w #[.slice A l.length c] 26
  refine .inr ⟨w.heap.size, 0, rfl, hblk.lt, fun i hi => ?_⟩
  rw [Nat.zero_add]
  match i, hi with
  | 0, _ => exact ⟨A, c, hblk.cell 0, hc, hcm, (h1.below hal (Nat.le_refl _)).more hal.size⟩
/-- A leaf's hash. -/
def leafH (b : List UInt8) : List UInt8 := shaL (netsL [[108, 101, 97, 102], b])

theorem capA_inj {c : Cap13} {A A' : Option Addr} {n n' m m' : Nat} (h : capA c (.slice A n m) = capA c (.slice A' n' m')) : A = A' := by
  have e := congrArg Array.toList h
  unfold capA capL at e
  simp at e
  exact e.1
/-- What is told: a capability and a number. -/
def CapSaid (w w' : World) (e : Ending) (c : Cap13) (n : Int) : Prop := (∃ v, e = .returned (.tuple #[v, .int .i64 n]) ∧ CapV w' w.heap.size v c) ∧ Below w.heap.size w w'
/-- A result's block is overwritten by what was told. -/
theorem CapR.tell {w0 W : World} {b r : Nat} {c d : Cap13} {X : Value} (h : CapR w0 W b r c X) {C : Array Value} (hv : CapV W w0.heap.size (.agg C) d) (hr : ∀ A m k, capA d (.slice A m k) = C → LitAt (r + 1) A d.lit) : CapV (W.setRow r C) w0.heap.size (.agg C) d ∧ Below w0.heap.size w0 (W.setRow r C) := by
  obtain ⟨h1, A, m, k, h2, h3, h4, h5, h6⟩ := hv
  injection h2 with h2
  refine ⟨⟨h1, A, m, k, by rw [h2], h3, h4, ?_, h6⟩, below_row h.bel h.bel.size h.ge' C⟩
  exact rd_keepB (B := r + 1) (fun j hj => setRow_other _ _ _ _ (by omega)) (by simp) h5 (hr A m k h2.symm)

def dir13 (c : Cap13) : Cap13 := { c with kind := dirK c.kind }
def dirOK (c : Cap13) : Prop := c.ok ∧ dirK c.kind ≠ 0
instance (c : Cap13) : Decidable (dirOK c) := inferInstanceAs (Decidable (_ ∧ _))
set_option maxHeartbeats 4000000 in
theorem pdir_any {w : World} {c : Cap13} {A : Option Addr} {n cc : Nat} (hw : c.wf) (hn : c.lit.length = n) (hr : Rd w w.heap.size A c.lit) :
    Calls Tryd.prog 12 #[.agg (capA c (.slice A n cc))] w fun e w' => CapSaid w w' e (if dirOK c then dir13 c else cap0) (if dirOK c then 0 else 11) := by
  obtain ⟨CX, hCX⟩ : ∃ x, capA c (.slice A n cc) = x := ⟨_, rfl⟩
  have HST := Lib.hid (fun (W : World) (Y : Array Value) => CapR.start (w := w) (W := W) (Y := Y) hw hCX)
  obtain ⟨OK, hOK⟩ : ∃ x, decide c.ok = x := ⟨_, rfl⟩
  have HV := Lib.hid (fun (W : World) (hW : Below w.heap.size w W) => (show Calls Tryd.prog 39 #[.agg CX] W fun e w' => e = .returned (.bool OK) ∧ Below W.heap.size W w' from by
    rw [← hCX, ← hOK]
    exact pvalid_any hw hn (hr.on hW)))
  have HK := Lib.hid (fun (W : World) => pdirK_any c.kind W)
  have HOK := Lib.hid hOK
  have HCX := Lib.hid hCX
  have HW := Lib.hid hw
  obtain ⟨DK, hDK⟩ : ∃ x, dirK c.kind = x := ⟨_, rfl⟩
  have HDK := Lib.hid hDK
  rw [hDK] at HK
  have HAS := Lib.hid (fun (h : c.ok) (W : World) (hW : Below w.heap.size w W) => (pas_any (w := W) (kd := DK) (key := c.key) (cc := cc) hw hw.1 hn (ok_small h hn) (hr.on hW)))
  rw [hCX] at HAS ⊢
  clear hCX hOK hw hn hr hDK
  obtain ⟨M, hM⟩ : ∃ x, (if dirOK c then dir13 c else cap0) = x := ⟨_, rfl⟩
  obtain ⟨E, hE⟩ : ∃ x, (if dirOK c then (0 : Int) else 11) = x := ⟨_, rfl⟩
  have HM := Lib.hid hM
  have HE := Lib.hid hE
  rw [hM, hE]
  clear hM hE
  obtain ⟨KX, hKX⟩ : ∃ x, u8A c.key = x := ⟨_, rfl⟩
  have HKX := Lib.hid hKX
  rw [hKX] at HAS
  clear hKX
  go_enter Tryd.func12, Tryd.ntmps12
  go_upto_region 1 with fail
  generalize hwa : World.alloc _ _ = w1
  have H1 := HST.out w1 _ rfl hwa.symm
  clear HST hwa
  obtain ⟨b, hb⟩ : ∃ g, w.heap.size = g := ⟨_, rfl⟩
  obtain ⟨r, hr⟩ : ∃ g, w.heap.size + 1 = g := ⟨_, rfl⟩
  have HBR := Lib.hid (show b < r by omega)
  rw [hr] at H1 ⊢
  rw [hb] at H1 ⊢
  have HB := Lib.hid hb
  clear hb hr
  have HR := Lib.hid H1
  clear H1
  obtain ⟨c0, _, _, _, _⟩ := HR.out.cap.cells
  go_upto_region 2 with (first | (with_reducible refine (HK.out _).mono ?_; rintro e w2 ⟨rfl, rfl⟩))
  clear c0
  cases OK
  · have hno : ¬ dirOK c := fun h => by have h2 := HOK.out; rw [decide_eq_true h.1] at h2; cases h2
    have hM : M = cap0 := by rw [← HM.out, if_neg hno]
    have hE : E = 11 := by rw [← HE.out, if_neg hno]
    subst hM hE
    clear hno HAS HM HE
    obtain ⟨C5, hC5⟩ : ∃ x, capA cap0 (.slice none 0 0) = x := ⟨_, rfl⟩
    have HC5 := Lib.hid hC5
    have HZ5 := Lib.hid (show C5.size = 53 by rw [← hC5]; exact capA_size ⟨rfl, rfl⟩ _)
    have HO5 := Lib.hid (show C5.all (·.oneCell') = true by rw [← hC5]; exact capA_one)
    have HRW := Lib.hid (fun (W : World) (hW : Below w1.heap.size w1 W) => (HR.out.below hW).res)
    clear hC5
    go_wp2_with (first
      | (refine wpList_load_capC ?_ (.tmp 1) rfl b rfl HR.out.cap HCX.out ?_; · rfl)
      | ((with_reducible refine (HV.out _ HR.out.bel).mono ?_); rintro e w2 ⟨rfl, hb2⟩; have hR2 := HR.out.below hb2; obtain ⟨rs, hrs, hrz⟩ := hR2.res; have HR2 := Lib.hid hR2; have HRS := Lib.hid hrs; have HRZ := Lib.hid hrz; clear hR2 hrs hrz hb2)
      | (refine wpList_build_C ?_ 28 #[] rfl [] (by simp) C5 _ built_cap0 HC5.out ?_; · rfl)
      | (with_reducible refine wpList_store_blkTo rfl 28 (.tmp 2) (.tmp 15) rfl rfl r C5 rfl rfl 28 rs HRS.out (by rw [HZ5.out]; kernel_rfl) (by rw [HZ5.out, HRZ.out]) HO5.out ?_))
    have hs := HR2.out.tell (d := cap0) (C := C5) ⟨⟨rfl, rfl⟩, none, 0, 0, by rw [HC5.out], rfl, Nat.le_refl _, .inl rfl, .inl rfl⟩ (fun _ _ _ _ => .inl rfl)
    refine bodyPost_ret (v := .tuple #[.agg C5, .int .i64 11]) (results_cell_tmpC (p := 2) (q := 3) (ty := 28) (by kernel_rfl) _ _ r 28 _ (0, 0) _ _ rfl rfl (HRS.out.row C5) Tryd.underlying28 rfl (by rw [HZ5.out]; kernel_rfl)) rfl ⟨⟨_, rfl, hs.1⟩, by first | exact hs.2 | (rw [← HB.out]; exact hs.2)⟩
  · have hok : c.ok := of_decide_eq_true HOK.out
    by_cases hd : DK = 0
    · have hno : ¬ dirOK c := fun h => h.2 (HDK.out.trans hd)
      subst hd
      have hM : M = cap0 := by rw [← HM.out, if_neg hno]
      have hE : E = 11 := by rw [← HE.out, if_neg hno]
      subst hM hE
      clear hno HAS HM HE
      obtain ⟨C5, hC5⟩ : ∃ x, capA cap0 (.slice none 0 0) = x := ⟨_, rfl⟩
      have HC5 := Lib.hid hC5
      have HZ5 := Lib.hid (show C5.size = 53 by rw [← hC5]; exact capA_size ⟨rfl, rfl⟩ _)
      have HO5 := Lib.hid (show C5.all (·.oneCell') = true by rw [← hC5]; exact capA_one)
      have HRW := Lib.hid (fun (W : World) (hW : Below w1.heap.size w1 W) => (HR.out.below hW).res)
      clear hC5
      go_wp2_with (first
        | (refine wpList_load_capC ?_ (.tmp 1) rfl b rfl HR.out.cap HCX.out ?_; · rfl)
        | ((with_reducible refine (HV.out _ HR.out.bel).mono ?_); rintro e w2 ⟨rfl, hb2⟩; have hR2 := HR.out.below hb2; obtain ⟨rs, hrs, hrz⟩ := hR2.res; have HR2 := Lib.hid hR2; have HRS := Lib.hid hrs; have HRZ := Lib.hid hrz; clear hR2 hrs hrz hb2)
        | (refine wpList_build_C ?_ 28 #[] rfl [] (by simp) C5 _ built_cap0 HC5.out ?_; · rfl)
        | (with_reducible refine wpList_store_blkTo rfl 28 (.tmp 2) (.tmp 15) rfl rfl r C5 rfl rfl 28 rs HRS.out (by rw [HZ5.out]; kernel_rfl) (by rw [HZ5.out, HRZ.out]) HO5.out ?_))
      have hs := HR2.out.tell (d := cap0) (C := C5) ⟨⟨rfl, rfl⟩, none, 0, 0, by rw [HC5.out], rfl, Nat.le_refl _, .inl rfl, .inl rfl⟩ (fun _ _ _ _ => .inl rfl)
      refine bodyPost_ret (v := .tuple #[.agg C5, .int .i64 11]) (results_cell_tmpC (p := 2) (q := 3) (ty := 28) (by kernel_rfl) _ _ r 28 _ (0, 0) _ _ rfl rfl (HRS.out.row C5) Tryd.underlying28 rfl (by rw [HZ5.out]; kernel_rfl)) rfl ⟨⟨_, rfl, hs.1⟩, by first | exact hs.2 | (rw [← HB.out]; exact hs.2)⟩
    · have hyes : dirOK c := ⟨hok, fun h => hd (HDK.out.symm.trans h)⟩
      have hM : M = { c with kind := DK, key := c.key } := by rw [← HM.out, if_pos hyes]; unfold dir13; rw [HDK.out]
      have hE : E = 0 := by rw [← HE.out, if_pos hyes]
      have e0 : (DK == 0) = false := beq_eq_false_iff_ne.2 hd
      have HA1 := Lib.hid (HAS.out hok)
      rw [← hM] at HA1
      subst hE
      clear hyes HAS hM HE HM hok
      go_upto_region 4 with (first
        | (refine wpList_load_capC ?_ (.tmp 1) rfl b rfl HR.out.cap HCX.out ?_; · rfl)
        | ((with_reducible refine (HV.out _ HR.out.bel).mono ?_); rintro e w2 ⟨rfl, hb2⟩))
      have HR2 := Lib.hid (HR.out.below hb2)
      clear hb2 e0 hd
      go_wp2_with (first
        | (refine wpList_load_capC ?_ (.tmp 1) rfl b rfl HR2.out.cap HCX.out ?_; · rfl)
        | (refine wpList_load_keyC ?_ (.tmp 18) rfl b rfl HR2.out.cap HKX.out ?_; · rfl)
        | ((with_reducible refine (HA1.out _ HR2.out.bel).mono ?_); rintro e w3 ⟨⟨v, rfl, hv⟩, hb3⟩; have hR3 := HR2.out.below hb3; obtain ⟨rs, hrs, hrz⟩ := hR3.res; have HR3 := Lib.hid hR3; have HRS := Lib.hid hrs; have HRZ := Lib.hid hrz; obtain ⟨hwf, A', n', cc', rfl, hln, hrm, hrd, hla⟩ := hv; obtain ⟨C5, hC5⟩ : ∃ x, capA M (.slice A' n' cc') = x := ⟨_, rfl⟩; rw [hC5]; have HC5 := Lib.hid hC5; have HZ5 := Lib.hid (show C5.size = 53 by rw [← hC5]; exact capA_size hwf _); have HO5 := Lib.hid (show C5.all (·.oneCell') = true by rw [← hC5]; exact capA_one); have HVV := Lib.hid (show LitAt w2.heap.size A' M.lit from hla); have HV5 := Lib.hid (show CapV w3 w.heap.size (.agg C5) M from ⟨hwf, A', n', cc', by rw [hC5], hln, hrm, hrd, hla.imp id fun h ad e => Nat.le_trans HR2.out.bel.size (h ad e)⟩); clear hR3 hrs hrz hb3 hwf hln hrm hrd hla hC5)
        | (with_reducible refine wpList_store_blkTo rfl 28 (.tmp 2) (.tmp 20) rfl rfl r C5 rfl rfl 28 rs HRS.out (by rw [HZ5.out]; kernel_rfl) (by rw [HZ5.out, HRZ.out]) HO5.out ?_))
      have hrl : r + 1 ≤ w2.heap.size := by
        obtain ⟨rs, h, _⟩ := HR2.out.res
        exact h.lt
      have hs := HR3.out.tell (d := M) (C := C5) HV5.out (fun A2 m2 k2 h2 => by
        have e := capA_inj (HC5.out.trans h2.symm)
        rw [← e]
        exact HVV.out.imp id fun h ad e => Nat.le_trans hrl (h ad e))
      refine bodyPost_ret (v := .tuple #[.agg C5, .int .i64 0]) (results_cell_tmpC (p := 2) (q := 3) (ty := 28) (by kernel_rfl) _ _ r 28 _ (0, 0) _ _ rfl rfl (HRS.out.row C5) Tryd.underlying28 rfl (by rw [HZ5.out]; kernel_rfl)) rfl ⟨⟨_, rfl, hs.1⟩, by first | exact hs.2 | (rw [← HB.out]; exact hs.2)⟩
def short13 (tag : List UInt8) (ls : List (List UInt8)) : List UInt8 := (shaL (netsL (tag :: ls))).take 16
theorem short13_len (tag : List UInt8) (ls : List (List UInt8)) : (short13 tag ls).length = 16 := by
  unfold short13
  rw [List.length_take, shaL_len]
  rfl
def readTag : List UInt8 := [114, 101, 97, 100]
def ro13 (c : Cap13) : Cap13 := { c with kind := readK c.kind, key := if c.writes then short13 readTag [c.key] else c.key }
set_option maxHeartbeats 8000000 in
theorem preadonly_any {w : World} {c : Cap13} {A : Option Addr} {n cc : Nat} (hw : c.wf) (hn : c.lit.length = n) (hr : Rd w w.heap.size A c.lit) (htab : Pow10 w.heap.size w) :
    Calls Tryd.prog 10 #[.agg (capA c (.slice A n cc))] w fun e w' => CapSaid w w' e (if c.reads then ro13 c else cap0) (if c.reads then 0 else 11) := by
  obtain ⟨CX, hCX⟩ : ∃ x, capA c (.slice A n cc) = x := ⟨_, rfl⟩
  have HST := Lib.hid (fun (W : World) (Y : Array Value) => CapR.start (w := w) (W := W) (Y := Y) hw hCX)
  obtain ⟨RD, hRD⟩ : ∃ x, decide c.reads = x := ⟨_, rfl⟩
  obtain ⟨WR, hWR⟩ : ∃ x, decide c.writes = x := ⟨_, rfl⟩
  have HCR := Lib.hid (fun (W : World) (hW : Below w.heap.size w W) => (show Calls Tryd.prog 33 #[.agg CX] W fun e w' => e = .returned (.bool RD) ∧ Below W.heap.size W w' from by
    rw [← hCX, ← hRD]
    exact pcanread_any hw hn (hr.on hW)))
  have HCW := Lib.hid (fun (W : World) (hW : Below w.heap.size w W) => (show Calls Tryd.prog 34 #[.agg CX] W fun e w' => e = .returned (.bool WR) ∧ Below W.heap.size W w' from by
    rw [← hCX, ← hWR]
    exact pcanwrite_any hw hn (hr.on hW)))
  have HRD := Lib.hid hRD
  have HWR := Lib.hid hWR
  have HCX := Lib.hid hCX
  have HW := Lib.hid hw
  have HT := Lib.hid htab
  obtain ⟨RK, hRK⟩ : ∃ x, readK c.kind = x := ⟨_, rfl⟩
  have HKR := Lib.hid hRK
  have HAS0 := Lib.hid (fun (h : c.ok) (key : List UInt8) (hk : key.length = 16) (W : World) (hW : Below w.heap.size w W) => (pas_any (w := W) (kd := RK) (key := key) (cc := cc) hw hk hn (ok_small h hn) (hr.on hW)))
  rw [hCX] at HAS0 ⊢
  clear hCX hRD hWR hw hn hr hRK
  have HSH := Lib.hid (fun (A2 : Option Addr) (W : World) (hW : Below w.heap.size w W) (hr : RdR W W.heap.size A2 [c.key]) => short_any readTag A2 1 1 [c.key] W (by decide) rfl (by decide) (fun r h => by rw [List.mem_singleton.1 h, HW.out.1]; decide) hr (tab_on htab hW hW.size))
  clear htab
  obtain ⟨M, hM⟩ : ∃ x, (if c.reads then ro13 c else cap0) = x := ⟨_, rfl⟩
  obtain ⟨E, hE⟩ : ∃ x, (if c.reads then (0 : Int) else 11) = x := ⟨_, rfl⟩
  have HM := Lib.hid hM
  have HE := Lib.hid hE
  rw [hM, hE]
  clear hM hE
  go_enter Tryd.func10, Tryd.ntmps10
  go_upto_region 1 with fail
  generalize hwa : World.alloc _ _ = w1
  have H1 := HST.out w1 _ rfl hwa.symm
  clear HST hwa
  obtain ⟨b, hb⟩ : ∃ g, w.heap.size = g := ⟨_, rfl⟩
  obtain ⟨r, hr⟩ : ∃ g, w.heap.size + 1 = g := ⟨_, rfl⟩
  rw [hr] at H1 ⊢
  rw [hb] at H1 ⊢
  have HB := Lib.hid hb
  clear hb hr
  have HR := Lib.hid H1
  clear H1
  cases RD
  · have hno : ¬ c.reads := of_decide_eq_false HRD.out
    have hM : M = cap0 := by rw [← HM.out, if_neg hno]
    have hE : E = 11 := by rw [← HE.out, if_neg hno]
    subst hM hE
    clear hno HAS0 HM HE HSH HKR HCW
    obtain ⟨C5, hC5⟩ : ∃ x, capA cap0 (.slice none 0 0) = x := ⟨_, rfl⟩
    have HC5 := Lib.hid hC5
    have HZ5 := Lib.hid (show C5.size = 53 by rw [← hC5]; exact capA_size ⟨rfl, rfl⟩ _)
    have HO5 := Lib.hid (show C5.all (·.oneCell') = true by rw [← hC5]; exact capA_one)
    clear hC5
    go_wp2_with (first
      | (refine wpList_load_capC ?_ (.tmp 1) rfl b rfl HR.out.cap HCX.out ?_; · rfl)
      | ((with_reducible refine (HCR.out _ HR.out.bel).mono ?_); rintro e w2 ⟨rfl, hb2⟩; have hR2 := HR.out.below hb2; obtain ⟨rs, hrs, hrz⟩ := hR2.res; have HR2 := Lib.hid hR2; have HRS := Lib.hid hrs; have HRZ := Lib.hid hrz; clear hR2 hrs hrz hb2)
      | (refine wpList_build_C ?_ 28 #[] rfl [] (by simp) C5 _ built_cap0 HC5.out ?_; · rfl)
      | (with_reducible refine wpList_store_blkTo rfl 28 (.tmp 2) (.tmp 8) rfl rfl r C5 rfl rfl 28 rs HRS.out (by rw [HZ5.out]; kernel_rfl) (by rw [HZ5.out, HRZ.out]) HO5.out ?_))
    have hs := HR2.out.tell (d := cap0) (C := C5) ⟨⟨rfl, rfl⟩, none, 0, 0, by rw [HC5.out], rfl, Nat.le_refl _, .inl rfl, .inl rfl⟩ (fun _ _ _ _ => .inl rfl)
    refine bodyPost_ret (v := .tuple #[.agg C5, .int .i64 11]) (results_cell_tmpC (p := 2) (q := 3) (ty := 28) (by kernel_rfl) _ _ r 28 _ (0, 0) _ _ rfl rfl (HRS.out.row C5) Tryd.underlying28 rfl (by rw [HZ5.out]; kernel_rfl)) rfl ⟨⟨_, rfl, hs.1⟩, by first | exact hs.2 | (rw [← HB.out]; exact hs.2)⟩
  · have hyes : c.reads := of_decide_eq_true HRD.out
    have hM : M = ro13 c := by rw [← HM.out, if_pos hyes]
    have hE : E = 0 := by rw [← HE.out, if_pos hyes]
    subst hE
    have HMM := Lib.hid hM
    have HAS2 := Lib.hid (HAS0.out hyes.1)
    clear hM hyes HAS0 HM HE
    obtain ⟨KX, hKX⟩ : ∃ x, u8A c.key = x := ⟨_, rfl⟩
    have HKX := Lib.hid hKX
    have HZX := Lib.hid (show KX.size = 16 by rw [← hKX, u8A_size]; exact HW.out.1)
    have HOX := Lib.hid (show KX.all (·.oneCell') = true by rw [← hKX]; exact u8A_one _)
    clear hKX
    go_upto_region 3 with (first
      | (refine wpList_load_capC ?_ (.tmp 1) rfl b rfl HR.out.cap HCX.out ?_; · rfl)
      | ((with_reducible refine (HCR.out _ HR.out.bel).mono ?_); rintro e w2 ⟨rfl, hb2⟩))
    have HR2 := Lib.hid (HR.out.below hb2)
    clear hb2 HCR HR
    go_upto_region 4 with (first
      | (refine wpList_load_keyC ?_ (.tmp 9) rfl b rfl HR2.out.cap HKX.out ?_; · rfl)
      | (with_reducible refine wpList_store_blkTo rfl 23 (.tmp 4) (.tmp 10) rfl rfl w2.heap.size KX rfl rfl 23 _ (Blk.new w2 _ _) (by rw [HZX.out]; kernel_rfl) (by rw [HZX.out]; kernel_rfl) HOX.out ?_))
    generalize hw3 : World.setRow _ _ _ = w3
    have hst : Below w2.heap.size w2 w3 ∧ Blk w3 w2.heap.size KX 23 := by
      rw [← hw3]
      exact ⟨below_row ((Below.refl _ _).alloc (Nat.le_refl _) _) (by simp) (Nat.le_refl _) _, (Blk.new w2 _ _).row KX⟩
    obtain ⟨k4, hk4⟩ : ∃ g, w2.heap.size = g := ⟨_, rfl⟩
    have HR3 := Lib.hid (HR2.out.below hst.1)
    rw [hk4] at hst ⊢
    have HK3 := Lib.hid hst.2
    have HNE := Lib.hid (show b ≠ k4 ∧ r ≠ k4 ∧ w.heap.size ≤ k4 by
      have h1 := HR2.out.cap.lt
      obtain ⟨rs, h2, _⟩ := HR2.out.res
      have h2 := h2.lt
      have h3 := HR2.out.bel.size
      omega)
    clear hst hw3 hk4 HR2
    cases WR
    · have hnw : ¬ c.writes := of_decide_eq_false HWR.out
      have hM : M = { c with kind := RK, key := c.key } := by rw [HMM.out]; unfold ro13; rw [if_neg hnw, HKR.out]
      have HAS1 := Lib.hid (HAS2.out c.key HW.out.1)
      rw [HKX.out, ← hM] at HAS1
      clear hM hnw HAS2 HSH
      obtain ⟨KV, hKV⟩ : ∃ x, KX = x := ⟨_, rfl⟩
      rw [hKV] at HAS1 HK3 HZX
      have HZKV := HZX
      have HZCX := Lib.hid (show CX.size = 53 by rw [← HCX.out]; exact capA_size HW.out _)
      clear hKV
      go_upto_region 6 with (first
        | (refine wpList_load_capC ?_ (.tmp 1) rfl b rfl HR3.out.cap HCX.out ?_; · rfl)
        | ((with_reducible refine (HCW.out _ HR3.out.bel).mono ?_); rintro e w6 ⟨rfl, hb6⟩))
      have HR6 := Lib.hid (HR3.out.below hb6)
      have HK6 := Lib.hid (HK3.out.below hb6 HK3.out.lt)
      clear hb6 HCW HR3 HK3
      have HBC := Lib.hid (fun (W : World) (hW : Below w6.heap.size w6 W) => (show Blk W b CX 28 from HCX.out ▸ (HR6.out.cap.below hW).blk))
      have HBK := Lib.hid (fun (W : World) (hW : Below w6.heap.size w6 W) => HK6.out.below hW HK6.out.lt)
      have HC0 := Lib.hid (fun (W : World) (hW : Below w6.heap.size w6 W) => (HR6.out.cap.below hW).cells.1)
      have HRK := Lib.hid (fun (W : World) => (show Calls Tryd.prog 36 #[.int .i64 c.kind] W fun e w' => e = .returned (.int .i64 RK) ∧ Below W.heap.size W w' from by rw [← HKR.out]; exact (preadK_any c.kind W).mono fun e w' h => ⟨h.1, by rw [h.2]; exact Below.refl _ _⟩))
      have HAS := Lib.hid (fun (W : World) (hW : Below w6.heap.size w6 W) => HAS1.out W (HR6.out.bel.trans (hW.mono HR6.out.bel.size)))
      refine wp_region_loose 6 2 (fun i => false) (promises [.is (.agg CX), .is (.pointer (some ⟨b, 0, none⟩)), .is (.int .i64 c.kind), .is (.int .i64 RK), .is (.agg KV), .cv w6.heap.size M]) (by kernel_rfl) rfl (by kernel_rfl) (fun i v w w' h hb => Spec.keep h hb) ⟨?_, ?_, ?_, ?_, ?_, ?_, trivial⟩ ?_
      · refine StepOKl.of ?_
        intro ac w hb hu hk
        refine ⟨wanted_none rfl, ?_⟩
        have e1 : ac.eval (.tmp 1) = .pointer (some ⟨b, 0, none⟩) := hu.is (t := 1) (by kernel_rfl)
        exact wp_load_row 28 (.tmp 1) rfl b e1 28 CX (0, 0) _ (HBC.out w hb) Tryd.underlying28 rfl (by rw [HZCX.out]; kernel_rfl) ⟨_, rfl, rfl, Below.refl _ _⟩
      · refine StepOKl.of ?_
        intro ac w hb hu hk
        refine ⟨wanted_none rfl, ?_⟩
        have e1 : ac.eval (.tmp 1) = .pointer (some ⟨b, 0, none⟩) := hu.is (t := 1) (by kernel_rfl)
        refine step_value (w' := w) (v := (.pointer (some ⟨b, 0, none⟩))) ?_ (Below.refl _ _) rfl
        generalize ac.eval = ρ at e1 ⊢
        go_simp
      · refine StepOKl.of ?_
        intro ac w hb hu hk
        refine ⟨wanted_none rfl, ?_⟩
        have e18 : ac.eval (.tmp 18) = (.pointer (some ⟨b, 0, none⟩)) := (hk ⟨1, .data⟩ (by simp) rfl).is rfl rfl
        have hc := HC0.out w hb
        refine step_value (w' := w) (v := .int .i64 c.kind) ?_ (Below.refl _ _) rfl
        generalize ac.eval = ρ at e18 ⊢
        go_simp
      · refine StepOKl.of ?_
        intro ac w hb hu hk
        refine ⟨wanted_none rfl, ?_⟩
        have e19 : ac.eval (.tmp 19) = (.int .i64 c.kind) := (hk ⟨2, .data⟩ (by simp) rfl).is rfl rfl
        have ef : ac.eval (.func 36) = .func (.func 36) #[] #[] := rfl
        refine step_enter (f := 36) (args := #[.int .i64 c.kind]) ?_ ?_
        · generalize ac.eval = ρ at e19 ef ⊢
          go_simp
        · exact (HRK.out w).mono fun e w' ⟨he, hq⟩ => ⟨_, he, rfl, hq⟩
      · refine StepOKl.of ?_
        intro ac w hb hu hk
        refine ⟨wanted_none rfl, ?_⟩
        have e4 : ac.eval (.tmp 4) = .pointer (some ⟨k4, 0, none⟩) := hu.is (t := 4) (by kernel_rfl)
        exact wp_load_row 23 (.tmp 4) rfl k4 e4 23 KV (0, 0) _ (HBK.out w hb) Tryd.underlying23 rfl (by rw [HZKV.out]; kernel_rfl) ⟨_, rfl, rfl, Below.refl _ _⟩
      · refine StepOKl.of ?_
        intro ac w hb hu hk
        refine ⟨wanted_none rfl, ?_⟩
        have e17 : ac.eval (.tmp 17) = (.agg CX) := (hk ⟨0, .data⟩ (by simp) rfl).is rfl rfl
        have e20 : ac.eval (.tmp 20) = (.int .i64 RK) := (hk ⟨3, .data⟩ (by simp) rfl).is rfl rfl
        have e21 : ac.eval (.tmp 21) = (.agg KV) := (hk ⟨4, .data⟩ (by simp) rfl).is rfl rfl
        have ef : ac.eval (.func 35) = .func (.func 35) #[] #[] := rfl
        refine step_enter (f := 35) (args := #[.agg CX, .int .i64 RK, .agg KV]) ?_ ?_
        · generalize ac.eval = ρ at e17 e20 e21 ef ⊢
          go_simp
        · exact (HAS.out w hb).mono fun e w' ⟨⟨v, he, hv⟩, hq⟩ => ⟨_, he, hv.low hb.size, hq⟩
      · intro ac w' hb hu hk hap
        obtain ⟨_, h17, rfl⟩ := (hk 0 (by decide)).put rfl rfl
        obtain ⟨_, h18, rfl⟩ := (hk 1 (by decide)).put rfl rfl
        obtain ⟨_, h19, rfl⟩ := (hk 2 (by decide)).put rfl rfl
        obtain ⟨_, h20, rfl⟩ := (hk 3 (by decide)).put rfl rfl
        obtain ⟨_, h21, rfl⟩ := (hk 4 (by decide)).put rfl rfl
        obtain ⟨_, h22, hcv22⟩ := (hk 5 (by decide)).put rfl rfl
        clear hap
        have hF : AllPuts ac.tmps ((17, _) :: (18, _) :: (19, _) :: (20, _) :: (21, _) :: (22, _) :: []) := ⟨h17, h18, h19, h20, h21, h22, trivial⟩
        obtain rfl := frame_puts hu (by kernel_rfl) hF
        simp only [puts, Act.put, List.setIfInBounds_toArray, List.set_cons_zero, List.set_cons_succ, List.drop_succ_cons, List.drop_zero]
        clear hk hu hF h17 h18 h19 h20 h21 h22
        have hcv22 : CapV w' w6.heap.size _ M := hcv22
        obtain ⟨hwf, A', n', cc', rfl, hln, hrm, hrd, hla⟩ := hcv22
        obtain ⟨C5, hC5⟩ : ∃ x, capA M (.slice A' n' cc') = x := ⟨_, rfl⟩
        rw [hC5]
        have HC5 := Lib.hid hC5
        have HZ5 := Lib.hid (show C5.size = 53 by rw [← hC5]; exact capA_size hwf _)
        have HO5 := Lib.hid (show C5.all (·.oneCell') = true by rw [← hC5]; exact capA_one)
        have HR9 := Lib.hid (HR6.out.below hb)
        obtain ⟨rs, hrs, hrz⟩ := HR9.out.res
        have HRS := Lib.hid hrs
        have HRZ := Lib.hid hrz
        have hrl : r + 1 ≤ w6.heap.size := by
          obtain ⟨rs, h, _⟩ := HR6.out.res
          exact h.lt
        have HVV := Lib.hid (show LitAt (r + 1) A' M.lit from hla.imp id fun h ad e => Nat.le_trans hrl (h ad e))
        have HV5 := Lib.hid (show CapV w' w.heap.size (.agg C5) M from ⟨hwf, A', n', cc', by rw [hC5], hln, hrm, hrd, hla.imp id fun h ad e => Nat.le_trans HR6.out.bel.size (h ad e)⟩)
        clear hb hwf hln hrm hrd hla hC5 hrs hrz hrl HBC HBK HC0 HRK HAS
        go_wp2_with (first | (with_reducible refine wpList_store_blkTo rfl 28 (.tmp 2) (.tmp 22) rfl rfl r C5 rfl rfl 28 rs HRS.out (by rw [HZ5.out]; kernel_rfl) (by rw [HZ5.out, HRZ.out]) HO5.out ?_))
        have hs := HR9.out.tell (d := M) (C := C5) HV5.out (fun A2 m2 k2 h2 => by
          have e := capA_inj (HC5.out.trans h2.symm)
          rw [← e]
          exact HVV.out)
        refine bodyPost_ret (v := .tuple #[.agg C5, .int .i64 0]) (results_cell_tmpC (p := 2) (q := 3) (ty := 28) (by kernel_rfl) _ _ r 28 _ (0, 0) _ _ rfl rfl (HRS.out.row C5) Tryd.underlying28 rfl (by rw [HZ5.out]; kernel_rfl)) rfl ⟨⟨_, rfl, hs.1⟩, by first | exact hs.2 | (rw [← HB.out]; exact hs.2)⟩
    · have hw1 : c.writes := of_decide_eq_true HWR.out
      have hM : M = { c with kind := RK, key := short13 readTag [c.key] } := by rw [HMM.out]; unfold ro13; rw [if_pos hw1, HKR.out]
      have HAS1 := Lib.hid (HAS2.out (short13 readTag [c.key]) (short13_len _ _))
      obtain ⟨KV, hKV⟩ : ∃ x, u8A (short13 readTag [c.key]) = x := ⟨_, rfl⟩
      rw [hKV, ← hM] at HAS1
      have HZKV := Lib.hid (show KV.size = 16 by rw [← hKV, u8A_size]; exact short13_len _ _)
      have HOKV := Lib.hid (show KV.all (·.oneCell') = true by rw [← hKV]; exact u8A_one _)
      have HKV := Lib.hid hKV
      have HZCX := Lib.hid (show CX.size = 53 by rw [← HCX.out]; exact capA_size HW.out _)
      clear hM hw1 HAS2 hKV
      go_upto_region 5 with (first
        | (refine wpList_load_capC ?_ (.tmp 1) rfl b rfl HR3.out.cap HCX.out ?_; · rfl)
        | ((with_reducible refine (HCW.out _ HR3.out.bel).mono ?_); rintro e w4 ⟨rfl, hb4⟩))
      have HR4 := Lib.hid (HR3.out.below hb4)
      have HK4 := Lib.hid (HK3.out.below hb4 HK3.out.lt)
      clear hb4 HCW HR3 HK3
      have hal : Below w4.heap.size w4 (w4.alloc (.cells #[.slice (some ⟨b, 1, none⟩) 16 16] 26)) := (Below.refl _ _).alloc (Nat.le_refl _) _
      have HS5 := Lib.hid (show Calls Tryd.prog 15 #[.string ⟨#[114, 101, 97, 100]⟩, .slice (some ⟨w4.heap.size, 0, none⟩) 1 1] (w4.alloc (.cells #[.slice (some ⟨b, 1, none⟩) 16 16] 26)) fun e w' => e = .returned (.agg KV) ∧ Below (w4.alloc (.cells #[.slice (some ⟨b, 1, none⟩) 16 16] 26)).heap.size (w4.alloc (.cells #[.slice (some ⟨b, 1, none⟩) 16 16] 26)) w' by
        rw [← HKV.out]
        exact HSH.out _ _ (HR4.out.bel.trans (hal.mono HR4.out.bel.size)) (rdr_leafC w4 (some ⟨b, 1, none⟩) HW.out.1 (Nat.le_refl _) (by unfold maxLen; omega) (Rd.of_range HR4.out.cap.lt HR4.out.cap.rangeKey)))
      have HAL := Lib.hid hal
      have HST := Lib.hid (fun (W : World) (hW : Below w4.heap.size w4 W) => HK4.out.below hW HK4.out.lt)
      clear hal HSH
      go_upto_region 6 with (first
        | ((with_reducible refine HS5.out.mono ?_); rintro e w5 ⟨rfl, hb5⟩; have hb45 := HAL.out.trans (hb5.mono HAL.out.size))
        | (with_reducible refine wpList_store_blkTo rfl 23 (.tmp 4) (.tmp 16) rfl rfl k4 KV rfl rfl 23 KX (HST.out _ hb45) (by rw [HZKV.out]; kernel_rfl) (by rw [HZKV.out, HZX.out]) HOKV.out ?_))
      have hR5 := HR4.out.below hb45
      have hne : b ≠ k4 ∧ r ≠ k4 ∧ w.heap.size ≤ k4 := HNE.out
      obtain ⟨rs5, hrs5, hrz5⟩ := hR5.res
      have hR6 : CapR w (w5.setRow k4 KV) b r c (.slice A n cc) := ⟨⟨hR5.cap.blk.rowOther (fun e => hne.1 e.symm) KV, hR5.cap.wf⟩, ⟨rs5, hrs5.rowOther (fun e => hne.2.1 e.symm) KV, hrz5⟩, below_row hR5.bel hR5.bel.size hne.2.2 KV, hR5.ne, hR5.ge, hR5.ge'⟩
      have hK6 := (HST.out _ hb45).row KV
      have HR6 := Lib.hid hR6
      have HK6 := Lib.hid hK6
      clear hR5 hne hrs5 hrz5 hR6 hK6 hb5 hb45 HST HAL HS5 HR4 HK4
      generalize w5.setRow k4 KV = w6 at *
      have HBC := Lib.hid (fun (W : World) (hW : Below w6.heap.size w6 W) => (show Blk W b CX 28 from HCX.out ▸ (HR6.out.cap.below hW).blk))
      have HBK := Lib.hid (fun (W : World) (hW : Below w6.heap.size w6 W) => HK6.out.below hW HK6.out.lt)
      have HC0 := Lib.hid (fun (W : World) (hW : Below w6.heap.size w6 W) => (HR6.out.cap.below hW).cells.1)
      have HRK := Lib.hid (fun (W : World) => (show Calls Tryd.prog 36 #[.int .i64 c.kind] W fun e w' => e = .returned (.int .i64 RK) ∧ Below W.heap.size W w' from by rw [← HKR.out]; exact (preadK_any c.kind W).mono fun e w' h => ⟨h.1, by rw [h.2]; exact Below.refl _ _⟩))
      have HAS := Lib.hid (fun (W : World) (hW : Below w6.heap.size w6 W) => HAS1.out W (HR6.out.bel.trans (hW.mono HR6.out.bel.size)))
      refine wp_region_loose 6 2 (fun i => false) (promises [.is (.agg CX), .is (.pointer (some ⟨b, 0, none⟩)), .is (.int .i64 c.kind), .is (.int .i64 RK), .is (.agg KV), .cv w6.heap.size M]) (by kernel_rfl) rfl (by kernel_rfl) (fun i v w w' h hb => Spec.keep h hb) ⟨?_, ?_, ?_, ?_, ?_, ?_, trivial⟩ ?_
      · refine StepOKl.of ?_
        intro ac w hb hu hk
        refine ⟨wanted_none rfl, ?_⟩
        have e1 : ac.eval (.tmp 1) = .pointer (some ⟨b, 0, none⟩) := hu.is (t := 1) (by kernel_rfl)
        exact wp_load_row 28 (.tmp 1) rfl b e1 28 CX (0, 0) _ (HBC.out w hb) Tryd.underlying28 rfl (by rw [HZCX.out]; kernel_rfl) ⟨_, rfl, rfl, Below.refl _ _⟩
      · refine StepOKl.of ?_
        intro ac w hb hu hk
        refine ⟨wanted_none rfl, ?_⟩
        have e1 : ac.eval (.tmp 1) = .pointer (some ⟨b, 0, none⟩) := hu.is (t := 1) (by kernel_rfl)
        refine step_value (w' := w) (v := (.pointer (some ⟨b, 0, none⟩))) ?_ (Below.refl _ _) rfl
        generalize ac.eval = ρ at e1 ⊢
        go_simp
      · refine StepOKl.of ?_
        intro ac w hb hu hk
        refine ⟨wanted_none rfl, ?_⟩
        have e18 : ac.eval (.tmp 18) = (.pointer (some ⟨b, 0, none⟩)) := (hk ⟨1, .data⟩ (by simp) rfl).is rfl rfl
        have hc := HC0.out w hb
        refine step_value (w' := w) (v := .int .i64 c.kind) ?_ (Below.refl _ _) rfl
        generalize ac.eval = ρ at e18 ⊢
        go_simp
      · refine StepOKl.of ?_
        intro ac w hb hu hk
        refine ⟨wanted_none rfl, ?_⟩
        have e19 : ac.eval (.tmp 19) = (.int .i64 c.kind) := (hk ⟨2, .data⟩ (by simp) rfl).is rfl rfl
        have ef : ac.eval (.func 36) = .func (.func 36) #[] #[] := rfl
        refine step_enter (f := 36) (args := #[.int .i64 c.kind]) ?_ ?_
        · generalize ac.eval = ρ at e19 ef ⊢
          go_simp
        · exact (HRK.out w).mono fun e w' ⟨he, hq⟩ => ⟨_, he, rfl, hq⟩
      · refine StepOKl.of ?_
        intro ac w hb hu hk
        refine ⟨wanted_none rfl, ?_⟩
        have e4 : ac.eval (.tmp 4) = .pointer (some ⟨k4, 0, none⟩) := hu.is (t := 4) (by kernel_rfl)
        exact wp_load_row 23 (.tmp 4) rfl k4 e4 23 KV (0, 0) _ (HBK.out w hb) Tryd.underlying23 rfl (by rw [HZKV.out]; kernel_rfl) ⟨_, rfl, rfl, Below.refl _ _⟩
      · refine StepOKl.of ?_
        intro ac w hb hu hk
        refine ⟨wanted_none rfl, ?_⟩
        have e17 : ac.eval (.tmp 17) = (.agg CX) := (hk ⟨0, .data⟩ (by simp) rfl).is rfl rfl
        have e20 : ac.eval (.tmp 20) = (.int .i64 RK) := (hk ⟨3, .data⟩ (by simp) rfl).is rfl rfl
        have e21 : ac.eval (.tmp 21) = (.agg KV) := (hk ⟨4, .data⟩ (by simp) rfl).is rfl rfl
        have ef : ac.eval (.func 35) = .func (.func 35) #[] #[] := rfl
        refine step_enter (f := 35) (args := #[.agg CX, .int .i64 RK, .agg KV]) ?_ ?_
        · generalize ac.eval = ρ at e17 e20 e21 ef ⊢
          go_simp
        · exact (HAS.out w hb).mono fun e w' ⟨⟨v, he, hv⟩, hq⟩ => ⟨_, he, hv.low hb.size, hq⟩
      · intro ac w' hb hu hk hap
        obtain ⟨_, h17, rfl⟩ := (hk 0 (by decide)).put rfl rfl
        obtain ⟨_, h18, rfl⟩ := (hk 1 (by decide)).put rfl rfl
        obtain ⟨_, h19, rfl⟩ := (hk 2 (by decide)).put rfl rfl
        obtain ⟨_, h20, rfl⟩ := (hk 3 (by decide)).put rfl rfl
        obtain ⟨_, h21, rfl⟩ := (hk 4 (by decide)).put rfl rfl
        obtain ⟨_, h22, hcv22⟩ := (hk 5 (by decide)).put rfl rfl
        clear hap
        have hF : AllPuts ac.tmps ((17, _) :: (18, _) :: (19, _) :: (20, _) :: (21, _) :: (22, _) :: []) := ⟨h17, h18, h19, h20, h21, h22, trivial⟩
        obtain rfl := frame_puts hu (by kernel_rfl) hF
        simp only [puts, Act.put, List.setIfInBounds_toArray, List.set_cons_zero, List.set_cons_succ, List.drop_succ_cons, List.drop_zero]
        clear hk hu hF h17 h18 h19 h20 h21 h22
        have hcv22 : CapV w' w6.heap.size _ M := hcv22
        obtain ⟨hwf, A', n', cc', rfl, hln, hrm, hrd, hla⟩ := hcv22
        obtain ⟨C5, hC5⟩ : ∃ x, capA M (.slice A' n' cc') = x := ⟨_, rfl⟩
        rw [hC5]
        have HC5 := Lib.hid hC5
        have HZ5 := Lib.hid (show C5.size = 53 by rw [← hC5]; exact capA_size hwf _)
        have HO5 := Lib.hid (show C5.all (·.oneCell') = true by rw [← hC5]; exact capA_one)
        have HR9 := Lib.hid (HR6.out.below hb)
        obtain ⟨rs, hrs, hrz⟩ := HR9.out.res
        have HRS := Lib.hid hrs
        have HRZ := Lib.hid hrz
        have hrl : r + 1 ≤ w6.heap.size := by
          obtain ⟨rs, h, _⟩ := HR6.out.res
          exact h.lt
        have HVV := Lib.hid (show LitAt (r + 1) A' M.lit from hla.imp id fun h ad e => Nat.le_trans hrl (h ad e))
        have HV5 := Lib.hid (show CapV w' w.heap.size (.agg C5) M from ⟨hwf, A', n', cc', by rw [hC5], hln, hrm, hrd, hla.imp id fun h ad e => Nat.le_trans HR6.out.bel.size (h ad e)⟩)
        clear hb hwf hln hrm hrd hla hC5 hrs hrz hrl HBC HBK HC0 HRK HAS
        go_wp2_with (first | (with_reducible refine wpList_store_blkTo rfl 28 (.tmp 2) (.tmp 22) rfl rfl r C5 rfl rfl 28 rs HRS.out (by rw [HZ5.out]; kernel_rfl) (by rw [HZ5.out, HRZ.out]) HO5.out ?_))
        have hs := HR9.out.tell (d := M) (C := C5) HV5.out (fun A2 m2 k2 h2 => by
          have e := capA_inj (HC5.out.trans h2.symm)
          rw [← e]
          exact HVV.out)
        refine bodyPost_ret (v := .tuple #[.agg C5, .int .i64 0]) (results_cell_tmpC (p := 2) (q := 3) (ty := 28) (by kernel_rfl) _ _ r 28 _ (0, 0) _ _ rfl rfl (HRS.out.row C5) Tryd.underlying28 rfl (by rw [HZ5.out]; kernel_rfl)) rfl ⟨⟨_, rfl, hs.1⟩, by first | exact hs.2 | (rw [← HB.out]; exact hs.2)⟩
end Go.Proofs.YtkkokngdhhakdaaDoor
