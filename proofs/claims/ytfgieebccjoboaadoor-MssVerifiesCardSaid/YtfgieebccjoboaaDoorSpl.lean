/- A signature, one thing of which is turned: whatever is turned, it is some signature. -/
import Derived.Test.YtfgieebccjoboaaDoorMpC
import Derived.Test.YtfgieebccjoboaaDoorHashC
import Derived.Test.YtfgieebccjoboaaDoorPutH
import Derived.Test.YtfgieebccjoboaaDoorKeep
namespace Go.Proofs.YtfgieebccjoboaaDoor
open Go.RowKit

theorem and1_i64 (x : Int) : bits .and .i64 x 1 = 0 ∨ bits .and .i64 x 1 = 1 := by
  have e : bits .and .i64 x 1 = IntKind.i64.wrap ((BitVec.ofInt 64 x &&& BitVec.ofInt 64 1).toNat : Int) := rfl
  have h : (BitVec.ofInt 64 x &&& BitVec.ofInt 64 1).toNat < 2 := by
    rw [BitVec.toNat_and]
    exact Nat.lt_of_le_of_lt Nat.and_le_right (by decide)
  rw [e, IntKind.wrap_i64]
  omega
/-- Cells of bytes read as rows of hashes. -/
theorem hv_of_bytes {w : World} {g n c : Nat} (hc : n ≤ c) (hg : g < w.heap.size) (h : ∀ j, j < n * 32 → ∃ b : UInt8, w.cell? ⟨g, j, none⟩ = some (.int .u8 (b.toNat : Int))) : ∃ hs, HV w (.slice (some ⟨g, 0, none⟩) n c) hs ∧ hs.length = n := by
  have each : ∀ j, ∃ b : UInt8, j < n * 32 → w.cell? ⟨g, j, none⟩ = some (.int .u8 (b.toNat : Int)) := fun j => by
    by_cases hj : j < n * 32
    · obtain ⟨b, hb⟩ := h j hj
      exact ⟨b, fun _ => hb⟩
    · exact ⟨0, fun h => absurd h hj⟩
  obtain ⟨f, hf⟩ := Classical.axiomOfChoice each
  have hl : ((List.range n).map fun i => (List.range 32).map fun j => f (i * 32 + j)).length = n := by simp
  refine ⟨(List.range n).map fun i => (List.range 32).map fun j => f (i * 32 + j), ⟨fun r hr => ?_, some ⟨g, 0, none⟩, c, by rw [hl], by rw [hl]; exact hc, .inr ⟨g, 0, rfl, hg, fun i hi j v hv => ?_⟩⟩, hl⟩
  · obtain ⟨i, _, rfl⟩ := List.mem_map.1 hr
    simp
  · rw [hl] at hi
    have hj : j < 32 := by
      have := (List.getElem?_eq_some_iff.1 hv).1
      rw [Lib.byteCells_length] at this
      simpa using this
    rw [Nat.zero_add, hf (i * 32 + j) (by omega), ← hv]
    simp [Lib.byteCells, hj]
/-- A row of hashes of one's own: its cells are bytes. -/
theorem bytes_of_own {w : World} {B g n c : Nat} {hs : List (List UInt8)} (h : OwnH w B (.slice (some ⟨g, 0, none⟩) n c) hs) : ∀ j, j < n * 32 → ∃ b : UInt8, w.cell? ⟨g, j, none⟩ = some (.int .u8 (b.toNat : Int)) := by
  intro j hj
  obtain ⟨h0, X, d, e, h1, h2⟩ := h.hv
  injection e with e1 e2 e3
  subst e1 e2 e3
  have hi : j / 32 < hs.length := by omega
  rcases h2 with rfl | ⟨b, off, e, _, hc⟩
  · simp at hi
  · injection e with e
    injection e with e1 e2
    subst e1 e2
    have hr := h0 _ (List.getElem_mem hi)
    have hl : j % 32 < (Lib.byteCells hs[j / 32]).length := by rw [Lib.byteCells_length, hr]; omega
    have := hc (j / 32) hi (j % 32) _ (List.getElem?_eq_getElem hl)
    rw [show 0 + j / 32 * 32 + j % 32 = j by omega] at this
    refine ⟨hs[j / 32][j % 32]'(by rw [hr]; omega), ?_⟩
    rw [this]
    simp [Lib.byteCells]
/-- A row of hashes' cells, in a block of its own, whatever the bytes are. -/
def SgRow (w : World) (A : Option Addr) (n c : Nat) : Prop := n ≤ c ∧ (n = 0 ∨ ∃ g cur, A = some ⟨g, 0, none⟩ ∧ Blk w g cur 29 ∧ ∀ j, j < n * 32 → ∃ b : UInt8, cur[j]? = some (.int .u8 (b.toNat : Int)))
theorem SgRow.hv {w : World} {A : Option Addr} {n c : Nat} (h : SgRow w A n c) : ∃ hs, HV w (.slice A n c) hs ∧ hs.length = n := by
  rcases h.2 with rfl | ⟨g, cur, rfl, hb, hc⟩
  · exact ⟨[], ⟨(fun _ h => by cases h), A, c, rfl, Nat.zero_le _, .inl rfl⟩, rfl⟩
  · exact hv_of_bytes h.1 hb.lt fun j hj => by rw [hb.cell j]; exact hc j hj
theorem SgRow.of {w : World} {B n c : Nat} {A : Option Addr} {hs : List (List UInt8)} (h : OwnH w B (.slice A n c) hs) (hn : hs.length = n) : SgRow w A n c := by
  rcases h.2.2 with ⟨e, e2⟩ | ⟨g, cap, cur, e, _, hg, hcap, _, hsz, _⟩
  · injection e with e1 e3 e4
    exact ⟨by omega, .inl e3⟩
  · injection e with e1 e3 e4
    subst e1 e4
    have hb : Blk w g cur 29 := hg
    exact ⟨by omega, .inr ⟨g, cur, rfl, hb, fun j hj => by rw [← hb.cell j]; exact bytes_of_own h j hj⟩⟩
theorem SgRow.less {w : World} {A : Option Addr} {n c m : Nat} (h : SgRow w A n c) (hm : m ≤ n) : SgRow w A m c := by
  refine ⟨Nat.le_trans hm h.1, ?_⟩
  rcases h.2 with rfl | ⟨g, cur, e, hb, hc⟩
  · exact .inl (by omega)
  · exact .inr ⟨g, cur, e, hb, fun j hj => hc j (by omega)⟩
theorem blk_unlike {w : World} {g g' : Nat} {X Y : Array Value} {T T' : TypeId} (h : Blk w g X T) (h' : Blk w g' Y T') (hT : T ≠ T') : g ≠ g' := by
  rintro rfl
  have a : w.heap[g]? = some (.cells X T (0, 0)) := h
  have b : w.heap[g]? = some (.cells Y T' (0, 0)) := h'
  rw [a] at b
  injection b with b
  injection b with _ e
  exact hT e
theorem SgRow.cell {w : World} {A : Option Addr} {n c : Nat} (h : SgRow w A n c) {g : Nat} {Z : Array Value} {T : TypeId} (hg : Blk w g Z T) (hT : T ≠ 29) (i : Nat) (x : Value) : SgRow (w.setCell ⟨g, i, none⟩ x) A n c := by
  refine ⟨h.1, ?_⟩
  rcases h.2 with h | ⟨g', cur, e, hb, hc⟩
  · exact .inl h
  · exact .inr ⟨g', cur, e, hb.other (p := ⟨g, i, none⟩) (fun e => blk_unlike hg hb hT e.symm) x, hc⟩
theorem SgRow.row {w : World} {A : Option Addr} {n c : Nat} (h : SgRow w A n c) {g : Nat} {Z : Array Value} {T : TypeId} (hg : Blk w g Z T) (hT : T ≠ 29) (cs : Array Value) : SgRow (w.setRow g cs) A n c := by
  refine ⟨h.1, ?_⟩
  rcases h.2 with h | ⟨g', cur, e, hb, hc⟩
  · exact .inl h
  · exact .inr ⟨g', cur, e, hb.rowOther (blk_unlike hg hb hT) cs, hc⟩
theorem OwnH.cell_far {w : World} {B g : Nat} {v : Value} {hs : List (List UInt8)} {Z : Array Value} {T : TypeId} (h : OwnH w B v hs) (hg : Blk w g Z T) (hT : T ≠ 29) (i : Nat) (x : Value) : OwnH (w.setCell ⟨g, i, none⟩ x) B v hs := by
  refine ⟨h.1, h.2.1, ?_⟩
  rcases h.2.2 with h0 | ⟨b, cap, cur, h1, h2, h3, h4⟩
  · exact .inl h0
  · have hb : Blk w b cur 29 := h3
    exact .inr ⟨b, cap, cur, h1, h2, hb.other (p := ⟨g, i, none⟩) (fun e => blk_unlike hg hb hT e.symm) x, h4⟩
theorem SgRow.below {w w' : World} {A : Option Addr} {n c : Nat} (h : SgRow w A n c) (hb : Below w.heap.size w w') : SgRow w' A n c := by
  refine ⟨h.1, ?_⟩
  rcases h.2 with h | ⟨g', cur, e, hbk, hc⟩
  · exact .inl h
  · exact .inr ⟨g', cur, e, hbk.below hb hbk.lt, hc⟩
theorem SgRow.put {w : World} {A : Option Addr} {n c : Nat} (h : SgRow w A n c) (p k : Nat) (b : UInt8) : SgRow (w.setCell ⟨p, k, none⟩ (.int .u8 (b.toNat : Int))) A n c := by
  refine ⟨h.1, ?_⟩
  rcases h.2 with h | ⟨g, cur, e, hb, hc⟩
  · exact .inl h
  · by_cases he : p = g
    · subst he
      refine .inr ⟨p, _, e, hb.set k _, fun j hj => ?_⟩
      obtain ⟨b', hb'⟩ := hc j hj
      by_cases hk : k = j
      · subst hk
        exact ⟨b, by simp [(Array.getElem?_eq_some_iff.1 hb').1]⟩
      · exact ⟨b', by rw [Array.getElem?_setIfInBounds_ne hk]; exact hb'⟩
    · exact .inr ⟨g, cur, e, hb.other (p := ⟨p, k, none⟩) (fun e => he e.symm) _, hc⟩
/-- A hash behind a row of one's own; another such row is still one, whether they lie apart or not. -/
theorem wpList_append_spl {w : World} {ops : Array Oper} {rest : List Oper} {o : Oper} {a : Act} {Q : Exit → Act → World → Prop} (hgd : o.guard = none) (s x : Operand)
    (ho : o.op = .call { callee := .builtin .append, args := #[s, x], argTypes := #[33, 33] })
    (B : Nat) (AV AP : Option Addr) (cV cP : Nat) (vs ps : List (List UInt8)) (nv np : Nat) (hs : a.eval s = .slice AP np cP) (hV : OwnH w B (.slice AV nv cV) vs) (hP : OwnH w B (.slice AP np cP) ps) (hvl : vs.length = nv) (hpl : ps.length = np) (b : Nat) (h : List UInt8) (hl : h.length = 32) (hb : Blk w b (u8A h) 29) (hx : a.eval x = .slice (some ⟨b, 0, none⟩) 1 1)
    (hlt : np < nv) (hlim : np ≤ 1000) (hbase : B ≤ w.heap.size)
    (hk : ∀ A' c' w', SgRow w' A' (np + 1) c' → SgRow w' AV nv cV → w.grownBy w' (Value.slice AP np cP).ownBlock → wpList Tryd.prog ops Q rest (a.put o.dst (.slice A' (np + 1) c')) w') : wpList Tryd.prog ops Q (o :: rest) a w := by
  by_cases hap : ∀ g, (Value.slice AV nv cV).ownBlock = some g → (Value.slice AP np cP).ownBlock ≠ some g
  · refine wpList_append_hashG hgd s x ho B _ ps hs hP b h hl hb hx (by omega) hbase fun v' w' k1 k2 => ?_
    obtain ⟨A', c', rfl, _, _⟩ := k1.form (n := np + 1) (by simp [hpl])
    exact hk A' c' w' (SgRow.of k1 (by simp [hpl])) (SgRow.of (hV.apart k2 hap) hvl) k2
  · have hap : ∃ g, (Value.slice AV nv cV).ownBlock = some g ∧ (Value.slice AP np cP).ownBlock = some g := by
      refine Classical.byContradiction fun hn => hap fun g h1 h2 => hn ⟨g, h1, h2⟩
    obtain ⟨g, hg1, hg2⟩ := hap
    have hcV := (SgRow.of hV hvl).1
    have hcP := (SgRow.of hP hpl).1
    have hVb := bytes_of_own (g := g) (n := nv) (c := cV) (hs := vs) (w := w) (B := B)
    rcases hV.2.2 with ⟨e, e2⟩ | ⟨g2, cap, cur, e, _, hg, _, _, hsz, _⟩
    · injection e with e1 e3 e4
      omega
    · rcases hP.2.2 with ⟨e', e2⟩ | ⟨gg, cap', cur', e', _, hg', _, _, hsz', _⟩
      · injection e' with e1 e3 e4
        subst e1
        simp [Value.ownBlock] at hg2
      · injection e with e1 e3 e4
        injection e' with e1' e3' e4'
        subst e1 e4 e1' e4'
        have x1 : g2 = g := by simpa [Value.ownBlock] using hg1
        have x2 : gg = g := by simpa [Value.ownBlock] using hg2
        subst x1 x2
        rw [hg] at hg'
        injection hg' with hg'
        injection hg' with hg'
        subst hg'
        have hBk : Blk w gg cur 29 := hg
        have hcc : cV = cP := by omega
        subst hcc
        obtain ⟨i, z, hi, hz, hzs, hsi, hby⟩ := hash_parts
        have hr := run_append_room (P := Tryd.prog) w 33 o.type 29 i Tryd.underlying33 hi gg np cV cur hg ⟨b, 0, none⟩ 1 1 (Lib.byteCells h) (by rw [Lib.byteCells_length, hl, hsi]) (fun j u hj => by
          have e : (⟨b, 0, none⟩ : Addr).add j = ⟨b, j, none⟩ := by
            by_cases h0 : j = 0 <;> simp [Addr.add, h0]
          rw [e, hb.cell j]
          simpa [u8A] using hj) (Lib.byteCells_one h) (by omega) (by rw [hsi, Lib.byteCells_length, hl]; omega)
        rw [hsi] at hr
        generalize hcr : (cur.toList.take (np * 32) ++ Lib.byteCells h ++ cur.toList.drop (np * 32 + (Lib.byteCells h).length)).toArray = cr at hr
        have hBr := hBk.row cr
        have hbyt : ∀ j, j < nv * 32 → ∃ b : UInt8, (w.setRow gg cr).cell? ⟨gg, j, none⟩ = some (.int .u8 (b.toNat : Int)) := fun j hj => by
          obtain ⟨b0, hb0⟩ := hVb hV j hj
          rw [hBk.cell j] at hb0
          have hl32 : (Lib.byteCells h).length = 32 := by rw [Lib.byteCells_length, hl]
          have hcs : cur.size = cV * 32 := hsz
          rw [hBr.cell j, ← hcr, List.getElem?_toArray]
          by_cases h1 : j < np * 32
          · exact ⟨b0, by rw [List.getElem?_append_left (by simp; omega), List.getElem?_append_left (by simp; omega), List.getElem?_take, if_pos h1]; simpa using hb0⟩
          · by_cases h2 : j < np * 32 + 32
            · refine ⟨h[j - np * 32]'(by omega), ?_⟩
              rw [List.getElem?_append_left (by simp; omega), List.getElem?_append_right (by simp; omega)]
              have : (cur.toList.take (np * 32)).length = np * 32 := by simp; omega
              rw [this]
              simp [Lib.byteCells, show j - np * 32 < h.length by omega]
            · refine ⟨b0, ?_⟩
              have hq : (cur.toList.take (np * 32) ++ Lib.byteCells h).length = np * 32 + 32 := by simp [hl32]; omega
              rw [List.getElem?_append_right (by omega), hq, List.getElem?_drop, hl32, show np * 32 + 32 + (j - (np * 32 + 32)) = j by omega]
              simpa using hb0
        have hbc : ∀ j, j < nv * 32 → ∃ b : UInt8, cr[j]? = some (.int .u8 (b.toNat : Int)) := fun j hj => by
          have := hbyt j hj
          rwa [hBr.cell j] at this
        refine wpList_plain hgd fun K hK => ?_
        unfold Oper.wp execOp
        simp only [ho, resolve, invoke, builtin, Sem.run_bind, Sem.run_pure, Result.andThen_ok, List.map_toArray, List.map_cons, List.map_nil, hs, hx, hr]
        exact hK _ _ (hk _ _ _ ⟨by omega, .inr ⟨gg, cr, rfl, hBr, fun j hj => hbc j (by omega)⟩⟩ ⟨hcV, .inr ⟨gg, cr, rfl, hBr, hbc⟩⟩ (setRow_grown w gg cr))
/-- It answers some signature. -/
def SplSaid (w : World) (nv np : Nat) (e : Ending) (w' : World) : Prop := ∃ (sh sl : Int) (V P : Option Addr) (n cv m cp : Nat) (vs ps : List (List UInt8)), e = .returned (.agg (sigA sh sl V P n cv m cp)) ∧ HV w' (.slice V n cv) vs ∧ vs.length = n ∧ n ≤ nv ∧ HV w' (.slice P m cp) ps ∧ ps.length = m ∧ m ≤ np + 1 ∧ Below w.heap.size w w'
set_option maxRecDepth 100000 in
set_option maxHeartbeats 8000000 in
theorem spoilt9_any (sh sl : Int) (V P : Option Addr) (nv cv np cp : Nat) (vs ps : List (List UInt8)) (what at_ : Int) (w : World) (hnv : np + 1 ≤ nv) (hnv2 : nv ≤ 100) (hw0 : -9223372036854775808 ≤ what) (hw1 : what ≤ 9223372036854775807) (ha0 : -9223372036854775808 ≤ at_) (ha1 : at_ ≤ 9223372036854775807) (hv : HV w (.slice V nv cv) vs) (hvl : vs.length = nv) (hp : HV w (.slice P np cp) ps) (hpl : ps.length = np) :
    Calls Tryd.prog 27 #[.agg (sigA sh sl V P nv cv np cp), .int .i64 what, .int .i64 at_] w fun e w' => SplSaid w nv np e w' := by
  obtain ⟨q, hq⟩ : ∃ q, withinI what 8 = q := ⟨_, rfl⟩
  have hqr : 0 ≤ q ∧ q < 8 := by rw [← hq]; exact withinI_range what 8 (by omega)
  have HWQ := Lib.hid (fun W => (show Calls Tryd.prog 11 #[.int .i64 what, .int .i64 8] W fun e w' => e = .returned (.int .i64 q) ∧ W = w' from by rw [← hq]; exact within_any what 8 W (by omega) (by omega) (by omega)))
  have HHV := Lib.hid hv
  have HHP := Lib.hid hp
  have HVL := Lib.hid hvl
  have HPL := Lib.hid hpl
  obtain ⟨SA, hSA⟩ : ∃ x, sigA sh sl V P nv cv np cp = x := ⟨_, rfl⟩
  have HESA := Lib.hid hSA
  have HZSA := Lib.hid (show SA.size = 4 by rw [← hSA]; rfl)
  have HOSA := Lib.hid (show SA.all (·.oneCell') = true by rw [← hSA]; exact sigA_one _ _ _ _ _ _ _ _)
  rw [hSA]
  clear hq hv hp hvl hpl hSA
  go_enter Tryd.func27, Tryd.ntmps27
  go_upto_region 1 with fail
  generalize hw1 : World.alloc _ _ = w3
  obtain ⟨g3, hg3⟩ : ∃ g, w.heap.size = g := ⟨_, rfl⟩
  obtain ⟨g6, hg6⟩ : ∃ g, w.heap.size + 1 = g := ⟨_, rfl⟩
  have hf : Blk w3 g3 SA 35 ∧ (∃ rs, Blk w3 g6 rs 35 ∧ rs.size = 4) ∧ Below w.heap.size w w3 := by
    obtain ⟨Y6, hw, hY6⟩ : ∃ Y6, w3 = ((w.alloc (.cells SA 35)).alloc (.cells Y6 35)) ∧ Y6.size = 4 := ⟨_, hw1.symm, rfl⟩
    have e1 : (w.alloc (.cells SA 35)).heap.size = w.heap.size + 1 := by simp
    rw [hw, ← hg3, ← hg6]
    exact ⟨by exact (Blk.new _ _ _).alloc _, ⟨Y6, by rw [← e1]; exact Blk.new _ _ _, hY6⟩, (((Below.refl _ _).alloc (Nat.le_refl _) _).alloc (by simp) _)⟩
  have HB3 := Lib.hid hf.1
  obtain ⟨rs6, hrs6, hrz6⟩ := hf.2.1
  have HB6 := Lib.hid hrs6
  have HRZ6 := Lib.hid hrz6
  have HBW := Lib.hid hf.2.2
  have HG3 := Lib.hid (show w.heap.size ≤ g3 by omega)
  have HG6 := Lib.hid (show w.heap.size ≤ g6 by omega)
  have HNE := Lib.hid (show g6 ≠ g3 by omega)
  have HL6 := Lib.hid (show g6 < w3.heap.size from HB6.out.lt)
  have HL3 := Lib.hid (show g3 < w3.heap.size from HB3.out.lt)
  clear hf hw1 hrs6 hrz6
  rw [hg6, hg3]
  clear hg3 hg6
  have HCV := Lib.hid (fun W (hW : Below w3.heap.size w3 W) => (show Calls Tryd.prog 62 #[.slice V nv cv] W fun e w' => ∃ A c, e = .returned (.slice A nv c) ∧ nv ≤ c ∧ OwnH w' w3.heap.size (.slice A nv c) vs ∧ Below W.heap.size W w' from by
    have hvW : HV W (.slice V nv cv) vs := HHV.out.on (HBW.out.trans (hW.mono HBW.out.size))
    refine (copyH_any V nv cv W.heap.size vs W HVL.out (by omega) hvW.1 (HV.rd8 hvW)).mono ?_
    rintro e w' ⟨v, he, ho, hb⟩
    obtain ⟨A, c, rfl, hc, _⟩ := ho.form HVL.out
    exact ⟨A, c, he, hc, own_from ho hW.size, hb⟩))
  have HCP := Lib.hid (fun W (hW : Below w3.heap.size w3 W) => (show Calls Tryd.prog 62 #[.slice P np cp] W fun e w' => ∃ A c, e = .returned (.slice A np c) ∧ np ≤ c ∧ OwnH w' w3.heap.size (.slice A np c) ps ∧ Below W.heap.size W w' from by
    have hvW : HV W (.slice P np cp) ps := HHP.out.on (HBW.out.trans (hW.mono HBW.out.size))
    refine (copyH_any P np cp W.heap.size ps W HPL.out (by omega) hvW.1 (HV.rd8 hvW)).mono ?_
    rintro e w' ⟨v, he, ho, hb⟩
    obtain ⟨A, c, rfl, hc, _⟩ := ho.form HPL.out
    exact ⟨A, c, he, hc, own_from ho hW.size, hb⟩))
  have HBS := Lib.hid (fun W (hW : Below w3.heap.size w3 W) => HB3.out.below hW HB3.out.lt)
  have HS2 := Lib.hid (fun W (hW : Below w3.heap.size w3 W) => (show W.cell? ⟨g3, 2, none⟩ = some (.slice V nv cv) by rw [(HBS.out W hW).cell 2, ← HESA.out]; rfl))
  have HS3 := Lib.hid (fun W (hW : Below w3.heap.size w3 W) => (show W.cell? ⟨g3, 3, none⟩ = some (.slice P np cp) by rw [(HBS.out W hW).cell 3, ← HESA.out]; rfl))
  go_wp2_with fail
  refine wp_region_loose 7 3 (fun i => false) (promises [.is (.pointer (some ⟨g3, 2, none⟩)), .is (.slice V nv cv), .oh w3.heap.size nv vs, .is (.pointer (some ⟨g3, 3, none⟩)), .is (.slice P np cp), .oh w3.heap.size np ps, .is (.pointer (some ⟨g3, 2, none⟩))]) (by kernel_rfl) rfl (by kernel_rfl) (fun i v w w' h hb => Spec.keep h hb) ⟨?_, ?_, ?_, ?_, ?_, ?_, ?_, trivial⟩ ?_
  · refine StepOKl.of ?_
    intro ac w hb hu hk
    refine ⟨wanted_none rfl, ?_⟩
    have e3 : ac.eval (.tmp 3) = .pointer (some ⟨g3, 0, none⟩) := hu.is (t := 3) (by kernel_rfl)
    refine step_value (w' := w) (v := (.pointer (some ⟨g3, 2, none⟩))) ?_ (Below.refl _ _) rfl
    generalize ac.eval = ρ at e3 ⊢
    go_simp
  · refine StepOKl.of ?_
    intro ac w hb hu hk
    refine ⟨wanted_none rfl, ?_⟩
    have e7 : ac.eval (.tmp 7) = (.pointer (some ⟨g3, 2, none⟩)) := (hk ⟨0, .data⟩ (by simp) rfl).is rfl rfl
    have hc := HS2.out w hb
    refine step_value (w' := w) (v := .slice V nv cv) ?_ (Below.refl _ _) rfl
    generalize ac.eval = ρ at e7 ⊢
    go_simp
  · refine StepOKl.of ?_
    intro ac w hb hu hk
    refine ⟨wanted_none rfl, ?_⟩
    have e8 : ac.eval (.tmp 8) = (.slice V nv cv) := (hk ⟨1, .data⟩ (by simp) rfl).is rfl rfl
    have ef : ac.eval (.func 62) = .func (.func 62) #[] #[] := rfl
    refine step_enter (f := 62) (args := #[.slice V nv cv]) ?_ ?_
    · generalize ac.eval = ρ at e8 ef ⊢
      go_simp
    · exact (HCV.out w hb).mono fun e w' ⟨A, c, he, hc, hr, hq⟩ => ⟨_, he, ⟨A, c, rfl, hc, hr⟩, hq⟩
  · refine StepOKl.of ?_
    intro ac w hb hu hk
    refine ⟨wanted_none rfl, ?_⟩
    have e3 : ac.eval (.tmp 3) = .pointer (some ⟨g3, 0, none⟩) := hu.is (t := 3) (by kernel_rfl)
    refine step_value (w' := w) (v := (.pointer (some ⟨g3, 3, none⟩))) ?_ (Below.refl _ _) rfl
    generalize ac.eval = ρ at e3 ⊢
    go_simp
  · refine StepOKl.of ?_
    intro ac w hb hu hk
    refine ⟨wanted_none rfl, ?_⟩
    have e10 : ac.eval (.tmp 10) = (.pointer (some ⟨g3, 3, none⟩)) := (hk ⟨3, .data⟩ (by simp) rfl).is rfl rfl
    have hc := HS3.out w hb
    refine step_value (w' := w) (v := .slice P np cp) ?_ (Below.refl _ _) rfl
    generalize ac.eval = ρ at e10 ⊢
    go_simp
  · refine StepOKl.of ?_
    intro ac w hb hu hk
    refine ⟨wanted_none rfl, ?_⟩
    have e11 : ac.eval (.tmp 11) = (.slice P np cp) := (hk ⟨4, .data⟩ (by simp) rfl).is rfl rfl
    have ef : ac.eval (.func 62) = .func (.func 62) #[] #[] := rfl
    refine step_enter (f := 62) (args := #[.slice P np cp]) ?_ ?_
    · generalize ac.eval = ρ at e11 ef ⊢
      go_simp
    · exact (HCP.out w hb).mono fun e w' ⟨A, c, he, hc, hr, hq⟩ => ⟨_, he, ⟨A, c, rfl, hc, hr⟩, hq⟩
  · refine StepOKl.of ?_
    intro ac w hb hu hk
    refine ⟨wanted_none rfl, ?_⟩
    have e3 : ac.eval (.tmp 3) = .pointer (some ⟨g3, 0, none⟩) := hu.is (t := 3) (by kernel_rfl)
    refine step_value (w' := w) (v := (.pointer (some ⟨g3, 2, none⟩))) ?_ (Below.refl _ _) rfl
    generalize ac.eval = ρ at e3 ⊢
    go_simp
  · intro ac w' hb hu hk hap
    obtain ⟨_, h7, rfl⟩ := (hk 0 (by decide)).put rfl rfl
    obtain ⟨_, h8, rfl⟩ := (hk 1 (by decide)).put rfl rfl
    obtain ⟨_, h9, ⟨X9, xc9, rfl, hxc9, hX9⟩⟩ := (hk 2 (by decide)).put rfl rfl
    obtain ⟨_, h10, rfl⟩ := (hk 3 (by decide)).put rfl rfl
    obtain ⟨_, h11, rfl⟩ := (hk 4 (by decide)).put rfl rfl
    obtain ⟨_, h12, ⟨X12, xc12, rfl, hxc12, hX12⟩⟩ := (hk 5 (by decide)).put rfl rfl
    obtain ⟨_, h13, rfl⟩ := (hk 6 (by decide)).put rfl rfl
    clear hap
    have hF : AllPuts ac.tmps ((7, _) :: (8, _) :: (9, _) :: (10, _) :: (11, _) :: (12, _) :: (13, _) :: []) := ⟨h7, h8, h9, h10, h11, h12, h13, trivial⟩
    obtain rfl := frame_puts hu (by kernel_rfl) hF
    simp only [puts, Act.put, List.setIfInBounds_toArray, List.set_cons_zero, List.set_cons_succ, List.drop_succ_cons, List.drop_zero]
    clear hk hu hF h7 h8 h9 h10 h11 h12 h13
    have hcb := HBS.out w' hb
    have hc2 := HS2.out w' hb
    have hc3 := HS3.out w' hb
    have hf2 := hcb.frozen 2
    have hf3 := hcb.frozen 3
    go_upto_region 2 with fail
    generalize hwn : World.setCell _ _ _ = w4
    have hbw : Below w.heap.size w w4 := by
      rw [← hwn]
      exact ((HBW.out.trans (hb.mono HBW.out.size)).setCell (p := ⟨g3, 2, none⟩) HG3.out _).setCell (p := ⟨g3, 3, none⟩) HG3.out _
    obtain ⟨SB, hSB⟩ : ∃ x, sigA sh sl X9 X12 nv xc9 np xc12 = x := ⟨_, rfl⟩
    have HESB := Lib.hid hSB
    have HZSB := Lib.hid (show SB.size = 4 by rw [← hSB]; rfl)
    have HOSB := Lib.hid (show SB.all (·.oneCell') = true by rw [← hSB]; exact sigA_one _ _ _ _ _ _ _ _)
    have HSW := Lib.hid (show w3.heap.size ≤ w4.heap.size by rw [← hwn]; simpa using hb.size)
    have HO1 := Lib.hid (show OwnH w4 w3.heap.size (.slice X9 nv xc9) vs by
      rw [← hwn]
      exact (hX9.cell_far hcb (by decide) 2 _).cell_far (hcb.set 2 (.slice X9 nv xc9)) (by decide) 3 _)
    have HO2 := Lib.hid (show OwnH w4 w3.heap.size (.slice X12 np xc12) ps by
      rw [← hwn]
      exact (hX12.cell_far hcb (by decide) 2 _).cell_far (hcb.set 2 (.slice X9 nv xc9)) (by decide) 3 _)
    replace HB3 := Lib.hid (show Blk w4 g3 SB 35 by
      have h := (hcb.set 2 (.slice X9 nv xc9)).set 3 (.slice X12 np xc12)
      rw [← HESA.out] at h
      rw [← hwn, ← HESB.out]
      exact h)
    replace HB6 := Lib.hid (show Blk w4 g6 rs6 35 by
      rw [← hwn]
      exact ((HB6.out.below hb HB6.out.lt).other (p := ⟨g3, 2, none⟩) HNE.out _).other (p := ⟨g3, 3, none⟩) HNE.out _)
    replace HBW := Lib.hid hbw
    have HRV := Lib.hid (SgRow.of HO1.out HVL.out)
    have HRP := Lib.hid (SgRow.of HO2.out HPL.out)
    have HC0 := Lib.hid (show w4.cell? ⟨g3, 0, none⟩ = some (.int .i64 sh) by rw [HB3.out.cell 0, ← HESB.out]; rfl)
    have HC1 := Lib.hid (show w4.cell? ⟨g3, 1, none⟩ = some (.int .i64 sl) by rw [HB3.out.cell 1, ← HESB.out]; rfl)
    have HC2 := Lib.hid (show w4.cell? ⟨g3, 2, none⟩ = some (.slice X9 nv xc9) by rw [HB3.out.cell 2, ← HESB.out]; rfl)
    have HC3 := Lib.hid (show w4.cell? ⟨g3, 3, none⟩ = some (.slice X12 np xc12) by rw [HB3.out.cell 3, ← HESB.out]; rfl)
    have HF := Lib.hid (fun i => HB3.out.frozen i)
    clear hwn hcb hc2 hc3 hf2 hf3 hb hbw HBS HS2 HS3 HCV HCP hX9 hX12 hxc9 hxc12 hSB HESA HZSA HOSA HHV HHP
    have HN31 := HNE.out
    go_wp2_with fail
    with_reducible refine (HWQ.out _).mono ?_
    rintro e wx ⟨rfl, rfl⟩
    clear HWQ HN31
    obtain rfl | rfl | rfl | rfl | rfl | rfl | rfl | rfl : q = 0 ∨ q = 1 ∨ q = 2 ∨ q = 3 ∨ q = 4 ∨ q = 5 ∨ q = 6 ∨ q = 7 := by omega
    · obtain ⟨vx, hvx, hvn⟩ := (HRV.out.row HB6.out (by decide) SB).hv
      obtain ⟨px, hpx, hpn⟩ := (HRP.out.row HB6.out (by decide) SB).hv
      have HSD := Lib.hid (And.intro hvx (And.intro hvn (And.intro hpx hpn)))
      clear hvx hvn hpx hpn
      go_wp2_with (first | (with_reducible refine wpList_load_blk rfl 35 (.tmp 3) rfl g3 rfl 35 SB _ HB3.out Tryd.underlying35 rfl (by rw [HZSB.out]; kernel_rfl) ?_) | (with_reducible refine wpList_store_blk rfl 35 (.tmp 6) (.tmp 91) rfl g6 SB rfl rfl 35 rs6 HB6.out (by rw [HZSB.out]; kernel_rfl) (by rw [HZSB.out, HRZ6.out]) HOSB.out ?_))
      refine bodyPost_ret (v := .agg SB) (results_cell_row (p := 6) (ty := 35) (by kernel_rfl) _ _ g6 35 _ (0, 0) _ rfl (HB6.out.row SB) Tryd.underlying35 rfl (by rw [HZSB.out]; kernel_rfl)) rfl ⟨sh, sl, X9, X12, nv, xc9, np, xc12, vx, px, by rw [← HESB.out], HSD.out.1, HSD.out.2.1, by omega, HSD.out.2.2.1, HSD.out.2.2.2, by omega, below_row HBW.out HBW.out.size HG6.out _⟩
    · have hc := HC0.out
      have hf := HF.out 0
      go_upto_region 16 with fail
      generalize hwn : World.setCell _ _ _ = w5
      obtain ⟨E, hE⟩ : ∃ E : Int, World.setCell w4 ⟨g3, 0, none⟩ (.int .i64 E) = w5 := ⟨_, hwn⟩
      clear hwn hc hf
      obtain ⟨SC, hSC⟩ : ∃ x, sigA E sl X9 X12 nv xc9 np xc12 = x := ⟨_, rfl⟩
      have HESC := Lib.hid hSC
      have HZSC := Lib.hid (show SC.size = 4 by rw [← hSC]; rfl)
      have HOSC := Lib.hid (show SC.all (·.oneCell') = true by rw [← hSC]; exact sigA_one _ _ _ _ _ _ _ _)
      have hB3 := HB3.out
      rw [← HESB.out] at hB3
      replace HB3 := Lib.hid (show Blk w5 g3 SC 35 by
        have h := hB3.set 0 (.int .i64 E)
        rw [← hE, ← hSC]
        exact h)
      replace HB6 := Lib.hid (show Blk w5 g6 rs6 35 by
        rw [← hE]
        exact HB6.out.other (p := ⟨g3, 0, none⟩) HNE.out _)
      replace HRV := Lib.hid (show SgRow w5 X9 nv xc9 by rw [← hE]; exact HRV.out.cell hB3 (by decide) 0 _)
      replace HRP := Lib.hid (show SgRow w5 X12 np xc12 by rw [← hE]; exact HRP.out.cell hB3 (by decide) 0 _)
      replace HBW := Lib.hid (show Below w.heap.size w w5 by rw [← hE]; exact HBW.out.setCell (p := ⟨g3, 0, none⟩) HG3.out _)
      clear hB3 hE hSC HC0 HC1 HC2 HC3 HO1 HO2
      obtain ⟨vx, hvx, hvn⟩ := (HRV.out.row HB6.out (by decide) SC).hv
      obtain ⟨px, hpx, hpn⟩ := (HRP.out.row HB6.out (by decide) SC).hv
      have HSD := Lib.hid (And.intro hvx (And.intro hvn (And.intro hpx hpn)))
      clear hvx hvn hpx hpn
      go_wp2_with (first | (with_reducible refine wpList_load_blk rfl 35 (.tmp 3) rfl g3 rfl 35 SC _ HB3.out Tryd.underlying35 rfl (by rw [HZSC.out]; kernel_rfl) ?_) | (with_reducible refine wpList_store_blk rfl 35 (.tmp 6) (.tmp 91) rfl g6 SC rfl rfl 35 rs6 HB6.out (by rw [HZSC.out]; kernel_rfl) (by rw [HZSC.out, HRZ6.out]) HOSC.out ?_))
      refine bodyPost_ret (v := .agg SC) (results_cell_row (p := 6) (ty := 35) (by kernel_rfl) _ _ g6 35 _ (0, 0) _ rfl (HB6.out.row SC) Tryd.underlying35 rfl (by rw [HZSC.out]; kernel_rfl)) rfl ⟨E, sl, X9, X12, nv, xc9, np, xc12, vx, px, by rw [← HESC.out], HSD.out.1, HSD.out.2.1, by omega, HSD.out.2.2.1, HSD.out.2.2.2, by omega, below_row HBW.out HBW.out.size HG6.out _⟩
    · have hc := HC1.out
      have hf := HF.out 1
      go_upto_region 16 with fail
      generalize hwn : World.setCell _ _ _ = w5
      obtain ⟨E, hE⟩ : ∃ E : Int, World.setCell w4 ⟨g3, 1, none⟩ (.int .i64 E) = w5 := ⟨_, hwn⟩
      clear hwn hc hf
      obtain ⟨SC, hSC⟩ : ∃ x, sigA sh E X9 X12 nv xc9 np xc12 = x := ⟨_, rfl⟩
      have HESC := Lib.hid hSC
      have HZSC := Lib.hid (show SC.size = 4 by rw [← hSC]; rfl)
      have HOSC := Lib.hid (show SC.all (·.oneCell') = true by rw [← hSC]; exact sigA_one _ _ _ _ _ _ _ _)
      have hB3 := HB3.out
      rw [← HESB.out] at hB3
      replace HB3 := Lib.hid (show Blk w5 g3 SC 35 by
        have h := hB3.set 1 (.int .i64 E)
        rw [← hE, ← hSC]
        exact h)
      replace HB6 := Lib.hid (show Blk w5 g6 rs6 35 by
        rw [← hE]
        exact HB6.out.other (p := ⟨g3, 1, none⟩) HNE.out _)
      replace HRV := Lib.hid (show SgRow w5 X9 nv xc9 by rw [← hE]; exact HRV.out.cell hB3 (by decide) 1 _)
      replace HRP := Lib.hid (show SgRow w5 X12 np xc12 by rw [← hE]; exact HRP.out.cell hB3 (by decide) 1 _)
      replace HBW := Lib.hid (show Below w.heap.size w w5 by rw [← hE]; exact HBW.out.setCell (p := ⟨g3, 1, none⟩) HG3.out _)
      clear hB3 hE hSC HC0 HC1 HC2 HC3 HO1 HO2
      obtain ⟨vx, hvx, hvn⟩ := (HRV.out.row HB6.out (by decide) SC).hv
      obtain ⟨px, hpx, hpn⟩ := (HRP.out.row HB6.out (by decide) SC).hv
      have HSD := Lib.hid (And.intro hvx (And.intro hvn (And.intro hpx hpn)))
      clear hvx hvn hpx hpn
      go_wp2_with (first | (with_reducible refine wpList_load_blk rfl 35 (.tmp 3) rfl g3 rfl 35 SC _ HB3.out Tryd.underlying35 rfl (by rw [HZSC.out]; kernel_rfl) ?_) | (with_reducible refine wpList_store_blk rfl 35 (.tmp 6) (.tmp 91) rfl g6 SC rfl rfl 35 rs6 HB6.out (by rw [HZSC.out]; kernel_rfl) (by rw [HZSC.out, HRZ6.out]) HOSC.out ?_))
      refine bodyPost_ret (v := .agg SC) (results_cell_row (p := 6) (ty := 35) (by kernel_rfl) _ _ g6 35 _ (0, 0) _ rfl (HB6.out.row SC) Tryd.underlying35 rfl (by rw [HZSC.out]; kernel_rfl)) rfl ⟨sh, E, X9, X12, nv, xc9, np, xc12, vx, px, by rw [← HESC.out], HSD.out.1, HSD.out.2.1, by omega, HSD.out.2.2.1, HSD.out.2.2.2, by omega, below_row HBW.out HBW.out.size HG6.out _⟩
    · obtain ⟨gq, rfl⟩ : ∃ g, X9 = some ⟨g, 0, none⟩ := by
        rcases HO1.out.2.2 with ⟨e, _⟩ | ⟨g, cap, cur, e, _⟩
        · injection e with _ e3 _
          omega
        · injection e with e1 _ _
          exact ⟨g, e1⟩
      obtain ⟨i, hi, hin⟩ : ∃ i : Nat, withinI at_ (nv : Int) = (i : Int) ∧ (i : Int) < (nv : Int) := by
        have := withinI_range at_ (nv : Int) (by omega)
        exact ⟨(withinI at_ (nv : Int)).toNat, by omega, by omega⟩
      have HW1 := Lib.hid (fun W => (show Calls Tryd.prog 11 #[.int .i64 at_, .int .i64 (nv : Int)] W fun e w' => e = .returned (.int .i64 (i : Int)) ∧ W = w' from by rw [← hi]; exact within_any at_ (nv : Int) W (by omega) (by omega) (by omega)))
      obtain ⟨j, hj, hjn⟩ : ∃ j : Nat, withinI at_ 32 = (j : Int) ∧ (j : Int) < 32 := by
        have := withinI_range at_ 32 (by omega)
        exact ⟨(withinI at_ 32).toNat, by omega, by omega⟩
      have HW2 := Lib.hid (fun W => (show Calls Tryd.prog 11 #[.int .i64 at_, .int .i64 32] W fun e w' => e = .returned (.int .i64 (j : Int)) ∧ W = w' from by rw [← hj]; exact within_any at_ 32 W (by omega) (by omega) (by omega)))
      have hj32 : j < 32 := by omega
      have hin : i < nv := by omega
      have hi0 : (0 : Int) ≤ (i : Int) := by omega
      obtain ⟨bx, hbx⟩ := bytes_of_own HO1.out (i * 32 + j) (by omega)
      obtain ⟨bc, hbc⟩ := xor_byte (bx.toNat : Int) 1
      have HX1 := Lib.hid hbc
      obtain ⟨_, ⟨u, hu⟩, hfz, _⟩ := own_put bc HO1.out HVL.out hin (show j < 32 from hj32)
      have HFZ := Lib.hid hfz
      have HLQ := Lib.hid (show gq < w4.heap.size from (HO1.out.2.lt gq (by simp [Value.ownBlock])).2)
      have HCB := Lib.hid (fun W (hW : Below w4.heap.size w4 W) => (show W.cell? ⟨gq, i * 32 + j, none⟩ = some (.int .u8 (bx.toNat : Int)) by rw [hW.cell (p := ⟨gq, i * 32 + j, none⟩) HLQ.out]; exact hbx))
      have HCS := Lib.hid (fun W (hW : Below w4.heap.size w4 W) => (show W.cell? ⟨g3, 2, none⟩ = some (.slice (some ⟨gq, 0, none⟩) nv xc9) by rw [hW.cell (p := ⟨g3, 2, none⟩) HB3.out.lt]; exact HC2.out))
      clear hbx hbc hu hfz
      go_wp2_with fail
      refine wp_region_loose 15 1 (fun i => false) (promises [.is (.pointer (some ⟨g3, 2, none⟩)), .is (.slice (some ⟨gq, 0, none⟩) nv xc9), .is (.int .i64 at_), .is (.pointer (some ⟨g3, 2, none⟩)), .is (.slice (some ⟨gq, 0, none⟩) nv xc9), .is (.int .i64 (nv : Int)), .is (.int .i64 (i : Int)), .is (.int .i64 at_), .is (.int .i64 (j : Int)), .is (.pointer (some ⟨gq, i * 32, none⟩)), .is (.pointer (some ⟨gq, i * 32 + j, none⟩)), .is (.int .u8 (bx.toNat : Int)), .is (.int .u8 (bc.toNat : Int)), .is (.pointer (some ⟨gq, i * 32, none⟩)), .is (.pointer (some ⟨gq, i * 32 + j, none⟩))]) (by kernel_rfl) rfl (by kernel_rfl) (fun i v w w' h hb => Spec.keep h hb) ⟨?_, ?_, ?_, ?_, ?_, ?_, ?_, ?_, ?_, ?_, ?_, ?_, ?_, ?_, ?_, trivial⟩ ?_
      · refine StepOKl.of ?_
        intro ac w hb hu hk
        refine ⟨wanted_none rfl, ?_⟩
        have e3 : ac.eval (.tmp 3) = .pointer (some ⟨g3, 0, none⟩) := hu.is (t := 3) (by kernel_rfl)
        refine step_value (w' := w) (v := (.pointer (some ⟨g3, 2, none⟩))) ?_ (Below.refl _ _) rfl
        generalize ac.eval = ρ at e3 ⊢
        go_simp
      · refine StepOKl.of ?_
        intro ac w hb hu hk
        refine ⟨wanted_none rfl, ?_⟩
        have e39 : ac.eval (.tmp 39) = (.pointer (some ⟨g3, 2, none⟩)) := (hk ⟨0, .data⟩ (by simp) rfl).is rfl rfl
        have hc := HCS.out w hb
        refine step_value (w' := w) (v := .slice (some ⟨gq, 0, none⟩) nv xc9) ?_ (Below.refl _ _) rfl
        generalize ac.eval = ρ at e39 ⊢
        go_simp
      · refine StepOKl.of ?_
        intro ac w hb hu hk
        refine ⟨wanted_none rfl, ?_⟩
        have e2 : ac.eval (.tmp 2) = .int .i64 at_ := hu.is (t := 2) (by kernel_rfl)
        exact step_value (BigFrame.run_move (.tmp 2) rfl w) (Below.refl _ _) e2
      · refine StepOKl.of ?_
        intro ac w hb hu hk
        refine ⟨wanted_none rfl, ?_⟩
        have e3 : ac.eval (.tmp 3) = .pointer (some ⟨g3, 0, none⟩) := hu.is (t := 3) (by kernel_rfl)
        refine step_value (w' := w) (v := (.pointer (some ⟨g3, 2, none⟩))) ?_ (Below.refl _ _) rfl
        generalize ac.eval = ρ at e3 ⊢
        go_simp
      · refine StepOKl.of ?_
        intro ac w hb hu hk
        refine ⟨wanted_none rfl, ?_⟩
        have e42 : ac.eval (.tmp 42) = (.pointer (some ⟨g3, 2, none⟩)) := (hk ⟨3, .data⟩ (by simp) rfl).is rfl rfl
        have hc := HCS.out w hb
        refine step_value (w' := w) (v := .slice (some ⟨gq, 0, none⟩) nv xc9) ?_ (Below.refl _ _) rfl
        generalize ac.eval = ρ at e42 ⊢
        go_simp
      · refine StepOKl.of ?_
        intro ac w hb hu hk
        refine ⟨wanted_none rfl, ?_⟩
        have e43 : ac.eval (.tmp 43) = (.slice (some ⟨gq, 0, none⟩) nv xc9) := (hk ⟨4, .data⟩ (by simp) rfl).is rfl rfl
        refine step_value (w' := w) (v := (.int .i64 (nv : Int))) ?_ (Below.refl _ _) rfl
        generalize ac.eval = ρ at e43 ⊢
        go_simp
      · refine StepOKl.of ?_
        intro ac w hb hu hk
        refine ⟨wanted_none rfl, ?_⟩
        have e41 : ac.eval (.tmp 41) = (.int .i64 at_) := (hk ⟨2, .data⟩ (by simp) rfl).is rfl rfl
        have e44 : ac.eval (.tmp 44) = (.int .i64 (nv : Int)) := (hk ⟨5, .data⟩ (by simp) rfl).is rfl rfl
        have ef : ac.eval (.func 11) = .func (.func 11) #[] #[] := rfl
        refine step_enter (f := 11) (args := #[.int .i64 at_, .int .i64 (nv : Int)]) ?_ ?_
        · generalize ac.eval = ρ at e41 e44 ef ⊢
          go_simp
        · exact (HW1.out w).mono fun e w' ⟨he, hq⟩ => ⟨_, he, rfl, hq ▸ Below.refl _ _⟩
      · refine StepOKl.of ?_
        intro ac w hb hu hk
        refine ⟨wanted_none rfl, ?_⟩
        have e2 : ac.eval (.tmp 2) = .int .i64 at_ := hu.is (t := 2) (by kernel_rfl)
        exact step_value (BigFrame.run_move (.tmp 2) rfl w) (Below.refl _ _) e2
      · refine StepOKl.of ?_
        intro ac w hb hu hk
        refine ⟨wanted_none rfl, ?_⟩
        have e46 : ac.eval (.tmp 46) = (.int .i64 at_) := (hk ⟨7, .data⟩ (by simp) rfl).is rfl rfl
        have ec0 : ac.eval (.const (Value.int IntKind.i64 32)) = Value.int IntKind.i64 32 := rfl
        have ef : ac.eval (.func 11) = .func (.func 11) #[] #[] := rfl
        refine step_enter (f := 11) (args := #[.int .i64 at_, .int .i64 32]) ?_ ?_
        · generalize ac.eval = ρ at e46 ec0 ef ⊢
          go_simp
        · exact (HW2.out w).mono fun e w' ⟨he, hq⟩ => ⟨_, he, rfl, hq ▸ Below.refl _ _⟩
      · refine StepOKl.of ?_
        intro ac w hb hu hk
        refine ⟨wanted_none rfl, ?_⟩
        have e40 : ac.eval (.tmp 40) = (.slice (some ⟨gq, 0, none⟩) nv xc9) := (hk ⟨1, .data⟩ (by simp) rfl).is rfl rfl
        have e45 : ac.eval (.tmp 45) = (.int .i64 (i : Int)) := (hk ⟨6, .data⟩ (by simp) rfl).is rfl rfl
        refine step_value (w' := w) (v := (.pointer (some ⟨gq, i * 32, none⟩))) ?_ (Below.refl _ _) rfl
        generalize ac.eval = ρ at e40 e45 ⊢
        go_simp
      · refine StepOKl.of ?_
        intro ac w hb hu hk
        refine ⟨wanted_none rfl, ?_⟩
        have e48 : ac.eval (.tmp 48) = (.pointer (some ⟨gq, i * 32, none⟩)) := (hk ⟨9, .data⟩ (by simp) rfl).is rfl rfl
        have e47 : ac.eval (.tmp 47) = (.int .i64 (j : Int)) := (hk ⟨8, .data⟩ (by simp) rfl).is rfl rfl
        refine step_value (w' := w) (v := (.pointer (some ⟨gq, i * 32 + j, none⟩))) ?_ (Below.refl _ _) rfl
        generalize ac.eval = ρ at e48 e47 ⊢
        go_simp
      · refine StepOKl.of ?_
        intro ac w hb hu hk
        refine ⟨wanted_none rfl, ?_⟩
        have e49 : ac.eval (.tmp 49) = (.pointer (some ⟨gq, i * 32 + j, none⟩)) := (hk ⟨10, .data⟩ (by simp) rfl).is rfl rfl
        refine step_value (w' := w) (v := .int .u8 (bx.toNat : Int)) ?_ (Below.refl _ _) rfl
        have hc := HCB.out w hb
        generalize ac.eval = ρ at e49 ⊢
        go_simp
      · refine StepOKl.of ?_
        intro ac w hb hu hk
        refine ⟨wanted_none rfl, ?_⟩
        have e50 : ac.eval (.tmp 50) = (.int .u8 (bx.toNat : Int)) := (hk ⟨11, .data⟩ (by simp) rfl).is rfl rfl
        refine step_value (w' := w) (v := .int .u8 (bc.toNat : Int)) ?_ (Below.refl _ _) rfl
        have hx1 := HX1.out
        have ec : ac.eval (.const (.int .u8 1)) = .int .u8 1 := rfl
        generalize ac.eval = ρ at e50 ec ⊢
        go_simp
      · refine StepOKl.of ?_
        intro ac w hb hu hk
        refine ⟨wanted_none rfl, ?_⟩
        have e40 : ac.eval (.tmp 40) = (.slice (some ⟨gq, 0, none⟩) nv xc9) := (hk ⟨1, .data⟩ (by simp) rfl).is rfl rfl
        have e45 : ac.eval (.tmp 45) = (.int .i64 (i : Int)) := (hk ⟨6, .data⟩ (by simp) rfl).is rfl rfl
        refine step_value (w' := w) (v := (.pointer (some ⟨gq, i * 32, none⟩))) ?_ (Below.refl _ _) rfl
        generalize ac.eval = ρ at e40 e45 ⊢
        go_simp
      · refine StepOKl.of ?_
        intro ac w hb hu hk
        refine ⟨wanted_none rfl, ?_⟩
        have e52 : ac.eval (.tmp 52) = (.pointer (some ⟨gq, i * 32, none⟩)) := (hk ⟨13, .data⟩ (by simp) rfl).is rfl rfl
        have e47 : ac.eval (.tmp 47) = (.int .i64 (j : Int)) := (hk ⟨8, .data⟩ (by simp) rfl).is rfl rfl
        refine step_value (w' := w) (v := (.pointer (some ⟨gq, i * 32 + j, none⟩))) ?_ (Below.refl _ _) rfl
        generalize ac.eval = ρ at e52 e47 ⊢
        go_simp
      · intro ac w' hb hu hk hap
        obtain ⟨_, h39, rfl⟩ := (hk 0 (by decide)).put rfl rfl
        obtain ⟨_, h40, rfl⟩ := (hk 1 (by decide)).put rfl rfl
        obtain ⟨_, h41, rfl⟩ := (hk 2 (by decide)).put rfl rfl
        obtain ⟨_, h42, rfl⟩ := (hk 3 (by decide)).put rfl rfl
        obtain ⟨_, h43, rfl⟩ := (hk 4 (by decide)).put rfl rfl
        obtain ⟨_, h44, rfl⟩ := (hk 5 (by decide)).put rfl rfl
        obtain ⟨_, h45, rfl⟩ := (hk 6 (by decide)).put rfl rfl
        obtain ⟨_, h46, rfl⟩ := (hk 7 (by decide)).put rfl rfl
        obtain ⟨_, h47, rfl⟩ := (hk 8 (by decide)).put rfl rfl
        obtain ⟨_, h48, rfl⟩ := (hk 9 (by decide)).put rfl rfl
        obtain ⟨_, h49, rfl⟩ := (hk 10 (by decide)).put rfl rfl
        obtain ⟨_, h50, rfl⟩ := (hk 11 (by decide)).put rfl rfl
        obtain ⟨_, h51, rfl⟩ := (hk 12 (by decide)).put rfl rfl
        obtain ⟨_, h52, rfl⟩ := (hk 13 (by decide)).put rfl rfl
        obtain ⟨_, h53, rfl⟩ := (hk 14 (by decide)).put rfl rfl
        clear hap
        have hF : AllPuts ac.tmps ((39, _) :: (40, _) :: (41, _) :: (42, _) :: (43, _) :: (44, _) :: (45, _) :: (46, _) :: (47, _) :: (48, _) :: (49, _) :: (50, _) :: (51, _) :: (52, _) :: (53, _) :: []) := ⟨h39, h40, h41, h42, h43, h44, h45, h46, h47, h48, h49, h50, h51, h52, h53, trivial⟩
        obtain rfl := frame_puts hu (by kernel_rfl) hF
        simp only [puts, Act.put, List.setIfInBounds_toArray, List.set_cons_zero, List.set_cons_succ, List.drop_succ_cons, List.drop_zero]
        clear hk hu hF h39 h40 h41 h42 h43 h44 h45 h46 h47 h48 h49 h50 h51 h52 h53
        have hfz := HFZ.out
        have hcb := HCB.out w' hb
        have hfz2 : w'.frozen? ⟨gq, i * 32 + j, none⟩ = false := by
          rw [hb.frozen (p := ⟨gq, i * 32 + j, none⟩) HLQ.out]
          exact hfz
        go_upto_region 16 with fail
        generalize hwn : World.setCell _ _ _ = w5
        have hE : World.setCell w' ⟨gq, i * 32 + j, none⟩ (.int .u8 (bc.toNat : Int)) = w5 := hwn
        clear hwn hcb hfz hfz2
        have hgg : w3.heap.size ≤ gq := (HO1.out.2.lt gq (by simp [Value.ownBlock])).1
        replace HRV := Lib.hid (show SgRow w5 (some ⟨gq, 0, none⟩) nv xc9 by rw [← hE]; exact (HRV.out.below hb).put _ _ _)
        replace HRP := Lib.hid (show SgRow w5 X12 np xc12 by rw [← hE]; exact (HRP.out.below hb).put _ _ _)
        replace HB3 := Lib.hid (show Blk w5 g3 SB 35 by rw [← hE]; exact (HB3.out.below hb HB3.out.lt).other (p := ⟨gq, _, none⟩) (by have := HL3.out; show g3 ≠ gq; omega) _)
        replace HB6 := Lib.hid (show Blk w5 g6 rs6 35 by rw [← hE]; exact (HB6.out.below hb HB6.out.lt).other (p := ⟨gq, _, none⟩) (by have := HL6.out; show g6 ≠ gq; omega) _)
        replace HBW := Lib.hid (show Below w.heap.size w w5 by rw [← hE]; exact (HBW.out.trans (hb.mono HBW.out.size)).setCell (p := ⟨gq, _, none⟩) (by have := HL3.out; have := HG3.out; show w.heap.size ≤ gq; omega) _)
        clear hE hgg hb HO1 HO2 HC0 HC1 HC2 HC3 HCB HCS HFZ HLQ HX1 HW1
        obtain ⟨vx, hvx, hvn⟩ := (HRV.out.row HB6.out (by decide) SB).hv
        obtain ⟨px, hpx, hpn⟩ := (HRP.out.row HB6.out (by decide) SB).hv
        have HSD := Lib.hid (And.intro hvx (And.intro hvn (And.intro hpx hpn)))
        clear hvx hvn hpx hpn
        go_wp2_with (first | (with_reducible refine wpList_load_blk rfl 35 (.tmp 3) rfl g3 rfl 35 SB _ HB3.out Tryd.underlying35 rfl (by rw [HZSB.out]; kernel_rfl) ?_) | (with_reducible refine wpList_store_blk rfl 35 (.tmp 6) (.tmp 91) rfl g6 SB rfl rfl 35 rs6 HB6.out (by rw [HZSB.out]; kernel_rfl) (by rw [HZSB.out, HRZ6.out]) HOSB.out ?_))
        refine bodyPost_ret (v := .agg SB) (results_cell_row (p := 6) (ty := 35) (by kernel_rfl) _ _ g6 35 _ (0, 0) _ rfl (HB6.out.row SB) Tryd.underlying35 rfl (by rw [HZSB.out]; kernel_rfl)) rfl ⟨sh, sl, (some ⟨gq, 0, none⟩), X12, nv, xc9, np, xc12, vx, px, by rw [← HESB.out], HSD.out.1, HSD.out.2.1, by omega, HSD.out.2.2.1, HSD.out.2.2.2, by omega, below_row HBW.out HBW.out.size HG6.out _⟩
    · have hc := HC3.out
      by_cases hnp0 : np = 0
      · have hni : ¬ (np : Int) > 0 := by omega
        go_upto_region 16 with fail
        clear hc
        obtain ⟨vx, hvx, hvn⟩ := (HRV.out.row HB6.out (by decide) SB).hv
        obtain ⟨px, hpx, hpn⟩ := (HRP.out.row HB6.out (by decide) SB).hv
        have HSD := Lib.hid (And.intro hvx (And.intro hvn (And.intro hpx hpn)))
        clear hvx hvn hpx hpn
        go_wp2_with (first | (with_reducible refine wpList_load_blk rfl 35 (.tmp 3) rfl g3 rfl 35 SB _ HB3.out Tryd.underlying35 rfl (by rw [HZSB.out]; kernel_rfl) ?_) | (with_reducible refine wpList_store_blk rfl 35 (.tmp 6) (.tmp 91) rfl g6 SB rfl rfl 35 rs6 HB6.out (by rw [HZSB.out]; kernel_rfl) (by rw [HZSB.out, HRZ6.out]) HOSB.out ?_))
        refine bodyPost_ret (v := .agg SB) (results_cell_row (p := 6) (ty := 35) (by kernel_rfl) _ _ g6 35 _ (0, 0) _ rfl (HB6.out.row SB) Tryd.underlying35 rfl (by rw [HZSB.out]; kernel_rfl)) rfl ⟨sh, sl, X9, X12, nv, xc9, np, xc12, vx, px, by rw [← HESB.out], HSD.out.1, HSD.out.2.1, by omega, HSD.out.2.2.1, HSD.out.2.2.2, by omega, below_row HBW.out HBW.out.size HG6.out _⟩
      · have hni : (np : Int) > 0 := by omega
        go_upto_region 11 with fail
        clear hc
        obtain ⟨gq, rfl⟩ : ∃ g, X12 = some ⟨g, 0, none⟩ := by
          rcases HO2.out.2.2 with ⟨e, _⟩ | ⟨g, cap, cur, e, _⟩
          · injection e with _ e3 _
            omega
          · injection e with e1 _ _
            exact ⟨g, e1⟩
        obtain ⟨i, hi, hin⟩ : ∃ i : Nat, withinI at_ (np : Int) = (i : Int) ∧ (i : Int) < (np : Int) := by
          have := withinI_range at_ (np : Int) (by omega)
          exact ⟨(withinI at_ (np : Int)).toNat, by omega, by omega⟩
        have HW1 := Lib.hid (fun W => (show Calls Tryd.prog 11 #[.int .i64 at_, .int .i64 (np : Int)] W fun e w' => e = .returned (.int .i64 (i : Int)) ∧ W = w' from by rw [← hi]; exact within_any at_ (np : Int) W (by omega) (by omega) (by omega)))
        have hin : i < np := by omega
        have hi0 : (0 : Int) ≤ (i : Int) := by omega
        obtain ⟨bx, hbx⟩ := bytes_of_own HO2.out (i * 32 + 3) (by omega)
        obtain ⟨bc, hbc⟩ := xor_byte (bx.toNat : Int) 8
        have HX1 := Lib.hid hbc
        obtain ⟨_, ⟨u, hu⟩, hfz, _⟩ := own_put bc HO2.out HPL.out hin (show 3 < 32 from (by omega))
        have HFZ := Lib.hid hfz
        have HLQ := Lib.hid (show gq < w4.heap.size from (HO2.out.2.lt gq (by simp [Value.ownBlock])).2)
        have HCB := Lib.hid (fun W (hW : Below w4.heap.size w4 W) => (show W.cell? ⟨gq, i * 32 + 3, none⟩ = some (.int .u8 (bx.toNat : Int)) by rw [hW.cell (p := ⟨gq, i * 32 + 3, none⟩) HLQ.out]; exact hbx))
        have HCS := Lib.hid (fun W (hW : Below w4.heap.size w4 W) => (show W.cell? ⟨g3, 3, none⟩ = some (.slice (some ⟨gq, 0, none⟩) np xc12) by rw [hW.cell (p := ⟨g3, 3, none⟩) HB3.out.lt]; exact HC3.out))
        clear hbx hbc hu hfz
        go_wp2_with fail
        refine wp_region_loose 13 1 (fun i => false) (promises [.is (.pointer (some ⟨g3, 3, none⟩)), .is (.slice (some ⟨gq, 0, none⟩) np xc12), .is (.int .i64 at_), .is (.pointer (some ⟨g3, 3, none⟩)), .is (.slice (some ⟨gq, 0, none⟩) np xc12), .is (.int .i64 (np : Int)), .is (.int .i64 (i : Int)), .is (.pointer (some ⟨gq, i * 32, none⟩)), .is (.pointer (some ⟨gq, i * 32 + 3, none⟩)), .is (.int .u8 (bx.toNat : Int)), .is (.int .u8 (bc.toNat : Int)), .is (.pointer (some ⟨gq, i * 32, none⟩)), .is (.pointer (some ⟨gq, i * 32 + 3, none⟩))]) (by kernel_rfl) rfl (by kernel_rfl) (fun i v w w' h hb => Spec.keep h hb) ⟨?_, ?_, ?_, ?_, ?_, ?_, ?_, ?_, ?_, ?_, ?_, ?_, ?_, trivial⟩ ?_
        · refine StepOKl.of ?_
          intro ac w hb hu hk
          refine ⟨wanted_none rfl, ?_⟩
          have e3 : ac.eval (.tmp 3) = .pointer (some ⟨g3, 0, none⟩) := hu.is (t := 3) (by kernel_rfl)
          refine step_value (w' := w) (v := (.pointer (some ⟨g3, 3, none⟩))) ?_ (Below.refl _ _) rfl
          generalize ac.eval = ρ at e3 ⊢
          go_simp
        · refine StepOKl.of ?_
          intro ac w hb hu hk
          refine ⟨wanted_none rfl, ?_⟩
          have e60 : ac.eval (.tmp 60) = (.pointer (some ⟨g3, 3, none⟩)) := (hk ⟨0, .data⟩ (by simp) rfl).is rfl rfl
          have hc := HCS.out w hb
          refine step_value (w' := w) (v := .slice (some ⟨gq, 0, none⟩) np xc12) ?_ (Below.refl _ _) rfl
          generalize ac.eval = ρ at e60 ⊢
          go_simp
        · refine StepOKl.of ?_
          intro ac w hb hu hk
          refine ⟨wanted_none rfl, ?_⟩
          have e2 : ac.eval (.tmp 2) = .int .i64 at_ := hu.is (t := 2) (by kernel_rfl)
          exact step_value (BigFrame.run_move (.tmp 2) rfl w) (Below.refl _ _) e2
        · refine StepOKl.of ?_
          intro ac w hb hu hk
          refine ⟨wanted_none rfl, ?_⟩
          have e3 : ac.eval (.tmp 3) = .pointer (some ⟨g3, 0, none⟩) := hu.is (t := 3) (by kernel_rfl)
          refine step_value (w' := w) (v := (.pointer (some ⟨g3, 3, none⟩))) ?_ (Below.refl _ _) rfl
          generalize ac.eval = ρ at e3 ⊢
          go_simp
        · refine StepOKl.of ?_
          intro ac w hb hu hk
          refine ⟨wanted_none rfl, ?_⟩
          have e63 : ac.eval (.tmp 63) = (.pointer (some ⟨g3, 3, none⟩)) := (hk ⟨3, .data⟩ (by simp) rfl).is rfl rfl
          have hc := HCS.out w hb
          refine step_value (w' := w) (v := .slice (some ⟨gq, 0, none⟩) np xc12) ?_ (Below.refl _ _) rfl
          generalize ac.eval = ρ at e63 ⊢
          go_simp
        · refine StepOKl.of ?_
          intro ac w hb hu hk
          refine ⟨wanted_none rfl, ?_⟩
          have e64 : ac.eval (.tmp 64) = (.slice (some ⟨gq, 0, none⟩) np xc12) := (hk ⟨4, .data⟩ (by simp) rfl).is rfl rfl
          refine step_value (w' := w) (v := (.int .i64 (np : Int))) ?_ (Below.refl _ _) rfl
          generalize ac.eval = ρ at e64 ⊢
          go_simp
        · refine StepOKl.of ?_
          intro ac w hb hu hk
          refine ⟨wanted_none rfl, ?_⟩
          have e62 : ac.eval (.tmp 62) = (.int .i64 at_) := (hk ⟨2, .data⟩ (by simp) rfl).is rfl rfl
          have e65 : ac.eval (.tmp 65) = (.int .i64 (np : Int)) := (hk ⟨5, .data⟩ (by simp) rfl).is rfl rfl
          have ef : ac.eval (.func 11) = .func (.func 11) #[] #[] := rfl
          refine step_enter (f := 11) (args := #[.int .i64 at_, .int .i64 (np : Int)]) ?_ ?_
          · generalize ac.eval = ρ at e62 e65 ef ⊢
            go_simp
          · exact (HW1.out w).mono fun e w' ⟨he, hq⟩ => ⟨_, he, rfl, hq ▸ Below.refl _ _⟩
        · refine StepOKl.of ?_
          intro ac w hb hu hk
          refine ⟨wanted_none rfl, ?_⟩
          have e61 : ac.eval (.tmp 61) = (.slice (some ⟨gq, 0, none⟩) np xc12) := (hk ⟨1, .data⟩ (by simp) rfl).is rfl rfl
          have e66 : ac.eval (.tmp 66) = (.int .i64 (i : Int)) := (hk ⟨6, .data⟩ (by simp) rfl).is rfl rfl
          refine step_value (w' := w) (v := (.pointer (some ⟨gq, i * 32, none⟩))) ?_ (Below.refl _ _) rfl
          generalize ac.eval = ρ at e61 e66 ⊢
          go_simp
        · refine StepOKl.of ?_
          intro ac w hb hu hk
          refine ⟨wanted_none rfl, ?_⟩
          have e67 : ac.eval (.tmp 67) = (.pointer (some ⟨gq, i * 32, none⟩)) := (hk ⟨7, .data⟩ (by simp) rfl).is rfl rfl
          refine step_value (w' := w) (v := (.pointer (some ⟨gq, i * 32 + 3, none⟩))) ?_ (Below.refl _ _) rfl
          have ec0 : ac.eval (.const (Value.int IntKind.i64 3)) = Value.int IntKind.i64 3 := rfl
          generalize ac.eval = ρ at e67 ec0 ⊢
          go_simp
        · refine StepOKl.of ?_
          intro ac w hb hu hk
          refine ⟨wanted_none rfl, ?_⟩
          have e68 : ac.eval (.tmp 68) = (.pointer (some ⟨gq, i * 32 + 3, none⟩)) := (hk ⟨8, .data⟩ (by simp) rfl).is rfl rfl
          refine step_value (w' := w) (v := .int .u8 (bx.toNat : Int)) ?_ (Below.refl _ _) rfl
          have hc := HCB.out w hb
          generalize ac.eval = ρ at e68 ⊢
          go_simp
        · refine StepOKl.of ?_
          intro ac w hb hu hk
          refine ⟨wanted_none rfl, ?_⟩
          have e69 : ac.eval (.tmp 69) = (.int .u8 (bx.toNat : Int)) := (hk ⟨9, .data⟩ (by simp) rfl).is rfl rfl
          refine step_value (w' := w) (v := .int .u8 (bc.toNat : Int)) ?_ (Below.refl _ _) rfl
          have hx1 := HX1.out
          have ec : ac.eval (.const (.int .u8 8)) = .int .u8 8 := rfl
          generalize ac.eval = ρ at e69 ec ⊢
          go_simp
        · refine StepOKl.of ?_
          intro ac w hb hu hk
          refine ⟨wanted_none rfl, ?_⟩
          have e61 : ac.eval (.tmp 61) = (.slice (some ⟨gq, 0, none⟩) np xc12) := (hk ⟨1, .data⟩ (by simp) rfl).is rfl rfl
          have e66 : ac.eval (.tmp 66) = (.int .i64 (i : Int)) := (hk ⟨6, .data⟩ (by simp) rfl).is rfl rfl
          refine step_value (w' := w) (v := (.pointer (some ⟨gq, i * 32, none⟩))) ?_ (Below.refl _ _) rfl
          generalize ac.eval = ρ at e61 e66 ⊢
          go_simp
        · refine StepOKl.of ?_
          intro ac w hb hu hk
          refine ⟨wanted_none rfl, ?_⟩
          have e71 : ac.eval (.tmp 71) = (.pointer (some ⟨gq, i * 32, none⟩)) := (hk ⟨11, .data⟩ (by simp) rfl).is rfl rfl
          refine step_value (w' := w) (v := (.pointer (some ⟨gq, i * 32 + 3, none⟩))) ?_ (Below.refl _ _) rfl
          have ec0 : ac.eval (.const (Value.int IntKind.i64 3)) = Value.int IntKind.i64 3 := rfl
          generalize ac.eval = ρ at e71 ec0 ⊢
          go_simp
        · intro ac w' hb hu hk hap
          obtain ⟨_, h60, rfl⟩ := (hk 0 (by decide)).put rfl rfl
          obtain ⟨_, h61, rfl⟩ := (hk 1 (by decide)).put rfl rfl
          obtain ⟨_, h62, rfl⟩ := (hk 2 (by decide)).put rfl rfl
          obtain ⟨_, h63, rfl⟩ := (hk 3 (by decide)).put rfl rfl
          obtain ⟨_, h64, rfl⟩ := (hk 4 (by decide)).put rfl rfl
          obtain ⟨_, h65, rfl⟩ := (hk 5 (by decide)).put rfl rfl
          obtain ⟨_, h66, rfl⟩ := (hk 6 (by decide)).put rfl rfl
          obtain ⟨_, h67, rfl⟩ := (hk 7 (by decide)).put rfl rfl
          obtain ⟨_, h68, rfl⟩ := (hk 8 (by decide)).put rfl rfl
          obtain ⟨_, h69, rfl⟩ := (hk 9 (by decide)).put rfl rfl
          obtain ⟨_, h70, rfl⟩ := (hk 10 (by decide)).put rfl rfl
          obtain ⟨_, h71, rfl⟩ := (hk 11 (by decide)).put rfl rfl
          obtain ⟨_, h72, rfl⟩ := (hk 12 (by decide)).put rfl rfl
          clear hap
          have hF : AllPuts ac.tmps ((60, _) :: (61, _) :: (62, _) :: (63, _) :: (64, _) :: (65, _) :: (66, _) :: (67, _) :: (68, _) :: (69, _) :: (70, _) :: (71, _) :: (72, _) :: []) := ⟨h60, h61, h62, h63, h64, h65, h66, h67, h68, h69, h70, h71, h72, trivial⟩
          obtain rfl := frame_puts hu (by kernel_rfl) hF
          simp only [puts, Act.put, List.setIfInBounds_toArray, List.set_cons_zero, List.set_cons_succ, List.drop_succ_cons, List.drop_zero]
          clear hk hu hF h60 h61 h62 h63 h64 h65 h66 h67 h68 h69 h70 h71 h72
          have hfz := HFZ.out
          have hcb := HCB.out w' hb
          have hfz2 : w'.frozen? ⟨gq, i * 32 + 3, none⟩ = false := by
            rw [hb.frozen (p := ⟨gq, i * 32 + 3, none⟩) HLQ.out]
            exact hfz
          go_upto_region 16 with fail
          generalize hwn : World.setCell _ _ _ = w5
          have hE : World.setCell w' ⟨gq, i * 32 + 3, none⟩ (.int .u8 (bc.toNat : Int)) = w5 := hwn
          clear hwn hcb hfz hfz2
          have hgg : w3.heap.size ≤ gq := (HO2.out.2.lt gq (by simp [Value.ownBlock])).1
          replace HRV := Lib.hid (show SgRow w5 X9 nv xc9 by rw [← hE]; exact (HRV.out.below hb).put _ _ _)
          replace HRP := Lib.hid (show SgRow w5 (some ⟨gq, 0, none⟩) np xc12 by rw [← hE]; exact (HRP.out.below hb).put _ _ _)
          replace HB3 := Lib.hid (show Blk w5 g3 SB 35 by rw [← hE]; exact (HB3.out.below hb HB3.out.lt).other (p := ⟨gq, _, none⟩) (by have := HL3.out; show g3 ≠ gq; omega) _)
          replace HB6 := Lib.hid (show Blk w5 g6 rs6 35 by rw [← hE]; exact (HB6.out.below hb HB6.out.lt).other (p := ⟨gq, _, none⟩) (by have := HL6.out; show g6 ≠ gq; omega) _)
          replace HBW := Lib.hid (show Below w.heap.size w w5 by rw [← hE]; exact (HBW.out.trans (hb.mono HBW.out.size)).setCell (p := ⟨gq, _, none⟩) (by have := HL3.out; have := HG3.out; show w.heap.size ≤ gq; omega) _)
          clear hE hgg hb HO1 HO2 HC0 HC1 HC2 HC3 HCB HCS HFZ HLQ HX1 HW1
          obtain ⟨vx, hvx, hvn⟩ := (HRV.out.row HB6.out (by decide) SB).hv
          obtain ⟨px, hpx, hpn⟩ := (HRP.out.row HB6.out (by decide) SB).hv
          have HSD := Lib.hid (And.intro hvx (And.intro hvn (And.intro hpx hpn)))
          clear hvx hvn hpx hpn
          go_wp2_with (first | (with_reducible refine wpList_load_blk rfl 35 (.tmp 3) rfl g3 rfl 35 SB _ HB3.out Tryd.underlying35 rfl (by rw [HZSB.out]; kernel_rfl) ?_) | (with_reducible refine wpList_store_blk rfl 35 (.tmp 6) (.tmp 91) rfl g6 SB rfl rfl 35 rs6 HB6.out (by rw [HZSB.out]; kernel_rfl) (by rw [HZSB.out, HRZ6.out]) HOSB.out ?_))
          refine bodyPost_ret (v := .agg SB) (results_cell_row (p := 6) (ty := 35) (by kernel_rfl) _ _ g6 35 _ (0, 0) _ rfl (HB6.out.row SB) Tryd.underlying35 rfl (by rw [HZSB.out]; kernel_rfl)) rfl ⟨sh, sl, X9, (some ⟨gq, 0, none⟩), nv, xc9, np, xc12, vx, px, by rw [← HESB.out], HSD.out.1, HSD.out.2.1, by omega, HSD.out.2.2.1, HSD.out.2.2.2, by omega, below_row HBW.out HBW.out.size HG6.out _⟩
    · have hc := HC2.out
      have hf := HF.out 2
      have h51 : (1 : Int) ≤ (nv : Int) := by omega
      have h52 : (nv : Int) - 1 ≤ (xc9 : Int) := by have := HRV.out.1; omega
      have h53 : ((nv : Int) - 1).toNat = nv - 1 := by omega
      go_upto_region 16 with fail
      generalize hwn : World.setCell _ _ _ = w5
      have hE : World.setCell w4 ⟨g3, 2, none⟩ (.slice X9 (nv - 1) xc9) = w5 := hwn
      clear hwn hc hf h51 h52 h53
      obtain ⟨SC, hSC⟩ : ∃ x, sigA sh sl X9 X12 (nv - 1) xc9 np xc12 = x := ⟨_, rfl⟩
      have HESC := Lib.hid hSC
      have HZSC := Lib.hid (show SC.size = 4 by rw [← hSC]; rfl)
      have HOSC := Lib.hid (show SC.all (·.oneCell') = true by rw [← hSC]; exact sigA_one _ _ _ _ _ _ _ _)
      have hB3 := HB3.out
      rw [← HESB.out] at hB3
      replace HB3 := Lib.hid (show Blk w5 g3 SC 35 by
        have h := hB3.set 2 (.slice X9 (nv - 1) xc9)
        rw [← hE, ← hSC]
        exact h)
      replace HB6 := Lib.hid (show Blk w5 g6 rs6 35 by
        rw [← hE]
        exact HB6.out.other (p := ⟨g3, 2, none⟩) HNE.out _)
      replace HRV := Lib.hid (show SgRow w5 X9 (nv - 1) xc9 by rw [← hE]; exact (HRV.out.cell hB3 (by decide) 2 _).less (by omega))
      replace HRP := Lib.hid (show SgRow w5 X12 np xc12 by rw [← hE]; exact HRP.out.cell hB3 (by decide) 2 _)
      replace HBW := Lib.hid (show Below w.heap.size w w5 by rw [← hE]; exact HBW.out.setCell (p := ⟨g3, 2, none⟩) HG3.out _)
      clear hB3 hE hSC HC0 HC1 HC2 HC3 HO1 HO2
      obtain ⟨vx, hvx, hvn⟩ := (HRV.out.row HB6.out (by decide) SC).hv
      obtain ⟨px, hpx, hpn⟩ := (HRP.out.row HB6.out (by decide) SC).hv
      have HSD := Lib.hid (And.intro hvx (And.intro hvn (And.intro hpx hpn)))
      clear hvx hvn hpx hpn
      go_wp2_with (first | (with_reducible refine wpList_load_blk rfl 35 (.tmp 3) rfl g3 rfl 35 SC _ HB3.out Tryd.underlying35 rfl (by rw [HZSC.out]; kernel_rfl) ?_) | (with_reducible refine wpList_store_blk rfl 35 (.tmp 6) (.tmp 91) rfl g6 SC rfl rfl 35 rs6 HB6.out (by rw [HZSC.out]; kernel_rfl) (by rw [HZSC.out, HRZ6.out]) HOSC.out ?_))
      refine bodyPost_ret (v := .agg SC) (results_cell_row (p := 6) (ty := 35) (by kernel_rfl) _ _ g6 35 _ (0, 0) _ rfl (HB6.out.row SC) Tryd.underlying35 rfl (by rw [HZSC.out]; kernel_rfl)) rfl ⟨sh, sl, X9, X12, (nv - 1), xc9, np, xc12, vx, px, by rw [← HESC.out], HSD.out.1, HSD.out.2.1, by omega, HSD.out.2.2.1, HSD.out.2.2.2, by omega, below_row HBW.out HBW.out.size HG6.out _⟩
    · obtain ⟨Z, hZ⟩ : ∃ x, u8A zeroH = x := ⟨_, rfl⟩
      have HEZ := Lib.hid hZ
      have HZZ := Lib.hid (show Z.size = 32 by rw [← hZ, u8A_size]; exact rfl)
      have HOZ := Lib.hid (show Z.all (·.oneCell') = true by rw [← hZ]; exact u8A_one _)
      have HAL := Lib.hid (show Below w4.heap.size w4 (w4.alloc (.cells Z 29)) from (Below.refl _ _).alloc (Nat.le_refl _) _)
      have HOA1 := Lib.hid (HO1.out.on HAL.out)
      have HOA2 := Lib.hid (HO2.out.on HAL.out)
      have hc := HC3.out
      go_wp2_with (first
        | (with_reducible refine wpList_build_zero rfl rfl Z HEZ.out ?_)
        | (with_reducible refine wpList_build_hash rfl _ rfl Z rfl HZZ.out ?_)
        | (at_builtin; refine wpList_append_spl rfl _ _ rfl w3.heap.size X9 X12 xc9 xc12 vs ps nv np rfl HOA1.out HOA2.out HVL.out HPL.out w4.heap.size zeroH rfl (by rw [HEZ.out]; exact Blk.new _ _ _) rfl (by omega) (by omega) (by have := HSW.out; simp; omega) ?_))
      intro A5 c5 w5 hr2 hr1 hg
      clear hc
      have hB3 : Blk w5 g3 SB 35 := (hg.block g3 (by have := HB3.out.lt; simp; omega) (fun e => by have := HO2.out.lt g3 e.symm; have := HL3.out; omega)).trans (HB3.out.alloc _)
      have hB6 : Blk w5 g6 rs6 35 := (hg.block g6 (by have := HB6.out.lt; simp; omega) (fun e => by have := HO2.out.lt g6 e.symm; have := HL6.out; omega)).trans (HB6.out.alloc _)
      have hbw : Below w.heap.size w w5 := (HBW.out.trans (HAL.out.mono HBW.out.size)).grown hg (by have := HBW.out.size; simp; omega) (fun k hk => by have := HO2.out.lt k hk; have := HL3.out; have := HG3.out; omega)
      replace HB3 := Lib.hid hB3
      replace HB6 := Lib.hid hB6
      replace HBW := Lib.hid hbw
      replace HRV := Lib.hid hr1
      replace HRP := Lib.hid hr2
      have hc : w5.cell? ⟨g3, 3, none⟩ = some (.slice X12 np xc12) := by rw [hB3.cell 3, ← HESB.out]; rfl
      have hf := hB3.frozen 3
      clear hB3 hB6 hbw hr1 hr2 hg HAL HOA1 HOA2 HC0 HC1 HC2 HC3 HO1 HO2 HF HSW
      go_upto_region 16 with fail
      generalize hwn : World.setCell _ _ _ = w6
      have hE : World.setCell w5 ⟨g3, 3, none⟩ (.slice A5 (np + 1) c5) = w6 := hwn
      clear hwn hc hf
      obtain ⟨SC, hSC⟩ : ∃ x, sigA sh sl X9 A5 nv xc9 (np + 1) c5 = x := ⟨_, rfl⟩
      have HESC := Lib.hid hSC
      have HZSC := Lib.hid (show SC.size = 4 by rw [← hSC]; rfl)
      have HOSC := Lib.hid (show SC.all (·.oneCell') = true by rw [← hSC]; exact sigA_one _ _ _ _ _ _ _ _)
      have hB3 := HB3.out
      rw [← HESB.out] at hB3
      replace HB3 := Lib.hid (show Blk w6 g3 SC 35 by
        have h := hB3.set 3 (.slice A5 (np + 1) c5)
        rw [← hE, ← hSC]
        exact h)
      replace HB6 := Lib.hid (show Blk w6 g6 rs6 35 by
        rw [← hE]
        exact HB6.out.other (p := ⟨g3, 3, none⟩) HNE.out _)
      replace HRV := Lib.hid (show SgRow w6 X9 nv xc9 by rw [← hE]; exact HRV.out.cell hB3 (by decide) 3 _)
      replace HRP := Lib.hid (show SgRow w6 A5 (np + 1) c5 by rw [← hE]; exact HRP.out.cell hB3 (by decide) 3 _)
      replace HBW := Lib.hid (show Below w.heap.size w w6 by rw [← hE]; exact HBW.out.setCell (p := ⟨g3, 3, none⟩) HG3.out _)
      clear hB3 hE hSC
      obtain ⟨vx, hvx, hvn⟩ := (HRV.out.row HB6.out (by decide) SC).hv
      obtain ⟨px, hpx, hpn⟩ := (HRP.out.row HB6.out (by decide) SC).hv
      have HSD := Lib.hid (And.intro hvx (And.intro hvn (And.intro hpx hpn)))
      clear hvx hvn hpx hpn
      go_wp2_with (first | (with_reducible refine wpList_load_blk rfl 35 (.tmp 3) rfl g3 rfl 35 SC _ HB3.out Tryd.underlying35 rfl (by rw [HZSC.out]; kernel_rfl) ?_) | (with_reducible refine wpList_store_blk rfl 35 (.tmp 6) (.tmp 91) rfl g6 SC rfl rfl 35 rs6 HB6.out (by rw [HZSC.out]; kernel_rfl) (by rw [HZSC.out, HRZ6.out]) HOSC.out ?_))
      refine bodyPost_ret (v := .agg SC) (results_cell_row (p := 6) (ty := 35) (by kernel_rfl) _ _ g6 35 _ (0, 0) _ rfl (HB6.out.row SC) Tryd.underlying35 rfl (by rw [HZSC.out]; kernel_rfl)) rfl ⟨sh, sl, X9, A5, nv, xc9, (np + 1), c5, vx, px, by rw [← HESC.out], HSD.out.1, HSD.out.2.1, by omega, HSD.out.2.2.1, HSD.out.2.2.2, by omega, below_row HBW.out HBW.out.size HG6.out _⟩
    · obtain ⟨vx, hvx, hvn⟩ := (HRV.out.row HB6.out (by decide) SB).hv
      obtain ⟨px, hpx, hpn⟩ := (HRP.out.row HB6.out (by decide) SB).hv
      have HSD := Lib.hid (And.intro hvx (And.intro hvn (And.intro hpx hpn)))
      clear hvx hvn hpx hpn
      go_wp2_with (first | (with_reducible refine wpList_load_blk rfl 35 (.tmp 3) rfl g3 rfl 35 SB _ HB3.out Tryd.underlying35 rfl (by rw [HZSB.out]; kernel_rfl) ?_) | (with_reducible refine wpList_store_blk rfl 35 (.tmp 6) (.tmp 91) rfl g6 SB rfl rfl 35 rs6 HB6.out (by rw [HZSB.out]; kernel_rfl) (by rw [HZSB.out, HRZ6.out]) HOSB.out ?_))
      refine bodyPost_ret (v := .agg SB) (results_cell_row (p := 6) (ty := 35) (by kernel_rfl) _ _ g6 35 _ (0, 0) _ rfl (HB6.out.row SB) Tryd.underlying35 rfl (by rw [HZSB.out]; kernel_rfl)) rfl ⟨sh, sl, X9, X12, nv, xc9, np, xc12, vx, px, by rw [← HESB.out], HSD.out.1, HSD.out.2.1, by omega, HSD.out.2.2.1, HSD.out.2.2.2, by omega, below_row HBW.out HBW.out.size HG6.out _⟩
end Go.Proofs.YtfgieebccjoboaaDoor
