/- The last loop's region of the document's Sum: a word of the state becomes four bytes. -/
import Derived.Test.YtkkokngdhhakdaaDoorShaC
import Derived.RegionTactic
import Derived.BigRegion
import Derived.Deep.RegionHeld3
import Derived.Test.YtkkokngdhhakdaaDoorShaD
import Derived.Test.YtkkokngdhhakdaaDoorRSumA
namespace Go.Proofs.YtkkokngdhhakdaaDoor
open Go.RowKit
theorem Blk.four {w : World} {g n : Nat} {bs : List UInt8} {T : TypeId} (h : Blk w g (u8A (padB 32 bs)) T) (hn : bs.length = n) (h4 : n + 4 ≤ 32) (X : Nat) (hX : X < 4294967296) :
    Blk ((((w.setCell ⟨g, n, none⟩ (.int .u8 ((X : Int) / 16777216))).setCell ⟨g, n + 1, none⟩ (.int .u8 ((X : Int) / 65536 % 256))).setCell ⟨g, n + 2, none⟩ (.int .u8 ((X : Int) / 256 % 256))).setCell ⟨g, n + 3, none⟩ (.int .u8 ((X : Int) % 256))) g (u8A (padB 32 (bs ++ wordBytes X))) T := by
  have e0 : (X : Int) / 16777216 = ((UInt8.ofNat (X / 16777216)).toNat : Int) := by rw [UInt8.toNat_ofNat']; omega
  have e1 : (X : Int) / 65536 % 256 = ((UInt8.ofNat (X / 65536)).toNat : Int) := by rw [UInt8.toNat_ofNat']; omega
  have e2 : (X : Int) / 256 % 256 = ((UInt8.ofNat (X / 256)).toNat : Int) := by rw [UInt8.toNat_ofNat']; omega
  have e3 : (X : Int) % 256 = ((UInt8.ofNat X).toNat : Int) := by rw [UInt8.toNat_ofNat']; omega
  have s := (((h.byte hn (by omega) e0).byte (n := n + 1) (by simp [hn]) (by omega) e1).byte (n := n + 2) (by simp [hn]) (by omega) e2).byte (n := n + 3) (by simp [hn]) (by omega) e3
  simpa [wordBytes] using s
set_option maxRecDepth 100000 in
noncomputable def sumEnd : Code := (Tryd.f80.body.bind (regionOf 40)).getD .skip
set_option maxRecDepth 1000000 in
set_option maxHeartbeats 20000000 in
theorem sum_end {c0 c1 c2 c3 c5 c6 c7 c8 c9 c10 c11 c12 c13 c14 c15 c16 c17 c18 c19 c20 c21 c22 c23 c26 c27 c28 c29 c30 c31 c32 c33 c34 c35 c36 c37 c38 c39 c40 c41 c42 c43 c44 c45 c46 c47 c48 c49 c50 c51 c52 c53 c54 c55 c56 c57 c58 c59 c60 c61 c62 c63 c64 c65 c66 c67 c68 c69 c70 c71 c72 c73 c74 c75 c76 c77 c78 c79 c80 c81 c82 c83 c84 c85 c86 c87 c88 c89 c90 c91 c92 c93 c94 c95 c96 c97 c98 c99 c100 c101 c102 c103 c104 c105 c106 c107 c108 c109 c110 c111 c112 c113 c114 c115 c116 c117 c118 c119 c120 c121 c122 c123 c124 c125 c126 c127 c128 c129 c130 c131 c132 c133 c134 c135 c136 c137 c138 c139 c140 c141 c142 c143 c144 c145 c146 c147 c148 c149 c150 c151 c152 c153 c154 c155 c156 c157 c158 c159 c160 c161 c162 c163 c164 c165 c166 c167 c168 c169 c170 c171 c172 c173 c174 c175 c176 c177 c178 c179 c180 c181 c182 c183 c184 c185 c186 c187 c188 c189 c190 c191 c192 c193 c194 c195 c196 c197 c198 c199 c200 c201 c202 c203 c204 c205 c206 c207 c208 c209 c210 c211 c212 c213 c214 c215 c216 c217 c218 c219 c220 c221 c222 c223 c224 c225 c226 c227 c228 c229 c230 c231 c232 c233 c234 c235 c236 c237 c238 c239 c240 c241 c242 c243 c244 c245 c246 c247 c248 c249 c250 c251 c252 c253 c254 c255 c256 c257 c258 c259 c260 c261 c262 c263 c264 c265 c266 c267 c268 c269 c270 c271 c272 c273 c274 c275 c276 c277 c278 c279 c280 c281 c282 c283 : Value} {kh hb i : Nat} {H : H8} {wa wr : World} {Q : Exit → Act → World → Prop} (hlt : i < 8) (hkh : hb < kh) (hok : H.ok) (hhb : Blk wr hb (h8 H) 95) (HB : Hid (Blk wr kh (u8A (padB 32 (outTo H i))) 25)) (hbel : Below kh wa wr)
    (hQ : ∀ (u249 u250 u251 u252 u253 u254 u255 u256 u257 u258 u259 u260 u261 u262 u263 u264 u265 u266 u267 u268 u269 u270 u271 u272 u273 u274 u275 u276 u277 u278 u279 u280 u281 u282 : Value) (w' : World), Below kh wa w' → Hid (Blk w' kh (u8A (padB 32 (outTo H (i + 1)))) 25) → Q .normal ⟨List.toArray (c0 :: c1 :: c2 :: c3 :: .pointer (some ⟨hb, 0, none⟩) :: c5 :: c6 :: c7 :: c8 :: c9 :: c10 :: c11 :: c12 :: c13 :: c14 :: c15 :: c16 :: c17 :: c18 :: c19 :: c20 :: c21 :: c22 :: c23 :: .pointer (some ⟨kh, 0, none⟩) :: .int .i64 (i : Int) :: c26 :: c27 :: c28 :: c29 :: c30 :: c31 :: c32 :: c33 :: c34 :: c35 :: c36 :: c37 :: c38 :: c39 :: c40 :: c41 :: c42 :: c43 :: c44 :: c45 :: c46 :: c47 :: c48 :: c49 :: c50 :: c51 :: c52 :: c53 :: c54 :: c55 :: c56 :: c57 :: c58 :: c59 :: c60 :: c61 :: c62 :: c63 :: c64 :: c65 :: c66 :: c67 :: c68 :: c69 :: c70 :: c71 :: c72 :: c73 :: c74 :: c75 :: c76 :: c77 :: c78 :: c79 :: c80 :: c81 :: c82 :: c83 :: c84 :: c85 :: c86 :: c87 :: c88 :: c89 :: c90 :: c91 :: c92 :: c93 :: c94 :: c95 :: c96 :: c97 :: c98 :: c99 :: c100 :: c101 :: c102 :: c103 :: c104 :: c105 :: c106 :: c107 :: c108 :: c109 :: c110 :: c111 :: c112 :: c113 :: c114 :: c115 :: c116 :: c117 :: c118 :: c119 :: c120 :: c121 :: c122 :: c123 :: c124 :: c125 :: c126 :: c127 :: c128 :: c129 :: c130 :: c131 :: c132 :: c133 :: c134 :: c135 :: c136 :: c137 :: c138 :: c139 :: c140 :: c141 :: c142 :: c143 :: c144 :: c145 :: c146 :: c147 :: c148 :: c149 :: c150 :: c151 :: c152 :: c153 :: c154 :: c155 :: c156 :: c157 :: c158 :: c159 :: c160 :: c161 :: c162 :: c163 :: c164 :: c165 :: c166 :: c167 :: c168 :: c169 :: c170 :: c171 :: c172 :: c173 :: c174 :: c175 :: c176 :: c177 :: c178 :: c179 :: c180 :: c181 :: c182 :: c183 :: c184 :: c185 :: c186 :: c187 :: c188 :: c189 :: c190 :: c191 :: c192 :: c193 :: c194 :: c195 :: c196 :: c197 :: c198 :: c199 :: c200 :: c201 :: c202 :: c203 :: c204 :: c205 :: c206 :: c207 :: c208 :: c209 :: c210 :: c211 :: c212 :: c213 :: c214 :: c215 :: c216 :: c217 :: c218 :: c219 :: c220 :: c221 :: c222 :: c223 :: c224 :: c225 :: c226 :: c227 :: c228 :: c229 :: c230 :: c231 :: c232 :: c233 :: c234 :: c235 :: c236 :: c237 :: c238 :: c239 :: c240 :: c241 :: c242 :: c243 :: c244 :: c245 :: c246 :: c247 :: c248 :: u249 :: u250 :: u251 :: u252 :: u253 :: u254 :: u255 :: u256 :: u257 :: u258 :: u259 :: u260 :: u261 :: u262 :: u263 :: u264 :: u265 :: u266 :: u267 :: u268 :: u269 :: u270 :: u271 :: u272 :: u273 :: u274 :: u275 :: u276 :: u277 :: u278 :: u279 :: u280 :: u281 :: u282 :: c283 :: []), []⟩ w') :
    Code.wp Tryd.prog sumEnd Q ⟨List.toArray (c0 :: c1 :: c2 :: c3 :: .pointer (some ⟨hb, 0, none⟩) :: c5 :: c6 :: c7 :: c8 :: c9 :: c10 :: c11 :: c12 :: c13 :: c14 :: c15 :: c16 :: c17 :: c18 :: c19 :: c20 :: c21 :: c22 :: c23 :: .pointer (some ⟨kh, 0, none⟩) :: .int .i64 (i : Int) :: c26 :: c27 :: c28 :: c29 :: c30 :: c31 :: c32 :: c33 :: c34 :: c35 :: c36 :: c37 :: c38 :: c39 :: c40 :: c41 :: c42 :: c43 :: c44 :: c45 :: c46 :: c47 :: c48 :: c49 :: c50 :: c51 :: c52 :: c53 :: c54 :: c55 :: c56 :: c57 :: c58 :: c59 :: c60 :: c61 :: c62 :: c63 :: c64 :: c65 :: c66 :: c67 :: c68 :: c69 :: c70 :: c71 :: c72 :: c73 :: c74 :: c75 :: c76 :: c77 :: c78 :: c79 :: c80 :: c81 :: c82 :: c83 :: c84 :: c85 :: c86 :: c87 :: c88 :: c89 :: c90 :: c91 :: c92 :: c93 :: c94 :: c95 :: c96 :: c97 :: c98 :: c99 :: c100 :: c101 :: c102 :: c103 :: c104 :: c105 :: c106 :: c107 :: c108 :: c109 :: c110 :: c111 :: c112 :: c113 :: c114 :: c115 :: c116 :: c117 :: c118 :: c119 :: c120 :: c121 :: c122 :: c123 :: c124 :: c125 :: c126 :: c127 :: c128 :: c129 :: c130 :: c131 :: c132 :: c133 :: c134 :: c135 :: c136 :: c137 :: c138 :: c139 :: c140 :: c141 :: c142 :: c143 :: c144 :: c145 :: c146 :: c147 :: c148 :: c149 :: c150 :: c151 :: c152 :: c153 :: c154 :: c155 :: c156 :: c157 :: c158 :: c159 :: c160 :: c161 :: c162 :: c163 :: c164 :: c165 :: c166 :: c167 :: c168 :: c169 :: c170 :: c171 :: c172 :: c173 :: c174 :: c175 :: c176 :: c177 :: c178 :: c179 :: c180 :: c181 :: c182 :: c183 :: c184 :: c185 :: c186 :: c187 :: c188 :: c189 :: c190 :: c191 :: c192 :: c193 :: c194 :: c195 :: c196 :: c197 :: c198 :: c199 :: c200 :: c201 :: c202 :: c203 :: c204 :: c205 :: c206 :: c207 :: c208 :: c209 :: c210 :: c211 :: c212 :: c213 :: c214 :: c215 :: c216 :: c217 :: c218 :: c219 :: c220 :: c221 :: c222 :: c223 :: c224 :: c225 :: c226 :: c227 :: c228 :: c229 :: c230 :: c231 :: c232 :: c233 :: c234 :: c235 :: c236 :: c237 :: c238 :: c239 :: c240 :: c241 :: c242 :: c243 :: c244 :: c245 :: c246 :: c247 :: c248 :: c249 :: c250 :: c251 :: c252 :: c253 :: c254 :: c255 :: c256 :: c257 :: c258 :: c259 :: c260 :: c261 :: c262 :: c263 :: c264 :: c265 :: c266 :: c267 :: c268 :: c269 :: c270 :: c271 :: c272 :: c273 :: c274 :: c275 :: c276 :: c277 :: c278 :: c279 :: c280 :: c281 :: c282 :: c283 :: []), []⟩ wr := by
  have hx := (hhb.cell i).trans (u32A_get (ns := list8 H) (i := i) hlt)
  have hX := getD_lt (list8_lt hok) i
  have HOS := Lib.hid (outTo_succ H i hlt)
  have HOL := Lib.hid (outTo_len H i (by omega))
  generalize (list8 H).getD i 0 = X at *
  have i8 : (i : Int) < 8 := by omega
  obtain ⟨bs, hbs⟩ : ∃ y, outTo H i = y := ⟨_, rfl⟩
  rw [hbs] at HB HOS HOL
  have f0 := HB.out.frozen (4 * i)
  have f1 := HB.out.frozen (4 * i + 1)
  have f2 := HB.out.frozen (4 * i + 2)
  have f3 := HB.out.frozen (4 * i + 3)
  have hpl : (padB 32 bs).length = 32 := padB_len (by rw [HOL.out]; omega)
  obtain ⟨o0, p0⟩ := u8A_get (bs := padB 32 bs) (i := 4 * i) (by omega)
  obtain ⟨o1, p1⟩ := u8A_get (bs := padB 32 bs) (i := 4 * i + 1) (by omega)
  obtain ⟨o2, p2⟩ := u8A_get (bs := padB 32 bs) (i := 4 * i + 2) (by omega)
  obtain ⟨o3, p3⟩ := u8A_get (bs := padB 32 bs) (i := 4 * i + 3) (by omega)
  have c0 := (HB.out.cell (4 * i)).trans p0
  have c1 := (HB.out.cell (4 * i + 1)).trans p1
  have c2 := (HB.out.cell (4 * i + 2)).trans p2
  have c3 := (HB.out.cell (4 * i + 3)).trans p3
  have g0 : (0 : Int) ≤ 4 * (i : Int) := by omega
  have l0 : 4 * (i : Int) < 32 := by omega
  have l1 : 4 * (i : Int) + 1 < 32 := by omega
  have l2 : 4 * (i : Int) + 2 < 32 := by omega
  have l3 : 4 * (i : Int) + 3 < 32 := by omega
  have g1 : (0 : Int) ≤ 4 * (i : Int) + 1 := by omega
  have g2 : (0 : Int) ≤ 4 * (i : Int) + 2 := by omega
  have g3 : (0 : Int) ≤ 4 * (i : Int) + 3 := by omega
  have t0 : (4 * (i : Int)).toNat = 4 * i := by omega
  have t1 : (4 * (i : Int) + 1).toNat = 4 * i + 1 := by omega
  have t2 : (4 * (i : Int) + 2).toNat = 4 * i + 2 := by omega
  have t3 : (4 * (i : Int) + 3).toNat = 4 * i + 3 := by omega
  have HQ := Lib.hid hQ
  clear hhb p0 p1 p2 p3 hpl hbs hQ
  conv => arg 2; whnf
  refine wp_region_noPanic ?_
  go_region
  refine NoPanic.normal ?_
  refine HQ.out _ _ _ _ _ _ _ _ _ _ _ _ _ _ _ _ _ _ _ _ _ _ _ _ _ _ _ _ _ _ _ _ _ _ _ ((((hbel.setCell (p := ⟨kh, 4 * i, none⟩) (Nat.le_refl _) _).setCell (p := ⟨kh, 4 * i + 1, none⟩) (Nat.le_refl _) _).setCell (p := ⟨kh, 4 * i + 2, none⟩) (Nat.le_refl _) _).setCell (p := ⟨kh, 4 * i + 3, none⟩) (Nat.le_refl _) _).drew (Lib.hid ?_)
  rw [HOS.out]
  exact Blk.four HB.out HOL.out (by omega) X hX
end Go.Proofs.YtkkokngdhhakdaaDoor
