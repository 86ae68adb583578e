/- parleykeep's Sealed: its two loops over the seals of a certificate. parleykeep's Sealed: what it does with a proposal: other seals in its certificate. parleykeep's Recovers: the plain side. No program in it. parleykeep's Recovers: true, whatever the input. parleykeep's Sealed: its end; and all behind the letter that is looked at. parleykeep's Sealed: true, whatever the input. -/
import Derived.Test.YtkehpnobidendaaDoorM47
import Derived.Test.YtkehpnobidendaaDoorM37
import Derived.Test.YtkehpnobidendaaDoorM30
import Derived.BigQuiet
import Derived.BigRegion
import Derived.Deep.RegionHeld3
import Derived.Deep.DeepCutAuto
namespace Go.Proofs.YtkehpnobidendaaDoor
open Go.RowKit

/-- One of four. -/
def of4 (a b c d : Int) (j : Nat) : Int := if j = 0 then a else if j = 1 then b else if j = 2 then c else d
theorem box_seal {W : World} {B3 : Nat} {T : TypeId} {xk xf xv bv jv cv k0 k1 k2 k3 sl s0 s1 s2 s3 : Int} {jb nu cb : Nat} {bc : ByteArray} (h : W.heap[B3]? = some (.cells #[.int .i64 xk, .int .i64 xf, .int .i64 xv, .int .i64 bv, .int .i64 jv, .int .u64 jb, .int .u64 s0, .int .u64 s1, .int .u64 s2, .int .u64 s3, .string bc, .int .u64 nu, .int .i64 cv, .int .u64 cb, .int .u64 k0, .int .u64 k1, .int .u64 k2, .int .u64 k3, .int .u64 sl] T (0, 0))) (j : Nat) (hj : j < 4) : W.cell? ⟨B3, 6 + j, none⟩ = some (.int .u64 (of4 s0 s1 s2 s3 j)) ∧ W.frozen? ⟨B3, 6 + j, none⟩ = false := by
  refine ⟨?_, free_at h _⟩
  rw [cell_at h]
  rcases (by omega : j = 0 ∨ j = 1 ∨ j = 2 ∨ j = 3) with rfl | rfl | rfl | rfl <;> rfl
theorem box_put {W : World} {B3 : Nat} {T : TypeId} {xk xf xv bv jv cv k0 k1 k2 k3 sl s0 s1 s2 s3 : Int} {jb nu cb : Nat} {bc : ByteArray} (h : W.heap[B3]? = some (.cells #[.int .i64 xk, .int .i64 xf, .int .i64 xv, .int .i64 bv, .int .i64 jv, .int .u64 jb, .int .u64 s0, .int .u64 s1, .int .u64 s2, .int .u64 s3, .string bc, .int .u64 nu, .int .i64 cv, .int .u64 cb, .int .u64 k0, .int .u64 k1, .int .u64 k2, .int .u64 k3, .int .u64 sl] T (0, 0))) (j : Nat) (hj : j < 4) (v : Int) :
    ∃ r0 r1 r2 r3, (W.setCell ⟨B3, 6 + j, none⟩ (.int .u64 v)).heap[B3]? = some (.cells #[.int .i64 xk, .int .i64 xf, .int .i64 xv, .int .i64 bv, .int .i64 jv, .int .u64 jb, .int .u64 r0, .int .u64 r1, .int .u64 r2, .int .u64 r3, .string bc, .int .u64 nu, .int .i64 cv, .int .u64 cb, .int .u64 k0, .int .u64 k1, .int .u64 k2, .int .u64 k3, .int .u64 sl] T (0, 0)) ∧ of4 r0 r1 r2 r3 j = v ∧ ∀ t, t < 4 → t ≠ j → of4 r0 r1 r2 r3 t = of4 s0 s1 s2 s3 t := by
  have h1 := heap_store (i := 6 + j) h (.int .u64 v)
  rcases (by omega : j = 0 ∨ j = 1 ∨ j = 2 ∨ j = 3) with rfl | rfl | rfl | rfl
  · exact ⟨v, s1, s2, s3, h1, rfl, fun t ht hn => by rcases (by omega : t = 1 ∨ t = 2 ∨ t = 3) with rfl | rfl | rfl <;> rfl⟩
  · exact ⟨s0, v, s2, s3, h1, rfl, fun t ht hn => by rcases (by omega : t = 0 ∨ t = 2 ∨ t = 3) with rfl | rfl | rfl <;> rfl⟩
  · exact ⟨s0, s1, v, s3, h1, rfl, fun t ht hn => by rcases (by omega : t = 0 ∨ t = 1 ∨ t = 3) with rfl | rfl | rfl <;> rfl⟩
  · exact ⟨s0, s1, s2, v, h1, rfl, fun t ht hn => by rcases (by omega : t = 0 ∨ t = 1 ∨ t = 2) with rfl | rfl | rfl <;> rfl⟩
noncomputable def kslB2 : Code := ((Tryd.f8.body.map loopsOf).getD []).getD 1 .skip
noncomputable def kslB3 : Code := ((Tryd.f8.body.map loopsOf).getD []).getD 2 .skip
set_option maxRecDepth 1000000 in
set_option maxHeartbeats 8000000 in
theorem ksl_loop2 {y1 y3 y4 y5 y6 y7 y8 y9 y10 y11 y12 y13 y14 y15 y16 y17 y18 y19 y20 y23 y24 y25 y26 y27 y28 y29 y30 y31 y32 y33 y34 y35 y36 y37 y38 y39 y40 y41 y42 y43 y44 y45 y46 y47 y48 y49 y50 y51 y52 y53 y54 y55 y56 y57 y58 y59 y60 y61 y62 y63 y64 y65 y66 y67 y68 y69 y70 y71 y72 y73 y74 y75 y76 y77 y78 y79 y80 y81 y82 y83 y84 y85 y86 y87 y88 y89 y90 y91 y92 y93 y94 y95 y96 y97 y98 y99 y100 y101 y102 y103 y104 y105 y106 y107 y108 y109 y110 y111 y112 y113 y114 y115 y116 y117 y118 y119 y120 y121 y122 y123 y124 y125 y126 y127 y128 y129 y130 y131 y132 y133 y134 y135 y136 y137 y138 y139 y140 y141 y142 y143 y144 y145 y146 y147 y148 y149 y150 y151 y152 y153 y154 y155 y156 y157 y158 y159 y160 y161 y162 y163 y164 y165 y166 y167 y168 y169 y170 y171 y172 y173 y174 y175 y176 y177 y178 y179 y180 y181 y182 y183 y184 y185 y186 y187 y188 y189 y190 y191 y192 y193 y194 y195 y196 y197 y198 y199 y200 y201 y202 y203 y204 y205 y206 y207 y208 y209 y210 y211 y212 y213 y214 y215 y216 y217 y218 y219 y220 y221 y222 y223 y224 y225 y226 y227 y228 y229 y230 y231 y232 y233 y234 y235 y236 y237 y238 y239 y240 y241 y242 y243 y244 y245 y246 y247 y248 y249 y250 y251 y252 y253 y254 y255 y256 y257 y258 y259 y260 y261 y262 y263 y264 y265 y266 y267 y268 y269 y270 y271 y272 y273 y274 y275 y276 y277 : Value} {of1 se xk xf xv bv jv j0 j1 j2 j3 cv k0 k1 k2 k3 sl : Int} {jb nu cb B3 : Nat} {bc : ByteArray} {V : World} {Q : Exit → Act → World → Prop}
    (hwq : IntKind.i64.wrap (se.tdiv 4) = se.tdiv 4) (HPG : Hid (∀ (c : Int) (W : World), (c = se ∨ c = se.tdiv 4) → Calls Tryd.prog 13 #[.int .i64 c, .int .i64 4] W fun e w' => e = .returned (.int .i64 (pickN c 4)) ∧ W = w'))
    (HXV : Hid (V.heap[B3]? = some (.cells #[.int .i64 xk, .int .i64 xf, .int .i64 xv, .int .i64 bv, .int .i64 jv, .int .u64 jb, .int .u64 j0, .int .u64 j1, .int .u64 j2, .int .u64 j3, .string bc, .int .u64 nu, .int .i64 cv, .int .u64 cb, .int .u64 k0, .int .u64 k1, .int .u64 k2, .int .u64 k3, .int .u64 sl] 40 (0, 0))))
    (HEX : Hid (∀ {v22 v139 v140 v141 v142 v143 v144 v145 v146 v147 v148 v149 v150 v151 v152 v153 v154 v155 v156 v157 v158 v159 v160 v161 v162 v163 v164 v165 v166 v167 : Value} {w' : World} {s0 s1 s2 s3 : Int}, w'.heap[B3]? = some (.cells #[.int .i64 xk, .int .i64 xf, .int .i64 xv, .int .i64 bv, .int .i64 jv, .int .u64 jb, .int .u64 s0, .int .u64 s1, .int .u64 s2, .int .u64 s3, .string bc, .int .u64 nu, .int .i64 cv, .int .u64 cb, .int .u64 k0, .int .u64 k1, .int .u64 k2, .int .u64 k3, .int .u64 sl] 40 (0, 0)) → Fr (fun b => b = B3) V w' → Q (.exit 2) ⟨List.toArray (.int .u64 of1 :: y1 :: .int .i64 se :: y3 :: y4 :: y5 :: y6 :: y7 :: y8 :: y9 :: y10 :: y11 :: y12 :: y13 :: y14 :: y15 :: y16 :: y17 :: y18 :: y19 :: y20 :: .pointer (some ⟨B3, 0, none⟩) :: v22 :: y23 :: y24 :: y25 :: y26 :: y27 :: y28 :: y29 :: y30 :: y31 :: y32 :: y33 :: y34 :: y35 :: y36 :: y37 :: y38 :: y39 :: y40 :: y41 :: y42 :: y43 :: y44 :: y45 :: y46 :: y47 :: y48 :: y49 :: y50 :: y51 :: y52 :: y53 :: y54 :: y55 :: y56 :: y57 :: y58 :: y59 :: y60 :: y61 :: y62 :: y63 :: y64 :: y65 :: y66 :: y67 :: y68 :: y69 :: y70 :: y71 :: y72 :: y73 :: y74 :: y75 :: y76 :: y77 :: y78 :: y79 :: y80 :: y81 :: y82 :: y83 :: y84 :: y85 :: y86 :: y87 :: y88 :: y89 :: y90 :: y91 :: y92 :: y93 :: y94 :: y95 :: y96 :: y97 :: y98 :: y99 :: y100 :: y101 :: y102 :: y103 :: y104 :: y105 :: y106 :: y107 :: y108 :: y109 :: y110 :: y111 :: y112 :: y113 :: y114 :: y115 :: y116 :: y117 :: y118 :: y119 :: y120 :: y121 :: y122 :: y123 :: y124 :: y125 :: y126 :: y127 :: y128 :: y129 :: y130 :: y131 :: y132 :: y133 :: y134 :: y135 :: y136 :: y137 :: y138 :: v139 :: v140 :: v141 :: v142 :: v143 :: v144 :: v145 :: v146 :: v147 :: v148 :: v149 :: v150 :: v151 :: v152 :: v153 :: v154 :: v155 :: v156 :: v157 :: v158 :: v159 :: v160 :: v161 :: v162 :: v163 :: v164 :: v165 :: v166 :: v167 :: y168 :: y169 :: y170 :: y171 :: y172 :: y173 :: y174 :: y175 :: y176 :: y177 :: y178 :: y179 :: y180 :: y181 :: y182 :: y183 :: y184 :: y185 :: y186 :: y187 :: y188 :: y189 :: y190 :: y191 :: y192 :: y193 :: y194 :: y195 :: y196 :: y197 :: y198 :: y199 :: y200 :: y201 :: y202 :: y203 :: y204 :: y205 :: y206 :: y207 :: y208 :: y209 :: y210 :: y211 :: y212 :: y213 :: y214 :: y215 :: y216 :: y217 :: y218 :: y219 :: y220 :: y221 :: y222 :: y223 :: y224 :: y225 :: y226 :: y227 :: y228 :: y229 :: y230 :: y231 :: y232 :: y233 :: y234 :: y235 :: y236 :: y237 :: y238 :: y239 :: y240 :: y241 :: y242 :: y243 :: y244 :: y245 :: y246 :: y247 :: y248 :: y249 :: y250 :: y251 :: y252 :: y253 :: y254 :: y255 :: y256 :: y257 :: y258 :: y259 :: y260 :: y261 :: y262 :: y263 :: y264 :: y265 :: y266 :: y267 :: y268 :: y269 :: y270 :: y271 :: y272 :: y273 :: y274 :: y275 :: y276 :: y277 :: []), []⟩ w')) :
    Code.wp Tryd.prog (Code.loop kslB2) Q ⟨List.toArray (.int .u64 of1 :: y1 :: .int .i64 se :: y3 :: y4 :: y5 :: y6 :: y7 :: y8 :: y9 :: y10 :: y11 :: y12 :: y13 :: y14 :: y15 :: y16 :: y17 :: y18 :: y19 :: y20 :: .pointer (some ⟨B3, 0, none⟩) :: .int .i64 0 :: y23 :: y24 :: y25 :: y26 :: y27 :: y28 :: y29 :: y30 :: y31 :: y32 :: y33 :: y34 :: y35 :: y36 :: y37 :: y38 :: y39 :: y40 :: y41 :: y42 :: y43 :: y44 :: y45 :: y46 :: y47 :: y48 :: y49 :: y50 :: y51 :: y52 :: y53 :: y54 :: y55 :: y56 :: y57 :: y58 :: y59 :: y60 :: y61 :: y62 :: y63 :: y64 :: y65 :: y66 :: y67 :: y68 :: y69 :: y70 :: y71 :: y72 :: y73 :: y74 :: y75 :: y76 :: y77 :: y78 :: y79 :: y80 :: y81 :: y82 :: y83 :: y84 :: y85 :: y86 :: y87 :: y88 :: y89 :: y90 :: y91 :: y92 :: y93 :: y94 :: y95 :: y96 :: y97 :: y98 :: y99 :: y100 :: y101 :: y102 :: y103 :: y104 :: y105 :: y106 :: y107 :: y108 :: y109 :: y110 :: y111 :: y112 :: y113 :: y114 :: y115 :: y116 :: y117 :: y118 :: y119 :: y120 :: y121 :: y122 :: y123 :: y124 :: y125 :: y126 :: y127 :: y128 :: y129 :: y130 :: y131 :: y132 :: y133 :: y134 :: y135 :: y136 :: y137 :: y138 :: y139 :: y140 :: y141 :: y142 :: y143 :: y144 :: y145 :: y146 :: y147 :: y148 :: y149 :: y150 :: y151 :: y152 :: y153 :: y154 :: y155 :: y156 :: y157 :: y158 :: y159 :: y160 :: y161 :: y162 :: y163 :: y164 :: y165 :: y166 :: y167 :: y168 :: y169 :: y170 :: y171 :: y172 :: y173 :: y174 :: y175 :: y176 :: y177 :: y178 :: y179 :: y180 :: y181 :: y182 :: y183 :: y184 :: y185 :: y186 :: y187 :: y188 :: y189 :: y190 :: y191 :: y192 :: y193 :: y194 :: y195 :: y196 :: y197 :: y198 :: y199 :: y200 :: y201 :: y202 :: y203 :: y204 :: y205 :: y206 :: y207 :: y208 :: y209 :: y210 :: y211 :: y212 :: y213 :: y214 :: y215 :: y216 :: y217 :: y218 :: y219 :: y220 :: y221 :: y222 :: y223 :: y224 :: y225 :: y226 :: y227 :: y228 :: y229 :: y230 :: y231 :: y232 :: y233 :: y234 :: y235 :: y236 :: y237 :: y238 :: y239 :: y240 :: y241 :: y242 :: y243 :: y244 :: y245 :: y246 :: y247 :: y248 :: y249 :: y250 :: y251 :: y252 :: y253 :: y254 :: y255 :: y256 :: y257 :: y258 :: y259 :: y260 :: y261 :: y262 :: y263 :: y264 :: y265 :: y266 :: y267 :: y268 :: y269 :: y270 :: y271 :: y272 :: y273 :: y274 :: y275 :: y276 :: y277 :: []), []⟩ V := by
  conv => arg 2; arg 1; whnf
  go_loopw [22] (fun ii w' => ∃ (j : Nat) (s0 s1 s2 s3 : Int), j ≤ 4 ∧ ii = .int .i64 j ∧ Hid (w'.heap[B3]? = some (.cells #[.int .i64 xk, .int .i64 xf, .int .i64 xv, .int .i64 bv, .int .i64 jv, .int .u64 jb, .int .u64 s0, .int .u64 s1, .int .u64 s2, .int .u64 s3, .string bc, .int .u64 nu, .int .i64 cv, .int .u64 cb, .int .u64 k0, .int .u64 k1, .int .u64 k2, .int .u64 k3, .int .u64 sl] 40 (0, 0)) ∧ Fr (fun b => b = B3) V w')) (fun ii _ => 4 - (intOf ii).toNat)
  case atStart => exact ⟨0, j0, j1, j2, j3, by omega, rfl, HXV.out, Fr.refl _ _⟩
  case round =>
    obtain ⟨j, s0, s1, s2, s3, hj, rfl, hB⟩ := hrel
    have hj0 : (0 : Int) ≤ (j : Int) := by omega
    by_cases hj4 : j < 4
    · have hjI : (j : Int) < 4 := by omega
      obtain ⟨c1, c2⟩ := box_seal hB.out.1 j hj4
      generalize of4 s0 s1 s2 s3 j = sj at c1
      cases hA : ((j : Int) != ((pickN se 4 : Nat) : Int)) with
      | false =>
        go_wp2_with (go_at_call 13; refine (HPG.out _ _ (by first | exact .inl rfl | exact .inr rfl)).mono ?_; rintro e w9 ⟨rfl, rfl⟩)
        go_roundw
        case rel => exact ⟨j + 1, s0, s1, s2, s3, by omega, by go_num, hB.out⟩
        case measure => simp [intOf]; omega
      | true =>
        cases hC : ((j : Int) != ((pickN (se.tdiv 4) 4 : Nat) : Int)) with
        | false =>
          go_wp2_with (go_at_call 13; refine (HPG.out _ _ (by first | exact .inl rfl | exact .inr rfl)).mono ?_; rintro e w9 ⟨rfl, rfl⟩)
          go_roundw
          case rel => exact ⟨j + 1, s0, s1, s2, s3, by omega, by go_num, hB.out⟩
          case measure => simp [intOf]; omega
        | true =>
          go_wp2_with (go_at_call 13; refine (HPG.out _ _ (by first | exact .inl rfl | exact .inr rfl)).mono ?_; rintro e w9 ⟨rfl, rfl⟩)
          go_roundw
          case rel =>
            obtain ⟨r0, r1, r2, r3, z1, _, _⟩ := box_put hB.out.1 j hj4 (bits BinOp.or IntKind.u64 (bits BinOp.xor IntKind.u64 sj of1) 1099511627776)
            exact ⟨j + 1, r0, r1, r2, r3, by omega, by go_num, z1, hB.out.2.trans (Fr.setCell (S := fun b => b = B3) _ (a := ⟨B3, 6 + j, none⟩) rfl _) (fun _ h => .inl h)⟩
          case measure => simp [intOf]; omega
    · have hjI : ¬ (j : Int) < 4 := by omega
      go_wp2
      exact HEX.out hB.out.1 hB.out.2
set_option maxRecDepth 1000000 in
set_option maxHeartbeats 8000000 in
theorem ksl_loop3 {y0 y1 y3 y4 y5 y6 y7 y8 y9 y10 y11 y12 y13 y14 y15 y16 y17 y18 y19 y20 y22 y24 y25 y26 y27 y28 y29 y30 y31 y32 y33 y34 y35 y36 y37 y38 y39 y40 y41 y42 y43 y44 y45 y46 y47 y48 y49 y50 y51 y52 y53 y54 y55 y56 y57 y58 y59 y60 y61 y62 y63 y64 y65 y66 y67 y68 y69 y70 y71 y72 y73 y74 y75 y76 y77 y78 y79 y80 y81 y82 y83 y84 y85 y86 y87 y88 y89 y90 y91 y92 y93 y94 y95 y96 y97 y98 y99 y100 y101 y102 y103 y104 y105 y106 y107 y108 y109 y110 y111 y112 y113 y114 y115 y116 y117 y118 y119 y120 y121 y122 y123 y124 y125 y126 y127 y128 y129 y130 y131 y132 y133 y134 y135 y136 y137 y138 y139 y140 y141 y142 y143 y144 y145 y146 y147 y148 y149 y150 y151 y152 y153 y154 y155 y156 y157 y158 y159 y160 y161 y162 y163 y164 y165 y166 y167 y168 y169 y170 y171 y172 y173 y174 y175 y176 y177 y178 y179 y180 y181 y182 y183 y184 y185 y186 y187 y188 y189 y190 y191 y192 y193 y194 y195 y196 y197 y198 y199 y200 y201 y202 y203 y204 y205 y206 y207 y208 y209 y210 y211 y212 y213 y214 y215 y216 y217 y218 y219 y220 y221 y222 y223 y224 y225 y226 y227 y228 y229 y230 y231 y232 y233 y234 y235 y236 y237 y238 y239 y240 y241 y242 y243 y244 y245 y246 y247 y248 y249 y250 y251 y252 y253 y254 y255 y256 y257 y258 y259 y260 y261 y262 y263 y264 y265 y266 y267 y268 y269 y270 y271 y272 y273 y274 y275 y276 y277 : Value} {se xk xf xv bv jv j0 j1 j2 j3 cv k0 k1 k2 k3 sl : Int} {jb nu cb B3 : Nat} {bc : ByteArray} {V : World} {Q : Exit → Act → World → Prop}
    (hwq : IntKind.i64.wrap (se.tdiv 4) = se.tdiv 4) (HPG : Hid (∀ (c : Int) (W : World), (c = se ∨ c = se.tdiv 4) → Calls Tryd.prog 13 #[.int .i64 c, .int .i64 4] W fun e w' => e = .returned (.int .i64 (pickN c 4)) ∧ W = w'))
    (HTB : Hid (∀ W, Fr (fun b => b = B3) V W → Tab W)) (HJO : Hid (-9223372036854775808 ≤ jv ∧ jv ≤ 9223372036854775807 ∧ jb < 18446744073709551616)) (HNZ : Hid (∀ j : Nat, j < 4 → sealOf j 2 jv jb ≠ 0))
    (HXV : Hid (V.heap[B3]? = some (.cells #[.int .i64 xk, .int .i64 xf, .int .i64 xv, .int .i64 bv, .int .i64 jv, .int .u64 jb, .int .u64 j0, .int .u64 j1, .int .u64 j2, .int .u64 j3, .string bc, .int .u64 nu, .int .i64 cv, .int .u64 cb, .int .u64 k0, .int .u64 k1, .int .u64 k2, .int .u64 k3, .int .u64 sl] 40 (0, 0))))
    (HEX : Hid (∀ {v23 v168 v169 v170 v171 v172 v173 v174 v175 v176 v177 v178 v179 v180 v181 v182 v183 v184 v185 v186 v187 v188 v189 v190 v191 v192 v193 v194 v195 v196 v197 v198 v199 v200 v201 v202 v203 v204 v205 v206 : Value} {w' : World} {s0 s1 s2 s3 : Int}, w'.heap[B3]? = some (.cells #[.int .i64 xk, .int .i64 xf, .int .i64 xv, .int .i64 bv, .int .i64 jv, .int .u64 jb, .int .u64 s0, .int .u64 s1, .int .u64 s2, .int .u64 s3, .string bc, .int .u64 nu, .int .i64 cv, .int .u64 cb, .int .u64 k0, .int .u64 k1, .int .u64 k2, .int .u64 k3, .int .u64 sl] 40 (0, 0)) → Fr (fun b => b = B3) V w' → (∀ t : Nat, t < 4 → t ≠ pickN se 4 → t ≠ pickN (se.tdiv 4) 4 → of4 s0 s1 s2 s3 t ≠ sealOf t 2 jv jb) → Q (.exit 4) ⟨List.toArray (y0 :: y1 :: .int .i64 se :: y3 :: y4 :: y5 :: y6 :: y7 :: y8 :: y9 :: y10 :: y11 :: y12 :: y13 :: y14 :: y15 :: y16 :: y17 :: y18 :: y19 :: y20 :: .pointer (some ⟨B3, 0, none⟩) :: y22 :: v23 :: y24 :: y25 :: y26 :: y27 :: y28 :: y29 :: y30 :: y31 :: y32 :: y33 :: y34 :: y35 :: y36 :: y37 :: y38 :: y39 :: y40 :: y41 :: y42 :: y43 :: y44 :: y45 :: y46 :: y47 :: y48 :: y49 :: y50 :: y51 :: y52 :: y53 :: y54 :: y55 :: y56 :: y57 :: y58 :: y59 :: y60 :: y61 :: y62 :: y63 :: y64 :: y65 :: y66 :: y67 :: y68 :: y69 :: y70 :: y71 :: y72 :: y73 :: y74 :: y75 :: y76 :: y77 :: y78 :: y79 :: y80 :: y81 :: y82 :: y83 :: y84 :: y85 :: y86 :: y87 :: y88 :: y89 :: y90 :: y91 :: y92 :: y93 :: y94 :: y95 :: y96 :: y97 :: y98 :: y99 :: y100 :: y101 :: y102 :: y103 :: y104 :: y105 :: y106 :: y107 :: y108 :: y109 :: y110 :: y111 :: y112 :: y113 :: y114 :: y115 :: y116 :: y117 :: y118 :: y119 :: y120 :: y121 :: y122 :: y123 :: y124 :: y125 :: y126 :: y127 :: y128 :: y129 :: y130 :: y131 :: y132 :: y133 :: y134 :: y135 :: y136 :: y137 :: y138 :: y139 :: y140 :: y141 :: y142 :: y143 :: y144 :: y145 :: y146 :: y147 :: y148 :: y149 :: y150 :: y151 :: y152 :: y153 :: y154 :: y155 :: y156 :: y157 :: y158 :: y159 :: y160 :: y161 :: y162 :: y163 :: y164 :: y165 :: y166 :: y167 :: v168 :: v169 :: v170 :: v171 :: v172 :: v173 :: v174 :: v175 :: v176 :: v177 :: v178 :: v179 :: v180 :: v181 :: v182 :: v183 :: v184 :: v185 :: v186 :: v187 :: v188 :: v189 :: v190 :: v191 :: v192 :: v193 :: v194 :: v195 :: v196 :: v197 :: v198 :: v199 :: v200 :: v201 :: v202 :: v203 :: v204 :: v205 :: v206 :: y207 :: y208 :: y209 :: y210 :: y211 :: y212 :: y213 :: y214 :: y215 :: y216 :: y217 :: y218 :: y219 :: y220 :: y221 :: y222 :: y223 :: y224 :: y225 :: y226 :: y227 :: y228 :: y229 :: y230 :: y231 :: y232 :: y233 :: y234 :: y235 :: y236 :: y237 :: y238 :: y239 :: y240 :: y241 :: y242 :: y243 :: y244 :: y245 :: y246 :: y247 :: y248 :: y249 :: y250 :: y251 :: y252 :: y253 :: y254 :: y255 :: y256 :: y257 :: y258 :: y259 :: y260 :: y261 :: y262 :: y263 :: y264 :: y265 :: y266 :: y267 :: y268 :: y269 :: y270 :: y271 :: y272 :: y273 :: y274 :: y275 :: y276 :: y277 :: []), []⟩ w')) :
    Code.wp Tryd.prog (Code.loop kslB3) Q ⟨List.toArray (y0 :: y1 :: .int .i64 se :: y3 :: y4 :: y5 :: y6 :: y7 :: y8 :: y9 :: y10 :: y11 :: y12 :: y13 :: y14 :: y15 :: y16 :: y17 :: y18 :: y19 :: y20 :: .pointer (some ⟨B3, 0, none⟩) :: y22 :: .int .i64 0 :: y24 :: y25 :: y26 :: y27 :: y28 :: y29 :: y30 :: y31 :: y32 :: y33 :: y34 :: y35 :: y36 :: y37 :: y38 :: y39 :: y40 :: y41 :: y42 :: y43 :: y44 :: y45 :: y46 :: y47 :: y48 :: y49 :: y50 :: y51 :: y52 :: y53 :: y54 :: y55 :: y56 :: y57 :: y58 :: y59 :: y60 :: y61 :: y62 :: y63 :: y64 :: y65 :: y66 :: y67 :: y68 :: y69 :: y70 :: y71 :: y72 :: y73 :: y74 :: y75 :: y76 :: y77 :: y78 :: y79 :: y80 :: y81 :: y82 :: y83 :: y84 :: y85 :: y86 :: y87 :: y88 :: y89 :: y90 :: y91 :: y92 :: y93 :: y94 :: y95 :: y96 :: y97 :: y98 :: y99 :: y100 :: y101 :: y102 :: y103 :: y104 :: y105 :: y106 :: y107 :: y108 :: y109 :: y110 :: y111 :: y112 :: y113 :: y114 :: y115 :: y116 :: y117 :: y118 :: y119 :: y120 :: y121 :: y122 :: y123 :: y124 :: y125 :: y126 :: y127 :: y128 :: y129 :: y130 :: y131 :: y132 :: y133 :: y134 :: y135 :: y136 :: y137 :: y138 :: y139 :: y140 :: y141 :: y142 :: y143 :: y144 :: y145 :: y146 :: y147 :: y148 :: y149 :: y150 :: y151 :: y152 :: y153 :: y154 :: y155 :: y156 :: y157 :: y158 :: y159 :: y160 :: y161 :: y162 :: y163 :: y164 :: y165 :: y166 :: y167 :: y168 :: y169 :: y170 :: y171 :: y172 :: y173 :: y174 :: y175 :: y176 :: y177 :: y178 :: y179 :: y180 :: y181 :: y182 :: y183 :: y184 :: y185 :: y186 :: y187 :: y188 :: y189 :: y190 :: y191 :: y192 :: y193 :: y194 :: y195 :: y196 :: y197 :: y198 :: y199 :: y200 :: y201 :: y202 :: y203 :: y204 :: y205 :: y206 :: y207 :: y208 :: y209 :: y210 :: y211 :: y212 :: y213 :: y214 :: y215 :: y216 :: y217 :: y218 :: y219 :: y220 :: y221 :: y222 :: y223 :: y224 :: y225 :: y226 :: y227 :: y228 :: y229 :: y230 :: y231 :: y232 :: y233 :: y234 :: y235 :: y236 :: y237 :: y238 :: y239 :: y240 :: y241 :: y242 :: y243 :: y244 :: y245 :: y246 :: y247 :: y248 :: y249 :: y250 :: y251 :: y252 :: y253 :: y254 :: y255 :: y256 :: y257 :: y258 :: y259 :: y260 :: y261 :: y262 :: y263 :: y264 :: y265 :: y266 :: y267 :: y268 :: y269 :: y270 :: y271 :: y272 :: y273 :: y274 :: y275 :: y276 :: y277 :: []), []⟩ V := by
  conv => arg 2; arg 1; whnf
  go_loopw [23] (fun ii w' => ∃ (j : Nat) (s0 s1 s2 s3 : Int), j ≤ 4 ∧ ii = .int .i64 j ∧ Hid (w'.heap[B3]? = some (.cells #[.int .i64 xk, .int .i64 xf, .int .i64 xv, .int .i64 bv, .int .i64 jv, .int .u64 jb, .int .u64 s0, .int .u64 s1, .int .u64 s2, .int .u64 s3, .string bc, .int .u64 nu, .int .i64 cv, .int .u64 cb, .int .u64 k0, .int .u64 k1, .int .u64 k2, .int .u64 k3, .int .u64 sl] 40 (0, 0)) ∧ Fr (fun b => b = B3) V w') ∧ Hid (∀ t : Nat, t < j → t ≠ pickN se 4 → t ≠ pickN (se.tdiv 4) 4 → of4 s0 s1 s2 s3 t ≠ sealOf t 2 jv jb)) (fun ii _ => 4 - (intOf ii).toNat)
  case atStart => exact ⟨0, j0, j1, j2, j3, by omega, rfl, ⟨HXV.out, Fr.refl _ _⟩, fun t ht => by omega⟩
  case round =>
    obtain ⟨j, s0, s1, s2, s3, hj, rfl, hB, hR⟩ := hrel
    have hj0 : (0 : Int) ≤ (j : Int) := by omega
    by_cases hj4 : j < 4
    rotate_left
    · have hjI : ¬ (j : Int) < 4 := by omega
      have hje : j = 4 := by omega
      subst hje
      go_wp2
      exact HEX.out hB.out.1 hB.out.2 hR.out
    · have hjI : (j : Int) < 4 := by omega
      have hlb : B3 < wr.heap.size := lt_at hB.out.1
      have HCL : Hid (∀ c : Cls wr, c.w.heap[B3]? = some (.cells #[.int .i64 xk, .int .i64 xf, .int .i64 xv, .int .i64 bv, .int .i64 jv, .int .u64 jb, .int .u64 s0, .int .u64 s1, .int .u64 s2, .int .u64 s3, .string bc, .int .u64 nu, .int .i64 cv, .int .u64 cb, .int .u64 k0, .int .u64 k1, .int .u64 k2, .int .u64 k3, .int .u64 sl] 40 (0, 0))) := fun c => (c.b.block B3 hlb).trans hB.out.1
      have e4 : ∀ c : Cls wr, c.w.cell? ⟨B3, 4, none⟩ = some (.int .i64 jv) := fun c => cell_at (HCL.out c) 4
      have e5 : ∀ c : Cls wr, c.w.cell? ⟨B3, 5, none⟩ = some (.int .u64 jb) := fun c => cell_at (HCL.out c) 5
      have e6 : ∀ c : Cls wr, c.w.cell? ⟨B3, 6 + j, none⟩ = some (.int .u64 (of4 s0 s1 s2 s3 j)) := fun c => (box_seal (HCL.out c) j hj4).1
      have HQ : Hid (∀ c : Cls wr, Calls Tryd.prog 11 #[.int .i64 j, .int .i64 2, .int .i64 jv, .int .u64 jb] c.w fun e w' => e = .returned (.int .u64 (sealOf j 2 jv jb)) ∧ Below c.w.heap.size c.w w') := fun c => pseal j 2 jv jb (by omega) (by omega) (by decide) (by decide) HJO.out.1 HJO.out.2.1 HJO.out.2.2 c.w (HTB.out c.w (hB.out.2.trans (Fr.of_below c.b) (fun _ h => .inl h))).is
      have HQP : Hid (∀ (k : Int) (c : Cls wr), (k = se ∨ k = se.tdiv 4) → Calls Tryd.prog 13 #[.int .i64 k, .int .i64 4] c.w fun e w' => e = .returned (.int .i64 (pickN k 4)) ∧ w' = c.w) := fun k c hk => (HPG.out k c.w hk).mono (fun _ _ h => ⟨h.1, h.2.symm⟩)
      have HSJ : Hid (of4 s0 s1 s2 s3 j = of4 s0 s1 s2 s3 j) := rfl
      generalize hsj : of4 s0 s1 s2 s3 j = sj at e6
      have HSE : Hid (of4 s0 s1 s2 s3 j = sj) := hsj
      have HNJ : Hid (sealOf j 2 jv jb ≠ 0) := HNZ.out j hj4
      generalize hsr : sealOf j 2 jv jb = sr at HQ HNJ
      have HSR : Hid (sealOf j 2 jv jb = sr) := hsr
      clear hsj hsr HSJ
      have HKEEP : Hid (∀ W5, Below wr.heap.size wr W5 → (j ≠ pickN se 4 → j ≠ pickN (se.tdiv 4) 4 → sj ≠ sr) → ∃ r0 r1 r2 r3, (W5.heap[B3]? = some (.cells #[.int .i64 xk, .int .i64 xf, .int .i64 xv, .int .i64 bv, .int .i64 jv, .int .u64 jb, .int .u64 r0, .int .u64 r1, .int .u64 r2, .int .u64 r3, .string bc, .int .u64 nu, .int .i64 cv, .int .u64 cb, .int .u64 k0, .int .u64 k1, .int .u64 k2, .int .u64 k3, .int .u64 sl] 40 (0, 0)) ∧ Fr (fun b => b = B3) V W5) ∧ ∀ t : Nat, t < j + 1 → t ≠ pickN se 4 → t ≠ pickN (se.tdiv 4) 4 → of4 r0 r1 r2 r3 t ≠ sealOf t 2 jv jb) := fun W5 hb hn => by
        refine ⟨s0, s1, s2, s3, ⟨(hb.block B3 hlb).trans hB.out.1, hB.out.2.trans (Fr.of_below hb) (fun _ h => .inl h)⟩, fun t ht h1 h2 => ?_⟩
        by_cases htj : t < j
        · exact hR.out t htj h1 h2
        · have e : t = j := by omega
          subst e
          rw [HSE.out, HSR.out]; exact hn h1 h2
      have HPUT : Hid (∀ W5, Below wr.heap.size wr W5 → ∃ r0 r1 r2 r3, ((W5.setCell ⟨B3, 6 + j, none⟩ (.int .u64 0)).heap[B3]? = some (.cells #[.int .i64 xk, .int .i64 xf, .int .i64 xv, .int .i64 bv, .int .i64 jv, .int .u64 jb, .int .u64 r0, .int .u64 r1, .int .u64 r2, .int .u64 r3, .string bc, .int .u64 nu, .int .i64 cv, .int .u64 cb, .int .u64 k0, .int .u64 k1, .int .u64 k2, .int .u64 k3, .int .u64 sl] 40 (0, 0)) ∧ Fr (fun b => b = B3) V (W5.setCell ⟨B3, 6 + j, none⟩ (.int .u64 0))) ∧ ∀ t : Nat, t < j + 1 → t ≠ pickN se 4 → t ≠ pickN (se.tdiv 4) 4 → of4 r0 r1 r2 r3 t ≠ sealOf t 2 jv jb) := fun W5 hb => by
        obtain ⟨r0, r1, r2, r3, z1, z2, z3⟩ := box_put ((hb.block B3 hlb).trans hB.out.1) j hj4 0
        refine ⟨r0, r1, r2, r3, ⟨z1, (hB.out.2.trans (Fr.of_below hb) (fun _ h => .inl h)).trans (Fr.setCell (S := fun b => b = B3) _ (a := ⟨B3, 6 + j, none⟩) rfl _) (fun _ h => .inl h)⟩, fun t ht h1 h2 => ?_⟩
        by_cases htj : t < j
        · rw [z3 t (by omega) (by omega)]; exact hR.out t htj h1 h2
        · have e : t = j := by omega
          subst e
          rw [z2, HSR.out]; exact fun h => HNJ.out h.symm
      have HFZ : Hid (∀ W5, Below wr.heap.size wr W5 → W5.cell? ⟨B3, 6 + j, none⟩ = some (.int .u64 sj) ∧ W5.frozen? ⟨B3, 6 + j, none⟩ = false) := fun W5 hb => by
        have := box_seal ((hb.block B3 hlb).trans hB.out.1) j hj4
        rw [HSE.out] at this
        exact this
      have jx : ∀ z : Nat, ((j : Int) != (z : Int)) = false → j = z := fun z h => by have := bne_eq_false_iff_eq.1 h; omega
      have HJX : Hid (∀ z : Nat, ((j : Int) != (z : Int)) = false → j = z) := jx
      clear jx hB hR
      cases hE : (sj == sr) with
      | false =>
        have HNE : Hid (sj ≠ sr) := beq_eq_false_iff_ne.1 hE
        go_upto_region 35 with fail
        refine wp_region_cls wr (Below.refl _ _) (by kernel_rfl) (by kernel_rfl) ?_
        repeat (go_big_quiet_step (first | (go_at_call 11; exact Calls.cls (HQ.out _)) | (go_at_call 13; exact Calls.cls_same (HQP.out _ _ (by first | exact .inl rfl | exact .inr rfl)))))
        refine wpQuiet_nil ?_
        rintro W5 ⟨⟨_, hW5⟩, rfl⟩
        clear e4 e5 e6
        go_wp2
        go_roundw
        case rel =>
          obtain ⟨r0, r1, r2, r3, z1, z2⟩ := HKEEP.out W5 hW5 (fun _ _ => HNE.out)
          exact ⟨j + 1, r0, r1, r2, r3, by omega, by go_num, z1, z2⟩
        case measure => simp [intOf]; omega
      | true =>
        cases hA : ((j : Int) != ((pickN se 4 : Nat) : Int)) with
        | false =>
          go_upto_region 35 with fail
          refine wp_region_cls wr (Below.refl _ _) (by kernel_rfl) (by kernel_rfl) ?_
          repeat (go_big_quiet_step (first | (go_at_call 11; exact Calls.cls (HQ.out _)) | (go_at_call 13; exact Calls.cls_same (HQP.out _ _ (by first | exact .inl rfl | exact .inr rfl)))))
          refine wpQuiet_nil ?_
          rintro W5 ⟨⟨_, hW5⟩, rfl⟩
          clear e4 e5 e6
          go_wp2
          go_roundw
          case rel =>
            obtain ⟨r0, r1, r2, r3, z1, z2⟩ := HKEEP.out W5 hW5 (fun h1 _ => absurd (HJX.out _ hA) h1)
            exact ⟨j + 1, r0, r1, r2, r3, by omega, by go_num, z1, z2⟩
          case measure => simp [intOf]; omega
        | true =>
          cases hC : ((j : Int) != ((pickN (se.tdiv 4) 4 : Nat) : Int)) with
          | false =>
            go_upto_region 35 with fail
            refine wp_region_cls wr (Below.refl _ _) (by kernel_rfl) (by kernel_rfl) ?_
            repeat (go_big_quiet_step (first | (go_at_call 11; exact Calls.cls (HQ.out _)) | (go_at_call 13; exact Calls.cls_same (HQP.out _ _ (by first | exact .inl rfl | exact .inr rfl)))))
            refine wpQuiet_nil ?_
            rintro W5 ⟨⟨_, hW5⟩, rfl⟩
            clear e4 e5 e6
            go_wp2
            go_roundw
            case rel =>
              obtain ⟨r0, r1, r2, r3, z1, z2⟩ := HKEEP.out W5 hW5 (fun _ h2 => absurd (HJX.out _ hC) h2)
              exact ⟨j + 1, r0, r1, r2, r3, by omega, by go_num, z1, z2⟩
            case measure => simp [intOf]; omega
          | true =>
            go_upto_region 35 with fail
            refine wp_region_cls wr (Below.refl _ _) (by kernel_rfl) (by kernel_rfl) ?_
            repeat (go_big_quiet_step (first | (go_at_call 11; exact Calls.cls (HQ.out _)) | (go_at_call 13; exact Calls.cls_same (HQP.out _ _ (by first | exact .inl rfl | exact .inr rfl)))))
            refine wpQuiet_nil ?_
            rintro W5 ⟨⟨_, hW5⟩, rfl⟩
            obtain ⟨q1, q2⟩ := HFZ.out W5 hW5
            clear e4 e5 e6
            go_wp2
            go_roundw
            case rel =>
              obtain ⟨r0, r1, r2, r3, z1, z2⟩ := HPUT.out W5 hW5
              exact ⟨j + 1, r0, r1, r2, r3, by omega, by go_num, z1, z2⟩
            case measure => simp [intOf]; omega
end Go.Proofs.YtkehpnobidendaaDoor

namespace Go.Proofs.YtkehpnobidendaaDoor
open Go.RowKit
theorem put_msgK (a : Addr) (v : Value) : storeVar 40 a v = rowPut 40 a v := rfl
attribute [local go_sem ↓] pload_msg put_msgK load_blk
/-- A new block, written over. -/
def fillA (c : Array Value) : Nat → List Value → Array Value
  | _, [] => c
  | o, v :: r => fillA (c.setIfInBounds o v) (o + 1) r
theorem setCells_new (w : World) (T : TypeId) : ∀ (vs : List Value) (o : Nat) (c : Array Value), (w.alloc (.cells c T)).setCells w.heap.size o vs = w.alloc (.cells (fillA c o vs) T)
  | [], _, _ => rfl
  | v :: r, o, c => by rw [World.setCells, World.setCell_alloc_new, setCells_new w T r (o + 1)]; rfl
theorem fill19 (a0 a1 a2 a3 a4 a5 a6 a7 a8 a9 a10 a11 a12 a13 a14 a15 a16 a17 a18 z0 z1 z2 z3 z4 z5 z6 z7 z8 z9 z10 z11 z12 z13 z14 z15 z16 z17 z18 : Value) : fillA #[z0, z1, z2, z3, z4, z5, z6, z7, z8, z9, z10, z11, z12, z13, z14, z15, z16, z17, z18] 0 [a0, a1, a2, a3, a4, a5, a6, a7, a8, a9, a10, a11, a12, a13, a14, a15, a16, a17, a18] = #[a0, a1, a2, a3, a4, a5, a6, a7, a8, a9, a10, a11, a12, a13, a14, a15, a16, a17, a18] := by kernel_rfl
theorem start19 (w : World) (cs : Array Value) (hc : cs.size = 19) (T : TypeId) : (w.alloc (.cells cs T)).there w.heap.size 0 19 := fun j hj => by
  have hn := heap_alloc_new w (.cells cs T)
  refine ⟨?_, free_at hn _⟩
  rw [cell_at hn]
  simp; omega
theorem below_one {n : Nat} {w V w' : World} {b : Nat} (h : Below n w V) (hf : Fr (fun k => k = b) V w') (hb : n ≤ b) (hn : n ≤ V.heap.size) : Below n w w' :=
  ⟨hf.os.trans h.os, hf.tape.trans h.tape, hf.output.trans h.output, Nat.le_trans h.size hf.size, fun k hk => (hf.block k (Nat.lt_of_lt_of_le hk hn) (fun e => by omega)).trans (h.block k hk)⟩
theorem takes_form {m : Mem} {x : Msg} (k1 : x.kind = 1) (h1 : (m.takes x).2.2 ≠ 1) : 1 ≤ x.view ∧ x.view ≤ 1000 ∧ x.fro = x.view % 4 := by
  unfold Mem.takes at h1
  rw [if_pos k1] at h1
  unfold Mem.proposal at h1
  dsimp only at h1
  split at h1
  · exact absurd rfl h1
  · rename_i hf
    omega
noncomputable def kslI : Code := ((Tryd.f8.body.bind (fromReg 26))).getD .skip
set_option maxRecDepth 1000000 in
set_option maxHeartbeats 8000000 in
theorem ksl_if {y1 y3 y4 y5 y6 y7 y8 y9 y10 y11 y12 y14 y16 y17 y18 y19 y21 y22 y23 y24 y25 y26 y27 y28 y29 y30 y31 y32 y33 y34 y35 y36 y37 y38 y39 y40 y41 y42 y43 y44 y45 y46 y47 y48 y49 y50 y51 y52 y53 y54 y55 y56 y57 y58 y59 y60 y61 y62 y63 y64 y65 y66 y67 y68 y69 y70 y71 y72 y73 y74 y75 y76 y77 y78 y79 y80 y81 y82 y83 y84 y85 y86 y87 y88 y89 y90 y91 y92 y93 y94 y95 y96 y97 y98 y99 y100 y101 y102 y103 y104 y105 y106 y107 y108 y109 y110 y111 y112 y113 y114 y115 y116 y117 y118 y119 y120 y121 y122 y123 y124 y125 y126 y127 y128 y129 y130 y131 y132 y133 y134 y135 y136 y137 y138 y139 y140 y141 y142 y143 y144 y145 y146 y147 y148 y149 y150 y151 y152 y153 y154 y155 y156 y157 y158 y159 y160 y161 y162 y163 y164 y165 y166 y167 y168 y169 y170 y171 y172 y173 y174 y175 y176 y177 y178 y179 y180 y181 y182 y183 y184 y185 y186 y187 y188 y189 y190 y191 y192 y193 y194 y195 y196 y197 y198 y199 y200 y201 y202 y203 y204 y205 y206 y207 y208 y209 y210 y211 y212 y213 y214 y215 y216 y217 y218 y219 y220 y221 y222 y223 y224 y225 y226 y227 y228 y229 y230 y231 y232 y233 y234 y235 y236 y237 y238 y239 y240 y241 y242 y243 y244 y245 y246 y247 y248 y249 y250 y251 y252 y253 y254 y255 y256 y257 y258 y259 y260 y261 y262 y263 y264 y265 y266 y267 y268 y269 y270 y271 y272 y273 y274 y275 y276 y277 : Value} {of1 se xk xf xv bv jv j0 j1 j2 j3 cv k0 k1 k2 k3 sl : Int} {jb nu cb B pm p k : Nat} {bc : ByteArray} {w4 : World} {A4 : Nat → Nat → Prop} {ps : List (Option Nat)} {KK : Clu} {m : Mem} {Q : Exit → Act → World → Prop}
    (hwq : IntKind.i64.wrap (se.tdiv 4) = se.tdiv 4) (HPG : Hid (∀ (c : Int) (W : World), (c = se ∨ c = se.tdiv 4) → Calls Tryd.prog 13 #[.int .i64 c, .int .i64 4] W fun e w' => e = .returned (.int .i64 (pickN c 4)) ∧ W = w'))
    (hlB : (rowVar 40 ⟨B, 1, none⟩).run Tryd.prog w4 = .ok (.agg #[.int .i64 xk, .int .i64 xf, .int .i64 xv, .int .i64 bv, .int .i64 jv, .int .u64 jb, .int .u64 j0, .int .u64 j1, .int .u64 j2, .int .u64 j3, .string bc, .int .u64 nu, .int .i64 cv, .int .u64 cb, .int .u64 k0, .int .u64 k1, .int .u64 k2, .int .u64 k3, .int .u64 sl]) w4)
    (HS4 : Hid (KSit w4 p A4 ps KK)) (HO3 : Hid (KOk KK 300)) (hk4 : k < 4) (HPM : Hid (ps.getD k none = some pm)) (HM : Hid (KK.memAt k = some m ∧ m.may = false))
    (HXO : Hid (Msg.Ok ⟨xk, xf, xv, ⟨bv, ⟨jv, jb, j0, j1, j2, j3⟩, bc⟩, nu, ⟨cv, cb, k0, k1, k2, k3⟩, sl⟩)) (HM5 : Hid ((m.takes ⟨xk, xf, xv, ⟨bv, ⟨jv, jb, j0, j1, j2, j3⟩, bc⟩, nu, ⟨cv, cb, k0, k1, k2, k3⟩, sl⟩).2.2 ≠ 1)) (HK1 : Hid (xk = 1)) (HJV : Hid (1 ≤ jv)) (HNZ : Hid (∀ j : Nat, j < 4 → sealOf j 2 jv jb ≠ 0))
    (HEX : Hid (∀ {v21 v22 v23 v24 v25 v26 v137 v138 v139 v140 v141 v142 v143 v144 v145 v146 v147 v148 v149 v150 v151 v152 v153 v154 v155 v156 v157 v158 v159 v160 v161 v162 v163 v164 v165 v166 v167 v168 v169 v170 v171 v172 v173 v174 v175 v176 v177 v178 v179 v180 v181 v182 v183 v184 v185 v186 v187 v188 v189 v190 v191 v192 v193 v194 v195 v196 v197 v198 v199 v200 v201 v202 v203 v204 v205 v206 v207 v208 v209 v210 v211 v212 v213 v214 v215 v216 v217 v218 v219 v220 v221 v222 v223 v224 v225 v226 v227 v228 v229 v230 v231 v232 : Value} {w' : World}, KGoes w4 w' p A4 ps KK → Q .normal ⟨List.toArray (.int .u64 of1 :: y1 :: .int .i64 se :: y3 :: y4 :: y5 :: y6 :: y7 :: y8 :: y9 :: y10 :: y11 :: y12 :: .pointer (some ⟨B, 0, none⟩) :: y14 :: .pointer (some ⟨pm, 0, none⟩) :: y16 :: y17 :: y18 :: y19 :: .bool false :: v21 :: v22 :: v23 :: v24 :: v25 :: v26 :: y27 :: y28 :: y29 :: y30 :: y31 :: y32 :: y33 :: y34 :: y35 :: y36 :: y37 :: y38 :: y39 :: y40 :: y41 :: y42 :: y43 :: y44 :: y45 :: y46 :: y47 :: y48 :: y49 :: y50 :: y51 :: y52 :: y53 :: y54 :: y55 :: y56 :: y57 :: y58 :: y59 :: y60 :: y61 :: y62 :: y63 :: y64 :: y65 :: y66 :: y67 :: y68 :: y69 :: y70 :: y71 :: y72 :: y73 :: y74 :: y75 :: y76 :: y77 :: y78 :: y79 :: y80 :: y81 :: y82 :: y83 :: y84 :: y85 :: y86 :: y87 :: y88 :: y89 :: y90 :: y91 :: y92 :: y93 :: y94 :: y95 :: y96 :: y97 :: y98 :: y99 :: y100 :: y101 :: y102 :: y103 :: y104 :: y105 :: y106 :: y107 :: y108 :: y109 :: y110 :: y111 :: y112 :: y113 :: y114 :: y115 :: y116 :: y117 :: y118 :: y119 :: y120 :: y121 :: y122 :: y123 :: y124 :: y125 :: y126 :: y127 :: y128 :: y129 :: y130 :: y131 :: y132 :: y133 :: y134 :: y135 :: y136 :: v137 :: v138 :: v139 :: v140 :: v141 :: v142 :: v143 :: v144 :: v145 :: v146 :: v147 :: v148 :: v149 :: v150 :: v151 :: v152 :: v153 :: v154 :: v155 :: v156 :: v157 :: v158 :: v159 :: v160 :: v161 :: v162 :: v163 :: v164 :: v165 :: v166 :: v167 :: v168 :: v169 :: v170 :: v171 :: v172 :: v173 :: v174 :: v175 :: v176 :: v177 :: v178 :: v179 :: v180 :: v181 :: v182 :: v183 :: v184 :: v185 :: v186 :: v187 :: v188 :: v189 :: v190 :: v191 :: v192 :: v193 :: v194 :: v195 :: v196 :: v197 :: v198 :: v199 :: v200 :: v201 :: v202 :: v203 :: v204 :: v205 :: v206 :: v207 :: v208 :: v209 :: v210 :: v211 :: v212 :: v213 :: v214 :: v215 :: v216 :: v217 :: v218 :: v219 :: v220 :: v221 :: v222 :: v223 :: v224 :: v225 :: v226 :: v227 :: v228 :: v229 :: v230 :: v231 :: v232 :: y233 :: y234 :: y235 :: y236 :: y237 :: y238 :: y239 :: y240 :: y241 :: y242 :: y243 :: y244 :: y245 :: y246 :: y247 :: y248 :: y249 :: y250 :: y251 :: y252 :: y253 :: y254 :: y255 :: y256 :: y257 :: y258 :: y259 :: y260 :: y261 :: y262 :: y263 :: y264 :: y265 :: y266 :: y267 :: y268 :: y269 :: y270 :: y271 :: y272 :: y273 :: y274 :: y275 :: y276 :: y277 :: []), []⟩ w')) :
    Code.wp Tryd.prog kslI Q ⟨List.toArray (.int .u64 of1 :: y1 :: .int .i64 se :: y3 :: y4 :: y5 :: y6 :: y7 :: y8 :: y9 :: y10 :: y11 :: y12 :: .pointer (some ⟨B, 0, none⟩) :: y14 :: .pointer (some ⟨pm, 0, none⟩) :: y16 :: y17 :: y18 :: y19 :: .bool false :: y21 :: y22 :: y23 :: y24 :: y25 :: y26 :: y27 :: y28 :: y29 :: y30 :: y31 :: y32 :: y33 :: y34 :: y35 :: y36 :: y37 :: y38 :: y39 :: y40 :: y41 :: y42 :: y43 :: y44 :: y45 :: y46 :: y47 :: y48 :: y49 :: y50 :: y51 :: y52 :: y53 :: y54 :: y55 :: y56 :: y57 :: y58 :: y59 :: y60 :: y61 :: y62 :: y63 :: y64 :: y65 :: y66 :: y67 :: y68 :: y69 :: y70 :: y71 :: y72 :: y73 :: y74 :: y75 :: y76 :: y77 :: y78 :: y79 :: y80 :: y81 :: y82 :: y83 :: y84 :: y85 :: y86 :: y87 :: y88 :: y89 :: y90 :: y91 :: y92 :: y93 :: y94 :: y95 :: y96 :: y97 :: y98 :: y99 :: y100 :: y101 :: y102 :: y103 :: y104 :: y105 :: y106 :: y107 :: y108 :: y109 :: y110 :: y111 :: y112 :: y113 :: y114 :: y115 :: y116 :: y117 :: y118 :: y119 :: y120 :: y121 :: y122 :: y123 :: y124 :: y125 :: y126 :: y127 :: y128 :: y129 :: y130 :: y131 :: y132 :: y133 :: y134 :: y135 :: y136 :: y137 :: y138 :: y139 :: y140 :: y141 :: y142 :: y143 :: y144 :: y145 :: y146 :: y147 :: y148 :: y149 :: y150 :: y151 :: y152 :: y153 :: y154 :: y155 :: y156 :: y157 :: y158 :: y159 :: y160 :: y161 :: y162 :: y163 :: y164 :: y165 :: y166 :: y167 :: y168 :: y169 :: y170 :: y171 :: y172 :: y173 :: y174 :: y175 :: y176 :: y177 :: y178 :: y179 :: y180 :: y181 :: y182 :: y183 :: y184 :: y185 :: y186 :: y187 :: y188 :: y189 :: y190 :: y191 :: y192 :: y193 :: y194 :: y195 :: y196 :: y197 :: y198 :: y199 :: y200 :: y201 :: y202 :: y203 :: y204 :: y205 :: y206 :: y207 :: y208 :: y209 :: y210 :: y211 :: y212 :: y213 :: y214 :: y215 :: y216 :: y217 :: y218 :: y219 :: y220 :: y221 :: y222 :: y223 :: y224 :: y225 :: y226 :: y227 :: y228 :: y229 :: y230 :: y231 :: y232 :: y233 :: y234 :: y235 :: y236 :: y237 :: y238 :: y239 :: y240 :: y241 :: y242 :: y243 :: y244 :: y245 :: y246 :: y247 :: y248 :: y249 :: y250 :: y251 :: y252 :: y253 :: y254 :: y255 :: y256 :: y257 :: y258 :: y259 :: y260 :: y261 :: y262 :: y263 :: y264 :: y265 :: y266 :: y267 :: y268 :: y269 :: y270 :: y271 :: y272 :: y273 :: y274 :: y275 :: y276 :: y277 :: []), []⟩ w4 := by
  conv => arg 2; whnf
  have hpu3 : (rowPut 40 ⟨w4.heap.size, 0, none⟩ (.agg #[.int .i64 xk, .int .i64 xf, .int .i64 xv, .int .i64 bv, .int .i64 jv, .int .u64 jb, .int .u64 j0, .int .u64 j1, .int .u64 j2, .int .u64 j3, .string bc, .int .u64 nu, .int .i64 cv, .int .u64 cb, .int .u64 k0, .int .u64 k1, .int .u64 k2, .int .u64 k3, .int .u64 sl])).run Tryd.prog (w4.alloc (.cells #[.int .i64 0, .int .i64 0, .int .i64 0, .int .i64 0, .int .i64 0, .int .u64 0, .int .u64 0, .int .u64 0, .int .u64 0, .int .u64 0, .string ⟨#[]⟩, .int .u64 0, .int .i64 0, .int .u64 0, .int .u64 0, .int .u64 0, .int .u64 0, .int .u64 0, .int .u64 0] 40)) = .ok () (w4.alloc (.cells #[.int .i64 xk, .int .i64 xf, .int .i64 xv, .int .i64 bv, .int .i64 jv, .int .u64 jb, .int .u64 j0, .int .u64 j1, .int .u64 j2, .int .u64 j3, .string bc, .int .u64 nu, .int .i64 cv, .int .u64 cb, .int .u64 k0, .int .u64 k1, .int .u64 k2, .int .u64 k3, .int .u64 sl] 40)) := (rowPut_mid _ w4.heap.size 0 40 #[.int .i64 xk, .int .i64 xf, .int .i64 xv, .int .i64 bv, .int .i64 jv, .int .u64 jb, .int .u64 j0, .int .u64 j1, .int .u64 j2, .int .u64 j3, .string bc, .int .u64 nu, .int .i64 cv, .int .u64 cb, .int .u64 k0, .int .u64 k1, .int .u64 k2, .int .u64 k3, .int .u64 sl] (start19 w4 _ rfl _) (by kernel_rfl) (by simp [Value.oneCell'])).trans (by rw [setCells_new, fill19])
  go_upto_region 27 with fail
  clear hpu3 hlB
  obtain ⟨V, hV⟩ : ∃ V, V = w4.alloc (.cells #[.int .i64 xk, .int .i64 xf, .int .i64 xv, .int .i64 bv, .int .i64 jv, .int .u64 jb, .int .u64 j0, .int .u64 j1, .int .u64 j2, .int .u64 j3, .string bc, .int .u64 nu, .int .i64 cv, .int .u64 cb, .int .u64 k0, .int .u64 k1, .int .u64 k2, .int .u64 k3, .int .u64 sl] 40) := ⟨_, rfl⟩
  rw [← hV]
  have HBV : Hid (Below w4.heap.size w4 V) := by rw [hV]; exact below_alloc _ _
  have HXV : Hid (V.heap[w4.heap.size]? = some (.cells #[.int .i64 xk, .int .i64 xf, .int .i64 xv, .int .i64 bv, .int .i64 jv, .int .u64 jb, .int .u64 j0, .int .u64 j1, .int .u64 j2, .int .u64 j3, .string bc, .int .u64 nu, .int .i64 cv, .int .u64 cb, .int .u64 k0, .int .u64 k1, .int .u64 k2, .int .u64 k3, .int .u64 sl] 40 (0, 0))) := by rw [hV]; exact heap_alloc_new w4 _
  clear hV
  obtain ⟨B3, hB3⟩ : ∃ b, b = w4.heap.size := ⟨_, rfl⟩
  have HB3 : Hid (B3 = w4.heap.size) := hB3
  rw [← hB3] at HXV ⊢
  clear hB3
  have HBF : Hid (∀ W, Fr (fun b => b = B3) V W → Below w4.heap.size w4 W) := fun W hW => below_one HBV.out hW (by have := HB3.out; omega) HBV.out.size
  have HTB : Hid (∀ W, Fr (fun b => b = B3) V W → Tab W) := fun W hW => (HS4.out.below (HBF.out W hW)).k.tab
  go_wp2
  refine ksl_loop2 hwq HPG HXV ?hex
  intro a22 a139 a140 a141 a142 a143 a144 a145 a146 a147 a148 a149 a150 a151 a152 a153 a154 a155 a156 a157 a158 a159 a160 a161 a162 a163 a164 a165 a166 a167 w5 s0 s1 s2 s3 hx5 hf5
  simp only [Exit.inBlock, Exit.then]
  have HX5 : Hid (w5.heap[B3]? = some (.cells #[.int .i64 xk, .int .i64 xf, .int .i64 xv, .int .i64 bv, .int .i64 jv, .int .u64 jb, .int .u64 s0, .int .u64 s1, .int .u64 s2, .int .u64 s3, .string bc, .int .u64 nu, .int .i64 cv, .int .u64 cb, .int .u64 k0, .int .u64 k1, .int .u64 k2, .int .u64 k3, .int .u64 sl] 40 (0, 0))) := hx5
  have HF5 : Hid (Fr (fun b => b = B3) V w5) := hf5
  have HTB5 : Hid (∀ W, Fr (fun b => b = B3) w5 W → Tab W) := fun W hW => HTB.out W (HF5.out.trans hW (fun _ h => .inl h))
  have HJO : Hid (-9223372036854775808 ≤ jv ∧ jv ≤ 9223372036854775807 ∧ jb < 18446744073709551616) := ⟨HXO.out.b.j.v0, HXO.out.b.j.v1, HXO.out.b.j.b1⟩
  clear hx5 hf5 HXV
  go_wp2
  refine ksl_loop3 hwq HPG HTB5 HJO HNZ HX5 ?hex3
  intro b23 b168 b169 b170 b171 b172 b173 b174 b175 b176 b177 b178 b179 b180 b181 b182 b183 b184 b185 b186 b187 b188 b189 b190 b191 b192 b193 b194 b195 b196 b197 b198 b199 b200 b201 b202 b203 b204 b205 b206 w6 r0 r1 r2 r3 hx6 hf6 hne
  simp only [Exit.inBlock, Exit.then]
  have HX6 : Hid (w6.heap[B3]? = some (.cells #[.int .i64 xk, .int .i64 xf, .int .i64 xv, .int .i64 bv, .int .i64 jv, .int .u64 jb, .int .u64 r0, .int .u64 r1, .int .u64 r2, .int .u64 r3, .string bc, .int .u64 nu, .int .i64 cv, .int .u64 cb, .int .u64 k0, .int .u64 k1, .int .u64 k2, .int .u64 k3, .int .u64 sl] 40 (0, 0))) := hx6
  have HF6 : Hid (Fr (fun b => b = B3) V w6) := HF5.out.trans hf6 (fun _ h => .inl h)
  have HNE : Hid (∀ t : Nat, t < 4 → t ≠ pickN se 4 → t ≠ pickN (se.tdiv 4) 4 → of4 r0 r1 r2 r3 t ≠ sealOf t 2 jv jb) := hne
  clear hx6 hf6 hne HX5 HF5 HTB5 HJO HPG
  have HFM : Hid (1 ≤ xv ∧ xv ≤ 1000 ∧ xf = xv % 4) := takes_form (x := ⟨xk, xf, xv, ⟨bv, ⟨jv, jb, j0, j1, j2, j3⟩, bc⟩, nu, ⟨cv, cb, k0, k1, k2, k3⟩, sl⟩) HK1.out HM5.out
  have hlk : (rowVar 38 ⟨B3, 3, none⟩).run Tryd.prog w6 = .ok (.agg #[.int .i64 bv, .int .i64 jv, .int .u64 jb, .int .u64 r0, .int .u64 r1, .int .u64 r2, .int .u64 r3, .string bc]) w6 := by
    refine rowVar_mid w6 B3 3 38 [.int .i64 bv, .int .i64 jv, .int .u64 jb, .int .u64 r0, .int .u64 r1, .int .u64 r2, .int .u64 r3, .string bc] _ (fun j v hv => ?_) Tryd.underlying38 rfl (by kernel_rfl)
    rw [cell_at HX6.out]
    rcases j with _ | _ | _ | _ | _ | _ | _ | _ | j
    · exact hv
    · exact hv
    · exact hv
    · exact hv
    · exact hv
    · exact hv
    · exact hv
    · exact hv
    · simp at hv
  have HNU : Hid (Calls Tryd.prog 27 #[.agg #[.int .i64 bv, .int .i64 jv, .int .u64 jb, .int .u64 r0, .int .u64 r1, .int .u64 r2, .int .u64 r3, .string bc]] w6 fun e w' => e = .returned (.int .u64 (Blk.num ⟨bv, ⟨jv, jb, j0, j1, j2, j3⟩, bc⟩ : Nat)) ∧ Below w6.heap.size w6 w') := pnum ⟨bv, ⟨jv, jb, r0, r1, r2, r3⟩, bc⟩ ⟨HXO.out.b.v0, HXO.out.b.v1, ⟨HXO.out.b.j.v0, HXO.out.b.j.v1, HXO.out.b.j.b1⟩, HXO.out.b.c1⟩ HXO.out.b.c1 w6 (HTB.out w6 HF6.out)
  have HNL : Hid (Blk.num ⟨bv, ⟨jv, jb, j0, j1, j2, j3⟩, bc⟩ < 18446744073709551616) := num_lt _
  have HSQ : Hid ((m.handle ⟨xk, xf, xv, ⟨bv, ⟨jv, jb, r0, r1, r2, r3⟩, bc⟩, nu, ⟨cv, cb, k0, k1, k2, k3⟩, sealOf xf 1 xv (Blk.num ⟨bv, ⟨jv, jb, j0, j1, j2, j3⟩, bc⟩)⟩).2.2 = 2) := sealed_just (x := ⟨xk, xf, xv, ⟨bv, ⟨jv, jb, j0, j1, j2, j3⟩, bc⟩, nu, ⟨cv, cb, k0, k1, k2, k3⟩, sl⟩) HK1.out HM5.out HJV.out (pickN se 4) (pickN (se.tdiv 4) 4) r0 r1 r2 r3 (fun j hj h1 h2 => HNE.out j hj h1 h2)
  generalize Blk.num ⟨bv, ⟨jv, jb, j0, j1, j2, j3⟩, bc⟩ = nb at HNU HNL HSQ
  go_upto_region 38 with (go_at_call 27; refine HNU.out.mono ?_; rintro e w7 ⟨rfl, hb7⟩; have HB7 : Hid (Below w6.heap.size w6 w7) := hb7; clear hb7)
  have hlb6 : B3 < w6.heap.size := lt_at HX6.out
  have HX7 : Hid (w7.heap[B3]? = some (.cells #[.int .i64 xk, .int .i64 xf, .int .i64 xv, .int .i64 bv, .int .i64 jv, .int .u64 jb, .int .u64 r0, .int .u64 r1, .int .u64 r2, .int .u64 r3, .string bc, .int .u64 nu, .int .i64 cv, .int .u64 cb, .int .u64 k0, .int .u64 k1, .int .u64 k2, .int .u64 k3, .int .u64 sl] 40 (0, 0))) := (HB7.out.block B3 hlb6).trans HX6.out
  have HF7 : Hid (Fr (fun b => b = B3) V w7) := HF6.out.trans (Fr.of_below HB7.out) (fun _ h => .inl h)
  have d1 : w7.cell? ⟨B3, 1, none⟩ = some (.int .i64 xf) := cell_at HX7.out 1
  have d2 : w7.cell? ⟨B3, 2, none⟩ = some (.int .i64 xv) := cell_at HX7.out 2
  have HSL : Hid (Calls Tryd.prog 11 #[.int .i64 xf, .int .i64 1, .int .i64 xv, .int .u64 nb] w7 fun e w' => e = .returned (.int .u64 (sealOf xf 1 xv nb)) ∧ Below w7.heap.size w7 w') := pseal xf 1 xv nb (by have := HFM.out; omega) (by have := HFM.out; omega) (by decide) (by decide) (by have := HFM.out; omega) (by have := HFM.out; omega) HNL.out w7 (HTB.out w7 HF7.out).is
  generalize sealOf xf 1 xv nb = sq at HSL HSQ
  have HW8 : Hid (∀ W8, Below w7.heap.size w7 W8 → W8.cell? ⟨B3, 18, none⟩ = some (.int .u64 sl) ∧ W8.frozen? ⟨B3, 18, none⟩ = false) := fun W8 h8 => by
    have hx8 := (h8.block B3 (lt_at HX7.out)).trans HX7.out
    exact ⟨cell_at hx8 18, free_at hx8 18⟩
  clear hlk HNU
  go_upto_region 39 with (go_at_call 11; refine HSL.out.mono ?_; rintro e w8 ⟨rfl, hb8⟩; have HB8 : Hid (Below w7.heap.size w7 w8) := hb8; clear hb8; obtain ⟨d18, z18⟩ := HW8.out w8 HB8.out)
  obtain ⟨V8, hV8⟩ : ∃ V8, V8 = w8.setCell ⟨B3, 18, none⟩ (.int .u64 sq) := ⟨_, rfl⟩
  rw [← hV8]
  have HX8 : Hid (V8.heap[B3]? = some (.cells #[.int .i64 xk, .int .i64 xf, .int .i64 xv, .int .i64 bv, .int .i64 jv, .int .u64 jb, .int .u64 r0, .int .u64 r1, .int .u64 r2, .int .u64 r3, .string bc, .int .u64 nu, .int .i64 cv, .int .u64 cb, .int .u64 k0, .int .u64 k1, .int .u64 k2, .int .u64 k3, .int .u64 sq] 40 (0, 0))) := by
    rw [hV8]
    exact heap_store (i := 18) ((HB8.out.block B3 (lt_at HX7.out)).trans HX7.out) (.int .u64 sq)
  have HF8 : Hid (Fr (fun b => b = B3) V V8) := by
    rw [hV8]
    exact (HF7.out.trans (Fr.of_below HB8.out) (fun _ h => .inl h)).trans (Fr.setCell (S := fun b => b = B3) _ (a := ⟨B3, 18, none⟩) rfl _) (fun _ h => .inl h)
  have hlw8 : (rowVar 40 ⟨B3, 0, none⟩).run Tryd.prog V8 = .ok (.agg #[.int .i64 xk, .int .i64 xf, .int .i64 xv, .int .i64 bv, .int .i64 jv, .int .u64 jb, .int .u64 r0, .int .u64 r1, .int .u64 r2, .int .u64 r3, .string bc, .int .u64 nu, .int .i64 cv, .int .u64 cb, .int .u64 k0, .int .u64 k1, .int .u64 k2, .int .u64 k3, .int .u64 sq]) V8 := rowVar_whole _ B3 40 40 _ (0, 0) _ HX8.out Tryd.underlying40 rfl (by kernel_rfl)
  have HH : Hid (Calls Tryd.prog 25 #[.pointer (some ⟨pm, 0, none⟩), .agg #[.int .i64 xk, .int .i64 xf, .int .i64 xv, .int .i64 bv, .int .i64 jv, .int .u64 jb, .int .u64 r0, .int .u64 r1, .int .u64 r2, .int .u64 r3, .string bc, .int .u64 nu, .int .i64 cv, .int .u64 cb, .int .u64 k0, .int .u64 k1, .int .u64 k2, .int .u64 k3, .int .u64 sq]] V8 fun e w' => ∃ a cap, e = .returned (.tuple #[.slice a 0 cap, .int .i64 2]) ∧ KGoes w4 w' p A4 ps KK) := by
    have hb := HBF.out V8 HF8.out
    refine (krefused (x := ⟨xk, xf, xv, ⟨bv, ⟨jv, jb, r0, r1, r2, r3⟩, bc⟩, nu, ⟨cv, cb, k0, k1, k2, k3⟩, sq⟩) (HS4.out.below hb) HO3.out (by omega) hk4 HPM.out HM.out.1 ⟨⟨HXO.out.b.v0, HXO.out.b.v1, ⟨HXO.out.b.j.v0, HXO.out.b.j.v1, HXO.out.b.j.b1⟩, HXO.out.b.c1⟩, HXO.out.n, HXO.out.c⟩ HM.out.2 (by rw [HSQ.out]; decide)).mono ?_
    rintro e w' ⟨a, cap, he, hg, _⟩
    rw [HSQ.out] at he
    exact ⟨a, cap, he, kgoes_below hb hg⟩
  clear hV8 d1 d2 d18 z18
  go_wp2_with (go_at_call 25; refine HH.out.mono ?_; rintro e w9 ⟨a9, cap9, rfl, hg9⟩; have HG9 : Hid (KGoes w4 w9 p A4 ps KK) := hg9; clear hg9)
  exact HEX.out HG9.out
end Go.Proofs.YtkehpnobidendaaDoor

namespace Go.Proofs.YtkehpnobidendaaDoor
open Go.RowKit

/-- Nobody hears: so many rounds of ticks. -/
def quietK : Nat → Clu
  | 0 => Clu.begins (-1) 1
  | n + 1 => ((quietK n).allTick 4 0).1
def quietRun : Nat → Clu → Bool
  | 0, _ => true
  | n + 1, K => (K.allTick 4 0).2 && quietRun n (K.allTick 4 0).1
/-- What is asked in the end. -/
def recGood (v : Int) (K : Clu) : Bool := !K.over && (K.agree && ((List.range 4).all fun k => decide ((K.was k).log.length ≠ 0 ∧ v + 4 < (K.was k).view)))
/-- From a letter on, all that is sent comes, in order; from the sixtieth letter on all is as it is asked, whenever it ends. -/
def recRun (v : Int) : Nat → Nat → Nat → Clu → Bool
  | 0, _, _, _ => true
  | f + 1, n, at1, K => (decide (n < 60) || recGood v K) && match K.letters[at1]? with
    | none => false
    | some l => (K.goes l 4 0).2 && recRun v f (n + 1) (at1 + 1) (K.goes l 4 0).1
def recOk (s : Nat) : Bool :=
  let K := quietK (s + 1)
  decide (K.letters.length = 4 * (s + 1)) && (((List.range 4).all fun k => decide ((K.was k).log.length = 0 ∧ (K.was k).view = s + 2)) && (((K.letters.drop (4 * s)).all fun l => decide (l.msg.kind = 3 ∧ l.msg.view = s + 2 ∧ l.to = (s + 2) % 4)) && recRun (s + 2) 120 0 (4 * s) K))
theorem quiet_run : quietRun 30 (Clu.begins (-1) 1) = true := by decide +kernel
theorem quiet_at : ∀ (n j : Nat), quietRun n (quietK j) = true → ∀ i, i < n → ((quietK (j + i)).allTick 4 0).2 = true
  | 0, _, _, _, hi => by omega
  | n + 1, j, h, i, hi => by
    have h' : ((quietK j).allTick 4 0).2 = true ∧ quietRun n (quietK (j + 1)) = true := by
      unfold quietRun at h
      rw [Bool.and_eq_true] at h
      exact h
    cases i with
    | zero => exact h'.1
    | succ i => rw [show j + (i + 1) = (j + 1) + i by omega]; exact quiet_at n (j + 1) h'.2 i (by omega)
theorem quiet_step (i : Nat) (h : i < 30) : (quietK i).allTick 4 0 = (quietK (i + 1), true) := by
  have h1 := quiet_at 30 0 quiet_run i h
  rw [Nat.zero_add] at h1
  show _ = (((quietK i).allTick 4 0).1, true)
  rw [← h1]
theorem recRun_flows {v : Int} : ∀ (f n at1 : Nat) (K : Clu), recRun v f n at1 K = true → ∀ j, j < f → ∃ K', K.flows at1 j = (K', at1 + j, true) ∧ (60 ≤ n + j → recGood v K' = true)
  | 0, _, _, _, _, _, hj => by omega
  | f + 1, n, at1, K, h, j, hj => by
    unfold recRun at h
    rw [Bool.and_eq_true, Bool.or_eq_true, decide_eq_true_eq] at h
    obtain ⟨h1, h2⟩ := h
    cases j with
    | zero => exact ⟨K, rfl, fun hh => h1.resolve_left (by omega)⟩
    | succ j =>
      cases hl : K.letters[at1]? with
      | none => rw [hl] at h2; cases h2
      | some l =>
        rw [hl] at h2
        rw [Bool.and_eq_true] at h2
        obtain ⟨K', e1, e2⟩ := recRun_flows f (n + 1) (at1 + 1) _ h2.2 j (by omega)
        refine ⟨K', ?_, fun hh => e2 (by omega)⟩
        rw [Clu.flows, hl]
        show (if (K.goes l 4 0).2 then _ else _) = _
        rw [if_pos h2.1, e1, show at1 + 1 + j = at1 + (j + 1) by omega]
/-- All that the walk asks of the plain run. -/
theorem recOk_out {s : Nat} (h : recOk s = true) :
    (quietK (s + 1)).letters.length = 4 * (s + 1) ∧ (∀ k, k < 4 → ((quietK (s + 1)).was k).log.length = 0 ∧ ((quietK (s + 1)).was k).view = (s : Int) + 2) ∧
    (∀ (i : Nat) (hi : i < (quietK (s + 1)).letters.length), 4 * s ≤ i → ((quietK (s + 1)).letters[i]).msg.kind = 3 ∧ ((quietK (s + 1)).letters[i]).msg.view = (s : Int) + 2 ∧ ((quietK (s + 1)).letters[i]).to = ((s : Int) + 2) % 4) ∧
    ∀ b, b < 60 → ∃ K', (quietK (s + 1)).flows (4 * s) (60 + b) = (K', 4 * s + (60 + b), true) ∧ K'.over = false ∧ K'.agree = true ∧ ∀ k, k < 4 → (K'.was k).log.length ≠ 0 ∧ (s : Int) + 2 + 4 < (K'.was k).view := by
  unfold recOk at h
  dsimp only at h
  rw [Bool.and_eq_true, Bool.and_eq_true, Bool.and_eq_true, decide_eq_true_eq] at h
  obtain ⟨h1, h2, h3, h4⟩ := h
  rw [List.all_eq_true] at h2 h3
  refine ⟨h1, fun k hk => ?_, fun i hi h0 => ?_, fun b hb => ?_⟩
  · have := h2 k (by simpa using hk)
    rw [decide_eq_true_eq] at this
    exact this
  · have hm : (quietK (s + 1)).letters[i] ∈ (quietK (s + 1)).letters.drop (4 * s) := by
      rw [List.mem_drop_iff_getElem]
      exact ⟨i - 4 * s, by omega, by congr 1; omega⟩
    have := h3 _ hm
    rw [decide_eq_true_eq] at this
    exact this
  · obtain ⟨K', e1, e2⟩ := recRun_flows 120 0 (4 * s) _ h4 (60 + b) (by omega)
    have e3 := e2 (by omega)
    unfold recGood at e3
    rw [Bool.and_eq_true, Bool.and_eq_true, List.all_eq_true] at e3
    refine ⟨K', e1, by simpa using e3.1, e3.2.1, fun k hk => ?_⟩
    have := e3.2.2 k (by simpa using hk)
    rw [decide_eq_true_eq] at this
    exact this
end Go.Proofs.YtkehpnobidendaaDoor

namespace Go.Proofs.YtkehpnobidendaaDoor
open Go.RowKit

/-- Where what a member had lies. -/
theorem KSit.vcells {w : World} {p : Nat} {A : Nat → Nat → Prop} {ps : List (Option Nat)} {K : Clu} (h : KSit w p A ps K) (k : Nat) (hk : k < 4) : w.cell? ⟨p, 5 + k * 4, none⟩ = some (.int .i64 (K.was k).view) ∧ w.cell? ⟨p, 5 + k * 4 + 1, none⟩ = some (.int .i64 (K.was k).high) ∧ w.cell? ⟨p, 5 + k * 4 + 2, none⟩ = some (.int .i64 (K.was k).locked) := by
  obtain ⟨vm, vl, vc, vv, l0, l1, l2, l3, vb, g1⟩ := h.k.ex
  rcases (by omega : k = 0 ∨ k = 1 ∨ k = 2 ∨ k = 3) with rfl | rfl | rfl | rfl
  · exact ⟨cell_at g1.box 5, cell_at g1.box 6, cell_at g1.box 7⟩
  · exact ⟨cell_at g1.box 9, cell_at g1.box 10, cell_at g1.box 11⟩
  · exact ⟨cell_at g1.box 13, cell_at g1.box 14, cell_at g1.box 15⟩
  · exact ⟨cell_at g1.box 17, cell_at g1.box 18, cell_at g1.box 19⟩
theorem KSit.over {w : World} {p : Nat} {A : Nat → Nat → Prop} {ps : List (Option Nat)} {K : Clu} (h : KSit w p A ps K) : w.cell? ⟨p, 23, none⟩ = some (.bool K.over) := by
  obtain ⟨vm, vl, vc, vv, l0, l1, l2, l3, vb, g1⟩ := h.k.ex
  exact cell_at g1.box 23
set_option maxRecDepth 100000 in
set_option maxHeartbeats 8000000 in
theorem krecovers0 (hrok : ∀ s, s < 30 → recOk s = true) (be si : Int) (p0 : -9223372036854775808 ≤ be) (p1 : be ≤ 9223372036854775807) (t0 : -9223372036854775808 ≤ si) (t1 : si ≤ 9223372036854775807) (w : World) (ht : Tab w) :
    Calls Tryd.prog 7 #[.int .i64 be, .int .i64 si] w fun e w' => e = .returned (.bool true) ∧ Below w.heap.size w w' := by
  have HAW : Hid (Calls Tryd.prog 10 #[] w fun e w' => e = .returned (.bool true) ∧ Below w.heap.size w w') := kawake w ht
  have HT : Hid (Tab w) := ht
  have HBG : Hid (∀ W, Tab W → Calls Tryd.prog 19 #[.int .i64 (-1), .int .i64 1] W fun e w' => KBegun W (-1) 1 e w') := fun W hW => kbegins W hW (-1) 1 (by decide) (by decide)
  have HP1 : Hid (∀ W, Calls Tryd.prog 13 #[.int .i64 si, .int .i64 30] W fun e w' => e = .returned (.int .i64 (pickN si 30)) ∧ W = w') := fun W => (kpick si 30 t0 t1 (by decide) (by decide) W).mono (fun _ _ h => ⟨h.1, h.2.symm⟩)
  have HP2 : Hid (∀ W, Calls Tryd.prog 13 #[.int .i64 be, .int .i64 60] W fun e w' => e = .returned (.int .i64 (pickN be 60)) ∧ W = w') := fun W => (kpick be 60 p0 p1 (by decide) (by decide) W).mono (fun _ _ h => ⟨h.1, h.2.symm⟩)
  have hs := pickN_lt si 30 (by decide)
  have hb := pickN_lt be 60 (by decide)
  generalize pickN si 30 = s at hs HP1
  generalize pickN be 60 = b at hb HP2
  obtain ⟨r1, r2, r3, r4⟩ := recOk_out (hrok s hs)
  obtain ⟨Kf, r5, r6, r7, r8⟩ := r4 b hb
  have HR1 : Hid ((quietK (s + 1)).letters.length = 4 * (s + 1)) := r1
  have HR2 : Hid (∀ k, k < 4 → ((quietK (s + 1)).was k).log.length = 0 ∧ ((quietK (s + 1)).was k).view = (s : Int) + 2) := r2
  have HR3 : Hid (∀ (i : Nat) (hi : i < (quietK (s + 1)).letters.length), 4 * s ≤ i → ((quietK (s + 1)).letters[i]).msg.kind = 3 ∧ ((quietK (s + 1)).letters[i]).msg.view = (s : Int) + 2 ∧ ((quietK (s + 1)).letters[i]).to = ((s : Int) + 2) % 4) := r3
  have HR5 : Hid ((quietK (s + 1)).flows (4 * s) (60 + b) = (Kf, 4 * s + (60 + b), true)) := r5
  have HR6 : Hid (Kf.over = false ∧ Kf.agree = true) := ⟨r6, r7⟩
  have HR8 : Hid (∀ k, k < 4 → (Kf.was k).log.length ≠ 0 ∧ (s : Int) + 2 + 4 < (Kf.was k).view) := r8
  clear r1 r2 r3 r4 r5 r6 r7 r8 ht hrok
  have hsI : (s : Int) ≤ 29 := by omega
  have hs0 : (0 : Int) ≤ (s : Int) := by omega
  have hbI : (b : Int) ≤ 59 := by omega
  have hb0 : (0 : Int) ≤ (b : Int) := by omega
  go_enter Tryd.func7, Tryd.ntmps7
  go_upto_region 2 with (go_at_call 10; refine HAW.out.mono ?_; rintro e w1 ⟨rfl, hb1⟩; have HB1 : Hid (Below w.heap.size w w1) := hb1; clear hb1)
  have HT1 : Hid (Tab w1) := HT.out.below HB1.out
  go_upto_region 3 with (go_at_call 19; refine (HBG.out w1 HT1.out).mono ?_; rintro e w2 ⟨p, A, ps, rfl, hs2, hn2, hb2⟩; have HS : Hid (KSit w2 p A ps (quietK 0)) := hs2; have HN : Hid (∀ b, UA A b → w1.heap.size ≤ b) := hn2; have HB2 : Hid (Below w1.heap.size w1 w2) := hb2; clear hs2 hn2 hb2)
  have HK0 : Hid (KOk (quietK 0) 1) := begins_kok (-1) 1 (by decide) (by decide)
  have HBE : Hid (Below w.heap.size w w2) := bnext HB1.out HB2.out
  have HNE : Hid (∀ b, UA A b → w.heap.size ≤ b) := fun b hb => Nat.le_trans HB1.out.size (HN.out b hb)
  clear HAW HBG HT HT1 HB1 HB2 HN
  go_upto_region 6 with (go_at_call 13; refine (HP1.out _).mono ?_; rintro e w9 ⟨rfl, rfl⟩)
  clear HP1
  go_wp2
  go_loopw [7, 8] (fun oo ii wr => ∃ (i : Nat) (A1 : Nat → Nat → Prop), i ≤ s + 1 ∧ oo = .bool true ∧ ii = .int .i64 i ∧ Hid (KSit wr p A1 ps (quietK i) ∧ Grow (UA A) w2 (UA A1) ∧ Fr (UA A) w2 wr) ∧ Hid (KOk (quietK i) (1 + 8 * i))) (fun _ ii _ => s + 1 - (intOf ii).toNat)
  case atStart => exact ⟨0, A, by omega, rfl, rfl, ⟨HS.out, Grow.refl _ _, Fr.refl _ _⟩, HK0.out⟩
  case round =>
    clear HS HK0
    obtain ⟨i, A1, hi, rfl, rfl, hS, hO⟩ := hrel
    have hi0 : (0 : Int) ≤ (i : Int) := by omega
    by_cases his : i ≤ s
    · have hiI : (i : Int) ≤ (s : Int) := by omega
      have HQS : Hid ((quietK i).allTick 4 0 = (quietK (i + 1), true)) := quiet_step i (by omega)
      obtain ⟨Kn, hKn⟩ : ∃ K, K = quietK (i + 1) := ⟨_, rfl⟩
      have HKn : Hid (quietK (i + 1) = Kn) := hKn.symm
      rw [← hKn] at HQS
      clear hKn
      generalize quietK i = Ki at HQS hS hO
      go_wp2
      go_loopw [7, 9] (fun oo kk wq => ∃ (k : Nat) (A2 : Nat → Nat → Prop) (K : Clu), k ≤ 4 ∧ oo = .bool true ∧ kk = .int .i64 k ∧ Hid (KSit wq p A2 ps K ∧ Grow (UA A) w2 (UA A2) ∧ Fr (UA A) w2 wq) ∧ Hid (KOk K (1 + 8 * i + 2 * k)) ∧ Hid (K.allTick (4 - k) k = (Kn, true))) (fun _ kk _ => 4 - (intOf kk).toNat)
      case atStart => exact ⟨0, A1, Ki, by omega, rfl, rfl, hS.out, hO.out, HQS.out⟩
      case round =>
        clear hS hO HQS
        obtain ⟨k, A2, K, hk, rfl, rfl, hS, hO, hE⟩ := hrel
        have hk0 : (0 : Int) ≤ (k : Int) := by omega
        by_cases hk4 : k < 4
        · have hkI : (k : Int) < 4 := by omega
          have hst : (K.ticks k).2 = true ∧ (K.ticks k).1.allTick (4 - (k + 1)) (k + 1) = (Kn, true) := by
            have h1 := hE.out
            rw [show 4 - k = (4 - (k + 1)) + 1 by omega, allTick_step] at h1
            cases hb : (K.ticks k).2 with
            | true => rw [hb] at h1; exact ⟨rfl, h1⟩
            | false => rw [hb] at h1; rw [show (if false = true then _ else K.ticks k) = K.ticks k from rfl] at h1; rw [h1] at hb; cases hb
          have HH : Hid (Calls Tryd.prog 22 #[.pointer (some ⟨p, 0, none⟩), .agg #[.int .i64 1, .int .i64 k, .int .i64 0]] wr fun e w' => e = .returned (.bool true) ∧ KGoes wr w' p A2 ps (K.ticks k).1) := by
            have h1 := khappens1 wr p A2 ps K hS.out.1 _ hO.out (by omega) k 0 (by omega) (by omega)
            rw [pick_small hk4, hst.1] at h1
            exact h1
          have HO2 : Hid (KOk (K.ticks k).1 (1 + 8 * i + 2 * (k + 1))) := ticks_kok hO.out hk4
          have HE2 : Hid ((K.ticks k).1.allTick (4 - (k + 1)) (k + 1) = (Kn, true)) := hst.2
          clear hE hst
          generalize (K.ticks k).1 = K2 at *
          go_wp2_with (go_at_call 22; refine HH.out.mono ?_; rintro e w3 ⟨rfl, hg3⟩; have HG3 : Hid (KGoes wr w3 p A2 ps K2) := hg3; clear hg3)
          go_roundw
          case rel =>
            obtain ⟨A3, z1, z2⟩ := HG3.out.ex
            exact ⟨k + 1, A3, K2, by omega, rfl, by go_num, ⟨z1, hS.out.2.1.trans hS.out.2.2.size z2, hS.out.2.2.grow hS.out.2.1 HG3.out.fr⟩, HO2.out, HE2.out⟩
          case measure => simp [intOf]; omega
        · have hkI : ¬ (k : Int) < 4 := by omega
          have hke : k = 4 := by omega
          subst hke
          have HKe : Hid (K = Kn) := congrArg Prod.fst hE.out
          go_wp2
          go_roundw
          case rel => exact ⟨i + 1, A2, by omega, rfl, by go_num, by rw [HKn.out, ← HKe.out]; exact hS.out, by rw [HKn.out, ← HKe.out]; exact hO.out.mono (by omega)⟩
          case measure => simp [intOf]; omega
    · have hiI : ¬ (i : Int) ≤ (s : Int) := by omega
      have hie : i = s + 1 := by omega
      subst hie
      generalize quietK (s + 1) = K at *
      have v0 := (hS.out.1.vcells 0 (by omega)).1
      rw [(HR2.out 0 (by omega)).2] at v0
      obtain ⟨al, cl, q2, hrow⟩ := hS.out.1.lcells
      obtain ⟨N, hN⟩ : ∃ N, N = K.letters.length := ⟨_, rfl⟩
      rw [← hN] at q2
      have hN4 : N = 4 * (s + 1) := hN.trans HR1.out
      obtain ⟨a, ha⟩ : ∃ a, a = 4 * s := ⟨_, rfl⟩
      have hNa : (N : Int) - 4 = (a : Int) := by omega
      have HNA : Hid ((N : Int) - 4 = (a : Int)) := hNa
      have hN0 : (4 : Int) ≤ (N : Int) := by omega
      have hN1 : (N : Int) ≤ 120 := by omega
      have HA4 : Hid (a = 4 * s ∧ N = a + 4) := ⟨ha, by omega⟩
      have HNL : Hid (N = K.letters.length) := hN
      have HRW : Hid (Row wr (A1 0) 42 20 (.slice al K.letters.length cl) K.letters.length (K.letters.flatMap Ltr.cells)) := hrow
      obtain ⟨g, off, rfl, _, _, hcl⟩ := hrow.place (by omega)
      clear hN hN4 ha hNa hrow
      go_upto_region 16 with fail
      go_wp2
      go_loopw [11] (fun kk w' => ∃ (j : Nat), j ≤ 4 ∧ kk = .int .i64 j ∧ Hid (w' = wr)) (fun kk _ => 4 - (intOf kk).toNat)
      case atStart => exact ⟨0, by omega, rfl, rfl⟩
      case round =>
        obtain ⟨j, hj, rfl, hw3⟩ := hrel
        obtain rfl := hw3.out
        have hj0 : (0 : Int) ≤ (j : Int) := by omega
        by_cases hj4 : j < 4
        · have hjI : (j : Int) < 4 := by omega
          obtain ⟨av, cap, hwc, _⟩ := hS.out.1.wcells j hj4
          have hwv := (hS.out.1.vcells j hj4).1
          rw [(HR2.out j hj4).1] at hwc
          rw [(HR2.out j hj4).2] at hwv
          go_wp2
          go_roundw
          case rel => exact ⟨j + 1, by omega, by go_num, by first | exact trivial | exact rfl⟩
          case measure => simp [intOf]; omega
        · have hjI : ¬ (j : Int) < 4 := by omega
          go_upto_region 22 with fail
          rw [HNA.out]
          go_wp2
          go_loopw [13] (fun kk w' => ∃ (j : Nat), a ≤ j ∧ j ≤ N ∧ kk = .int .i64 j ∧ Hid (w' = wr)) (fun kk _ => N - (intOf kk).toNat)
          case atStart => exact ⟨a, by omega, by have := HA4.out; omega, rfl, rfl⟩
          case round =>
            obtain ⟨j, hja, hjN, rfl, hw3⟩ := hrel
            obtain rfl := hw3.out
            have hj0 : (0 : Int) ≤ (j : Int) := by omega
            by_cases hjl : j < N
            · have hjI : (j : Int) < (N : Int) := by omega
              have hjK : j < K.letters.length := by rw [← HNL.out]; exact hjl
              obtain ⟨k1, k2, k3⟩ := HR3.out j hjK (by have := HA4.out; omega)
              have f20 : ∀ l : Ltr, l.cells.length = 20 := fun _ => rfl
              have e0 := HRW.out.elem f20 j 0 hjK (by omega)
              have e1 := HRW.out.elem f20 j 1 hjK (by omega)
              have e3 := HRW.out.elem f20 j 3 hjK (by omega)
              generalize K.letters[j] = l at k1 k2 k3 e0 e1 e3
              obtain ⟨l0, ⟨xk, xf, xv, bl, nu, ct, sl⟩⟩ := l
              dsimp only at k1 k2 k3
              rw [← Int.tmod_eq_emod_of_nonneg (by omega)] at k3
              subst k1 k2 k3
              have c0 : wr.cell? ⟨g, off + j * 20, none⟩ = some (.int .i64 (((s : Int) + 2).tmod 4)) := e0
              have c1 : wr.cell? ⟨g, off + j * 20 + 1, none⟩ = some (.int .i64 3) := by rw [Nat.add_assoc]; exact e1
              have c3 : wr.cell? ⟨g, off + j * 20 + 3, none⟩ = some (.int .i64 ((s : Int) + 2)) := by rw [Nat.add_assoc]; exact e3
              clear e0 e1 e3 f20
              go_wp2
              go_roundw
              case rel => exact ⟨j + 1, by omega, by omega, by go_num, by first | exact trivial | exact rfl⟩
              case measure => simp [intOf]; omega
            · have hjI : ¬ (j : Int) < (N : Int) := by omega
              have HF : Hid (Calls Tryd.prog 23 #[.pointer (some ⟨p, 0, none⟩), .int .i64 a, .int .i64 (60 + (b : Int))] wr fun e w' => (∃ n : Int, e = .returned (.tuple #[.int .i64 n, .bool true])) ∧ KGoes wr w' p A1 ps Kf ∧ KOk Kf (2000)) := by
                have h1 := kflows wr p A1 ps K hS.out.1 _ hO.out (4 * s) (60 + b) (by omega) (by omega)
                rw [HR5.out] at h1
                have e1 : ((60 + b : Nat) : Int) = 60 + (b : Int) := by omega
                have e2 : ((4 * s : Nat) : Int) = (a : Int) := by have := HA4.out; omega
                rw [e1, e2] at h1
                exact h1.mono (fun e w' h => ⟨⟨_, h.1⟩, h.2.1, h.2.2.mono (by omega)⟩)
              clear HR5 HR3 HRW
              go_upto_region 28 with (first | (go_at_call 13; refine (HP2.out _).mono ?_; rintro e w9 ⟨rfl, rfl⟩) | (go_at_call 23; refine HF.out.mono ?_; rintro e w3 ⟨⟨nn, rfl⟩, hg3, hok3⟩; have HG3 : Hid (KGoes wr w3 p A1 ps Kf) := hg3; have HO3 : Hid (KOk Kf 2000) := hok3; clear hg3 hok3))
              have HBB : Hid (Below w.heap.size w w3) := kbelow HBE.out (hS.out.2.2.grow hS.out.2.1 HG3.out.fr) HNE.out
              obtain ⟨A3, hs3, _⟩ := HG3.out.ex
              have HS3 : Hid (KSit w3 p A3 ps Kf) := hs3
              have hov := hs3.over
              rw [HR6.out.1] at hov
              have HAG : Hid (Calls Tryd.prog 24 #[.pointer (some ⟨p, 0, none⟩)] w3 fun e w' => e = .returned (.bool true) ∧ Below w3.heap.size w3 w') := by
                have h1 := kagree w3 p A3 ps Kf hs3 (fun k => by have := HO3.out.wl k; omega)
                rw [HR6.out.2] at h1
                exact h1
              clear hs3 HG3 HF hS q2 v0
              go_wp2
              go_loopw [16] (fun kk w' => ∃ (j : Nat), j ≤ 4 ∧ kk = .int .i64 j ∧ Hid (w' = w3)) (fun kk _ => 4 - (intOf kk).toNat)
              case atStart => exact ⟨0, by omega, rfl, rfl⟩
              case round =>
                obtain ⟨j, hj, rfl, hw3⟩ := hrel
                obtain rfl := hw3.out
                have hj0 : (0 : Int) ≤ (j : Int) := by omega
                by_cases hj4 : j < 4
                · have hjI : (j : Int) < 4 := by omega
                  obtain ⟨av, cap, hwc, _⟩ := HS3.out.wcells j hj4
                  have hwv := (HS3.out.vcells j hj4).1
                  obtain ⟨g1, g2⟩ := HR8.out j hj4
                  generalize (Kf.was j).log.length = ln at hwc g1
                  generalize (Kf.was j).view = lv at hwv g2
                  have hl1 : ((ln : Int) == 0) = false := beq_eq_false_iff_ne.2 (by omega)
                  have hv1 : ¬ lv ≤ (s : Int) + 2 + 4 := by omega
                  clear g1 g2
                  go_wp2
                  go_roundw
                  case rel => exact ⟨j + 1, by omega, by go_num, by first | exact trivial | exact rfl⟩
                  case measure => simp [intOf]; omega
                · have hjI : ¬ (j : Int) < 4 := by omega
                  go_wp2_with (go_at_call 24; refine HAG.out.mono ?_; rintro e w4 ⟨rfl, hb4⟩; have HB4 : Hid (Below wr.heap.size wr w4) := hb4; clear hb4)
                  go_ret
                  exact ⟨rfl, bnext HBB.out HB4.out⟩
end Go.Proofs.YtkehpnobidendaaDoor

namespace Go.Proofs.YtkehpnobidendaaDoor
open Go.RowKit
attribute [local go_sem ↓] pload_msg put_msgK
noncomputable def kslE : Code := ((Tryd.f8.body.bind (fromReg 41))).getD .skip
set_option maxRecDepth 1000000 in
set_option maxHeartbeats 8000000 in
theorem ksl_end {y0 y1 y2 y3 y4 y5 y6 y7 y9 y10 y11 y12 y13 y15 y17 y18 y19 y21 y22 y23 y24 y25 y26 y27 y28 y29 y30 y31 y32 y33 y34 y35 y36 y37 y38 y39 y40 y41 y42 y43 y44 y45 y46 y47 y48 y49 y50 y51 y52 y53 y54 y55 y56 y57 y58 y59 y60 y61 y62 y63 y64 y65 y66 y67 y68 y69 y70 y71 y72 y73 y74 y75 y76 y77 y78 y79 y80 y81 y82 y83 y84 y85 y86 y87 y88 y89 y90 y91 y92 y93 y94 y95 y96 y97 y98 y99 y100 y101 y102 y103 y104 y105 y106 y107 y108 y109 y110 y111 y112 y113 y114 y115 y116 y117 y118 y119 y120 y121 y122 y123 y124 y125 y126 y127 y128 y129 y130 y131 y132 y133 y134 y135 y136 y137 y138 y139 y140 y141 y142 y143 y144 y145 y146 y147 y148 y149 y150 y151 y152 y153 y154 y155 y156 y157 y158 y159 y160 y161 y162 y163 y164 y165 y166 y167 y168 y169 y170 y171 y172 y173 y174 y175 y176 y177 y178 y179 y180 y181 y182 y183 y184 y185 y186 y187 y188 y189 y190 y191 y192 y193 y194 y195 y196 y197 y198 y199 y200 y201 y202 y203 y204 y205 y206 y207 y208 y209 y210 y211 y212 y213 y214 y215 y216 y217 y218 y219 y220 y221 y222 y223 y224 y225 y226 y227 y228 y229 y230 y231 y232 y233 y234 y235 y236 y237 y238 y239 y240 y241 y242 y243 y244 y245 y246 y247 y248 y249 y250 y251 y252 y253 y254 y255 y256 y257 y258 y259 y260 y261 y262 y263 y264 y265 y266 y267 y268 y269 y270 y271 y272 y273 y274 y275 y276 y277 : Value} {p k B1 : Nat} {w4 : World} {A4 : Nat → Nat → Prop} {ps : List (Option Nat)} {KK : Clu} {m : Mem} {av : Option Addr} {cap : Nat} {Q : Exit → Act → World → Prop}
    (HS4 : Hid (KSit w4 p A4 ps KK)) (HO3 : Hid (KOk KK 300)) (hk4 : k < 4) (HM : Hid (KK.memAt k = some m ∧ KK.was k = m.sta ∧ m.sta.grows m.sta = true))
    (HX1 : Hid (w4.heap[B1]? = some (.cells #[.int .i64 (KK.was k).view, .int .i64 (KK.was k).high, .int .i64 (KK.was k).locked, .slice av (KK.was k).log.length cap] 58 (0, 0)))) (HN1 : Hid (¬ UA A4 B1))
    (HRE : Hid (∀ {v27 v28 v29 v233 v234 v235 v236 v237 v238 v239 v240 v241 v242 v243 v244 v245 v246 v247 v248 v249 v250 v251 v252 v253 v254 v255 v256 v257 v258 v259 v260 v261 v262 v263 v264 v265 v266 v267 v268 v269 v270 v271 v272 v273 v274 v275 v276 v277 : Value} {w' : World}, Fr (UA A4) w4 w' → Q .ret ⟨List.toArray (y0 :: y1 :: y2 :: y3 :: y4 :: y5 :: .bool true :: y7 :: .pointer (some ⟨p, 0, none⟩) :: y9 :: y10 :: y11 :: y12 :: y13 :: .int .i64 (k : Int) :: y15 :: .pointer (some ⟨B1, 0, none⟩) :: y17 :: y18 :: y19 :: .bool false :: y21 :: y22 :: y23 :: y24 :: y25 :: y26 :: v27 :: v28 :: v29 :: y30 :: y31 :: y32 :: y33 :: y34 :: y35 :: y36 :: y37 :: y38 :: y39 :: y40 :: y41 :: y42 :: y43 :: y44 :: y45 :: y46 :: y47 :: y48 :: y49 :: y50 :: y51 :: y52 :: y53 :: y54 :: y55 :: y56 :: y57 :: y58 :: y59 :: y60 :: y61 :: y62 :: y63 :: y64 :: y65 :: y66 :: y67 :: y68 :: y69 :: y70 :: y71 :: y72 :: y73 :: y74 :: y75 :: y76 :: y77 :: y78 :: y79 :: y80 :: y81 :: y82 :: y83 :: y84 :: y85 :: y86 :: y87 :: y88 :: y89 :: y90 :: y91 :: y92 :: y93 :: y94 :: y95 :: y96 :: y97 :: y98 :: y99 :: y100 :: y101 :: y102 :: y103 :: y104 :: y105 :: y106 :: y107 :: y108 :: y109 :: y110 :: y111 :: y112 :: y113 :: y114 :: y115 :: y116 :: y117 :: y118 :: y119 :: y120 :: y121 :: y122 :: y123 :: y124 :: y125 :: y126 :: y127 :: y128 :: y129 :: y130 :: y131 :: y132 :: y133 :: y134 :: y135 :: y136 :: y137 :: y138 :: y139 :: y140 :: y141 :: y142 :: y143 :: y144 :: y145 :: y146 :: y147 :: y148 :: y149 :: y150 :: y151 :: y152 :: y153 :: y154 :: y155 :: y156 :: y157 :: y158 :: y159 :: y160 :: y161 :: y162 :: y163 :: y164 :: y165 :: y166 :: y167 :: y168 :: y169 :: y170 :: y171 :: y172 :: y173 :: y174 :: y175 :: y176 :: y177 :: y178 :: y179 :: y180 :: y181 :: y182 :: y183 :: y184 :: y185 :: y186 :: y187 :: y188 :: y189 :: y190 :: y191 :: y192 :: y193 :: y194 :: y195 :: y196 :: y197 :: y198 :: y199 :: y200 :: y201 :: y202 :: y203 :: y204 :: y205 :: y206 :: y207 :: y208 :: y209 :: y210 :: y211 :: y212 :: y213 :: y214 :: y215 :: y216 :: y217 :: y218 :: y219 :: y220 :: y221 :: y222 :: y223 :: y224 :: y225 :: y226 :: y227 :: y228 :: y229 :: y230 :: y231 :: y232 :: v233 :: v234 :: v235 :: v236 :: v237 :: v238 :: v239 :: v240 :: v241 :: v242 :: v243 :: v244 :: v245 :: v246 :: v247 :: v248 :: v249 :: v250 :: v251 :: v252 :: v253 :: v254 :: v255 :: v256 :: v257 :: v258 :: v259 :: v260 :: v261 :: v262 :: v263 :: v264 :: v265 :: v266 :: v267 :: v268 :: v269 :: v270 :: v271 :: v272 :: v273 :: v274 :: v275 :: v276 :: v277 :: []), []⟩ w')) :
    Code.wp Tryd.prog kslE Q ⟨List.toArray (y0 :: y1 :: y2 :: y3 :: y4 :: y5 :: y6 :: y7 :: .pointer (some ⟨p, 0, none⟩) :: y9 :: y10 :: y11 :: y12 :: y13 :: .int .i64 (k : Int) :: y15 :: .pointer (some ⟨B1, 0, none⟩) :: y17 :: y18 :: y19 :: .bool false :: y21 :: y22 :: y23 :: y24 :: y25 :: y26 :: y27 :: y28 :: y29 :: y30 :: y31 :: y32 :: y33 :: y34 :: y35 :: y36 :: y37 :: y38 :: y39 :: y40 :: y41 :: y42 :: y43 :: y44 :: y45 :: y46 :: y47 :: y48 :: y49 :: y50 :: y51 :: y52 :: y53 :: y54 :: y55 :: y56 :: y57 :: y58 :: y59 :: y60 :: y61 :: y62 :: y63 :: y64 :: y65 :: y66 :: y67 :: y68 :: y69 :: y70 :: y71 :: y72 :: y73 :: y74 :: y75 :: y76 :: y77 :: y78 :: y79 :: y80 :: y81 :: y82 :: y83 :: y84 :: y85 :: y86 :: y87 :: y88 :: y89 :: y90 :: y91 :: y92 :: y93 :: y94 :: y95 :: y96 :: y97 :: y98 :: y99 :: y100 :: y101 :: y102 :: y103 :: y104 :: y105 :: y106 :: y107 :: y108 :: y109 :: y110 :: y111 :: y112 :: y113 :: y114 :: y115 :: y116 :: y117 :: y118 :: y119 :: y120 :: y121 :: y122 :: y123 :: y124 :: y125 :: y126 :: y127 :: y128 :: y129 :: y130 :: y131 :: y132 :: y133 :: y134 :: y135 :: y136 :: y137 :: y138 :: y139 :: y140 :: y141 :: y142 :: y143 :: y144 :: y145 :: y146 :: y147 :: y148 :: y149 :: y150 :: y151 :: y152 :: y153 :: y154 :: y155 :: y156 :: y157 :: y158 :: y159 :: y160 :: y161 :: y162 :: y163 :: y164 :: y165 :: y166 :: y167 :: y168 :: y169 :: y170 :: y171 :: y172 :: y173 :: y174 :: y175 :: y176 :: y177 :: y178 :: y179 :: y180 :: y181 :: y182 :: y183 :: y184 :: y185 :: y186 :: y187 :: y188 :: y189 :: y190 :: y191 :: y192 :: y193 :: y194 :: y195 :: y196 :: y197 :: y198 :: y199 :: y200 :: y201 :: y202 :: y203 :: y204 :: y205 :: y206 :: y207 :: y208 :: y209 :: y210 :: y211 :: y212 :: y213 :: y214 :: y215 :: y216 :: y217 :: y218 :: y219 :: y220 :: y221 :: y222 :: y223 :: y224 :: y225 :: y226 :: y227 :: y228 :: y229 :: y230 :: y231 :: y232 :: y233 :: y234 :: y235 :: y236 :: y237 :: y238 :: y239 :: y240 :: y241 :: y242 :: y243 :: y244 :: y245 :: y246 :: y247 :: y248 :: y249 :: y250 :: y251 :: y252 :: y253 :: y254 :: y255 :: y256 :: y257 :: y258 :: y259 :: y260 :: y261 :: y262 :: y263 :: y264 :: y265 :: y266 :: y267 :: y268 :: y269 :: y270 :: y271 :: y272 :: y273 :: y274 :: y275 :: y276 :: y277 :: []), []⟩ w4 := by
  conv => arg 2; whnf
  have hk0 : (0 : Int) ≤ (k : Int) := by omega
  have hkI : (k : Int) < 4 := by omega
  have HST : Hid (Calls Tryd.prog 26 #[.pointer (some ⟨p, 0, none⟩), .int .i64 k] w4 fun e w' => e = .returned (.bool true) ∧ KGoes w4 w' p A4 ps KK) := ksteady_same HS4.out HO3.out (by omega) hk4 HM.out.1 HM.out.2.1 HM.out.2.2
  go_upto_region 42 with (go_at_call 26; refine HST.out.mono ?_; rintro e w7 ⟨rfl, hg7⟩; have HG7 : Hid (KGoes w4 w7 p A4 ps KK) := hg7; clear hg7)
  obtain ⟨A7, hs7, _⟩ := HG7.out.ex
  obtain ⟨v1, v2, v3⟩ := hs7.vcells k hk4
  obtain ⟨av2, cap2, v4, _⟩ := hs7.wcells k hk4
  have hbx := (HG7.out.fr.block B1 (lt_at HX1.out) HN1.out).trans HX1.out
  have hB2 : B1 < w7.heap.size := lt_at hbx
  have HBL : Hid (∀ o : Obj, (w7.alloc o).cell? ⟨B1, 0, none⟩ = some (.int .i64 (KK.was k).view) ∧ (w7.alloc o).cell? ⟨B1, 1, none⟩ = some (.int .i64 (KK.was k).high) ∧ (w7.alloc o).cell? ⟨B1, 2, none⟩ = some (.int .i64 (KK.was k).locked) ∧ (w7.alloc o).cell? ⟨B1, 3, none⟩ = some (.slice av (KK.was k).log.length cap)) := fun o =>
    ⟨(Below.cell (p := ⟨B1, 0, none⟩) (below_alloc w7 o) hB2).trans (cell_at hbx 0), (Below.cell (p := ⟨B1, 1, none⟩) (below_alloc w7 o) hB2).trans (cell_at hbx 1), (Below.cell (p := ⟨B1, 2, none⟩) (below_alloc w7 o) hB2).trans (cell_at hbx 2), (Below.cell (p := ⟨B1, 3, none⟩) (below_alloc w7 o) hB2).trans (cell_at hbx 3)⟩
  clear hs7 HST hbx
  go_upto_region 43 with fail
  obtain ⟨z0, z1, z2, z3⟩ := HBL.out (.cells #[.int .i64 (KK.was k).view, .int .i64 (KK.was k).high, .int .i64 (KK.was k).locked, .slice av2 (KK.was k).log.length cap2] 58)
  clear v1 v2 v3 v4 HBL
  go_wp2
  exact HRE.out (HG7.out.fr.trans (Fr.of_below (below_alloc _ _)) (fun _ h => .inl h))
noncomputable def kslT : Code := ((Tryd.f8.body.bind (fromReg 21))).getD .skip
set_option maxRecDepth 1000000 in
set_option maxHeartbeats 8000000 in
theorem ksl_tail {y1 y3 y4 y5 y6 y7 y9 y10 y11 y12 y17 y18 y19 y20 y21 y22 y23 y24 y25 y26 y27 y28 y29 y30 y31 y32 y33 y34 y35 y36 y37 y38 y39 y40 y41 y42 y43 y44 y45 y46 y47 y48 y49 y50 y51 y52 y53 y54 y55 y56 y57 y58 y59 y60 y61 y62 y63 y64 y65 y66 y67 y68 y69 y70 y71 y72 y73 y74 y75 y76 y77 y78 y79 y80 y81 y82 y83 y84 y85 y86 y87 y88 y89 y90 y91 y92 y93 y94 y95 y96 y97 y98 y99 y100 y101 y102 y103 y104 y105 y106 y107 y108 y109 y110 y111 y112 y113 y114 y115 y116 y117 y118 y119 y120 y121 y122 y123 y124 y125 y126 y127 y128 y129 y130 y131 y132 y133 y134 y135 y136 y137 y138 y139 y140 y141 y142 y143 y144 y145 y146 y147 y148 y149 y150 y151 y152 y153 y154 y155 y156 y157 y158 y159 y160 y161 y162 y163 y164 y165 y166 y167 y168 y169 y170 y171 y172 y173 y174 y175 y176 y177 y178 y179 y180 y181 y182 y183 y184 y185 y186 y187 y188 y189 y190 y191 y192 y193 y194 y195 y196 y197 y198 y199 y200 y201 y202 y203 y204 y205 y206 y207 y208 y209 y210 y211 y212 y213 y214 y215 y216 y217 y218 y219 y220 y221 y222 y223 y224 y225 y226 y227 y228 y229 y230 y231 y232 y233 y234 y235 y236 y237 y238 y239 y240 y241 y242 y243 y244 y245 y246 y247 y248 y249 y250 y251 y252 y253 y254 y255 y256 y257 y258 y259 y260 y261 y262 y263 y264 y265 y266 y267 y268 y269 y270 y271 y272 y273 y274 y275 y276 y277 : Value} {of1 se l0 xk xf xv bv jv j0 j1 j2 j3 cv k0 k1 k2 k3 sl : Int} {jb nu cb B B1 pm p k : Nat} {bc : ByteArray} {Y : World} {A3 : Nat → Nat → Prop} {ps : List (Option Nat)} {KK : Clu} {m : Mem} {av : Option Addr} {cap : Nat} {Q : Exit → Act → World → Prop}
    (hwq : IntKind.i64.wrap (se.tdiv 4) = se.tdiv 4) (HPG : Hid (∀ (c : Int) (W : World), (c = se ∨ c = se.tdiv 4) → Calls Tryd.prog 13 #[.int .i64 c, .int .i64 4] W fun e w' => e = .returned (.int .i64 (pickN c 4)) ∧ W = w'))
    (HXR : Hid (bits BinOp.xor IntKind.u64 sl of1 ≠ sl))
    (HLM : Hid (∀ W, W.heap[B]? = Y.heap[B]? → (∀ j v, ([.int .i64 l0, .int .i64 xk, .int .i64 xf, .int .i64 xv, .int .i64 bv, .int .i64 jv, .int .u64 jb, .int .u64 j0, .int .u64 j1, .int .u64 j2, .int .u64 j3, .string bc, .int .u64 nu, .int .i64 cv, .int .u64 cb, .int .u64 k0, .int .u64 k1, .int .u64 k2, .int .u64 k3, .int .u64 sl] : List Value)[j]? = some v → W.cell? ⟨B, j, none⟩ = some v) ∧ (rowVar 40 ⟨B, 1, none⟩).run Tryd.prog W = .ok (.agg #[.int .i64 xk, .int .i64 xf, .int .i64 xv, .int .i64 bv, .int .i64 jv, .int .u64 jb, .int .u64 j0, .int .u64 j1, .int .u64 j2, .int .u64 j3, .string bc, .int .u64 nu, .int .i64 cv, .int .u64 cb, .int .u64 k0, .int .u64 k1, .int .u64 k2, .int .u64 k3, .int .u64 sl]) W))
    (HCY : Hid (Y.heap[B1]? = some (.cells #[.int .i64 (KK.was k).view, .int .i64 (KK.was k).high, .int .i64 (KK.was k).locked, .slice av (KK.was k).log.length cap] 58 (0, 0)))) (HN1 : Hid (¬ UA A3 B1)) (HNB : Hid (¬ UA A3 B)) (HZB : Hid (B < Y.heap.size)) (HKY : Hid (KSit Y p A3 ps KK)) (HO3 : Hid (KOk KK 300)) (hk4 : k < 4) (HPM : Hid (ps.getD k none = some pm))
    (HM : Hid (KK.memAt k = some m ∧ m.may = false ∧ KK.was k = m.sta ∧ m.sta.grows m.sta = true)) (HM5 : Hid ((m.takes ⟨xk, xf, xv, ⟨bv, ⟨jv, jb, j0, j1, j2, j3⟩, bc⟩, nu, ⟨cv, cb, k0, k1, k2, k3⟩, sl⟩).2.2 ≠ 1 ∧ (m.takes ⟨xk, xf, xv, ⟨bv, ⟨jv, jb, j0, j1, j2, j3⟩, bc⟩, nu, ⟨cv, cb, k0, k1, k2, k3⟩, sl⟩).2.2 ≠ 2)) (HM7 : Hid (xk = 1 ∧ 1 < xv → 1 ≤ jv ∧ ∀ j : Nat, j < 4 → sealOf j 2 jv jb ≠ 0)) (HXO : Hid (Msg.Ok ⟨xk, xf, xv, ⟨bv, ⟨jv, jb, j0, j1, j2, j3⟩, bc⟩, nu, ⟨cv, cb, k0, k1, k2, k3⟩, sl⟩))
    (HRE : Hid (∀ {v17 v18 v19 v20 v21 v22 v23 v24 v25 v26 v27 v28 v29 v107 v108 v109 v110 v111 v112 v113 v114 v115 v116 v117 v118 v119 v120 v121 v122 v123 v124 v125 v126 v127 v128 v129 v130 v131 v132 v133 v134 v135 v136 v137 v138 v139 v140 v141 v142 v143 v144 v145 v146 v147 v148 v149 v150 v151 v152 v153 v154 v155 v156 v157 v158 v159 v160 v161 v162 v163 v164 v165 v166 v167 v168 v169 v170 v171 v172 v173 v174 v175 v176 v177 v178 v179 v180 v181 v182 v183 v184 v185 v186 v187 v188 v189 v190 v191 v192 v193 v194 v195 v196 v197 v198 v199 v200 v201 v202 v203 v204 v205 v206 v207 v208 v209 v210 v211 v212 v213 v214 v215 v216 v217 v218 v219 v220 v221 v222 v223 v224 v225 v226 v227 v228 v229 v230 v231 v232 v233 v234 v235 v236 v237 v238 v239 v240 v241 v242 v243 v244 v245 v246 v247 v248 v249 v250 v251 v252 v253 v254 v255 v256 v257 v258 v259 v260 v261 v262 v263 v264 v265 v266 v267 v268 v269 v270 v271 v272 v273 v274 v275 v276 v277 : Value} {w' : World}, Fr (UA A3) Y w' → Q .ret ⟨List.toArray (.int .u64 of1 :: y1 :: .int .i64 se :: y3 :: y4 :: y5 :: .bool true :: y7 :: .pointer (some ⟨p, 0, none⟩) :: y9 :: y10 :: y11 :: y12 :: .pointer (some ⟨B, 0, none⟩) :: .int .i64 (k : Int) :: .pointer (some ⟨pm, 0, none⟩) :: .pointer (some ⟨B1, 0, none⟩) :: v17 :: v18 :: v19 :: v20 :: v21 :: v22 :: v23 :: v24 :: v25 :: v26 :: v27 :: v28 :: v29 :: y30 :: y31 :: y32 :: y33 :: y34 :: y35 :: y36 :: y37 :: y38 :: y39 :: y40 :: y41 :: y42 :: y43 :: y44 :: y45 :: y46 :: y47 :: y48 :: y49 :: y50 :: y51 :: y52 :: y53 :: y54 :: y55 :: y56 :: y57 :: y58 :: y59 :: y60 :: y61 :: y62 :: y63 :: y64 :: y65 :: y66 :: y67 :: y68 :: y69 :: y70 :: y71 :: y72 :: y73 :: y74 :: y75 :: y76 :: y77 :: y78 :: y79 :: y80 :: y81 :: y82 :: y83 :: y84 :: y85 :: y86 :: y87 :: y88 :: y89 :: y90 :: y91 :: y92 :: y93 :: y94 :: y95 :: y96 :: y97 :: y98 :: y99 :: y100 :: y101 :: y102 :: y103 :: y104 :: y105 :: y106 :: v107 :: v108 :: v109 :: v110 :: v111 :: v112 :: v113 :: v114 :: v115 :: v116 :: v117 :: v118 :: v119 :: v120 :: v121 :: v122 :: v123 :: v124 :: v125 :: v126 :: v127 :: v128 :: v129 :: v130 :: v131 :: v132 :: v133 :: v134 :: v135 :: v136 :: v137 :: v138 :: v139 :: v140 :: v141 :: v142 :: v143 :: v144 :: v145 :: v146 :: v147 :: v148 :: v149 :: v150 :: v151 :: v152 :: v153 :: v154 :: v155 :: v156 :: v157 :: v158 :: v159 :: v160 :: v161 :: v162 :: v163 :: v164 :: v165 :: v166 :: v167 :: v168 :: v169 :: v170 :: v171 :: v172 :: v173 :: v174 :: v175 :: v176 :: v177 :: v178 :: v179 :: v180 :: v181 :: v182 :: v183 :: v184 :: v185 :: v186 :: v187 :: v188 :: v189 :: v190 :: v191 :: v192 :: v193 :: v194 :: v195 :: v196 :: v197 :: v198 :: v199 :: v200 :: v201 :: v202 :: v203 :: v204 :: v205 :: v206 :: v207 :: v208 :: v209 :: v210 :: v211 :: v212 :: v213 :: v214 :: v215 :: v216 :: v217 :: v218 :: v219 :: v220 :: v221 :: v222 :: v223 :: v224 :: v225 :: v226 :: v227 :: v228 :: v229 :: v230 :: v231 :: v232 :: v233 :: v234 :: v235 :: v236 :: v237 :: v238 :: v239 :: v240 :: v241 :: v242 :: v243 :: v244 :: v245 :: v246 :: v247 :: v248 :: v249 :: v250 :: v251 :: v252 :: v253 :: v254 :: v255 :: v256 :: v257 :: v258 :: v259 :: v260 :: v261 :: v262 :: v263 :: v264 :: v265 :: v266 :: v267 :: v268 :: v269 :: v270 :: v271 :: v272 :: v273 :: v274 :: v275 :: v276 :: v277 :: []), []⟩ w')) :
    Code.wp Tryd.prog kslT Q ⟨List.toArray (.int .u64 of1 :: y1 :: .int .i64 se :: y3 :: y4 :: y5 :: y6 :: y7 :: .pointer (some ⟨p, 0, none⟩) :: y9 :: y10 :: y11 :: y12 :: .pointer (some ⟨B, 0, none⟩) :: .int .i64 (k : Int) :: .pointer (some ⟨pm, 0, none⟩) :: .pointer (some ⟨B1, 0, none⟩) :: y17 :: y18 :: y19 :: y20 :: y21 :: y22 :: y23 :: y24 :: y25 :: y26 :: y27 :: y28 :: y29 :: y30 :: y31 :: y32 :: y33 :: y34 :: y35 :: y36 :: y37 :: y38 :: y39 :: y40 :: y41 :: y42 :: y43 :: y44 :: y45 :: y46 :: y47 :: y48 :: y49 :: y50 :: y51 :: y52 :: y53 :: y54 :: y55 :: y56 :: y57 :: y58 :: y59 :: y60 :: y61 :: y62 :: y63 :: y64 :: y65 :: y66 :: y67 :: y68 :: y69 :: y70 :: y71 :: y72 :: y73 :: y74 :: y75 :: y76 :: y77 :: y78 :: y79 :: y80 :: y81 :: y82 :: y83 :: y84 :: y85 :: y86 :: y87 :: y88 :: y89 :: y90 :: y91 :: y92 :: y93 :: y94 :: y95 :: y96 :: y97 :: y98 :: y99 :: y100 :: y101 :: y102 :: y103 :: y104 :: y105 :: y106 :: y107 :: y108 :: y109 :: y110 :: y111 :: y112 :: y113 :: y114 :: y115 :: y116 :: y117 :: y118 :: y119 :: y120 :: y121 :: y122 :: y123 :: y124 :: y125 :: y126 :: y127 :: y128 :: y129 :: y130 :: y131 :: y132 :: y133 :: y134 :: y135 :: y136 :: y137 :: y138 :: y139 :: y140 :: y141 :: y142 :: y143 :: y144 :: y145 :: y146 :: y147 :: y148 :: y149 :: y150 :: y151 :: y152 :: y153 :: y154 :: y155 :: y156 :: y157 :: y158 :: y159 :: y160 :: y161 :: y162 :: y163 :: y164 :: y165 :: y166 :: y167 :: y168 :: y169 :: y170 :: y171 :: y172 :: y173 :: y174 :: y175 :: y176 :: y177 :: y178 :: y179 :: y180 :: y181 :: y182 :: y183 :: y184 :: y185 :: y186 :: y187 :: y188 :: y189 :: y190 :: y191 :: y192 :: y193 :: y194 :: y195 :: y196 :: y197 :: y198 :: y199 :: y200 :: y201 :: y202 :: y203 :: y204 :: y205 :: y206 :: y207 :: y208 :: y209 :: y210 :: y211 :: y212 :: y213 :: y214 :: y215 :: y216 :: y217 :: y218 :: y219 :: y220 :: y221 :: y222 :: y223 :: y224 :: y225 :: y226 :: y227 :: y228 :: y229 :: y230 :: y231 :: y232 :: y233 :: y234 :: y235 :: y236 :: y237 :: y238 :: y239 :: y240 :: y241 :: y242 :: y243 :: y244 :: y245 :: y246 :: y247 :: y248 :: y249 :: y250 :: y251 :: y252 :: y253 :: y254 :: y255 :: y256 :: y257 :: y258 :: y259 :: y260 :: y261 :: y262 :: y263 :: y264 :: y265 :: y266 :: y267 :: y268 :: y269 :: y270 :: y271 :: y272 :: y273 :: y274 :: y275 :: y276 :: y277 :: []), []⟩ Y := by
  conv => arg 2; whnf
  have hlw := (HLM.out Y rfl).2
  have hpu : (rowPut 40 ⟨Y.heap.size, 0, none⟩ (.agg #[.int .i64 xk, .int .i64 xf, .int .i64 xv, .int .i64 bv, .int .i64 jv, .int .u64 jb, .int .u64 j0, .int .u64 j1, .int .u64 j2, .int .u64 j3, .string bc, .int .u64 nu, .int .i64 cv, .int .u64 cb, .int .u64 k0, .int .u64 k1, .int .u64 k2, .int .u64 k3, .int .u64 sl])).run Tryd.prog (Y.alloc (.cells #[.int .i64 0, .int .i64 0, .int .i64 0, .int .i64 0, .int .i64 0, .int .u64 0, .int .u64 0, .int .u64 0, .int .u64 0, .int .u64 0, .string ⟨#[]⟩, .int .u64 0, .int .i64 0, .int .u64 0, .int .u64 0, .int .u64 0, .int .u64 0, .int .u64 0, .int .u64 0] 40)) = .ok () (Y.alloc (.cells #[.int .i64 xk, .int .i64 xf, .int .i64 xv, .int .i64 bv, .int .i64 jv, .int .u64 jb, .int .u64 j0, .int .u64 j1, .int .u64 j2, .int .u64 j3, .string bc, .int .u64 nu, .int .i64 cv, .int .u64 cb, .int .u64 k0, .int .u64 k1, .int .u64 k2, .int .u64 k3, .int .u64 sl] 40)) := (rowPut_mid _ Y.heap.size 0 40 #[.int .i64 xk, .int .i64 xf, .int .i64 xv, .int .i64 bv, .int .i64 jv, .int .u64 jb, .int .u64 j0, .int .u64 j1, .int .u64 j2, .int .u64 j3, .string bc, .int .u64 nu, .int .i64 cv, .int .u64 cb, .int .u64 k0, .int .u64 k1, .int .u64 k2, .int .u64 k3, .int .u64 sl] (start19 Y _ rfl _) (by kernel_rfl) (by simp [Value.oneCell'])).trans (by rw [setCells_new, fill19])
  go_upto_region 23 with fail
  obtain ⟨sx, hsx⟩ : ∃ x, x = bits BinOp.xor IntKind.u64 sl of1 := ⟨_, rfl⟩
  rw [← hsx]
  have HSX : Hid (sx ≠ sl) := by rw [hsx]; exact HXR.out
  clear hsx hlw hpu
  obtain ⟨Y2, hY2⟩ : ∃ Y2, Y2 = Y.alloc (.cells #[.int .i64 xk, .int .i64 xf, .int .i64 xv, .int .i64 bv, .int .i64 jv, .int .u64 jb, .int .u64 j0, .int .u64 j1, .int .u64 j2, .int .u64 j3, .string bc, .int .u64 nu, .int .i64 cv, .int .u64 cb, .int .u64 k0, .int .u64 k1, .int .u64 k2, .int .u64 k3, .int .u64 sx] 40) := ⟨_, rfl⟩
  rw [← hY2]
  have HBY2 : Hid (Below Y.heap.size Y Y2) := by rw [hY2]; exact below_alloc _ _
  have hbx2 : Y2.heap[Y.heap.size]? = some (.cells #[.int .i64 xk, .int .i64 xf, .int .i64 xv, .int .i64 bv, .int .i64 jv, .int .u64 jb, .int .u64 j0, .int .u64 j1, .int .u64 j2, .int .u64 j3, .string bc, .int .u64 nu, .int .i64 cv, .int .u64 cb, .int .u64 k0, .int .u64 k1, .int .u64 k2, .int .u64 k3, .int .u64 sx] 40 (0, 0)) := by rw [hY2]; exact heap_alloc_new Y _
  have hlw2 : (rowVar 40 ⟨Y.heap.size, 0, none⟩).run Tryd.prog Y2 = .ok (.agg #[.int .i64 xk, .int .i64 xf, .int .i64 xv, .int .i64 bv, .int .i64 jv, .int .u64 jb, .int .u64 j0, .int .u64 j1, .int .u64 j2, .int .u64 j3, .string bc, .int .u64 nu, .int .i64 cv, .int .u64 cb, .int .u64 k0, .int .u64 k1, .int .u64 k2, .int .u64 k3, .int .u64 sx]) Y2 := rowVar_whole _ Y.heap.size 40 40 _ (0, 0) _ hbx2 Tryd.underlying40 rfl (by kernel_rfl)
  have HH : Hid (Calls Tryd.prog 25 #[.pointer (some ⟨pm, 0, none⟩), .agg #[.int .i64 xk, .int .i64 xf, .int .i64 xv, .int .i64 bv, .int .i64 jv, .int .u64 jb, .int .u64 j0, .int .u64 j1, .int .u64 j2, .int .u64 j3, .string bc, .int .u64 nu, .int .i64 cv, .int .u64 cb, .int .u64 k0, .int .u64 k1, .int .u64 k2, .int .u64 k3, .int .u64 sx]] Y2 fun e w' => ∃ a cap, e = .returned (.tuple #[.slice a 0 cap, .int .i64 2]) ∧ KGoes Y w' p A3 ps KK) := by
    have h2 : (m.handle ⟨xk, xf, xv, ⟨bv, ⟨jv, jb, j0, j1, j2, j3⟩, bc⟩, nu, ⟨cv, cb, k0, k1, k2, k3⟩, sx⟩).2.2 = 2 := sealed_other (x := ⟨xk, xf, xv, ⟨bv, ⟨jv, jb, j0, j1, j2, j3⟩, bc⟩, nu, ⟨cv, cb, k0, k1, k2, k3⟩, sl⟩) HM5.out.1 HM5.out.2 HSX.out
    refine (krefused (x := ⟨xk, xf, xv, ⟨bv, ⟨jv, jb, j0, j1, j2, j3⟩, bc⟩, nu, ⟨cv, cb, k0, k1, k2, k3⟩, sx⟩) (HKY.out.below HBY2.out) HO3.out (by omega) hk4 HPM.out HM.out.1 ⟨HXO.out.b, HXO.out.n, HXO.out.c⟩ HM.out.2.1 (by rw [h2]; decide)).mono ?_
    rintro e w' ⟨a, cap, he, hg, _⟩
    rw [h2] at he
    exact ⟨a, cap, he, kgoes_below HBY2.out hg⟩
  clear hY2 hbx2
  go_upto_region 24 with (go_at_call 25; refine HH.out.mono ?_; rintro e w4 ⟨a4, cap4, rfl, hg4⟩; have HG4 : Hid (KGoes Y w4 p A3 ps KK) := hg4; clear hg4)
  obtain ⟨A4, hs4, hgr4⟩ := HG4.out.ex
  have HS4 : Hid (KSit w4 p A4 ps KK) := hs4
  have HG4' : Hid (Grow (UA A3) Y (UA A4) ∧ Fr (UA A3) Y w4) := ⟨hgr4, HG4.out.fr⟩
  have HX4 : Hid (w4.heap[B1]? = some (.cells #[.int .i64 (KK.was k).view, .int .i64 (KK.was k).high, .int .i64 (KK.was k).locked, .slice av (KK.was k).log.length cap] 58 (0, 0))) := (HG4.out.fr.block B1 (lt_at HCY.out) HN1.out).trans HCY.out
  have HN4 : Hid (∀ A5 : Nat → Nat → Prop, Grow (UA A3) Y (UA A5) → ¬ UA A5 B1) := fun A5 hg h => by
    have h1 : B1 < Y.heap.size := lt_at HCY.out
    rcases hg B1 h with h2 | h2
    · exact HN1.out h2
    · omega
  obtain ⟨hcB, hlB⟩ := HLM.out w4 (HG4.out.fr.block B HZB.out HNB.out)
  have hB1 : w4.cell? ⟨B, 1, none⟩ = some (.int .i64 xk) := hcB 1 _ rfl
  have hB3 : w4.cell? ⟨B, 3, none⟩ = some (.int .i64 xv) := hcB 3 _ rfl
  clear hs4 hgr4 HG4 HH hlw2 HBY2 hcB
  by_cases e1 : xk = 1
  · have HE1 : Hid (xk = 1) := e1
    have e1b : (xk == 1) = true := beq_iff_eq.2 e1
    clear e1
    by_cases e2 : 1 < xv
    · obtain ⟨hjv, hnz⟩ := HM7.out ⟨HE1.out, e2⟩
      have HJV : Hid (1 ≤ jv) := hjv
      have HNZ : Hid (∀ j : Nat, j < 4 → sealOf j 2 jv jb ≠ 0) := hnz
      clear hjv hnz
      go_upto_if 136 with fail
      refine wp_cond_true rfl ?_
      refine ksl_if hwq HPG hlB HS4 HO3 hk4 HPM ⟨HM.out.1, HM.out.2.1⟩ HXO HM5.out.1 HE1 HJV HNZ ?_
      intro c21 c22 c23 c24 c25 c26 c137 c138 c139 c140 c141 c142 c143 c144 c145 c146 c147 c148 c149 c150 c151 c152 c153 c154 c155 c156 c157 c158 c159 c160 c161 c162 c163 c164 c165 c166 c167 c168 c169 c170 c171 c172 c173 c174 c175 c176 c177 c178 c179 c180 c181 c182 c183 c184 c185 c186 c187 c188 c189 c190 c191 c192 c193 c194 c195 c196 c197 c198 c199 c200 c201 c202 c203 c204 c205 c206 c207 c208 c209 c210 c211 c212 c213 c214 c215 c216 c217 c218 c219 c220 c221 c222 c223 c224 c225 c226 c227 c228 c229 c230 c231 c232 w5 hg5
      simp only [Exit.then]
      obtain ⟨A5, hs5, hgr5⟩ := hg5.ex
      have hg35 : Grow (UA A3) Y (UA A5) := HG4'.out.1.trans HG4'.out.2.size hgr5
      have hf35 : Fr (UA A3) Y w5 := HG4'.out.2.grow HG4'.out.1 hg5.fr
      refine (?kk1 : ∀ (a : Act) (w : World), Code.wp Tryd.prog ?kc1 ?kq1 a w → _) _ _ ?goal1
      case kk1 => assumption
      refine ksl_end (A4 := A5) (m := m) (av := av) (cap := cap) hs5 HO3 hk4 ⟨HM.out.1, HM.out.2.2.1, HM.out.2.2.2⟩ ((hf35.block B1 (lt_at HCY.out) HN1.out).trans HCY.out) (HN4.out A5 hg35) ?_
      intro d27 d28 d29 d233 d234 d235 d236 d237 d238 d239 d240 d241 d242 d243 d244 d245 d246 d247 d248 d249 d250 d251 d252 d253 d254 d255 d256 d257 d258 d259 d260 d261 d262 d263 d264 d265 d266 d267 d268 d269 d270 d271 d272 d273 d274 d275 d276 d277 w' hfr
      exact HRE.out (hf35.grow hg35 hfr)
    · go_upto_if 136 with fail
      refine wp_cond_false rfl ?_
      refine wp_skip ?_
      simp only [Exit.then]
      refine (?kk2 : ∀ (a : Act) (w : World), Code.wp Tryd.prog ?kc2 ?kq2 a w → _) _ _ ?goal2
      case kk2 => assumption
      refine ksl_end (A4 := A4) (m := m) (av := av) (cap := cap) HS4 HO3 hk4 ⟨HM.out.1, HM.out.2.2.1, HM.out.2.2.2⟩ HX4 (HN4.out A4 HG4'.out.1) ?_
      intro d27 d28 d29 d233 d234 d235 d236 d237 d238 d239 d240 d241 d242 d243 d244 d245 d246 d247 d248 d249 d250 d251 d252 d253 d254 d255 d256 d257 d258 d259 d260 d261 d262 d263 d264 d265 d266 d267 d268 d269 d270 d271 d272 d273 d274 d275 d276 d277 w' hfr
      exact HRE.out (HG4'.out.2.grow HG4'.out.1 hfr)
  · have e1b : (xk == 1) = false := beq_eq_false_iff_ne.2 e1
    go_upto_if 136 with fail
    refine wp_cond_false rfl ?_
    refine wp_skip ?_
    simp only [Exit.then]
    refine (?kk3 : ∀ (a : Act) (w : World), Code.wp Tryd.prog ?kc3 ?kq3 a w → _) _ _ ?goal3
    case kk3 => assumption
    refine ksl_end (A4 := A4) (m := m) (av := av) (cap := cap) HS4 HO3 hk4 ⟨HM.out.1, HM.out.2.2.1, HM.out.2.2.2⟩ HX4 (HN4.out A4 HG4'.out.1) ?_
    intro d27 d28 d29 d233 d234 d235 d236 d237 d238 d239 d240 d241 d242 d243 d244 d245 d246 d247 d248 d249 d250 d251 d252 d253 d254 d255 d256 d257 d258 d259 d260 d261 d262 d263 d264 d265 d266 d267 d268 d269 d270 d271 d272 d273 d274 d275 d276 d277 w' hfr
    exact HRE.out (HG4'.out.2.grow HG4'.out.1 hfr)
end Go.Proofs.YtkehpnobidendaaDoor

namespace Go.Proofs.YtkehpnobidendaaDoor
open Go.RowKit
attribute [local go_sem ↓] pload_msg ld_ltr put_ltr

set_option maxRecDepth 100000 in
set_option maxHeartbeats 16000000 in
theorem ksealed (of wh se : Int) (p0 : -9223372036854775808 ≤ wh) (p1 : wh ≤ 9223372036854775807) (t0 : -9223372036854775808 ≤ se) (t1 : se ≤ 9223372036854775807) (w : World) (ht : Tab w) :
    Calls Tryd.prog 8 #[.int .u64 of, .int .i64 wh, .int .i64 se] w fun e w' => e = .returned (.bool true) ∧ Below w.heap.size w w' := by
  have HAW : Hid (Calls Tryd.prog 10 #[] w fun e w' => e = .returned (.bool true) ∧ Below w.heap.size w w') := kawake w ht
  have HT : Hid (Tab w) := ht
  have HBG : Hid (∀ W, Tab W → Calls Tryd.prog 19 #[.int .i64 (-1), .int .i64 50] W fun e w' => KBegun W (-1) 50 e w') := fun W hW => kbegins W hW (-1) 50 (by decide) (by decide)
  have HP1 : Hid (∀ W, Calls Tryd.prog 13 #[.int .i64 wh, .int .i64 20] W fun e w' => e = .returned (.int .i64 (pickN wh 20)) ∧ W = w') := fun W => (kpick wh 20 p0 p1 (by decide) (by decide) W).mono (fun _ _ h => ⟨h.1, h.2.symm⟩)
  have HP2 : Hid (∀ W, Calls Tryd.prog 13 #[.int .i64 wh, .int .i64 4] W fun e w' => e = .returned (.int .i64 (pickN wh 4)) ∧ W = w') := fun W => (kpick wh 4 p0 p1 (by decide) (by decide) W).mono (fun _ _ h => ⟨h.1, h.2.symm⟩)
  have hq4 : -9223372036854775808 ≤ se.tdiv 4 ∧ se.tdiv 4 ≤ 9223372036854775807 := by
    rcases Int.le_total 0 se with h | h
    · rw [Int.tdiv_eq_ediv_of_nonneg h]; omega
    · have := Int.neg_tdiv (-se) 4
      rw [Int.neg_neg] at this
      rw [this, Int.tdiv_eq_ediv_of_nonneg (by omega)]; omega
  have HPG : Hid (∀ (c : Int) (W : World), (c = se ∨ c = se.tdiv 4) → Calls Tryd.prog 13 #[.int .i64 c, .int .i64 4] W fun e w' => e = .returned (.int .i64 (pickN c 4)) ∧ W = w') := fun c W hc => by
    have hb : -9223372036854775808 ≤ c ∧ c ≤ 9223372036854775807 := by
      rcases hc with h | h
      · rw [h]; exact ⟨t0, t1⟩
      · rw [h]; exact hq4
    exact (kpick c 4 hb.1 hb.2 (by decide) (by decide) W).mono (fun _ _ h => ⟨h.1, h.2.symm⟩)
  have hq := pickN_lt wh 20 (by decide)
  have hz := pickN_lt wh 4 (by decide)
  generalize pickN wh 20 = q at hq HP1
  generalize pickN wh 4 = z at hz HP2
  obtain ⟨KK, hKf, hKs⟩ := sealRun_flows 25 0 _ seal_run (5 + q) (by omega)
  rw [Nat.zero_add] at hKf hKs
  obtain ⟨hal, hso⟩ := sealAt_out (hKs (by omega))
  have HKF : Hid ((ticked 50).1.flows 0 (5 + q) = (KK, 5 + q, true)) := hKf
  have HTK : Hid ((Clu.begins (-1) 50).allTick 4 0 = ((ticked 50).1, true)) := by
    show ticked 50 = _
    rw [← ticked_ok]
  have hwq : IntKind.i64.wrap (se.tdiv 4) = se.tdiv 4 := (by rw [IntKind.wrap_i64]; omega)
  clear ht hKs hKf hq4
  have hqI : (q : Int) ≤ 19 := by omega
  have hq0 : (0 : Int) ≤ (q : Int) := by omega
  obtain ⟨i, hiq⟩ : ∃ i, i = 5 + q := ⟨_, rfl⟩
  have hil : i < KK.letters.length := by omega
  have HSO : Hid (SealOut KK i hil) := by subst hiq; exact hso
  have HIQ : Hid (i = 5 + q) := hiq
  have hiI : (i : Int) ≤ 24 := by omega
  have hi0 : (0 : Int) ≤ (i : Int) := by omega
  clear hal hso hiq
  go_enter Tryd.func8, Tryd.ntmps8
  go_upto_region 2 with (go_at_call 10; refine HAW.out.mono ?_; rintro e w1 ⟨rfl, hb1⟩; have HB1 : Hid (Below w.heap.size w w1) := hb1; clear hb1)
  have HT1 : Hid (Tab w1) := HT.out.below HB1.out
  go_upto_region 3 with (go_at_call 19; refine (HBG.out w1 HT1.out).mono ?_; rintro e w2 ⟨p, A, ps, rfl, hs2, hn2, hb2⟩; have HS : Hid (KSit w2 p A ps (Clu.begins (-1) 50)) := hs2; have HN : Hid (∀ b, UA A b → w1.heap.size ≤ b) := hn2; have HB2 : Hid (Below w1.heap.size w1 w2) := hb2; clear hs2 hn2 hb2)
  have HK0 : Hid (KOk (Clu.begins (-1) 50) 1) := begins_kok (-1) 50 (by decide) (by decide)
  have HBE : Hid (Below w.heap.size w w2) := bnext HB1.out HB2.out
  have HNE : Hid (∀ b, UA A b → w.heap.size ≤ b) := fun b hb => Nat.le_trans HB1.out.size (HN.out b hb)
  clear HAW HBG HT HT1 HB1 HB2 HN
  generalize Clu.begins (-1) 50 = Ki at *
  generalize (ticked 50).1 = Kn at *
  go_upto_region 6 with fail
  obtain ⟨of1, hof⟩ : ∃ x, x = bits BinOp.or IntKind.u64 of 1 := ⟨_, rfl⟩
  have HOF : Hid (of1 = bits BinOp.or IntKind.u64 of 1) := hof
  rw [← hof]
  clear hof
  go_wp2
  go_loopw [9, 10] (fun oo kk wq => ∃ (k : Nat) (A2 : Nat → Nat → Prop) (K : Clu), k ≤ 4 ∧ oo = .bool true ∧ kk = .int .i64 k ∧ Hid (KSit wq p A2 ps K ∧ Grow (UA A) w2 (UA A2) ∧ Fr (UA A) w2 wq) ∧ Hid (KOk K (1 + 2 * k)) ∧ Hid (K.allTick (4 - k) k = (Kn, true))) (fun _ kk _ => 4 - (intOf kk).toNat)
  case atStart => exact ⟨0, A, Ki, by omega, rfl, rfl, ⟨HS.out, Grow.refl _ _, Fr.refl _ _⟩, HK0.out, HTK.out⟩
  case round =>
    clear HS HK0 HTK
    obtain ⟨k, A2, K, hk, rfl, rfl, hS, hO, hE⟩ := hrel
    have hk0 : (0 : Int) ≤ (k : Int) := by omega
    by_cases hk4 : k < 4
    · have hkI : (k : Int) < 4 := by omega
      have hst : (K.ticks k).2 = true ∧ (K.ticks k).1.allTick (4 - (k + 1)) (k + 1) = (Kn, true) := by
        have h1 := hE.out
        rw [show 4 - k = (4 - (k + 1)) + 1 by omega, allTick_step] at h1
        cases hb : (K.ticks k).2 with
        | true => rw [hb] at h1; exact ⟨rfl, h1⟩
        | false => rw [hb] at h1; rw [show (if false = true then _ else K.ticks k) = K.ticks k from rfl] at h1; rw [h1] at hb; cases hb
      have HH : Hid (Calls Tryd.prog 22 #[.pointer (some ⟨p, 0, none⟩), .agg #[.int .i64 1, .int .i64 k, .int .i64 0]] wr fun e w' => e = .returned (.bool true) ∧ KGoes wr w' p A2 ps (K.ticks k).1) := by
        have h1 := khappens1 wr p A2 ps K hS.out.1 _ hO.out (by omega) k 0 (by omega) (by omega)
        rw [pick_small hk4, hst.1] at h1
        exact h1
      have HO2 : Hid (KOk (K.ticks k).1 (1 + 2 * (k + 1))) := ticks_kok hO.out hk4
      have HE2 : Hid ((K.ticks k).1.allTick (4 - (k + 1)) (k + 1) = (Kn, true)) := hst.2
      clear hE hst
      generalize (K.ticks k).1 = K2 at *
      go_wp2_with (go_at_call 22; refine HH.out.mono ?_; rintro e w3 ⟨rfl, hg3⟩; have HG3 : Hid (KGoes wr w3 p A2 ps K2) := hg3; clear hg3)
      go_roundw
      case rel =>
        obtain ⟨A3, z1, z2⟩ := HG3.out.ex
        exact ⟨k + 1, A3, K2, by omega, rfl, by go_num, ⟨z1, hS.out.2.1.trans hS.out.2.2.size z2, hS.out.2.2.grow hS.out.2.1 HG3.out.fr⟩, HO2.out, HE2.out⟩
      case measure => simp [intOf]; omega
    · have hkI : ¬ (k : Int) < 4 := by omega
      have hke : k = 4 := by omega
      subst hke
      have hKe : K = Kn := congrArg Prod.fst hE.out
      subst hKe
      have HF : Hid (Calls Tryd.prog 23 #[.pointer (some ⟨p, 0, none⟩), .int .i64 0, .int .i64 (5 + (q : Int))] wr fun e w' => e = .returned (.tuple #[.int .i64 (i : Int), .bool true]) ∧ KGoes wr w' p A2 ps KK ∧ KOk KK 300) := by
        have h1 := kflows wr p A2 ps K hS.out.1 _ hO.out 0 (5 + q) (by omega) (by omega)
        rw [HKF.out] at h1
        have e1 : ((5 + q : Nat) : Int) = 5 + (q : Int) := by omega
        have e2 : (i : Int) = 5 + (q : Int) := by have := HIQ.out; omega
        dsimp only at h1
        rw [e1] at h1
        rw [e2]
        exact h1.mono (fun e w' h => ⟨h.1, h.2.1, h.2.2.mono (by omega)⟩)
      go_upto_region 11 with (first | (go_at_call 13; refine (HP1.out _).mono ?_; rintro e w9 ⟨rfl, rfl⟩) | (go_at_call 23; refine HF.out.mono ?_; rintro e w3 ⟨rfl, hg3, hok3⟩; have HG3 : Hid (KGoes wr w3 p A2 ps KK) := hg3; have HO3 : Hid (KOk KK 300) := hok3; clear hg3 hok3))
      obtain ⟨A3, hs3, hgr3⟩ := HG3.out.ex
      have hov := hs3.over
      rw [HSO.out.ov] at hov
      obtain ⟨al, cl, q2, hrow⟩ := hs3.lcells
      have HS3 : Hid (KSit w3 p A3 ps KK ∧ Grow (UA A) w2 (UA A3) ∧ Fr (UA A) w2 w3) := ⟨hs3, hS.out.2.1.trans hS.out.2.2.size hgr3, hS.out.2.2.grow hS.out.2.1 HG3.out.fr⟩
      have hll : KK.letters.length ≤ 1600000000 := by have := HO3.out.len.lt; omega
      have hlI : (KK.letters.length : Int) ≤ 1600000000 := by omega
      have haI : (i : Int) < (KK.letters.length : Int) := by omega
      have haJ : ¬ (KK.letters.length : Int) ≤ (i : Int) := by omega
      clear hS hO hE HKF HF HG3 hgr3 hs3
      obtain ⟨g, off, rfl, hSg, hg, hcap⟩ := hrow.place (by omega)
      have HLO : Hid (Ltr.Ok KK.letters[i]) := HO3.out.lt _ (List.getElem_mem hil)
      have hel := hrow.elemAt (show ∀ l : Ltr, l.cells.length = 20 from fun _ => rfl) i hil
      have HTO : Hid (KK.letters[i].to ≤ 3 ∧ (0 ≤ KK.letters[i].msg.sl ∧ KK.letters[i].msg.sl < 18446744073709551616)) := ⟨HSO.out.to3, HSO.out.sl⟩
      have HMS : Hid (∀ k : Nat, k < 4 → (KK.letters[i].to = (k : Int) ∨ KK.letters[i].to < 0) → ∃ m, KK.memAt k = some m ∧ m.may = false ∧ KK.was k = m.sta ∧ m.sta.grows m.sta = true ∧ (m.takes KK.letters[i].msg).2.2 ≠ 1 ∧ (m.takes KK.letters[i].msg).2.2 ≠ 2 ∧ (KK.letters[i].msg.kind = 1 ∧ 1 < KK.letters[i].msg.view → 1 ≤ KK.letters[i].msg.block.just.view ∧ ∀ j : Nat, j < 4 → sealOf j 2 KK.letters[i].msg.block.just.view KK.letters[i].msg.block.just.block ≠ 0)) := HSO.out.ms
      clear HSO
      generalize KK.letters[i] = l at HLO hel HTO HMS
      obtain ⟨l0, ⟨xk, xf, xv, ⟨bv, ⟨jv, jb, j0, j1, j2, j3⟩, bc⟩, nu, ⟨cv, cb, k0, k1, k2, k3⟩, sl⟩⟩ := l
      dsimp only at HTO HMS
      have hlw : (rowVar 42 ⟨g, off + i * 20, none⟩).run Tryd.prog w3 = .ok (.agg #[.int .i64 l0, .int .i64 xk, .int .i64 xf, .int .i64 xv, .int .i64 bv, .int .i64 jv, .int .u64 jb, .int .u64 j0, .int .u64 j1, .int .u64 j2, .int .u64 j3, .string bc, .int .u64 nu, .int .i64 cv, .int .u64 cb, .int .u64 k0, .int .u64 k1, .int .u64 k2, .int .u64 k3, .int .u64 sl]) w3 := rowVar_mid w3 g (off + i * 20) _ (Ltr.cells ⟨l0, ⟨xk, xf, xv, ⟨bv, ⟨jv, jb, j0, j1, j2, j3⟩, bc⟩, nu, ⟨cv, cb, k0, k1, k2, k3⟩, sl⟩⟩) _ hel Tryd.underlying42 rfl ltr_size20
      have hpu : (rowPut 42 ⟨w3.heap.size, 0, none⟩ (.agg #[.int .i64 l0, .int .i64 xk, .int .i64 xf, .int .i64 xv, .int .i64 bv, .int .i64 jv, .int .u64 jb, .int .u64 j0, .int .u64 j1, .int .u64 j2, .int .u64 j3, .string bc, .int .u64 nu, .int .i64 cv, .int .u64 cb, .int .u64 k0, .int .u64 k1, .int .u64 k2, .int .u64 k3, .int .u64 sl])).run Tryd.prog (w3.alloc (.cells #[.int .i64 0, .int .i64 0, .int .i64 0, .int .i64 0, .int .i64 0, .int .i64 0, .int .u64 0, .int .u64 0, .int .u64 0, .int .u64 0, .int .u64 0, .string ⟨#[]⟩, .int .u64 0, .int .i64 0, .int .u64 0, .int .u64 0, .int .u64 0, .int .u64 0, .int .u64 0, .int .u64 0] 42)) = .ok () ((w3.alloc (.cells #[.int .i64 0, .int .i64 0, .int .i64 0, .int .i64 0, .int .i64 0, .int .i64 0, .int .u64 0, .int .u64 0, .int .u64 0, .int .u64 0, .int .u64 0, .string ⟨#[]⟩, .int .u64 0, .int .i64 0, .int .u64 0, .int .u64 0, .int .u64 0, .int .u64 0, .int .u64 0, .int .u64 0] 42)).setCells w3.heap.size 0 [.int .i64 l0, .int .i64 xk, .int .i64 xf, .int .i64 xv, .int .i64 bv, .int .i64 jv, .int .u64 jb, .int .u64 j0, .int .u64 j1, .int .u64 j2, .int .u64 j3, .string bc, .int .u64 nu, .int .i64 cv, .int .u64 cb, .int .u64 k0, .int .u64 k1, .int .u64 k2, .int .u64 k3, .int .u64 sl]) := rowPut_mid _ w3.heap.size 0 42 #[.int .i64 l0, .int .i64 xk, .int .i64 xf, .int .i64 xv, .int .i64 bv, .int .i64 jv, .int .u64 jb, .int .u64 j0, .int .u64 j1, .int .u64 j2, .int .u64 j3, .string bc, .int .u64 nu, .int .i64 cv, .int .u64 cb, .int .u64 k0, .int .u64 k1, .int .u64 k2, .int .u64 k3, .int .u64 sl] (LHeld.start0 w3 _ rfl _) ltr_size20 (by simp [Value.oneCell'])
      have HB2 : Hid (Below w3.heap.size w3 ((w3.alloc (.cells #[.int .i64 0, .int .i64 0, .int .i64 0, .int .i64 0, .int .i64 0, .int .i64 0, .int .u64 0, .int .u64 0, .int .u64 0, .int .u64 0, .int .u64 0, .string ⟨#[]⟩, .int .u64 0, .int .i64 0, .int .u64 0, .int .u64 0, .int .u64 0, .int .u64 0, .int .u64 0, .int .u64 0] 42)).setCells w3.heap.size 0 [.int .i64 l0, .int .i64 xk, .int .i64 xf, .int .i64 xv, .int .i64 bv, .int .i64 jv, .int .u64 jb, .int .u64 j0, .int .u64 j1, .int .u64 j2, .int .u64 j3, .string bc, .int .u64 nu, .int .i64 cv, .int .u64 cb, .int .u64 k0, .int .u64 k1, .int .u64 k2, .int .u64 k3, .int .u64 sl])) := below_setCells (Nat.le_refl _) _ _ _ (below_alloc _ _)
      have HRG : Hid (((w3.alloc (.cells #[.int .i64 0, .int .i64 0, .int .i64 0, .int .i64 0, .int .i64 0, .int .i64 0, .int .u64 0, .int .u64 0, .int .u64 0, .int .u64 0, .int .u64 0, .string ⟨#[]⟩, .int .u64 0, .int .i64 0, .int .u64 0, .int .u64 0, .int .u64 0, .int .u64 0, .int .u64 0, .int .u64 0] 42)).setCells w3.heap.size 0 [.int .i64 l0, .int .i64 xk, .int .i64 xf, .int .i64 xv, .int .i64 bv, .int .i64 jv, .int .u64 jb, .int .u64 j0, .int .u64 j1, .int .u64 j2, .int .u64 j3, .string bc, .int .u64 nu, .int .i64 cv, .int .u64 cb, .int .u64 k0, .int .u64 k1, .int .u64 k2, .int .u64 k3, .int .u64 sl]).rangeAt w3.heap.size 0 [.int .i64 l0, .int .i64 xk, .int .i64 xf, .int .i64 xv, .int .i64 bv, .int .i64 jv, .int .u64 jb, .int .u64 j0, .int .u64 j1, .int .u64 j2, .int .u64 j3, .string bc, .int .u64 nu, .int .i64 cv, .int .u64 cb, .int .u64 k0, .int .u64 k1, .int .u64 k2, .int .u64 k3, .int .u64 sl]) := World.rangeAt_setCells_same (w3.alloc (.cells #[.int .i64 0, .int .i64 0, .int .i64 0, .int .i64 0, .int .i64 0, .int .i64 0, .int .u64 0, .int .u64 0, .int .u64 0, .int .u64 0, .int .u64 0, .string ⟨#[]⟩, .int .u64 0, .int .i64 0, .int .u64 0, .int .u64 0, .int .u64 0, .int .u64 0, .int .u64 0, .int .u64 0] 42)) w3.heap.size 0 [.int .i64 l0, .int .i64 xk, .int .i64 xf, .int .i64 xv, .int .i64 bv, .int .i64 jv, .int .u64 jb, .int .u64 j0, .int .u64 j1, .int .u64 j2, .int .u64 j3, .string bc, .int .u64 nu, .int .i64 cv, .int .u64 cb, .int .u64 k0, .int .u64 k1, .int .u64 k2, .int .u64 k3, .int .u64 sl] (LHeld.start0 w3 _ rfl _)
      have HSZ : Hid (w3.heap.size < ((w3.alloc (.cells #[.int .i64 0, .int .i64 0, .int .i64 0, .int .i64 0, .int .i64 0, .int .i64 0, .int .u64 0, .int .u64 0, .int .u64 0, .int .u64 0, .int .u64 0, .string ⟨#[]⟩, .int .u64 0, .int .i64 0, .int .u64 0, .int .u64 0, .int .u64 0, .int .u64 0, .int .u64 0, .int .u64 0] 42)).setCells w3.heap.size 0 [.int .i64 l0, .int .i64 xk, .int .i64 xf, .int .i64 xv, .int .i64 bv, .int .i64 jv, .int .u64 jb, .int .u64 j0, .int .u64 j1, .int .u64 j2, .int .u64 j3, .string bc, .int .u64 nu, .int .i64 cv, .int .u64 cb, .int .u64 k0, .int .u64 k1, .int .u64 k2, .int .u64 k3, .int .u64 sl]).heap.size) := by
        have h1 : (w3.alloc (.cells #[.int .i64 0, .int .i64 0, .int .i64 0, .int .i64 0, .int .i64 0, .int .i64 0, .int .u64 0, .int .u64 0, .int .u64 0, .int .u64 0, .int .u64 0, .string ⟨#[]⟩, .int .u64 0, .int .i64 0, .int .u64 0, .int .u64 0, .int .u64 0, .int .u64 0, .int .u64 0, .int .u64 0] 42)).heap.size ≤ ((w3.alloc (.cells #[.int .i64 0, .int .i64 0, .int .i64 0, .int .i64 0, .int .i64 0, .int .i64 0, .int .u64 0, .int .u64 0, .int .u64 0, .int .u64 0, .int .u64 0, .string ⟨#[]⟩, .int .u64 0, .int .i64 0, .int .u64 0, .int .u64 0, .int .u64 0, .int .u64 0, .int .u64 0, .int .u64 0] 42)).setCells w3.heap.size 0 [.int .i64 l0, .int .i64 xk, .int .i64 xf, .int .i64 xv, .int .i64 bv, .int .i64 jv, .int .u64 jb, .int .u64 j0, .int .u64 j1, .int .u64 j2, .int .u64 j3, .string bc, .int .u64 nu, .int .i64 cv, .int .u64 cb, .int .u64 k0, .int .u64 k1, .int .u64 k2, .int .u64 k3, .int .u64 sl]).heap.size := (Fr.setCells (S := fun _ => True) trivial _ _ _).size
        simp only [World.size_alloc] at h1
        show _ < _
        omega
      obtain ⟨X, hX⟩ : ∃ X, X = (w3.alloc (.cells #[.int .i64 0, .int .i64 0, .int .i64 0, .int .i64 0, .int .i64 0, .int .i64 0, .int .u64 0, .int .u64 0, .int .u64 0, .int .u64 0, .int .u64 0, .string ⟨#[]⟩, .int .u64 0, .int .i64 0, .int .u64 0, .int .u64 0, .int .u64 0, .int .u64 0, .int .u64 0, .int .u64 0] 42)).setCells w3.heap.size 0 [.int .i64 l0, .int .i64 xk, .int .i64 xf, .int .i64 xv, .int .i64 bv, .int .i64 jv, .int .u64 jb, .int .u64 j0, .int .u64 j1, .int .u64 j2, .int .u64 j3, .string bc, .int .u64 nu, .int .i64 cv, .int .u64 cb, .int .u64 k0, .int .u64 k1, .int .u64 k2, .int .u64 k3, .int .u64 sl] := ⟨_, rfl⟩
      rw [← hX] at hpu HB2 HRG HSZ
      go_upto_region 16 with fail
      rw [← hX]
      clear hX hpu hlw hel hcap hSg hg hrow q2 hov
      have HKX : Hid (KSit X p A3 ps KK) := HS3.out.1.below HB2.out
      have HNB : Hid (¬ UA A3 w3.heap.size) := by
        rintro ⟨j, hj, hb⟩
        have := HS3.out.1.lt j _ hj hb
        omega
      have HGX : Hid (Grow (UA A) w2 (UA A3) ∧ Fr (UA A) w2 X) := ⟨HS3.out.2.1, HS3.out.2.2.trans (Fr.of_below (S := UA A) HB2.out) (fun _ h => .inl h)⟩
      generalize w3.heap.size = B at HRG HSZ HNB ⊢
      clear HB2
      -- whom it comes to
      obtain ⟨k, hk4, hto, hkz, hkl⟩ : ∃ k : Nat, k < 4 ∧ (l0 = (k : Int) ∨ l0 < 0) ∧ (l0 < 0 → k = z) ∧ (¬ l0 < 0 → l0 = (k : Int)) := by
        by_cases hn : l0 < 0
        · exact ⟨z, hz, .inr hn, fun _ => rfl, fun h => absurd hn h⟩
        · have := HTO.out.1
          exact ⟨l0.toNat, by omega, .inl (by omega), fun h => absurd h hn, fun _ => by omega⟩
      have hl00 : X.cell? ⟨B, 0, none⟩ = some (.int .i64 l0) := by
        have := HRG.out 0 (.int .i64 l0) rfl
        exact this
      have HKZ : Hid ((l0 < 0 → k = z) ∧ (¬ l0 < 0 → l0 = (k : Int))) := ⟨hkz, hkl⟩
      clear hkz hkl
      have hk0' : (0 : Int) ≤ (k : Int) := by omega
      have hkI' : (k : Int) < 4 := by omega
      go_upto_if 91 with fail
      go_cut [14] (fun s w' => s = .int .i64 k ∧ Hid (w' = X))
      case first =>
        by_cases hn : l0 < 0
        · have := HKZ.out.1 hn
          subst this
          go_wp2_with (go_at_call 13; refine (HP2.out _).mono ?_; rintro e w9 ⟨rfl, rfl⟩)
          go_meet
          case rel => exact ⟨rfl, rfl⟩
        · have := HKZ.out.2 hn
          go_wp2
          go_meet
          case rel => exact ⟨rfl, rfl⟩
      case rest =>
        obtain ⟨rfl, hwc⟩ := hcut
        rw [hwc.out]
        clear hwc hl00 HKZ HP2
        obtain ⟨m, m1, m2, m3, m4, m5, m6, m7⟩ := HMS.out k hk4 hto
        obtain ⟨gm, om, cm, hgA, hc0, hci⟩ := HKX.out.cells
        obtain ⟨pm, hpm, _⟩ := HKX.out.some1 hk4 m1
        have hck := hci k hk4
        rw [hpm] at hck
        dsimp only [mptr, Option.map] at hck
        obtain ⟨v1, v2, v3⟩ := HKX.out.vcells k hk4
        obtain ⟨av, cap, v4, _⟩ := HKX.out.wcells k hk4
        have HPM : Hid (ps.getD k none = some pm) := hpm
        have HM : Hid (KK.memAt k = some m ∧ m.may = false ∧ KK.was k = m.sta ∧ m.sta.grows m.sta = true) := ⟨m1, m2, m3, m4⟩
        have HM5 : Hid ((m.takes ⟨xk, xf, xv, ⟨bv, ⟨jv, jb, j0, j1, j2, j3⟩, bc⟩, nu, ⟨cv, cb, k0, k1, k2, k3⟩, sl⟩).2.2 ≠ 1 ∧ (m.takes ⟨xk, xf, xv, ⟨bv, ⟨jv, jb, j0, j1, j2, j3⟩, bc⟩, nu, ⟨cv, cb, k0, k1, k2, k3⟩, sl⟩).2.2 ≠ 2) := ⟨m5, m6⟩
        have HM7 : Hid (xk = 1 ∧ 1 < xv → 1 ≤ jv ∧ ∀ j : Nat, j < 4 → sealOf j 2 jv jb ≠ 0) := m7
        clear m1 m2 m3 m4 m5 m6 m7 hpm hci hgA hto HMS
        go_upto_region 20 with fail
        obtain ⟨Y, hY⟩ : ∃ Y, Y = X.alloc (.cells #[.int .i64 (KK.was k).view, .int .i64 (KK.was k).high, .int .i64 (KK.was k).locked, .slice av (KK.was k).log.length cap] 58) := ⟨_, rfl⟩
        have HBY : Hid (Below X.heap.size X Y) := by rw [hY]; exact below_alloc _ _
        have HCY : Hid (Y.heap[X.heap.size]? = some (.cells #[.int .i64 (KK.was k).view, .int .i64 (KK.was k).high, .int .i64 (KK.was k).locked, .slice av (KK.was k).log.length cap] 58 (0, 0))) := by rw [hY]; exact heap_alloc_new X _
        go_cut [16] (fun s w' => s = .pointer (some ⟨X.heap.size, 0, none⟩) ∧ Hid (w' = Y))
        case first =>
          go_wp2
          go_meet
          case rel => exact ⟨rfl, hY.symm⟩
        case rest =>
        obtain ⟨rfl, hwc⟩ := hcut
        rw [hwc.out]
        clear hwc hY v1 v2 v3 v4 hc0 hck
        have HKY : Hid (KSit Y p A3 ps KK) := HKX.out.below HBY.out
        have HN1 : Hid (¬ UA A3 X.heap.size) := by
          rintro ⟨j, hj, hb⟩
          have := HKX.out.lt j _ hj hb
          omega
        have HLM : Hid (∀ W, W.heap[B]? = Y.heap[B]? → (∀ j v, ([.int .i64 l0, .int .i64 xk, .int .i64 xf, .int .i64 xv, .int .i64 bv, .int .i64 jv, .int .u64 jb, .int .u64 j0, .int .u64 j1, .int .u64 j2, .int .u64 j3, .string bc, .int .u64 nu, .int .i64 cv, .int .u64 cb, .int .u64 k0, .int .u64 k1, .int .u64 k2, .int .u64 k3, .int .u64 sl] : List Value)[j]? = some v → W.cell? ⟨B, j, none⟩ = some v) ∧ (rowVar 40 ⟨B, 1, none⟩).run Tryd.prog W = .ok (.agg #[.int .i64 xk, .int .i64 xf, .int .i64 xv, .int .i64 bv, .int .i64 jv, .int .u64 jb, .int .u64 j0, .int .u64 j1, .int .u64 j2, .int .u64 j3, .string bc, .int .u64 nu, .int .i64 cv, .int .u64 cb, .int .u64 k0, .int .u64 k1, .int .u64 k2, .int .u64 k3, .int .u64 sl]) W) := fun W hW => by
          have hc : ∀ j v, ([.int .i64 l0, .int .i64 xk, .int .i64 xf, .int .i64 xv, .int .i64 bv, .int .i64 jv, .int .u64 jb, .int .u64 j0, .int .u64 j1, .int .u64 j2, .int .u64 j3, .string bc, .int .u64 nu, .int .i64 cv, .int .u64 cb, .int .u64 k0, .int .u64 k1, .int .u64 k2, .int .u64 k3, .int .u64 sl] : List Value)[j]? = some v → W.cell? ⟨B, j, none⟩ = some v := fun j v hv => by
            rw [World.cell?_of_block (hW.trans (HBY.out.block B HSZ.out))]
            have := HRG.out j v hv
            rwa [Nat.zero_add] at this
          refine ⟨hc, ?_⟩
          refine rowVar_mid W B 1 40 [.int .i64 xk, .int .i64 xf, .int .i64 xv, .int .i64 bv, .int .i64 jv, .int .u64 jb, .int .u64 j0, .int .u64 j1, .int .u64 j2, .int .u64 j3, .string bc, .int .u64 nu, .int .i64 cv, .int .u64 cb, .int .u64 k0, .int .u64 k1, .int .u64 k2, .int .u64 k3, .int .u64 sl] _ (fun j v hv => ?_) Tryd.underlying40 rfl (by kernel_rfl)
          exact hc (1 + j) v (by rw [Nat.add_comm]; exact hv)
        have HZB : Hid (B < Y.heap.size) := Nat.lt_of_lt_of_le HSZ.out HBY.out.size
        have HGY : Hid (Grow (UA A) w2 (UA A3) ∧ Fr (UA A) w2 Y) := ⟨HGX.out.1, HGX.out.2.trans (Fr.of_below (S := UA A) HBY.out) (fun _ h => .inl h)⟩
        have HXR : Hid (bits BinOp.xor IntKind.u64 sl of1 ≠ sl) := by
          have := xor_ne sl of HTO.out.2
          rw [← HOF.out] at this
          exact this
        have HXO : Hid (Msg.Ok ⟨xk, xf, xv, ⟨bv, ⟨jv, jb, j0, j1, j2, j3⟩, bc⟩, nu, ⟨cv, cb, k0, k1, k2, k3⟩, sl⟩) := HLO.out.1
        refine (?kk : ∀ (a : Act) (w : World), Code.wp Tryd.prog ?kc ?kq a w → _) _ _ ?goal
        case kk => assumption
        refine ksl_tail (A3 := A3) (m := m) (av := av) (cap := cap) hwq HPG HXR HLM HCY HN1 HNB HZB HKY HO3 hk4 HPM HM HM5 HM7 HXO ?_
        intro t17 t18 t19 t20 t21 t22 t23 t24 t25 t26 t27 t28 t29 t107 t108 t109 t110 t111 t112 t113 t114 t115 t116 t117 t118 t119 t120 t121 t122 t123 t124 t125 t126 t127 t128 t129 t130 t131 t132 t133 t134 t135 t136 t137 t138 t139 t140 t141 t142 t143 t144 t145 t146 t147 t148 t149 t150 t151 t152 t153 t154 t155 t156 t157 t158 t159 t160 t161 t162 t163 t164 t165 t166 t167 t168 t169 t170 t171 t172 t173 t174 t175 t176 t177 t178 t179 t180 t181 t182 t183 t184 t185 t186 t187 t188 t189 t190 t191 t192 t193 t194 t195 t196 t197 t198 t199 t200 t201 t202 t203 t204 t205 t206 t207 t208 t209 t210 t211 t212 t213 t214 t215 t216 t217 t218 t219 t220 t221 t222 t223 t224 t225 t226 t227 t228 t229 t230 t231 t232 t233 t234 t235 t236 t237 t238 t239 t240 t241 t242 t243 t244 t245 t246 t247 t248 t249 t250 t251 t252 t253 t254 t255 t256 t257 t258 t259 t260 t261 t262 t263 t264 t265 t266 t267 t268 t269 t270 t271 t272 t273 t274 t275 t276 t277 w' hfr
        have HFF : Hid (Below w.heap.size w w') := kbelow HBE.out (HGY.out.2.grow HGY.out.1 hfr) HNE.out
        clear hfr
        go_ret
        exact ⟨rfl, HFF.out⟩
end Go.Proofs.YtkehpnobidendaaDoor
