/- parleykeep's lies: its drawn regions. parleykeep's lies: a proposal of the liar's. parleykeep's lies: an Enter of the liar's, a vote of the liar's. -/
import Derived.Test.YtkehpnobidendaaDoorM48
namespace Go.Proofs.YtkehpnobidendaaDoor
open Go.RowKit
theorem ld_crtK (a : Addr) : loadVar 26 a = rowVar 26 a := rfl
theorem put_crtK (a : Addr) (v : Value) : storeVar 26 a v = rowPut 26 a v := rfl
noncomputable def klyR5 : Code := ((Tryd.f40.body.bind (regOf 5))).getD .skip
set_option maxRecDepth 1000000 in
set_option maxHeartbeats 8000000 in
theorem kly_r5 {y0 y1 y2 y4 y5 y8 y9 y10 y11 y12 y13 y14 y15 y16 y17 y18 y19 y20 y21 y22 y23 y24 y25 y26 y27 y28 y29 y30 y31 y32 y33 y34 y35 y36 y37 y38 y39 y40 y41 y42 y43 y44 y45 y46 y47 y48 y49 y50 y51 y52 y53 y54 y55 y56 y57 y58 y59 y60 y61 y62 y63 y64 y65 y66 y67 y68 y69 y70 y71 y72 y73 y74 y75 y76 y77 y78 y79 y80 y81 y82 y83 y84 y85 y86 y87 y88 y89 y90 y91 y92 y93 y94 y95 y96 y97 y98 y99 y100 y101 y102 y103 y104 y105 y106 y107 y108 y109 y110 y111 y112 y113 y114 y115 y116 y117 y118 y119 y120 y121 y122 y123 y124 y125 y126 y127 y128 y129 y130 y131 y132 y133 y134 y135 y136 y137 y138 y139 y140 y141 y142 y143 y144 y145 y146 y147 y148 y149 y150 y151 y152 y153 y154 y155 y156 y157 y158 y159 y160 y161 y162 y163 y164 y165 y166 y167 y168 y169 y170 y171 y172 y173 y174 y175 y176 y177 y178 y179 y180 y181 y182 y183 : Value} {cv sa xv : Int} {Bt Bm Bc pk : Nat} {wr : World} {Q : Exit → Act → World → Prop}
    (HPK : Hid (∀ W, Calls Tryd.prog 13 #[.int .i64 sa, .int .i64 6] W fun e w' => e = .returned (.int .i64 (pk : Int)) ∧ W = w')) (hw1 : IntKind.i64.wrap (cv + 1) = cv + 1) (hw2 : IntKind.i64.wrap (cv + 1 + (pk : Int)) = cv + 1 + (pk : Int))
    (c0 : wr.cell? ⟨Bc, 0, none⟩ = some (.int .i64 cv)) (t1 : wr.cell? ⟨Bt, 1, none⟩ = some (.int .i64 sa)) (m2 : wr.cell? ⟨Bm, 2, none⟩ = some (.int .i64 xv)) (fz : wr.frozen? ⟨Bm, 2, none⟩ = false)
    (HEX : Hid (∀ {v46 v47 v48 v49 v50 v51 v52 v53 : Value}, Q .normal ⟨List.toArray (y0 :: y1 :: y2 :: .pointer (some ⟨Bt, 0, none⟩) :: y4 :: y5 :: .pointer (some ⟨Bm, 0, none⟩) :: .pointer (some ⟨Bc, 0, none⟩) :: y8 :: y9 :: y10 :: y11 :: y12 :: y13 :: y14 :: y15 :: y16 :: y17 :: y18 :: y19 :: y20 :: y21 :: y22 :: y23 :: y24 :: y25 :: y26 :: y27 :: y28 :: y29 :: y30 :: y31 :: y32 :: y33 :: y34 :: y35 :: y36 :: y37 :: y38 :: y39 :: y40 :: y41 :: y42 :: y43 :: y44 :: y45 :: v46 :: v47 :: v48 :: v49 :: v50 :: v51 :: v52 :: v53 :: y54 :: y55 :: y56 :: y57 :: y58 :: y59 :: y60 :: y61 :: y62 :: y63 :: y64 :: y65 :: y66 :: y67 :: y68 :: y69 :: y70 :: y71 :: y72 :: y73 :: y74 :: y75 :: y76 :: y77 :: y78 :: y79 :: y80 :: y81 :: y82 :: y83 :: y84 :: y85 :: y86 :: y87 :: y88 :: y89 :: y90 :: y91 :: y92 :: y93 :: y94 :: y95 :: y96 :: y97 :: y98 :: y99 :: y100 :: y101 :: y102 :: y103 :: y104 :: y105 :: y106 :: y107 :: y108 :: y109 :: y110 :: y111 :: y112 :: y113 :: y114 :: y115 :: y116 :: y117 :: y118 :: y119 :: y120 :: y121 :: y122 :: y123 :: y124 :: y125 :: y126 :: y127 :: y128 :: y129 :: y130 :: y131 :: y132 :: y133 :: y134 :: y135 :: y136 :: y137 :: y138 :: y139 :: y140 :: y141 :: y142 :: y143 :: y144 :: y145 :: y146 :: y147 :: y148 :: y149 :: y150 :: y151 :: y152 :: y153 :: y154 :: y155 :: y156 :: y157 :: y158 :: y159 :: y160 :: y161 :: y162 :: y163 :: y164 :: y165 :: y166 :: y167 :: y168 :: y169 :: y170 :: y171 :: y172 :: y173 :: y174 :: y175 :: y176 :: y177 :: y178 :: y179 :: y180 :: y181 :: y182 :: y183 :: []), []⟩ (wr.setCell ⟨Bm, 2, none⟩ (.int .i64 (cv + 1 + pk))).drew)) :
    Code.wp Tryd.prog klyR5 Q ⟨List.toArray (y0 :: y1 :: y2 :: .pointer (some ⟨Bt, 0, none⟩) :: y4 :: y5 :: .pointer (some ⟨Bm, 0, none⟩) :: .pointer (some ⟨Bc, 0, none⟩) :: y8 :: y9 :: y10 :: y11 :: y12 :: y13 :: y14 :: y15 :: y16 :: y17 :: y18 :: y19 :: y20 :: y21 :: y22 :: y23 :: y24 :: y25 :: y26 :: y27 :: y28 :: y29 :: y30 :: y31 :: y32 :: y33 :: y34 :: y35 :: y36 :: y37 :: y38 :: y39 :: y40 :: y41 :: y42 :: y43 :: y44 :: y45 :: y46 :: y47 :: y48 :: y49 :: y50 :: y51 :: y52 :: y53 :: y54 :: y55 :: y56 :: y57 :: y58 :: y59 :: y60 :: y61 :: y62 :: y63 :: y64 :: y65 :: y66 :: y67 :: y68 :: y69 :: y70 :: y71 :: y72 :: y73 :: y74 :: y75 :: y76 :: y77 :: y78 :: y79 :: y80 :: y81 :: y82 :: y83 :: y84 :: y85 :: y86 :: y87 :: y88 :: y89 :: y90 :: y91 :: y92 :: y93 :: y94 :: y95 :: y96 :: y97 :: y98 :: y99 :: y100 :: y101 :: y102 :: y103 :: y104 :: y105 :: y106 :: y107 :: y108 :: y109 :: y110 :: y111 :: y112 :: y113 :: y114 :: y115 :: y116 :: y117 :: y118 :: y119 :: y120 :: y121 :: y122 :: y123 :: y124 :: y125 :: y126 :: y127 :: y128 :: y129 :: y130 :: y131 :: y132 :: y133 :: y134 :: y135 :: y136 :: y137 :: y138 :: y139 :: y140 :: y141 :: y142 :: y143 :: y144 :: y145 :: y146 :: y147 :: y148 :: y149 :: y150 :: y151 :: y152 :: y153 :: y154 :: y155 :: y156 :: y157 :: y158 :: y159 :: y160 :: y161 :: y162 :: y163 :: y164 :: y165 :: y166 :: y167 :: y168 :: y169 :: y170 :: y171 :: y172 :: y173 :: y174 :: y175 :: y176 :: y177 :: y178 :: y179 :: y180 :: y181 :: y182 :: y183 :: []), []⟩ wr := by
  refine wp_mono (Q := Exit.then (Q .normal) (fun _ _ _ => False)) ?_ (fun e a w h => by cases e <;> first | exact h | exact h.elim)
  conv => arg 2; whnf
  go_region_with (go_at_call 13; refine (HPK.out _).mono ?_; rintro e w9 ⟨rfl, rfl⟩)
  all_goals exact HEX.out
noncomputable def klyR3 : Code := ((Tryd.f40.body.bind (regOf 3))).getD .skip
set_option maxRecDepth 1000000 in
set_option maxHeartbeats 8000000 in
theorem kly_r3 {y1 y2 y4 y5 y6 y7 y8 y9 y10 y11 y12 y13 y14 y15 y16 y17 y18 y19 y20 y21 y22 y23 y24 y25 y26 y27 y28 y29 y30 y31 y32 y33 y34 y35 y36 y37 y38 y39 y40 y41 y42 y43 y44 y45 y46 y47 y48 y49 y50 y51 y52 y53 y54 y55 y56 y57 y58 y59 y60 y61 y62 y63 y64 y65 y66 y67 y68 y69 y70 y71 y72 y73 y74 y75 y76 y77 y78 y79 y80 y81 y82 y83 y84 y85 y86 y87 y88 y89 y90 y91 y92 y93 y94 y95 y96 y97 y98 y99 y100 y101 y102 y103 y104 y105 y106 y107 y108 y109 y110 y111 y112 y113 y114 y115 y116 y117 y118 y119 y120 y121 y122 y123 y124 y125 y126 y127 y128 y129 y130 y131 y132 y133 y134 y135 y136 y137 y138 y139 y140 y141 y142 y143 y144 y145 y146 y147 y148 y149 y150 y151 y152 y153 y154 y155 y156 y157 y158 y159 y160 y161 y162 y163 y164 y165 y166 y167 y168 y169 y170 y171 y172 y173 y174 y175 y176 y177 y178 y179 y180 y181 y182 y183 : Value} {sb cv k0 k1 k2 k3 : Int} {cb p Bt pk nl g off cl i : Nat} {wr : World} {Q : Exit → Act → World → Prop}
    (HPK : Hid (∀ W, Calls Tryd.prog 13 #[.int .i64 sb, .int .i64 nl] W fun e w' => e = .returned (.int .i64 (pk : Int)) ∧ W = w')) (hw1 : IntKind.i64.wrap ((nl : Int) - 1) = (nl : Int) - 1) (hw2 : IntKind.i64.wrap ((nl : Int) - 1 - (pk : Int)) = (i : Int)) (hi0 : (0 : Int) ≤ (i : Int)) (hi1 : (i : Int) < (nl : Int))
    (HS : Hid (∀ W, Below wr.heap.size wr W → Below wr.heap.size wr W ∧ W.cell? ⟨p, 3, none⟩ = some (.slice (some ⟨g, off, none⟩) nl cl) ∧ W.cell? ⟨Bt, 2, none⟩ = some (.int .i64 sb) ∧ W.cell? ⟨g, off + i * 6, none⟩ = some (.int .i64 cv) ∧ W.cell? ⟨g, off + i * 6 + 1, none⟩ = some (.int .u64 cb) ∧ W.cell? ⟨g, off + i * 6 + 2, none⟩ = some (.int .u64 k0) ∧ W.cell? ⟨g, off + i * 6 + 3, none⟩ = some (.int .u64 k1) ∧ W.cell? ⟨g, off + i * 6 + 4, none⟩ = some (.int .u64 k2) ∧ W.cell? ⟨g, off + i * 6 + 5, none⟩ = some (.int .u64 k3)))
    (HEX : Hid (∀ {v23 v24 v25 v26 v27 v28 v29 v30 v31 v32 v33 v34 v35 v36 v37 v38 v39 v40 v41 v42 v43 : Value}, Q .normal ⟨List.toArray (.pointer (some ⟨p, 0, none⟩) :: y1 :: y2 :: .pointer (some ⟨Bt, 0, none⟩) :: y4 :: y5 :: y6 :: .pointer (some ⟨wr.heap.size, 0, none⟩) :: y8 :: y9 :: y10 :: y11 :: y12 :: y13 :: y14 :: y15 :: y16 :: y17 :: y18 :: y19 :: y20 :: y21 :: y22 :: v23 :: v24 :: v25 :: v26 :: v27 :: v28 :: v29 :: v30 :: v31 :: v32 :: v33 :: v34 :: v35 :: v36 :: v37 :: v38 :: v39 :: v40 :: v41 :: v42 :: v43 :: y44 :: y45 :: y46 :: y47 :: y48 :: y49 :: y50 :: y51 :: y52 :: y53 :: y54 :: y55 :: y56 :: y57 :: y58 :: y59 :: y60 :: y61 :: y62 :: y63 :: y64 :: y65 :: y66 :: y67 :: y68 :: y69 :: y70 :: y71 :: y72 :: y73 :: y74 :: y75 :: y76 :: y77 :: y78 :: y79 :: y80 :: y81 :: y82 :: y83 :: y84 :: y85 :: y86 :: y87 :: y88 :: y89 :: y90 :: y91 :: y92 :: y93 :: y94 :: y95 :: y96 :: y97 :: y98 :: y99 :: y100 :: y101 :: y102 :: y103 :: y104 :: y105 :: y106 :: y107 :: y108 :: y109 :: y110 :: y111 :: y112 :: y113 :: y114 :: y115 :: y116 :: y117 :: y118 :: y119 :: y120 :: y121 :: y122 :: y123 :: y124 :: y125 :: y126 :: y127 :: y128 :: y129 :: y130 :: y131 :: y132 :: y133 :: y134 :: y135 :: y136 :: y137 :: y138 :: y139 :: y140 :: y141 :: y142 :: y143 :: y144 :: y145 :: y146 :: y147 :: y148 :: y149 :: y150 :: y151 :: y152 :: y153 :: y154 :: y155 :: y156 :: y157 :: y158 :: y159 :: y160 :: y161 :: y162 :: y163 :: y164 :: y165 :: y166 :: y167 :: y168 :: y169 :: y170 :: y171 :: y172 :: y173 :: y174 :: y175 :: y176 :: y177 :: y178 :: y179 :: y180 :: y181 :: y182 :: y183 :: []), []⟩ (wr.alloc (.cells #[.int .i64 cv, .int .u64 cb, .int .u64 k0, .int .u64 k1, .int .u64 k2, .int .u64 k3] 26)).drew)) :
    Code.wp Tryd.prog klyR3 Q ⟨List.toArray (.pointer (some ⟨p, 0, none⟩) :: y1 :: y2 :: .pointer (some ⟨Bt, 0, none⟩) :: y4 :: y5 :: y6 :: y7 :: y8 :: y9 :: y10 :: y11 :: y12 :: y13 :: y14 :: y15 :: y16 :: y17 :: y18 :: y19 :: y20 :: y21 :: y22 :: y23 :: y24 :: y25 :: y26 :: y27 :: y28 :: y29 :: y30 :: y31 :: y32 :: y33 :: y34 :: y35 :: y36 :: y37 :: y38 :: y39 :: y40 :: y41 :: y42 :: y43 :: y44 :: y45 :: y46 :: y47 :: y48 :: y49 :: y50 :: y51 :: y52 :: y53 :: y54 :: y55 :: y56 :: y57 :: y58 :: y59 :: y60 :: y61 :: y62 :: y63 :: y64 :: y65 :: y66 :: y67 :: y68 :: y69 :: y70 :: y71 :: y72 :: y73 :: y74 :: y75 :: y76 :: y77 :: y78 :: y79 :: y80 :: y81 :: y82 :: y83 :: y84 :: y85 :: y86 :: y87 :: y88 :: y89 :: y90 :: y91 :: y92 :: y93 :: y94 :: y95 :: y96 :: y97 :: y98 :: y99 :: y100 :: y101 :: y102 :: y103 :: y104 :: y105 :: y106 :: y107 :: y108 :: y109 :: y110 :: y111 :: y112 :: y113 :: y114 :: y115 :: y116 :: y117 :: y118 :: y119 :: y120 :: y121 :: y122 :: y123 :: y124 :: y125 :: y126 :: y127 :: y128 :: y129 :: y130 :: y131 :: y132 :: y133 :: y134 :: y135 :: y136 :: y137 :: y138 :: y139 :: y140 :: y141 :: y142 :: y143 :: y144 :: y145 :: y146 :: y147 :: y148 :: y149 :: y150 :: y151 :: y152 :: y153 :: y154 :: y155 :: y156 :: y157 :: y158 :: y159 :: y160 :: y161 :: y162 :: y163 :: y164 :: y165 :: y166 :: y167 :: y168 :: y169 :: y170 :: y171 :: y172 :: y173 :: y174 :: y175 :: y176 :: y177 :: y178 :: y179 :: y180 :: y181 :: y182 :: y183 :: []), []⟩ wr := by
  refine wp_mono (Q := Exit.then (Q .normal) (fun _ _ _ => False)) ?_ (fun e a w h => by cases e <;> first | exact h | exact h.elim)
  conv => arg 2; whnf
  go_region_held3 (fun w' => Below wr.heap.size wr w' ∧ w'.cell? ⟨p, 3, none⟩ = some (.slice (some ⟨g, off, none⟩) nl cl) ∧ w'.cell? ⟨Bt, 2, none⟩ = some (.int .i64 sb) ∧ w'.cell? ⟨g, off + i * 6, none⟩ = some (.int .i64 cv) ∧ w'.cell? ⟨g, off + i * 6 + 1, none⟩ = some (.int .u64 cb) ∧ w'.cell? ⟨g, off + i * 6 + 2, none⟩ = some (.int .u64 k0) ∧ w'.cell? ⟨g, off + i * 6 + 3, none⟩ = some (.int .u64 k1) ∧ w'.cell? ⟨g, off + i * 6 + 4, none⟩ = some (.int .u64 k2) ∧ w'.cell? ⟨g, off + i * 6 + 5, none⟩ = some (.int .u64 k3))
    (first | (exact HS.out _ (Below.refl _ _).drew) | (exact HS.out _ (bnext (And.left ‹Below wr.heap.size wr _ ∧ _›) (below_alloc _ _))) | (exact HS.out _ (bnext (Below.refl _ _).drew (below_alloc _ _))))
    ((go_at_call 13; refine (HPK.out _).mono ?_; rintro e w9 ⟨rfl, rfl⟩))
  all_goals exact HEX.out
attribute [local go_sem ↓] ld_ltr put_ltr
noncomputable def klyR20 : Code := ((Tryd.f40.body.bind (regOf 20))).getD .skip
set_option maxRecDepth 1000000 in
set_option maxHeartbeats 8000000 in
theorem kly_r20 {y1 y2 y4 y5 y6 y7 y8 y9 y10 y11 y12 y13 y14 y15 y16 y17 y18 y19 y20 y21 y22 y23 y24 y25 y26 y27 y28 y29 y30 y31 y32 y33 y34 y35 y36 y37 y38 y39 y40 y41 y42 y43 y44 y45 y46 y47 y48 y49 y50 y51 y52 y53 y54 y55 y56 y57 y58 y59 y60 y61 y62 y63 y64 y65 y66 y67 y68 y69 y70 y71 y72 y73 y74 y75 y76 y77 y78 y79 y80 y81 y82 y83 y84 y85 y86 y87 y88 y89 y90 y91 y92 y93 y94 y95 y96 y97 y98 y99 y100 y101 y102 y103 y104 y105 y106 y107 y108 y109 y110 y111 y112 y113 y114 y115 y116 y117 y118 y119 y120 y121 y122 y123 y124 y125 y126 y127 y128 y129 y130 y131 y132 y133 y134 y135 y136 y137 y138 y139 y140 y141 y142 y143 y144 y145 y146 y147 y148 y149 y150 y151 y152 y153 y154 y155 y156 y157 y158 y159 y160 y161 y162 y163 y164 y165 y166 y167 y168 y169 y170 y171 y172 y173 y174 y175 y176 y177 y178 y179 y180 y181 y182 y183 : Value} {sa : Int} {l0 xk xf xv bv jv j0 j1 j2 j3 cv k0 k1 k2 k3 sl : Int} {jb nu cb : Nat} {bc : ByteArray} {p Bt pk nl g off cl i : Nat} {wr : World} {Q : Exit → Act → World → Prop}
    (HPK : Hid (∀ W, Calls Tryd.prog 13 #[.int .i64 sa, .int .i64 nl] W fun e w' => e = .returned (.int .i64 (pk : Int)) ∧ W = w')) (hw1 : IntKind.i64.wrap ((nl : Int) - 1) = (nl : Int) - 1) (hw2 : IntKind.i64.wrap ((nl : Int) - 1 - (pk : Int)) = (i : Int)) (hi0 : (0 : Int) ≤ (i : Int)) (hi1 : (i : Int) < (nl : Int))
    (HS : Hid (∀ W, Below wr.heap.size wr W → Below wr.heap.size wr W ∧ W.cell? ⟨p, 2, none⟩ = some (.slice (some ⟨g, off, none⟩) nl cl) ∧ W.cell? ⟨Bt, 1, none⟩ = some (.int .i64 sa) ∧ (rowVar 42 ⟨g, off + i * 20, none⟩).run Tryd.prog W = .ok (.agg #[.int .i64 l0, .int .i64 xk, .int .i64 xf, .int .i64 xv, .int .i64 bv, .int .i64 jv, .int .u64 jb, .int .u64 j0, .int .u64 j1, .int .u64 j2, .int .u64 j3, .string bc, .int .u64 nu, .int .i64 cv, .int .u64 cb, .int .u64 k0, .int .u64 k1, .int .u64 k2, .int .u64 k3, .int .u64 sl]) W))
    (hpu : (rowPut 42 ⟨wr.heap.size, 0, none⟩ (.agg #[.int .i64 l0, .int .i64 xk, .int .i64 xf, .int .i64 xv, .int .i64 bv, .int .i64 jv, .int .u64 jb, .int .u64 j0, .int .u64 j1, .int .u64 j2, .int .u64 j3, .string bc, .int .u64 nu, .int .i64 cv, .int .u64 cb, .int .u64 k0, .int .u64 k1, .int .u64 k2, .int .u64 k3, .int .u64 sl])).run Tryd.prog (wr.alloc (.cells #[.int .i64 0, .int .i64 0, .int .i64 0, .int .i64 0, .int .i64 0, .int .i64 0, .int .u64 0, .int .u64 0, .int .u64 0, .int .u64 0, .int .u64 0, .string ⟨#[]⟩, .int .u64 0, .int .i64 0, .int .u64 0, .int .u64 0, .int .u64 0, .int .u64 0, .int .u64 0, .int .u64 0] 42)).drew = .ok () (wr.alloc (.cells #[.int .i64 l0, .int .i64 xk, .int .i64 xf, .int .i64 xv, .int .i64 bv, .int .i64 jv, .int .u64 jb, .int .u64 j0, .int .u64 j1, .int .u64 j2, .int .u64 j3, .string bc, .int .u64 nu, .int .i64 cv, .int .u64 cb, .int .u64 k0, .int .u64 k1, .int .u64 k2, .int .u64 k3, .int .u64 sl] 42)).drew)
    (HEX : Hid (∀ {v104 v105 v106 v107 v108 v109 v110 v111 v112 v113 v114 v115 v116 v117 v118 v119 v120 v121 v122 v123 v124 : Value}, Q .normal ⟨List.toArray (.pointer (some ⟨p, 0, none⟩) :: y1 :: y2 :: .pointer (some ⟨Bt, 0, none⟩) :: y4 :: y5 :: y6 :: y7 :: y8 :: y9 :: .pointer (some ⟨wr.heap.size, 0, none⟩) :: y11 :: y12 :: y13 :: y14 :: y15 :: y16 :: y17 :: y18 :: y19 :: y20 :: y21 :: y22 :: y23 :: y24 :: y25 :: y26 :: y27 :: y28 :: y29 :: y30 :: y31 :: y32 :: y33 :: y34 :: y35 :: y36 :: y37 :: y38 :: y39 :: y40 :: y41 :: y42 :: y43 :: y44 :: y45 :: y46 :: y47 :: y48 :: y49 :: y50 :: y51 :: y52 :: y53 :: y54 :: y55 :: y56 :: y57 :: y58 :: y59 :: y60 :: y61 :: y62 :: y63 :: y64 :: y65 :: y66 :: y67 :: y68 :: y69 :: y70 :: y71 :: y72 :: y73 :: y74 :: y75 :: y76 :: y77 :: y78 :: y79 :: y80 :: y81 :: y82 :: y83 :: y84 :: y85 :: y86 :: y87 :: y88 :: y89 :: y90 :: y91 :: y92 :: y93 :: y94 :: y95 :: y96 :: y97 :: y98 :: y99 :: y100 :: y101 :: y102 :: y103 :: v104 :: v105 :: v106 :: v107 :: v108 :: v109 :: v110 :: v111 :: v112 :: v113 :: v114 :: v115 :: v116 :: v117 :: v118 :: v119 :: v120 :: v121 :: v122 :: v123 :: v124 :: y125 :: y126 :: y127 :: y128 :: y129 :: y130 :: y131 :: y132 :: y133 :: y134 :: y135 :: y136 :: y137 :: y138 :: y139 :: y140 :: y141 :: y142 :: y143 :: y144 :: y145 :: y146 :: y147 :: y148 :: y149 :: y150 :: y151 :: y152 :: y153 :: y154 :: y155 :: y156 :: y157 :: y158 :: y159 :: y160 :: y161 :: y162 :: y163 :: y164 :: y165 :: y166 :: y167 :: y168 :: y169 :: y170 :: y171 :: y172 :: y173 :: y174 :: y175 :: y176 :: y177 :: y178 :: y179 :: y180 :: y181 :: y182 :: y183 :: []), []⟩ (wr.alloc (.cells #[.int .i64 l0, .int .i64 xk, .int .i64 xf, .int .i64 xv, .int .i64 bv, .int .i64 jv, .int .u64 jb, .int .u64 j0, .int .u64 j1, .int .u64 j2, .int .u64 j3, .string bc, .int .u64 nu, .int .i64 cv, .int .u64 cb, .int .u64 k0, .int .u64 k1, .int .u64 k2, .int .u64 k3, .int .u64 sl] 42)).drew)) :
    Code.wp Tryd.prog klyR20 Q ⟨List.toArray (.pointer (some ⟨p, 0, none⟩) :: y1 :: y2 :: .pointer (some ⟨Bt, 0, none⟩) :: y4 :: y5 :: y6 :: y7 :: y8 :: y9 :: y10 :: y11 :: y12 :: y13 :: y14 :: y15 :: y16 :: y17 :: y18 :: y19 :: y20 :: y21 :: y22 :: y23 :: y24 :: y25 :: y26 :: y27 :: y28 :: y29 :: y30 :: y31 :: y32 :: y33 :: y34 :: y35 :: y36 :: y37 :: y38 :: y39 :: y40 :: y41 :: y42 :: y43 :: y44 :: y45 :: y46 :: y47 :: y48 :: y49 :: y50 :: y51 :: y52 :: y53 :: y54 :: y55 :: y56 :: y57 :: y58 :: y59 :: y60 :: y61 :: y62 :: y63 :: y64 :: y65 :: y66 :: y67 :: y68 :: y69 :: y70 :: y71 :: y72 :: y73 :: y74 :: y75 :: y76 :: y77 :: y78 :: y79 :: y80 :: y81 :: y82 :: y83 :: y84 :: y85 :: y86 :: y87 :: y88 :: y89 :: y90 :: y91 :: y92 :: y93 :: y94 :: y95 :: y96 :: y97 :: y98 :: y99 :: y100 :: y101 :: y102 :: y103 :: y104 :: y105 :: y106 :: y107 :: y108 :: y109 :: y110 :: y111 :: y112 :: y113 :: y114 :: y115 :: y116 :: y117 :: y118 :: y119 :: y120 :: y121 :: y122 :: y123 :: y124 :: y125 :: y126 :: y127 :: y128 :: y129 :: y130 :: y131 :: y132 :: y133 :: y134 :: y135 :: y136 :: y137 :: y138 :: y139 :: y140 :: y141 :: y142 :: y143 :: y144 :: y145 :: y146 :: y147 :: y148 :: y149 :: y150 :: y151 :: y152 :: y153 :: y154 :: y155 :: y156 :: y157 :: y158 :: y159 :: y160 :: y161 :: y162 :: y163 :: y164 :: y165 :: y166 :: y167 :: y168 :: y169 :: y170 :: y171 :: y172 :: y173 :: y174 :: y175 :: y176 :: y177 :: y178 :: y179 :: y180 :: y181 :: y182 :: y183 :: []), []⟩ wr := by
  refine wp_mono (Q := Exit.then (Q .normal) (fun _ _ _ => False)) ?_ (fun e a w h => by cases e <;> first | exact h | exact h.elim)
  conv => arg 2; whnf
  go_region_held3 (fun w' => Below wr.heap.size wr w' ∧ w'.cell? ⟨p, 2, none⟩ = some (.slice (some ⟨g, off, none⟩) nl cl) ∧ w'.cell? ⟨Bt, 1, none⟩ = some (.int .i64 sa) ∧ (rowVar 42 ⟨g, off + i * 20, none⟩).run Tryd.prog w' = .ok (.agg #[.int .i64 l0, .int .i64 xk, .int .i64 xf, .int .i64 xv, .int .i64 bv, .int .i64 jv, .int .u64 jb, .int .u64 j0, .int .u64 j1, .int .u64 j2, .int .u64 j3, .string bc, .int .u64 nu, .int .i64 cv, .int .u64 cb, .int .u64 k0, .int .u64 k1, .int .u64 k2, .int .u64 k3, .int .u64 sl]) w')
    (first | (exact HS.out _ (Below.refl _ _).drew) | (exact HS.out _ (bnext (And.left ‹Below wr.heap.size wr _ ∧ _›) (below_alloc _ _))) | (exact HS.out _ (bnext (Below.refl _ _).drew (below_alloc _ _))))
    ((go_at_call 13; refine (HPK.out _).mono ?_; rintro e w9 ⟨rfl, rfl⟩))
  all_goals exact HEX.out
end Go.Proofs.YtkehpnobidendaaDoor

namespace Go.Proofs.YtkehpnobidendaaDoor
open Go.RowKit
theorem put_blkK (a : Addr) (v : Value) : storeVar 38 a v = rowPut 38 a v := rfl
attribute [local go_sem ↓] put_blkK load_blk ld_crtK
noncomputable def klyR13 : Code := ((Tryd.f40.body.bind (regOf 13))).getD .skip
set_option maxRecDepth 1000000 in
set_option maxHeartbeats 8000000 in
theorem kly_r13 {y1 y2 y3 y4 y5 y9 y10 y11 y12 y13 y14 y15 y16 y17 y18 y19 y20 y21 y22 y23 y24 y25 y26 y27 y28 y29 y30 y31 y32 y33 y34 y35 y36 y37 y38 y39 y40 y41 y42 y43 y44 y45 y46 y47 y48 y49 y50 y51 y52 y53 y54 y55 y56 y57 y58 y59 y60 y61 y62 y63 y64 y65 y66 y67 y68 y69 y70 y71 y72 y73 y74 y75 y76 y77 y78 y79 y80 y81 y82 y83 y84 y85 y86 y87 y88 y89 y90 y91 y92 y93 y94 y95 y96 y97 y98 y99 y100 y101 y102 y103 y104 y105 y106 y107 y108 y109 y110 y111 y112 y113 y114 y115 y116 y117 y118 y119 y120 y121 y122 y123 y124 y125 y126 y127 y128 y129 y130 y131 y132 y133 y134 y135 y136 y137 y138 y139 y140 y141 y142 y143 y144 y145 y146 y147 y148 y149 y150 y151 y152 y153 y154 y155 y156 y157 y158 y159 y160 y161 y162 y163 y164 y165 y166 y167 y168 y169 y170 y171 y172 y173 y174 y175 y176 y177 y178 y179 y180 y181 y182 y183 : Value} {v cv k0 k1 k2 k3 : Int} {cb p Bm Bc : Nat} {cm : ByteArray} {S : Nat → Prop} {ps : List (Option Nat)} {K2 : Clu} {wr : World} {Q : Exit → Act → World → Prop}
    (HCM : Hid (Calls Tryd.prog 20 #[.pointer (some ⟨p, 0, none⟩)] wr.drew fun e w' => e = .returned (.string cm) ∧ KMem w' p S ps K2 ∧ Fr S wr w'))
    (HS : Hid (∀ W, Fr S wr W → (rowVar 26 ⟨Bc, 0, none⟩).run Tryd.prog W = .ok (.agg #[.int .i64 cv, .int .u64 cb, .int .u64 k0, .int .u64 k1, .int .u64 k2, .int .u64 k3]) W))
    (HPU : Hid (∀ W, Fr S wr W → (rowPut 38 ⟨Bm, 3, none⟩ (.agg #[.int .i64 v, .int .i64 cv, .int .u64 cb, .int .u64 k0, .int .u64 k1, .int .u64 k2, .int .u64 k3, .string cm])).run Tryd.prog W = .ok () (W.setCells Bm 3 [.int .i64 v, .int .i64 cv, .int .u64 cb, .int .u64 k0, .int .u64 k1, .int .u64 k2, .int .u64 k3, .string cm])))
    (HEX : Hid (∀ {v78 v79 v80 v81 v82 v83 : Value} {w5 : World}, KMem w5 p S ps K2 → Fr S wr w5 → Q .normal ⟨List.toArray (.pointer (some ⟨p, 0, none⟩) :: y1 :: y2 :: y3 :: y4 :: y5 :: .pointer (some ⟨Bm, 0, none⟩) :: .pointer (some ⟨Bc, 0, none⟩) :: .int .i64 v :: y9 :: y10 :: y11 :: y12 :: y13 :: y14 :: y15 :: y16 :: y17 :: y18 :: y19 :: y20 :: y21 :: y22 :: y23 :: y24 :: y25 :: y26 :: y27 :: y28 :: y29 :: y30 :: y31 :: y32 :: y33 :: y34 :: y35 :: y36 :: y37 :: y38 :: y39 :: y40 :: y41 :: y42 :: y43 :: y44 :: y45 :: y46 :: y47 :: y48 :: y49 :: y50 :: y51 :: y52 :: y53 :: y54 :: y55 :: y56 :: y57 :: y58 :: y59 :: y60 :: y61 :: y62 :: y63 :: y64 :: y65 :: y66 :: y67 :: y68 :: y69 :: y70 :: y71 :: y72 :: y73 :: y74 :: y75 :: y76 :: y77 :: v78 :: v79 :: v80 :: v81 :: v82 :: v83 :: y84 :: y85 :: y86 :: y87 :: y88 :: y89 :: y90 :: y91 :: y92 :: y93 :: y94 :: y95 :: y96 :: y97 :: y98 :: y99 :: y100 :: y101 :: y102 :: y103 :: y104 :: y105 :: y106 :: y107 :: y108 :: y109 :: y110 :: y111 :: y112 :: y113 :: y114 :: y115 :: y116 :: y117 :: y118 :: y119 :: y120 :: y121 :: y122 :: y123 :: y124 :: y125 :: y126 :: y127 :: y128 :: y129 :: y130 :: y131 :: y132 :: y133 :: y134 :: y135 :: y136 :: y137 :: y138 :: y139 :: y140 :: y141 :: y142 :: y143 :: y144 :: y145 :: y146 :: y147 :: y148 :: y149 :: y150 :: y151 :: y152 :: y153 :: y154 :: y155 :: y156 :: y157 :: y158 :: y159 :: y160 :: y161 :: y162 :: y163 :: y164 :: y165 :: y166 :: y167 :: y168 :: y169 :: y170 :: y171 :: y172 :: y173 :: y174 :: y175 :: y176 :: y177 :: y178 :: y179 :: y180 :: y181 :: y182 :: y183 :: []), []⟩ (w5.setCells Bm 3 [.int .i64 v, .int .i64 cv, .int .u64 cb, .int .u64 k0, .int .u64 k1, .int .u64 k2, .int .u64 k3, .string cm]))) :
    Code.wp Tryd.prog klyR13 Q ⟨List.toArray (.pointer (some ⟨p, 0, none⟩) :: y1 :: y2 :: y3 :: y4 :: y5 :: .pointer (some ⟨Bm, 0, none⟩) :: .pointer (some ⟨Bc, 0, none⟩) :: .int .i64 v :: y9 :: y10 :: y11 :: y12 :: y13 :: y14 :: y15 :: y16 :: y17 :: y18 :: y19 :: y20 :: y21 :: y22 :: y23 :: y24 :: y25 :: y26 :: y27 :: y28 :: y29 :: y30 :: y31 :: y32 :: y33 :: y34 :: y35 :: y36 :: y37 :: y38 :: y39 :: y40 :: y41 :: y42 :: y43 :: y44 :: y45 :: y46 :: y47 :: y48 :: y49 :: y50 :: y51 :: y52 :: y53 :: y54 :: y55 :: y56 :: y57 :: y58 :: y59 :: y60 :: y61 :: y62 :: y63 :: y64 :: y65 :: y66 :: y67 :: y68 :: y69 :: y70 :: y71 :: y72 :: y73 :: y74 :: y75 :: y76 :: y77 :: y78 :: y79 :: y80 :: y81 :: y82 :: y83 :: y84 :: y85 :: y86 :: y87 :: y88 :: y89 :: y90 :: y91 :: y92 :: y93 :: y94 :: y95 :: y96 :: y97 :: y98 :: y99 :: y100 :: y101 :: y102 :: y103 :: y104 :: y105 :: y106 :: y107 :: y108 :: y109 :: y110 :: y111 :: y112 :: y113 :: y114 :: y115 :: y116 :: y117 :: y118 :: y119 :: y120 :: y121 :: y122 :: y123 :: y124 :: y125 :: y126 :: y127 :: y128 :: y129 :: y130 :: y131 :: y132 :: y133 :: y134 :: y135 :: y136 :: y137 :: y138 :: y139 :: y140 :: y141 :: y142 :: y143 :: y144 :: y145 :: y146 :: y147 :: y148 :: y149 :: y150 :: y151 :: y152 :: y153 :: y154 :: y155 :: y156 :: y157 :: y158 :: y159 :: y160 :: y161 :: y162 :: y163 :: y164 :: y165 :: y166 :: y167 :: y168 :: y169 :: y170 :: y171 :: y172 :: y173 :: y174 :: y175 :: y176 :: y177 :: y178 :: y179 :: y180 :: y181 :: y182 :: y183 :: []), []⟩ wr := by
  refine wp_mono (Q := Exit.then (Q .normal) (fun _ _ _ => False)) ?_ (fun e a w h => by cases e <;> first | exact h | exact h.elim)
  conv => arg 2; whnf
  have hl0 := HS.out wr.drew (Fr.drew _ _)
  go_region_with (go_at_call 20; refine HCM.out.mono ?_; rintro e w5 ⟨rfl, hm5, hf5⟩; have HM5 : Hid (KMem w5 p S ps K2) := hm5; have HF5 : Hid (Fr S wr w5) := hf5; have hpu5 := HPU.out w5 hf5; have hl5 := HS.out w5 hf5; clear hm5 hf5)
  all_goals exact HEX.out HM5.out HF5.out
theorem upTo_mod (v f : Int) (hf : 0 ≤ f ∧ f ≤ 3) : upTo v f % 4 = f := by unfold upTo; omega
theorem upTo_not {v f u : Int} (h : v ≤ u) (hu : u < upTo v f) : u % 4 ≠ f := by unfold upTo at hu; omega
theorem heap_stores {b : Nat} {T : TypeId} {f : Nat × Nat} : ∀ (vs : List Value) (o : Nat) {C : Array Value} {w : World}, w.heap[b]? = some (.cells C T f) → (w.setCells b o vs).heap[b]? = some (.cells (fillA C o vs) T f)
  | [], _, _, _, h => h
  | v :: r, o, C, w, h => by
    show ((w.setCell ⟨b, o, none⟩ v).setCells b (o + 1) r).heap[b]? = some (.cells (fillA (C.setIfInBounds o v) (o + 1) r) T f)
    exact heap_stores r (o + 1) (heap_store h v)
theorem fill3 (a0 a1 a2 a3 a4 a5 a6 a7 a8 a9 a10 a11 a12 a13 a14 a15 a16 a17 a18 b0 b1 b2 b3 b4 b5 b6 b7 : Value) : fillA #[a0, a1, a2, a3, a4, a5, a6, a7, a8, a9, a10, a11, a12, a13, a14, a15, a16, a17, a18] 3 [b0, b1, b2, b3, b4, b5, b6, b7] = #[a0, a1, a2, b0, b1, b2, b3, b4, b5, b6, b7, a11, a12, a13, a14, a15, a16, a17, a18] := by kernel_rfl
/-- The cluster's record turns, and one block that is nobody's. -/
theorem KSit.clu2 {w w' : World} {p : Nat} {A : Nat → Nat → Prop} {ps : List (Option Nat)} {K : Clu} (h : KSit w p A ps K) {K' : Clu} {S' : Nat → Prop} {B : Nat} (hk : KMem w' p S' ps K') (hm : K'.mem = K.mem) (hg : Grow (A 0) w S') (hf : Fr (fun b => A 0 b ∨ b = B) w w') (hB : ¬ UA A B) (hB0 : B ≠ 0) : KSit w' p (updA A 0 S') ps K' := by
  have ho := h.other (i := 0) (by omega) hg hk.own hk.t0 hf.size
  have hz0 := h.z 0 (by omega)
  refine ⟨?_, h.l, fun j hj => ?_, ho.1, ho.2.1, ho.2.2⟩
  · rw [updA_at]; exact hk
  · rw [updA_ne A S' (by omega : j + 1 ≠ 0)]
    have h1 := (h.mem j hj).fr hf (fun k h1 h2 => by
      rcases h2 with h2 | h2
      · exact absurd (h.dis (j + 1) 0 k (by omega) (by omega) h1 h2) (by omega)
      · subst h2; exact hB ⟨j + 1, by omega, h1⟩) (fun h2 => by
      rcases h2 with h2 | h2
      · exact hz0 h2
      · exact hB0 h2.symm)
    unfold Clu.memAt at *
    rw [hm]; exact h1
theorem there_box {w : World} {b : Nat} {C : Array Value} {T : TypeId} (h : w.heap[b]? = some (.cells C T (0, 0))) (o n : Nat) (hn : o + n ≤ C.size) : w.there b o n := fun j hj => by
  refine ⟨?_, free_at h _⟩
  rw [cell_at h]
  simp; omega
noncomputable def kly4 : Code := ((Tryd.f40.body.bind (fromReg 9))).getD .skip
set_option maxRecDepth 1000000 in
set_option maxHeartbeats 8000000 in
theorem kly_p {y1 y2 y4 y8 y9 y10 y11 y12 y13 y14 y15 y16 y17 y18 y19 y20 y21 y22 y23 y24 y25 y26 y27 y28 y29 y30 y31 y32 y33 y34 y35 y36 y37 y38 y39 y40 y41 y42 y43 y44 y45 y46 y47 y48 y49 y50 y51 y52 y53 y54 y55 y56 y57 y58 y59 y60 y61 y62 y63 y64 y65 y66 y67 y68 y69 y70 y71 y72 y73 y74 y75 y76 y77 y78 y79 y80 y81 y82 y83 y84 y85 y86 y87 y88 y89 y90 y91 y92 y93 y94 y95 y96 y97 y98 y99 y100 y101 y102 y103 y104 y105 y106 y107 y108 y109 y110 y111 y112 y113 y114 y115 y116 y117 y118 y119 y120 y121 y122 y123 y124 y125 y126 y127 y128 y129 y130 y131 y132 y133 y134 y135 y136 y137 y138 y139 y140 y141 y142 y143 y144 y145 y146 y147 y148 y149 y150 y151 y152 y153 y154 y155 y156 y157 y158 y159 y160 y161 y162 y163 y164 y165 y166 y167 y168 y169 y170 y171 y172 y173 y174 y175 y176 y177 y178 y179 y180 y181 y182 y183 : Value} {li sa sb cv k0 k1 k2 k3 : Int} {cb p Bt Bm Bc pk n nn : Nat} {W : World} {A : Nat → Nat → Prop} {ps : List (Option Nat)} {K : Clu} {Q : Exit → Act → World → Prop}
    (HPK : Hid (∀ W, Calls Tryd.prog 13 #[.int .i64 sa, .int .i64 4] W fun e w' => e = .returned (.int .i64 (pk : Int)) ∧ w' = W)) (hpk : (pk : Int) ≤ 3) (hcv : 0 ≤ cv) (hcv1 : cv ≤ 1000) (hli : 0 ≤ li) (hli3 : li ≤ 3)
    (HS : Hid (KSit W p A ps K)) (HO : Hid (KOk K n)) (hn : n ≤ 1500000000) (HCO : Hid (Crt.Ok ⟨cv, cb, k0, k1, k2, k3⟩)) (HCN : Hid (K.count = (nn : Int))) (hnn : nn ≤ 20000000000001)
    (HBX : Hid (W.heap[Bt]? = some (.cells #[.int .i64 4, .int .i64 sa, .int .i64 sb] 66 (0, 0)) ∧ W.heap[Bm]? = some (.cells #[.int .i64 1, .int .i64 li, .int .i64 0, .int .i64 0, .int .i64 0, .int .u64 0, .int .u64 0, .int .u64 0, .int .u64 0, .int .u64 0, .string ⟨#[]⟩, .int .u64 0, .int .i64 0, .int .u64 0, .int .u64 0, .int .u64 0, .int .u64 0, .int .u64 0, .int .u64 0] 40 (0, 0)) ∧ W.heap[Bc]? = some (.cells #[.int .i64 cv, .int .u64 cb, .int .u64 k0, .int .u64 k1, .int .u64 k2, .int .u64 k3] 26 (0, 0))))
    (HNB : Hid (¬ UA A Bt ∧ ¬ UA A Bm ∧ ¬ UA A Bc ∧ Bm ≠ Bt ∧ Bm ≠ Bc)) (HB0 : Hid (Bm ≠ 0))
    (HEX : Hid (∀ {v8 v9 v63 v64 v65 v66 v67 v68 v69 v70 v71 v72 v73 v74 v75 v76 v77 v78 v79 v80 v81 v82 v83 v84 v85 v86 v87 v88 v89 v90 v91 v92 v93 v94 v95 : Value} {w' : World} {S' : Nat → Prop} {v : Int} {sq : Int}, v = upTo (cv + 1 + (pk : Int)) li → sq = sealOf li 1 v (Blk.num ⟨v, ⟨cv, cb, k0, k1, k2, k3⟩, cmdText (nn + 1)⟩) → KSit w' p (updA A 0 S') ps (({ K with count := ((nn + 1 : Nat) : Int) } : Clu).meets ⟨v, ⟨cv, cb, k0, k1, k2, k3⟩, cmdText (nn + 1)⟩) → Grow (A 0) W S' → Fr (fun b => A 0 b ∨ b = Bm) W w' → w'.heap[Bm]? = some (.cells #[.int .i64 1, .int .i64 li, .int .i64 v, .int .i64 v, .int .i64 cv, .int .u64 cb, .int .u64 k0, .int .u64 k1, .int .u64 k2, .int .u64 k3, .string (cmdText (nn + 1)), .int .u64 0, .int .i64 0, .int .u64 0, .int .u64 0, .int .u64 0, .int .u64 0, .int .u64 0, .int .u64 sq] 40 (0, 0)) → Q .normal ⟨List.toArray (.pointer (some ⟨p, 0, none⟩) :: y1 :: y2 :: .pointer (some ⟨Bt, 0, none⟩) :: y4 :: .int .i64 li :: .pointer (some ⟨Bm, 0, none⟩) :: .pointer (some ⟨Bc, 0, none⟩) :: v8 :: v9 :: y10 :: y11 :: y12 :: y13 :: y14 :: y15 :: y16 :: y17 :: y18 :: y19 :: y20 :: y21 :: y22 :: y23 :: y24 :: y25 :: y26 :: y27 :: y28 :: y29 :: y30 :: y31 :: y32 :: y33 :: y34 :: y35 :: y36 :: y37 :: y38 :: y39 :: y40 :: y41 :: y42 :: y43 :: y44 :: y45 :: y46 :: y47 :: y48 :: y49 :: y50 :: y51 :: y52 :: y53 :: y54 :: y55 :: y56 :: y57 :: y58 :: y59 :: y60 :: y61 :: y62 :: v63 :: v64 :: v65 :: v66 :: v67 :: v68 :: v69 :: v70 :: v71 :: v72 :: v73 :: v74 :: v75 :: v76 :: v77 :: v78 :: v79 :: v80 :: v81 :: v82 :: v83 :: v84 :: v85 :: v86 :: v87 :: v88 :: v89 :: v90 :: v91 :: v92 :: v93 :: v94 :: v95 :: y96 :: y97 :: y98 :: y99 :: y100 :: y101 :: y102 :: y103 :: y104 :: y105 :: y106 :: y107 :: y108 :: y109 :: y110 :: y111 :: y112 :: y113 :: y114 :: y115 :: y116 :: y117 :: y118 :: y119 :: y120 :: y121 :: y122 :: y123 :: y124 :: y125 :: y126 :: y127 :: y128 :: y129 :: y130 :: y131 :: y132 :: y133 :: y134 :: y135 :: y136 :: y137 :: y138 :: y139 :: y140 :: y141 :: y142 :: y143 :: y144 :: y145 :: y146 :: y147 :: y148 :: y149 :: y150 :: y151 :: y152 :: y153 :: y154 :: y155 :: y156 :: y157 :: y158 :: y159 :: y160 :: y161 :: y162 :: y163 :: y164 :: y165 :: y166 :: y167 :: y168 :: y169 :: y170 :: y171 :: y172 :: y173 :: y174 :: y175 :: y176 :: y177 :: y178 :: y179 :: y180 :: y181 :: y182 :: y183 :: []), []⟩ w')) :
    Code.wp Tryd.prog kly4 Q ⟨List.toArray (.pointer (some ⟨p, 0, none⟩) :: y1 :: y2 :: .pointer (some ⟨Bt, 0, none⟩) :: y4 :: .int .i64 li :: .pointer (some ⟨Bm, 0, none⟩) :: .pointer (some ⟨Bc, 0, none⟩) :: y8 :: y9 :: y10 :: y11 :: y12 :: y13 :: y14 :: y15 :: y16 :: y17 :: y18 :: y19 :: y20 :: y21 :: y22 :: y23 :: y24 :: y25 :: y26 :: y27 :: y28 :: y29 :: y30 :: y31 :: y32 :: y33 :: y34 :: y35 :: y36 :: y37 :: y38 :: y39 :: y40 :: y41 :: y42 :: y43 :: y44 :: y45 :: y46 :: y47 :: y48 :: y49 :: y50 :: y51 :: y52 :: y53 :: y54 :: y55 :: y56 :: y57 :: y58 :: y59 :: y60 :: y61 :: y62 :: y63 :: y64 :: y65 :: y66 :: y67 :: y68 :: y69 :: y70 :: y71 :: y72 :: y73 :: y74 :: y75 :: y76 :: y77 :: y78 :: y79 :: y80 :: y81 :: y82 :: y83 :: y84 :: y85 :: y86 :: y87 :: y88 :: y89 :: y90 :: y91 :: y92 :: y93 :: y94 :: y95 :: y96 :: y97 :: y98 :: y99 :: y100 :: y101 :: y102 :: y103 :: y104 :: y105 :: y106 :: y107 :: y108 :: y109 :: y110 :: y111 :: y112 :: y113 :: y114 :: y115 :: y116 :: y117 :: y118 :: y119 :: y120 :: y121 :: y122 :: y123 :: y124 :: y125 :: y126 :: y127 :: y128 :: y129 :: y130 :: y131 :: y132 :: y133 :: y134 :: y135 :: y136 :: y137 :: y138 :: y139 :: y140 :: y141 :: y142 :: y143 :: y144 :: y145 :: y146 :: y147 :: y148 :: y149 :: y150 :: y151 :: y152 :: y153 :: y154 :: y155 :: y156 :: y157 :: y158 :: y159 :: y160 :: y161 :: y162 :: y163 :: y164 :: y165 :: y166 :: y167 :: y168 :: y169 :: y170 :: y171 :: y172 :: y173 :: y174 :: y175 :: y176 :: y177 :: y178 :: y179 :: y180 :: y181 :: y182 :: y183 :: []), []⟩ W := by
  conv => arg 2; whnf
  have c0 : W.cell? ⟨Bc, 0, none⟩ = some (.int .i64 cv) := cell_at HBX.out.2.2 0
  have t1 : W.cell? ⟨Bt, 1, none⟩ = some (.int .i64 sa) := cell_at HBX.out.1 1
  have hw1 : IntKind.i64.wrap (cv + 1) = cv + 1 := by rw [IntKind.wrap_i64]; omega
  have hw2 : IntKind.i64.wrap (cv + 1 + (pk : Int)) = cv + 1 + (pk : Int) := by rw [IntKind.wrap_i64]; omega
  go_upto_region 9 with fail
  go_quiet (first | (go_at_call 13; exact Calls.quiet_of_same (HPK.out _)))
  simp only [Exit.then]
  obtain ⟨U, hU⟩ : ∃ U, U = W.drewN nq := ⟨_, rfl⟩
  rw [← hU]
  have HU : Hid (Below W.heap.size W U ∧ U.heap = W.heap) := by rw [hU]; exact ⟨belowN (Below.refl _ _) nq, rfl⟩
  have HSU : Hid (KSit U p A ps K) := HS.out.below HU.out.1
  have HBU : Hid (U.heap[Bt]? = some (.cells #[.int .i64 4, .int .i64 sa, .int .i64 sb] 66 (0, 0)) ∧ U.heap[Bm]? = some (.cells #[.int .i64 1, .int .i64 li, .int .i64 0, .int .i64 0, .int .i64 0, .int .u64 0, .int .u64 0, .int .u64 0, .int .u64 0, .int .u64 0, .string ⟨#[]⟩, .int .u64 0, .int .i64 0, .int .u64 0, .int .u64 0, .int .u64 0, .int .u64 0, .int .u64 0, .int .u64 0] 40 (0, 0)) ∧ U.heap[Bc]? = some (.cells #[.int .i64 cv, .int .u64 cb, .int .u64 k0, .int .u64 k1, .int .u64 k2, .int .u64 k3] 26 (0, 0))) := by rw [HU.out.2]; exact HBX.out
  clear hU c0 t1 hw1 hw2
  obtain ⟨v0, hv0⟩ : ∃ v0, v0 = cv + 1 + (pk : Int) := ⟨_, rfl⟩
  rw [← hv0]
  have HV0 : Hid (v0 = cv + 1 + (pk : Int)) := hv0
  have hup := upTo_le v0 li
  have hv1 : 1 ≤ v0 := by omega
  have hv2 : v0 ≤ 1004 := by omega
  have hum := upTo_mod v0 li ⟨hli, hli3⟩
  have HNO : Hid (∀ u, v0 ≤ u → u < upTo v0 li → u % 4 ≠ li) := fun u h1 h2 => upTo_not h1 h2
  have HUV : Hid (upTo v0 li = upTo (cv + 1 + (pk : Int)) li) := by rw [hv0]; rfl
  generalize upTo v0 li = vt at hup hum HNO HUV
  clear hv0
  go_wp2
  go_loopw [8] (fun vv w' => ∃ u : Int, v0 ≤ u ∧ u ≤ vt ∧ vv = .int .i64 u ∧ Hid (w' = U)) (fun vv _ => (vt - intOf vv).toNat)
  case atStart => exact ⟨v0, Int.le_refl _, hup.1, rfl, rfl⟩
  case round =>
    obtain ⟨u, hu1, hu2, rfl, hw⟩ := hrel
    obtain rfl := hw.out
    have htm : u.tmod 4 = u % 4 := Int.tmod_eq_emod_of_nonneg (by omega)
    by_cases hue : u = vt
    rotate_left
    · have hne : (u.tmod 4 != li) = true := by rw [htm]; exact bne_iff_ne.2 (HNO.out u hu1 (by omega))
      clear htm
      go_wp2
      go_roundw
      case rel => exact ⟨u + 1, by omega, by omega, by go_num, by first | exact trivial | exact rfl⟩
      case measure => simp [intOf]; omega
    · subst hue
      have hne : (u.tmod 4 != li) = false := by rw [htm, hum]; simp
      clear htm
      have m2 : wr.cell? ⟨Bm, 2, none⟩ = some (.int .i64 0) := cell_at HBU.out.2.1 2
      have fz2 := free_at HBU.out.2.1 2
      go_upto_region 13 with fail
      obtain ⟨U1, hU1⟩ : ∃ U1, U1 = wr.setCell ⟨Bm, 2, none⟩ (.int .i64 u) := ⟨_, rfl⟩
      rw [← hU1]
      have HX1 : Hid (U1.heap[Bm]? = some (.cells #[.int .i64 1, .int .i64 li, .int .i64 u, .int .i64 0, .int .i64 0, .int .u64 0, .int .u64 0, .int .u64 0, .int .u64 0, .int .u64 0, .string ⟨#[]⟩, .int .u64 0, .int .i64 0, .int .u64 0, .int .u64 0, .int .u64 0, .int .u64 0, .int .u64 0, .int .u64 0] 40 (0, 0))) := by rw [hU1]; exact heap_store (i := 2) HBU.out.2.1 _
      have HF1 : Hid (Fr (fun b => b = Bm) wr U1) := by rw [hU1]; exact Fr.setCell (S := fun b => b = Bm) _ (a := ⟨Bm, 2, none⟩) rfl _
      have HC1 : Hid (U1.heap[Bc]? = some (.cells #[.int .i64 cv, .int .u64 cb, .int .u64 k0, .int .u64 k1, .int .u64 k2, .int .u64 k3] 26 (0, 0))) := by rw [hU1]; exact (heap_store_ne _ (Ne.symm HNB.out.2.2.2.2)).trans HBU.out.2.2
      clear hU1 m2 fz2
      have HA0 : Hid (∀ b, A 0 b → b ≠ Bm) := fun b hb e => HNB.out.2.1 ⟨0, by omega, by rw [← e]; exact hb⟩
      have HK1 : Hid (KMem U1 p (A 0) ps K) := HSU.out.k.fr HF1.out (fun b h1 h2 => HA0.out b h1 h2) (fun e => HB0.out e.symm)
      have HFW : Hid (Fr (fun b => A 0 b ∨ b = Bm) W U1) := (Fr.of_below HU.out.1).trans (HF1.out.mono (fun _ h => .inr h)) (fun _ h => .inl h)
      have HCM : Hid (Calls Tryd.prog 20 #[.pointer (some ⟨p, 0, none⟩)] U1.drew fun e w' => e = .returned (.string (cmdText (nn + 1))) ∧ KMem w' p (A 0) ps { K with count := ((nn + 1 : Nat) : Int) } ∧ Fr (A 0) U1 w') := (kcommand U1.drew p (A 0) ps K (HK1.out.heap rfl) nn HCN.out (by omega)).mono (fun e w' h => ⟨h.1, h.2.1, (Fr.drew _ _).trans h.2.2 (fun _ h => .inl h)⟩)
      have HBB : Hid (∀ W', Fr (A 0) U1 W' → W'.heap[Bm]? = some (.cells #[.int .i64 1, .int .i64 li, .int .i64 u, .int .i64 0, .int .i64 0, .int .u64 0, .int .u64 0, .int .u64 0, .int .u64 0, .int .u64 0, .string ⟨#[]⟩, .int .u64 0, .int .i64 0, .int .u64 0, .int .u64 0, .int .u64 0, .int .u64 0, .int .u64 0, .int .u64 0] 40 (0, 0)) ∧ W'.heap[Bc]? = some (.cells #[.int .i64 cv, .int .u64 cb, .int .u64 k0, .int .u64 k1, .int .u64 k2, .int .u64 k3] 26 (0, 0))) := fun W' hW => ⟨(hW.block Bm (lt_at HX1.out) (fun h => HA0.out _ h rfl)).trans HX1.out, (hW.block Bc (lt_at HC1.out) (fun h => HNB.out.2.2.1 ⟨0, by omega, h⟩)).trans HC1.out⟩
      have HS13 : Hid (∀ W', Fr (A 0) U1 W' → (rowVar 26 ⟨Bc, 0, none⟩).run Tryd.prog W' = .ok (.agg #[.int .i64 cv, .int .u64 cb, .int .u64 k0, .int .u64 k1, .int .u64 k2, .int .u64 k3]) W') := fun W' hW => rowVar_whole _ Bc 26 26 _ (0, 0) _ (HBB.out W' hW).2 Tryd.underlying26 rfl (by kernel_rfl)
      have HPU13 : Hid (∀ W', Fr (A 0) U1 W' → (rowPut 38 ⟨Bm, 3, none⟩ (.agg #[.int .i64 u, .int .i64 cv, .int .u64 cb, .int .u64 k0, .int .u64 k1, .int .u64 k2, .int .u64 k3, .string (cmdText (nn + 1))])).run Tryd.prog W' = .ok () (W'.setCells Bm 3 [.int .i64 u, .int .i64 cv, .int .u64 cb, .int .u64 k0, .int .u64 k1, .int .u64 k2, .int .u64 k3, .string (cmdText (nn + 1))])) := fun W' hW => rowPut_mid W' Bm 3 38 #[.int .i64 u, .int .i64 cv, .int .u64 cb, .int .u64 k0, .int .u64 k1, .int .u64 k2, .int .u64 k3, .string (cmdText (nn + 1))] (there_box (HBB.out W' hW).1 3 8 (by simp)) (by kernel_rfl) (by simp [Value.oneCell'])
      refine kly_r13 HCM HS13 HPU13 ?_
      intro e78 e79 e80 e81 e82 e83 w5 hm5 hf5
      simp only [Exit.then]
      obtain ⟨V1, hV1⟩ : ∃ V1, V1 = w5.setCells Bm 3 [.int .i64 u, .int .i64 cv, .int .u64 cb, .int .u64 k0, .int .u64 k1, .int .u64 k2, .int .u64 k3, .string (cmdText (nn + 1))] := ⟨_, rfl⟩
      rw [← hV1]
      have HXV : Hid (V1.heap[Bm]? = some (.cells #[.int .i64 1, .int .i64 li, .int .i64 u, .int .i64 u, .int .i64 cv, .int .u64 cb, .int .u64 k0, .int .u64 k1, .int .u64 k2, .int .u64 k3, .string (cmdText (nn + 1)), .int .u64 0, .int .i64 0, .int .u64 0, .int .u64 0, .int .u64 0, .int .u64 0, .int .u64 0, .int .u64 0] 40 (0, 0))) := by
        rw [hV1]
        have := heap_stores [.int .i64 u, .int .i64 cv, .int .u64 cb, .int .u64 k0, .int .u64 k1, .int .u64 k2, .int .u64 k3, .string (cmdText (nn + 1))] 3 (HBB.out w5 hf5).1
        rw [fill3] at this
        exact this
      have hfm : Fr (fun b => b = Bm) w5 V1 := by rw [hV1]; exact Fr.setCells (S := fun b => b = Bm) rfl _ _ _
      have HKV : Hid (KMem V1 p (A 0) ps { K with count := ((nn + 1 : Nat) : Int) }) := hm5.fr hfm (fun b h1 h2 => HA0.out b h1 h2) (fun e => HB0.out e.symm)
      have HFV : Hid (Fr (fun b => A 0 b ∨ b = Bm) W V1) := (HFW.out.trans (hf5.mono (fun _ h => Or.inl h)) (fun _ h => .inl h)).trans (hfm.mono (fun _ h => .inr h)) (fun _ h => .inl h)
      clear hV1 hfm hm5 hf5 HCM HS13 HPU13 HBB HX1 HF1 HC1 HK1 HFW
      have hcs : (cmdText (nn + 1)).size ≤ 16 := cmd_size (nn + 1) (by omega)
      have HBO : Hid (Blk.Ok ⟨u, ⟨cv, cb, k0, k1, k2, k3⟩, cmdText (nn + 1)⟩) := ⟨by show _ ≤ u; omega, by show u ≤ _; omega, HCO.out, Nat.le_trans hcs (by decide)⟩
      have HLK : Hid (∀ W', W'.heap[Bm]? = some (.cells #[.int .i64 1, .int .i64 li, .int .i64 u, .int .i64 u, .int .i64 cv, .int .u64 cb, .int .u64 k0, .int .u64 k1, .int .u64 k2, .int .u64 k3, .string (cmdText (nn + 1)), .int .u64 0, .int .i64 0, .int .u64 0, .int .u64 0, .int .u64 0, .int .u64 0, .int .u64 0, .int .u64 0] 40 (0, 0)) → (rowVar 38 ⟨Bm, 3, none⟩).run Tryd.prog W' = .ok (.agg #[.int .i64 u, .int .i64 cv, .int .u64 cb, .int .u64 k0, .int .u64 k1, .int .u64 k2, .int .u64 k3, .string (cmdText (nn + 1))]) W') := fun W' hW => by
        refine rowVar_mid W' Bm 3 38 [.int .i64 u, .int .i64 cv, .int .u64 cb, .int .u64 k0, .int .u64 k1, .int .u64 k2, .int .u64 k3, .string (cmdText (nn + 1))] _ (fun j v hv => ?_) Tryd.underlying38 rfl (by kernel_rfl)
        rw [cell_at hW]
        rcases j with _ | _ | _ | _ | _ | _ | _ | _ | j
        · exact hv
        · exact hv
        · exact hv
        · exact hv
        · exact hv
        · exact hv
        · exact hv
        · exact hv
        · simp at hv
      have HMT : Hid (Calls Tryd.prog 55 #[.pointer (some ⟨p, 0, none⟩), .agg #[.int .i64 u, .int .i64 cv, .int .u64 cb, .int .u64 k0, .int .u64 k1, .int .u64 k2, .int .u64 k3, .string (cmdText (nn + 1))]] V1 fun e w' => e = .returned (.tuple #[]) ∧ ∃ S', KMem w' p S' ps (({ K with count := ((nn + 1 : Nat) : Int) } : Clu).meets ⟨u, ⟨cv, cb, k0, k1, k2, k3⟩, cmdText (nn + 1)⟩) ∧ Grow (A 0) V1 S' ∧ Fr (A 0) V1 w') := kmeets V1 p (A 0) ps _ HKV.out ⟨u, ⟨cv, cb, k0, k1, k2, k3⟩, cmdText (nn + 1)⟩ HBO.out HO.out.ok.bl (by have := HO.out.len.bl; show K.blocks.length ≤ _; omega)
      have hlk := HLK.out V1 HXV.out
      have HNU : Hid (∀ W', Tab W' → Calls Tryd.prog 27 #[.agg #[.int .i64 u, .int .i64 cv, .int .u64 cb, .int .u64 k0, .int .u64 k1, .int .u64 k2, .int .u64 k3, .string (cmdText (nn + 1))]] W' fun e w' => e = .returned (.int .u64 (Blk.num ⟨u, ⟨cv, cb, k0, k1, k2, k3⟩, cmdText (nn + 1)⟩ : Nat)) ∧ Below W'.heap.size W' w') := fun W' hW => pnum ⟨u, ⟨cv, cb, k0, k1, k2, k3⟩, cmdText (nn + 1)⟩ HBO.out HBO.out.c1 W' hW
      go_upto_region 15 with (go_at_call 55; refine HMT.out.mono ?_; rintro e w6 ⟨rfl, S6, hm6, hg6, hf6⟩; have HM6 : Hid (KMem w6 p S6 ps (({ K with count := ((nn + 1 : Nat) : Int) } : Clu).meets ⟨u, ⟨cv, cb, k0, k1, k2, k3⟩, cmdText (nn + 1)⟩) ∧ Grow (A 0) V1 S6 ∧ Fr (A 0) V1 w6) := ⟨hm6, hg6, hf6⟩; clear hm6 hg6 hf6)
      have HX6 : Hid (w6.heap[Bm]? = some (.cells #[.int .i64 1, .int .i64 li, .int .i64 u, .int .i64 u, .int .i64 cv, .int .u64 cb, .int .u64 k0, .int .u64 k1, .int .u64 k2, .int .u64 k3, .string (cmdText (nn + 1)), .int .u64 0, .int .i64 0, .int .u64 0, .int .u64 0, .int .u64 0, .int .u64 0, .int .u64 0, .int .u64 0] 40 (0, 0))) := (HM6.out.2.2.block Bm (lt_at HXV.out) (fun h => HA0.out _ h rfl)).trans HXV.out
      have hlk6 := HLK.out w6 HX6.out
      have HNU6 : Hid (Calls Tryd.prog 27 #[.agg #[.int .i64 u, .int .i64 cv, .int .u64 cb, .int .u64 k0, .int .u64 k1, .int .u64 k2, .int .u64 k3, .string (cmdText (nn + 1))]] w6 fun e w' => e = .returned (.int .u64 (Blk.num ⟨u, ⟨cv, cb, k0, k1, k2, k3⟩, cmdText (nn + 1)⟩ : Nat)) ∧ Below w6.heap.size w6 w') := HNU.out w6 HM6.out.1.tab
      have HNL : Hid (Blk.num ⟨u, ⟨cv, cb, k0, k1, k2, k3⟩, cmdText (nn + 1)⟩ < 18446744073709551616) := num_lt _
      clear hlk HMT HNU
      obtain ⟨nb, hnb⟩ : ∃ nb, nb = Blk.num ⟨u, ⟨cv, cb, k0, k1, k2, k3⟩, cmdText (nn + 1)⟩ := ⟨_, rfl⟩
      have HNB2 : Hid (nb = Blk.num ⟨u, ⟨cv, cb, k0, k1, k2, k3⟩, cmdText (nn + 1)⟩) := hnb
      rw [← hnb] at HNU6 HNL
      clear hnb
      go_upto_region 16 with (go_at_call 27; refine HNU6.out.mono ?_; rintro e w7 ⟨rfl, hb7⟩; have HB7 : Hid (Below w6.heap.size w6 w7) := hb7; clear hb7)
      have HX7 : Hid (w7.heap[Bm]? = some (.cells #[.int .i64 1, .int .i64 li, .int .i64 u, .int .i64 u, .int .i64 cv, .int .u64 cb, .int .u64 k0, .int .u64 k1, .int .u64 k2, .int .u64 k3, .string (cmdText (nn + 1)), .int .u64 0, .int .i64 0, .int .u64 0, .int .u64 0, .int .u64 0, .int .u64 0, .int .u64 0, .int .u64 0] 40 (0, 0))) := (HB7.out.block Bm (lt_at HX6.out)).trans HX6.out
      have HSL : Hid (Calls Tryd.prog 11 #[.int .i64 li, .int .i64 1, .int .i64 u, .int .u64 nb] w7 fun e w' => e = .returned (.int .u64 (sealOf li 1 u nb)) ∧ Below w7.heap.size w7 w') := pseal li 1 u nb (by omega) (by omega) (by decide) (by decide) (by omega) (by omega) HNL.out w7 (HM6.out.1.tab.below HB7.out).is
      obtain ⟨sq, hsq⟩ : ∃ sq, sq = sealOf li 1 u nb := ⟨_, rfl⟩
      have HSQ : Hid (sq = sealOf li 1 u nb) := hsq
      rw [← hsq] at HSL
      clear hsq hlk6 HNU6
      have HW8 : Hid (∀ W8, Below w7.heap.size w7 W8 → W8.cell? ⟨Bm, 18, none⟩ = some (.int .u64 0) ∧ W8.frozen? ⟨Bm, 18, none⟩ = false) := fun W8 h8 => by
        have hx8 := (h8.block Bm (lt_at HX7.out)).trans HX7.out
        exact ⟨cell_at hx8 18, free_at hx8 18⟩
      go_wp2_with (go_at_call 11; refine HSL.out.mono ?_; rintro e w8 ⟨rfl, hb8⟩; have HB8 : Hid (Below w7.heap.size w7 w8) := hb8; clear hb8; obtain ⟨d18, z18⟩ := HW8.out w8 HB8.out)
      have hxf := heap_store (i := 18) ((HB8.out.block Bm (lt_at HX7.out)).trans HX7.out) (.int .u64 sq)
      have hfs : Fr (fun b => b = Bm) w8 (w8.setCell ⟨Bm, 18, none⟩ (.int .u64 sq)) := Fr.setCell (S := fun b => b = Bm) _ (a := ⟨Bm, 18, none⟩) rfl _
      have hs6 : ∀ b, S6 b → b ≠ Bm := fun b hb e => by
        subst e
        rcases HM6.out.2.1 b hb with h1 | h1
        · exact HA0.out b h1 rfl
        · have := lt_at HXV.out; omega
      have hkf : KMem (w8.setCell ⟨Bm, 18, none⟩ (.int .u64 sq)) p S6 ps (({ K with count := ((nn + 1 : Nat) : Int) } : Clu).meets ⟨u, ⟨cv, cb, k0, k1, k2, k3⟩, cmdText (nn + 1)⟩) := ((HM6.out.1.below HB7.out).below HB8.out).fr hfs hs6 (fun e => HB0.out e.symm)
      have hff : Fr (fun b => A 0 b ∨ b = Bm) W (w8.setCell ⟨Bm, 18, none⟩ (.int .u64 sq)) := (((HFV.out.trans (HM6.out.2.2.mono (fun _ h => Or.inl h)) (fun _ h => .inl h)).trans (Fr.of_below HB7.out) (fun _ h => .inl h)).trans (Fr.of_below HB8.out) (fun _ h => .inl h)).trans (hfs.mono (fun _ h => .inr h)) (fun _ h => .inl h)
      have hgg : Grow (A 0) W S6 := (Grow.refl (A 0) W).trans HFV.out.size HM6.out.2.1
      refine HEX.out (S' := S6) (v := u) (sq := sq) HUV.out ?_ ?_ hgg hff hxf
      · rw [HSQ.out, HNB2.out]
      · exact HS.out.clu2 (B := Bm) hkf (meets_ck _ _).m hgg hff HNB.out.2.1 HB0.out
end Go.Proofs.YtkehpnobidendaaDoor

namespace Go.Proofs.YtkehpnobidendaaDoor
open Go.RowKit
attribute [local go_sem ↓] ld_crtK put_crtK load_blk
theorem fill12 (a0 a1 a2 a3 a4 a5 a6 a7 a8 a9 a10 a11 a12 a13 a14 a15 a16 a17 a18 b0 b1 b2 b3 b4 b5 : Value) : fillA #[a0, a1, a2, a3, a4, a5, a6, a7, a8, a9, a10, a11, a12, a13, a14, a15, a16, a17, a18] 12 [b0, b1, b2, b3, b4, b5] = #[a0, a1, a2, a3, a4, a5, a6, a7, a8, a9, a10, a11, b0, b1, b2, b3, b4, b5, a18] := by kernel_rfl
theorem fill20 (a0 a1 a2 a3 a4 a5 a6 a7 a8 a9 a10 a11 a12 a13 a14 a15 a16 a17 a18 a19 z0 z1 z2 z3 z4 z5 z6 z7 z8 z9 z10 z11 z12 z13 z14 z15 z16 z17 z18 z19 : Value) : fillA #[z0, z1, z2, z3, z4, z5, z6, z7, z8, z9, z10, z11, z12, z13, z14, z15, z16, z17, z18, z19] 0 [a0, a1, a2, a3, a4, a5, a6, a7, a8, a9, a10, a11, a12, a13, a14, a15, a16, a17, a18, a19] = #[a0, a1, a2, a3, a4, a5, a6, a7, a8, a9, a10, a11, a12, a13, a14, a15, a16, a17, a18, a19] := by kernel_rfl
noncomputable def kly6 : Code := ((Tryd.f40.body.bind (fromReg 5))).getD .skip
set_option maxRecDepth 1000000 in
set_option maxHeartbeats 8000000 in
theorem kly_e {y0 y1 y2 y4 y8 y9 y10 y11 y12 y13 y14 y15 y16 y17 y18 y19 y20 y21 y22 y23 y24 y25 y26 y27 y28 y29 y30 y31 y32 y33 y34 y35 y36 y37 y38 y39 y40 y41 y42 y43 y44 y45 y46 y47 y48 y49 y50 y51 y52 y53 y54 y55 y56 y57 y58 y59 y60 y61 y62 y63 y64 y65 y66 y67 y68 y69 y70 y71 y72 y73 y74 y75 y76 y77 y78 y79 y80 y81 y82 y83 y84 y85 y86 y87 y88 y89 y90 y91 y92 y93 y94 y95 y96 y97 y98 y99 y100 y101 y102 y103 y104 y105 y106 y107 y108 y109 y110 y111 y112 y113 y114 y115 y116 y117 y118 y119 y120 y121 y122 y123 y124 y125 y126 y127 y128 y129 y130 y131 y132 y133 y134 y135 y136 y137 y138 y139 y140 y141 y142 y143 y144 y145 y146 y147 y148 y149 y150 y151 y152 y153 y154 y155 y156 y157 y158 y159 y160 y161 y162 y163 y164 y165 y166 y167 y168 y169 y170 y171 y172 y173 y174 y175 y176 y177 y178 y179 y180 y181 y182 y183 : Value} {kd li sa sb cv k0 k1 k2 k3 : Int} {cb Bt Bm Bc pk : Nat} {W : World} {Q : Exit → Act → World → Prop}
    (HPK : Hid (∀ W, Calls Tryd.prog 13 #[.int .i64 sa, .int .i64 6] W fun e w' => e = .returned (.int .i64 (pk : Int)) ∧ W = w')) (hpk : (pk : Int) ≤ 5) (hcv : 0 ≤ cv) (hcv1 : cv ≤ 1000) (hli : 0 ≤ li) (hli3 : li ≤ 3)
    (HTB : Hid (∀ W', Fr (fun b => b = Bm) W W' → Tab W'))
    (HBX : Hid (W.heap[Bt]? = some (.cells #[.int .i64 kd, .int .i64 sa, .int .i64 sb] 66 (0, 0)) ∧ W.heap[Bm]? = some (.cells #[.int .i64 3, .int .i64 li, .int .i64 0, .int .i64 0, .int .i64 0, .int .u64 0, .int .u64 0, .int .u64 0, .int .u64 0, .int .u64 0, .string ⟨#[]⟩, .int .u64 0, .int .i64 0, .int .u64 0, .int .u64 0, .int .u64 0, .int .u64 0, .int .u64 0, .int .u64 0] 40 (0, 0)) ∧ W.heap[Bc]? = some (.cells #[.int .i64 cv, .int .u64 cb, .int .u64 k0, .int .u64 k1, .int .u64 k2, .int .u64 k3] 26 (0, 0))))
    (HNB : Hid (Bm ≠ Bc))
    (HEX : Hid (∀ {v46 v47 v48 v49 v50 v51 v52 v53 v54 v55 v56 v57 v58 v59 v60 : Value} {w' : World} {v sq : Int}, v = cv + 1 + (pk : Int) → sq = sealOf li 3 v 0 → Fr (fun b => b = Bm) W w' → w'.heap[Bm]? = some (.cells #[.int .i64 3, .int .i64 li, .int .i64 v, .int .i64 0, .int .i64 0, .int .u64 0, .int .u64 0, .int .u64 0, .int .u64 0, .int .u64 0, .string ⟨#[]⟩, .int .u64 0, .int .i64 cv, .int .u64 cb, .int .u64 k0, .int .u64 k1, .int .u64 k2, .int .u64 k3, .int .u64 sq] 40 (0, 0)) → Q .normal ⟨List.toArray (y0 :: y1 :: y2 :: .pointer (some ⟨Bt, 0, none⟩) :: y4 :: .int .i64 li :: .pointer (some ⟨Bm, 0, none⟩) :: .pointer (some ⟨Bc, 0, none⟩) :: y8 :: y9 :: y10 :: y11 :: y12 :: y13 :: y14 :: y15 :: y16 :: y17 :: y18 :: y19 :: y20 :: y21 :: y22 :: y23 :: y24 :: y25 :: y26 :: y27 :: y28 :: y29 :: y30 :: y31 :: y32 :: y33 :: y34 :: y35 :: y36 :: y37 :: y38 :: y39 :: y40 :: y41 :: y42 :: y43 :: y44 :: y45 :: v46 :: v47 :: v48 :: v49 :: v50 :: v51 :: v52 :: v53 :: v54 :: v55 :: v56 :: v57 :: v58 :: v59 :: v60 :: y61 :: y62 :: y63 :: y64 :: y65 :: y66 :: y67 :: y68 :: y69 :: y70 :: y71 :: y72 :: y73 :: y74 :: y75 :: y76 :: y77 :: y78 :: y79 :: y80 :: y81 :: y82 :: y83 :: y84 :: y85 :: y86 :: y87 :: y88 :: y89 :: y90 :: y91 :: y92 :: y93 :: y94 :: y95 :: y96 :: y97 :: y98 :: y99 :: y100 :: y101 :: y102 :: y103 :: y104 :: y105 :: y106 :: y107 :: y108 :: y109 :: y110 :: y111 :: y112 :: y113 :: y114 :: y115 :: y116 :: y117 :: y118 :: y119 :: y120 :: y121 :: y122 :: y123 :: y124 :: y125 :: y126 :: y127 :: y128 :: y129 :: y130 :: y131 :: y132 :: y133 :: y134 :: y135 :: y136 :: y137 :: y138 :: y139 :: y140 :: y141 :: y142 :: y143 :: y144 :: y145 :: y146 :: y147 :: y148 :: y149 :: y150 :: y151 :: y152 :: y153 :: y154 :: y155 :: y156 :: y157 :: y158 :: y159 :: y160 :: y161 :: y162 :: y163 :: y164 :: y165 :: y166 :: y167 :: y168 :: y169 :: y170 :: y171 :: y172 :: y173 :: y174 :: y175 :: y176 :: y177 :: y178 :: y179 :: y180 :: y181 :: y182 :: y183 :: []), []⟩ w')) :
    Code.wp Tryd.prog kly6 Q ⟨List.toArray (y0 :: y1 :: y2 :: .pointer (some ⟨Bt, 0, none⟩) :: y4 :: .int .i64 li :: .pointer (some ⟨Bm, 0, none⟩) :: .pointer (some ⟨Bc, 0, none⟩) :: y8 :: y9 :: y10 :: y11 :: y12 :: y13 :: y14 :: y15 :: y16 :: y17 :: y18 :: y19 :: y20 :: y21 :: y22 :: y23 :: y24 :: y25 :: y26 :: y27 :: y28 :: y29 :: y30 :: y31 :: y32 :: y33 :: y34 :: y35 :: y36 :: y37 :: y38 :: y39 :: y40 :: y41 :: y42 :: y43 :: y44 :: y45 :: y46 :: y47 :: y48 :: y49 :: y50 :: y51 :: y52 :: y53 :: y54 :: y55 :: y56 :: y57 :: y58 :: y59 :: y60 :: y61 :: y62 :: y63 :: y64 :: y65 :: y66 :: y67 :: y68 :: y69 :: y70 :: y71 :: y72 :: y73 :: y74 :: y75 :: y76 :: y77 :: y78 :: y79 :: y80 :: y81 :: y82 :: y83 :: y84 :: y85 :: y86 :: y87 :: y88 :: y89 :: y90 :: y91 :: y92 :: y93 :: y94 :: y95 :: y96 :: y97 :: y98 :: y99 :: y100 :: y101 :: y102 :: y103 :: y104 :: y105 :: y106 :: y107 :: y108 :: y109 :: y110 :: y111 :: y112 :: y113 :: y114 :: y115 :: y116 :: y117 :: y118 :: y119 :: y120 :: y121 :: y122 :: y123 :: y124 :: y125 :: y126 :: y127 :: y128 :: y129 :: y130 :: y131 :: y132 :: y133 :: y134 :: y135 :: y136 :: y137 :: y138 :: y139 :: y140 :: y141 :: y142 :: y143 :: y144 :: y145 :: y146 :: y147 :: y148 :: y149 :: y150 :: y151 :: y152 :: y153 :: y154 :: y155 :: y156 :: y157 :: y158 :: y159 :: y160 :: y161 :: y162 :: y163 :: y164 :: y165 :: y166 :: y167 :: y168 :: y169 :: y170 :: y171 :: y172 :: y173 :: y174 :: y175 :: y176 :: y177 :: y178 :: y179 :: y180 :: y181 :: y182 :: y183 :: []), []⟩ W := by
  conv => arg 2; whnf
  have c0 : W.cell? ⟨Bc, 0, none⟩ = some (.int .i64 cv) := cell_at HBX.out.2.2 0
  have t1 : W.cell? ⟨Bt, 1, none⟩ = some (.int .i64 sa) := cell_at HBX.out.1 1
  have m2 : W.cell? ⟨Bm, 2, none⟩ = some (.int .i64 0) := cell_at HBX.out.2.1 2
  have fz2 := free_at HBX.out.2.1 2
  have hw1 : IntKind.i64.wrap (cv + 1) = cv + 1 := by rw [IntKind.wrap_i64]; omega
  have hw2 : IntKind.i64.wrap (cv + 1 + (pk : Int)) = cv + 1 + (pk : Int) := by rw [IntKind.wrap_i64]; omega
  go_upto_region 5 with fail
  refine kly_r5 HPK hw1 hw2 c0 t1 m2 fz2 ?_
  intro e46 e47 e48 e49 e50 e51 e52 e53
  simp only [Exit.then]
  obtain ⟨v, hv⟩ : ∃ v, v = cv + 1 + (pk : Int) := ⟨_, rfl⟩
  rw [← hv]
  have HV : Hid (v = cv + 1 + (pk : Int)) := hv
  have hv1 : 1 ≤ v := by omega
  have hv2 : v ≤ 1010 := by omega
  obtain ⟨U, hU⟩ : ∃ U, U = (W.setCell ⟨Bm, 2, none⟩ (.int .i64 v)).drew := ⟨_, rfl⟩
  rw [← hU]
  have HFU : Hid (Fr (fun b => b = Bm) W U) := by rw [hU]; exact (Fr.setCell (S := fun b => b = Bm) _ (a := ⟨Bm, 2, none⟩) rfl _).trans (Fr.drew (fun b => b = Bm) _) (fun _ h => .inl h)
  have hXU : U.heap[Bm]? = some (.cells #[.int .i64 3, .int .i64 li, .int .i64 v, .int .i64 0, .int .i64 0, .int .u64 0, .int .u64 0, .int .u64 0, .int .u64 0, .int .u64 0, .string ⟨#[]⟩, .int .u64 0, .int .i64 0, .int .u64 0, .int .u64 0, .int .u64 0, .int .u64 0, .int .u64 0, .int .u64 0] 40 (0, 0)) := by rw [hU]; exact heap_store (i := 2) HBX.out.2.1 _
  have hCU : U.heap[Bc]? = some (.cells #[.int .i64 cv, .int .u64 cb, .int .u64 k0, .int .u64 k1, .int .u64 k2, .int .u64 k3] 26 (0, 0)) := by rw [hU]; exact (heap_store_ne _ (Ne.symm HNB.out)).trans HBX.out.2.2
  have hlw : (rowVar 26 ⟨Bc, 0, none⟩).run Tryd.prog U = .ok (.agg #[.int .i64 cv, .int .u64 cb, .int .u64 k0, .int .u64 k1, .int .u64 k2, .int .u64 k3]) U := rowVar_whole _ Bc 26 26 _ (0, 0) _ hCU Tryd.underlying26 rfl (by kernel_rfl)
  have hpu : (rowPut 26 ⟨Bm, 12, none⟩ (.agg #[.int .i64 cv, .int .u64 cb, .int .u64 k0, .int .u64 k1, .int .u64 k2, .int .u64 k3])).run Tryd.prog U = .ok () (U.setCells Bm 12 [.int .i64 cv, .int .u64 cb, .int .u64 k0, .int .u64 k1, .int .u64 k2, .int .u64 k3]) := rowPut_mid U Bm 12 26 #[.int .i64 cv, .int .u64 cb, .int .u64 k0, .int .u64 k1, .int .u64 k2, .int .u64 k3] (there_box hXU 12 6 (by simp)) (by kernel_rfl) (by simp [Value.oneCell'])
  obtain ⟨V, hVV⟩ : ∃ V, V = U.setCells Bm 12 [.int .i64 cv, .int .u64 cb, .int .u64 k0, .int .u64 k1, .int .u64 k2, .int .u64 k3] := ⟨_, rfl⟩
  rw [← hVV] at hpu
  have HXV : Hid (V.heap[Bm]? = some (.cells #[.int .i64 3, .int .i64 li, .int .i64 v, .int .i64 0, .int .i64 0, .int .u64 0, .int .u64 0, .int .u64 0, .int .u64 0, .int .u64 0, .string ⟨#[]⟩, .int .u64 0, .int .i64 cv, .int .u64 cb, .int .u64 k0, .int .u64 k1, .int .u64 k2, .int .u64 k3, .int .u64 0] 40 (0, 0))) := by
    rw [hVV]
    have := heap_stores [.int .i64 cv, .int .u64 cb, .int .u64 k0, .int .u64 k1, .int .u64 k2, .int .u64 k3] 12 hXU
    rw [fill12] at this
    exact this
  have HFV : Hid (Fr (fun b => b = Bm) W V) := by rw [hVV]; exact HFU.out.trans (Fr.setCells (S := fun b => b = Bm) rfl _ _ _) (fun _ h => .inl h)
  clear hU hVV hXU hCU hv c0 t1 m2 fz2 hw1 hw2
  go_upto_region 7 with fail
  clear hlw hpu
  have d2 : V.cell? ⟨Bm, 2, none⟩ = some (.int .i64 v) := cell_at HXV.out 2
  have HSL : Hid (Calls Tryd.prog 11 #[.int .i64 li, .int .i64 3, .int .i64 v, .int .u64 0] V fun e w' => e = .returned (.int .u64 (sealOf li 3 v 0)) ∧ Below V.heap.size V w') := pseal li 3 v 0 (by omega) (by omega) (by decide) (by decide) (by omega) (by omega) (by decide) V (HTB.out V HFV.out).is
  obtain ⟨sq, hsq⟩ : ∃ sq, sq = sealOf li 3 v 0 := ⟨_, rfl⟩
  have HSQ : Hid (sq = sealOf li 3 v 0) := hsq
  rw [← hsq] at HSL
  clear hsq
  have HW8 : Hid (∀ W8, Below V.heap.size V W8 → W8.cell? ⟨Bm, 18, none⟩ = some (.int .u64 0) ∧ W8.frozen? ⟨Bm, 18, none⟩ = false) := fun W8 h8 => by
    have hx8 := (h8.block Bm (lt_at HXV.out)).trans HXV.out
    exact ⟨cell_at hx8 18, free_at hx8 18⟩
  go_wp2_with (go_at_call 11; refine HSL.out.mono ?_; rintro e w8 ⟨rfl, hb8⟩; have HB8 : Hid (Below V.heap.size V w8) := hb8; clear hb8; obtain ⟨d18, z18⟩ := HW8.out w8 HB8.out)
  have hxf := heap_store (i := 18) ((HB8.out.block Bm (lt_at HXV.out)).trans HXV.out) (.int .u64 sq)
  exact HEX.out HV.out HSQ.out ((HFV.out.trans (Fr.of_below HB8.out) (fun _ h => .inl h)).trans (Fr.setCell (S := fun b => b = Bm) _ (a := ⟨Bm, 18, none⟩) rfl _) (fun _ h => .inl h)) hxf
theorem setCells_drew : ∀ (vs : List Value) (o : Nat) (w : World) (b : Nat), w.drew.setCells b o vs = (w.setCells b o vs).drew
  | [], _, _, _ => rfl
  | v :: r, o, w, b => setCells_drew r (o + 1) (w.setCell ⟨b, o, none⟩ v) b
attribute [local go_sem ↓] ld_ltr put_ltr
noncomputable def kly5 : Code := ((Tryd.f40.body.bind (fromReg 18))).getD .skip
set_option maxRecDepth 1000000 in
set_option maxHeartbeats 8000000 in
theorem kly_v {y1 y2 y4 y7 y8 y9 y10 y11 y12 y13 y14 y15 y16 y17 y18 y19 y20 y21 y22 y23 y24 y25 y26 y27 y28 y29 y30 y31 y32 y33 y34 y35 y36 y37 y38 y39 y40 y41 y42 y43 y44 y45 y46 y47 y48 y49 y50 y51 y52 y53 y54 y55 y56 y57 y58 y59 y60 y61 y62 y63 y64 y65 y66 y67 y68 y69 y70 y71 y72 y73 y74 y75 y76 y77 y78 y79 y80 y81 y82 y83 y84 y85 y86 y87 y88 y89 y90 y91 y92 y93 y94 y95 y96 y97 y98 y99 y100 y101 y102 y103 y104 y105 y106 y107 y108 y109 y110 y111 y112 y113 y114 y115 y116 y117 y118 y119 y120 y121 y122 y123 y124 y125 y126 y127 y128 y129 y130 y131 y132 y133 y134 y135 y136 y137 y138 y139 y140 y141 y142 y143 y144 y145 y146 y147 y148 y149 y150 y151 y152 y153 y154 y155 y156 y157 y158 y159 y160 y161 y162 y163 y164 y165 y166 y167 y168 y169 y170 y171 y172 y173 y174 y175 y176 y177 y178 y179 y180 y181 y182 y183 : Value} {kd li sa sb : Int} {p Bt Bm n : Nat} {W : World} {A : Nat → Nat → Prop} {ps : List (Option Nat)} {K : Clu} {Q : Exit → Act → World → Prop}
    (HPK : Hid (K.letters.length ≠ 0 → ∀ W, Calls Tryd.prog 13 #[.int .i64 sa, .int .i64 K.letters.length] W fun e w' => e = .returned (.int .i64 (pickN sa K.letters.length : Nat)) ∧ W = w')) (hli : 0 ≤ li) (hli3 : li ≤ 3)
    (HS : Hid (KSit W p A ps K)) (HO : Hid (KOk K n)) (hn : n ≤ 1500000000)
    (HTB : Hid (∀ W', Fr (fun b => b = Bm) W W' → Tab W'))
    (HBX : Hid (W.heap[Bt]? = some (.cells #[.int .i64 kd, .int .i64 sa, .int .i64 sb] 66 (0, 0)) ∧ W.heap[Bm]? = some (.cells #[.int .i64 2, .int .i64 li, .int .i64 0, .int .i64 0, .int .i64 0, .int .u64 0, .int .u64 0, .int .u64 0, .int .u64 0, .int .u64 0, .string ⟨#[]⟩, .int .u64 0, .int .i64 0, .int .u64 0, .int .u64 0, .int .u64 0, .int .u64 0, .int .u64 0, .int .u64 0] 40 (0, 0))))
    (HRE : Hid (∀ {v10 v98 v99 v100 v101 v102 v103 v104 v105 v106 v107 v108 v109 v110 v111 v112 v113 v114 v115 v116 v117 v118 v119 v120 v121 v122 v123 v124 v125 v126 v127 v128 v129 v130 v131 v132 v133 v134 v135 v136 v137 v138 v139 v140 v141 v142 v143 v144 : Value} {w' : World}, (K.letters.length = 0 ∨ (K.letters.getD (K.letters.length - 1 - pickN sa K.letters.length) ⟨0, Msg.zero⟩).msg.kind ≠ 1) → Below W.heap.size W w' → Q .ret ⟨List.toArray (.pointer (some ⟨p, 0, none⟩) :: y1 :: y2 :: .pointer (some ⟨Bt, 0, none⟩) :: .bool true :: .int .i64 li :: .pointer (some ⟨Bm, 0, none⟩) :: y7 :: y8 :: y9 :: v10 :: y11 :: y12 :: y13 :: y14 :: y15 :: y16 :: y17 :: y18 :: y19 :: y20 :: y21 :: y22 :: y23 :: y24 :: y25 :: y26 :: y27 :: y28 :: y29 :: y30 :: y31 :: y32 :: y33 :: y34 :: y35 :: y36 :: y37 :: y38 :: y39 :: y40 :: y41 :: y42 :: y43 :: y44 :: y45 :: y46 :: y47 :: y48 :: y49 :: y50 :: y51 :: y52 :: y53 :: y54 :: y55 :: y56 :: y57 :: y58 :: y59 :: y60 :: y61 :: y62 :: y63 :: y64 :: y65 :: y66 :: y67 :: y68 :: y69 :: y70 :: y71 :: y72 :: y73 :: y74 :: y75 :: y76 :: y77 :: y78 :: y79 :: y80 :: y81 :: y82 :: y83 :: y84 :: y85 :: y86 :: y87 :: y88 :: y89 :: y90 :: y91 :: y92 :: y93 :: y94 :: y95 :: y96 :: y97 :: v98 :: v99 :: v100 :: v101 :: v102 :: v103 :: v104 :: v105 :: v106 :: v107 :: v108 :: v109 :: v110 :: v111 :: v112 :: v113 :: v114 :: v115 :: v116 :: v117 :: v118 :: v119 :: v120 :: v121 :: v122 :: v123 :: v124 :: v125 :: v126 :: v127 :: v128 :: v129 :: v130 :: v131 :: v132 :: v133 :: v134 :: v135 :: v136 :: v137 :: v138 :: v139 :: v140 :: v141 :: v142 :: v143 :: v144 :: y145 :: y146 :: y147 :: y148 :: y149 :: y150 :: y151 :: y152 :: y153 :: y154 :: y155 :: y156 :: y157 :: y158 :: y159 :: y160 :: y161 :: y162 :: y163 :: y164 :: y165 :: y166 :: y167 :: y168 :: y169 :: y170 :: y171 :: y172 :: y173 :: y174 :: y175 :: y176 :: y177 :: y178 :: y179 :: y180 :: y181 :: y182 :: y183 :: []), []⟩ w'))
    (HEX : Hid (∀ {v10 v98 v99 v100 v101 v102 v103 v104 v105 v106 v107 v108 v109 v110 v111 v112 v113 v114 v115 v116 v117 v118 v119 v120 v121 v122 v123 v124 v125 v126 v127 v128 v129 v130 v131 v132 v133 v134 v135 v136 v137 v138 v139 v140 v141 v142 v143 v144 : Value} {w' : World} {l : Ltr} {sq xv : Int} {nb : Nat}, l = K.letters.getD (K.letters.length - 1 - pickN sa K.letters.length) ⟨0, Msg.zero⟩ → K.letters.length ≠ 0 → l.msg.kind = 1 → xv = l.msg.view → nb = l.msg.block.num → sq = sealOf li 2 xv nb → Fr (fun b => b = Bm) W w' → w'.heap[Bm]? = some (.cells #[.int .i64 2, .int .i64 li, .int .i64 xv, .int .i64 0, .int .i64 0, .int .u64 0, .int .u64 0, .int .u64 0, .int .u64 0, .int .u64 0, .string ⟨#[]⟩, .int .u64 nb, .int .i64 0, .int .u64 0, .int .u64 0, .int .u64 0, .int .u64 0, .int .u64 0, .int .u64 sq] 40 (0, 0)) → Q .normal ⟨List.toArray (.pointer (some ⟨p, 0, none⟩) :: y1 :: y2 :: .pointer (some ⟨Bt, 0, none⟩) :: y4 :: .int .i64 li :: .pointer (some ⟨Bm, 0, none⟩) :: y7 :: y8 :: y9 :: v10 :: y11 :: y12 :: y13 :: y14 :: y15 :: y16 :: y17 :: y18 :: y19 :: y20 :: y21 :: y22 :: y23 :: y24 :: y25 :: y26 :: y27 :: y28 :: y29 :: y30 :: y31 :: y32 :: y33 :: y34 :: y35 :: y36 :: y37 :: y38 :: y39 :: y40 :: y41 :: y42 :: y43 :: y44 :: y45 :: y46 :: y47 :: y48 :: y49 :: y50 :: y51 :: y52 :: y53 :: y54 :: y55 :: y56 :: y57 :: y58 :: y59 :: y60 :: y61 :: y62 :: y63 :: y64 :: y65 :: y66 :: y67 :: y68 :: y69 :: y70 :: y71 :: y72 :: y73 :: y74 :: y75 :: y76 :: y77 :: y78 :: y79 :: y80 :: y81 :: y82 :: y83 :: y84 :: y85 :: y86 :: y87 :: y88 :: y89 :: y90 :: y91 :: y92 :: y93 :: y94 :: y95 :: y96 :: y97 :: v98 :: v99 :: v100 :: v101 :: v102 :: v103 :: v104 :: v105 :: v106 :: v107 :: v108 :: v109 :: v110 :: v111 :: v112 :: v113 :: v114 :: v115 :: v116 :: v117 :: v118 :: v119 :: v120 :: v121 :: v122 :: v123 :: v124 :: v125 :: v126 :: v127 :: v128 :: v129 :: v130 :: v131 :: v132 :: v133 :: v134 :: v135 :: v136 :: v137 :: v138 :: v139 :: v140 :: v141 :: v142 :: v143 :: v144 :: y145 :: y146 :: y147 :: y148 :: y149 :: y150 :: y151 :: y152 :: y153 :: y154 :: y155 :: y156 :: y157 :: y158 :: y159 :: y160 :: y161 :: y162 :: y163 :: y164 :: y165 :: y166 :: y167 :: y168 :: y169 :: y170 :: y171 :: y172 :: y173 :: y174 :: y175 :: y176 :: y177 :: y178 :: y179 :: y180 :: y181 :: y182 :: y183 :: []), []⟩ w')) :
    Code.wp Tryd.prog kly5 Q ⟨List.toArray (.pointer (some ⟨p, 0, none⟩) :: y1 :: y2 :: .pointer (some ⟨Bt, 0, none⟩) :: y4 :: .int .i64 li :: .pointer (some ⟨Bm, 0, none⟩) :: y7 :: y8 :: y9 :: y10 :: y11 :: y12 :: y13 :: y14 :: y15 :: y16 :: y17 :: y18 :: y19 :: y20 :: y21 :: y22 :: y23 :: y24 :: y25 :: y26 :: y27 :: y28 :: y29 :: y30 :: y31 :: y32 :: y33 :: y34 :: y35 :: y36 :: y37 :: y38 :: y39 :: y40 :: y41 :: y42 :: y43 :: y44 :: y45 :: y46 :: y47 :: y48 :: y49 :: y50 :: y51 :: y52 :: y53 :: y54 :: y55 :: y56 :: y57 :: y58 :: y59 :: y60 :: y61 :: y62 :: y63 :: y64 :: y65 :: y66 :: y67 :: y68 :: y69 :: y70 :: y71 :: y72 :: y73 :: y74 :: y75 :: y76 :: y77 :: y78 :: y79 :: y80 :: y81 :: y82 :: y83 :: y84 :: y85 :: y86 :: y87 :: y88 :: y89 :: y90 :: y91 :: y92 :: y93 :: y94 :: y95 :: y96 :: y97 :: y98 :: y99 :: y100 :: y101 :: y102 :: y103 :: y104 :: y105 :: y106 :: y107 :: y108 :: y109 :: y110 :: y111 :: y112 :: y113 :: y114 :: y115 :: y116 :: y117 :: y118 :: y119 :: y120 :: y121 :: y122 :: y123 :: y124 :: y125 :: y126 :: y127 :: y128 :: y129 :: y130 :: y131 :: y132 :: y133 :: y134 :: y135 :: y136 :: y137 :: y138 :: y139 :: y140 :: y141 :: y142 :: y143 :: y144 :: y145 :: y146 :: y147 :: y148 :: y149 :: y150 :: y151 :: y152 :: y153 :: y154 :: y155 :: y156 :: y157 :: y158 :: y159 :: y160 :: y161 :: y162 :: y163 :: y164 :: y165 :: y166 :: y167 :: y168 :: y169 :: y170 :: y171 :: y172 :: y173 :: y174 :: y175 :: y176 :: y177 :: y178 :: y179 :: y180 :: y181 :: y182 :: y183 :: []), []⟩ W := by
  conv => arg 2; whnf
  obtain ⟨al, cl, q2, hrow⟩ := HS.out.lcells
  have hll : K.letters.length ≤ 1600000000 := by have := HO.out.len.lt; omega
  by_cases hz : K.letters.length = 0
  · have hzb : ((K.letters.length : Int) == 0) = true := by rw [hz]; rfl
    go_wp2
    exact HRE.out (.inl hz) (Below.refl _ _)
  have hzb : ((K.letters.length : Int) == 0) = false := beq_eq_false_iff_ne.2 (by omega)
  obtain ⟨g, off, rfl, hSg, hg, hcap⟩ := hrow.place (by omega)
  have hpl := pickN_lt sa K.letters.length (by omega)
  have HPK1 := HPK.out hz
  have HPK2 : Hid (∀ W, Calls Tryd.prog 13 #[.int .i64 sa, .int .i64 K.letters.length] W fun e w' => e = .returned (.int .i64 (pickN sa K.letters.length : Nat)) ∧ W = w') := HPK1
  generalize pickN sa K.letters.length = pk at hpl HPK2 HRE HEX
  obtain ⟨i, hi⟩ : ∃ i, i = K.letters.length - 1 - pk := ⟨_, rfl⟩
  rw [← hi] at HRE HEX
  have hil : i < K.letters.length := by omega
  have hw1 : IntKind.i64.wrap ((K.letters.length : Int) - 1) = (K.letters.length : Int) - 1 := by rw [IntKind.wrap_i64]; omega
  have hw2 : IntKind.i64.wrap ((K.letters.length : Int) - 1 - (pk : Int)) = (i : Int) := by rw [IntKind.wrap_i64]; omega
  have hi0 : (0 : Int) ≤ (i : Int) := by omega
  have hi1 : (i : Int) < (K.letters.length : Int) := by omega
  have hget : K.letters.getD i ⟨0, Msg.zero⟩ = K.letters[i] := by rw [List.getD_eq_getElem?_getD, List.getElem?_eq_getElem hil]; rfl
  rw [hget] at HRE HEX
  have HLO : Hid (Ltr.Ok K.letters[i]) := HO.out.lt _ (List.getElem_mem hil)
  have hel := hrow.elemAt (show ∀ l : Ltr, l.cells.length = 20 from fun _ => rfl) i hil
  generalize K.letters[i] = l at HLO hel HRE HEX
  obtain ⟨l0, ⟨xk, xf, xv, ⟨bv, ⟨jv, jb, j0, j1, j2, j3⟩, bc⟩, nu, ⟨cv, cb, k0, k1, k2, k3⟩, sl⟩⟩ := l
  have hpW : p < W.heap.size := HS.out.k.lt
  have HS20 : Hid (∀ W', Below W.heap.size W W' → Below W.heap.size W W' ∧ W'.cell? ⟨p, 2, none⟩ = some (.slice (some ⟨g, off, none⟩) K.letters.length cl) ∧ W'.cell? ⟨Bt, 1, none⟩ = some (.int .i64 sa) ∧ (rowVar 42 ⟨g, off + i * 20, none⟩).run Tryd.prog W' = .ok (.agg #[.int .i64 l0, .int .i64 xk, .int .i64 xf, .int .i64 xv, .int .i64 bv, .int .i64 jv, .int .u64 jb, .int .u64 j0, .int .u64 j1, .int .u64 j2, .int .u64 j3, .string bc, .int .u64 nu, .int .i64 cv, .int .u64 cb, .int .u64 k0, .int .u64 k1, .int .u64 k2, .int .u64 k3, .int .u64 sl]) W') := fun W' hW => by
    refine ⟨hW, (hW.cell (p := ⟨p, 2, none⟩) hpW).trans q2, (hW.cell (p := ⟨Bt, 1, none⟩) (lt_at HBX.out.1)).trans (cell_at HBX.out.1 1), ?_⟩
    exact rowVar_mid W' g (off + i * 20) _ (Ltr.cells ⟨l0, ⟨xk, xf, xv, ⟨bv, ⟨jv, jb, j0, j1, j2, j3⟩, bc⟩, nu, ⟨cv, cb, k0, k1, k2, k3⟩, sl⟩⟩) _ (fun j v hv => (hW.cell (p := ⟨g, off + i * 20 + j, none⟩) hg).trans (hel j v hv)) Tryd.underlying42 rfl ltr_size20
  have hpu : (rowPut 42 ⟨W.heap.size, 0, none⟩ (.agg #[.int .i64 l0, .int .i64 xk, .int .i64 xf, .int .i64 xv, .int .i64 bv, .int .i64 jv, .int .u64 jb, .int .u64 j0, .int .u64 j1, .int .u64 j2, .int .u64 j3, .string bc, .int .u64 nu, .int .i64 cv, .int .u64 cb, .int .u64 k0, .int .u64 k1, .int .u64 k2, .int .u64 k3, .int .u64 sl])).run Tryd.prog (W.alloc (.cells #[.int .i64 0, .int .i64 0, .int .i64 0, .int .i64 0, .int .i64 0, .int .i64 0, .int .u64 0, .int .u64 0, .int .u64 0, .int .u64 0, .int .u64 0, .string ⟨#[]⟩, .int .u64 0, .int .i64 0, .int .u64 0, .int .u64 0, .int .u64 0, .int .u64 0, .int .u64 0, .int .u64 0] 42)).drew = .ok () (W.alloc (.cells #[.int .i64 l0, .int .i64 xk, .int .i64 xf, .int .i64 xv, .int .i64 bv, .int .i64 jv, .int .u64 jb, .int .u64 j0, .int .u64 j1, .int .u64 j2, .int .u64 j3, .string bc, .int .u64 nu, .int .i64 cv, .int .u64 cb, .int .u64 k0, .int .u64 k1, .int .u64 k2, .int .u64 k3, .int .u64 sl] 42)).drew := by
    have h1 := rowPut_mid (P := Tryd.prog) (W.alloc (.cells #[.int .i64 0, .int .i64 0, .int .i64 0, .int .i64 0, .int .i64 0, .int .i64 0, .int .u64 0, .int .u64 0, .int .u64 0, .int .u64 0, .int .u64 0, .string ⟨#[]⟩, .int .u64 0, .int .i64 0, .int .u64 0, .int .u64 0, .int .u64 0, .int .u64 0, .int .u64 0, .int .u64 0] 42)).drew W.heap.size 0 42 #[.int .i64 l0, .int .i64 xk, .int .i64 xf, .int .i64 xv, .int .i64 bv, .int .i64 jv, .int .u64 jb, .int .u64 j0, .int .u64 j1, .int .u64 j2, .int .u64 j3, .string bc, .int .u64 nu, .int .i64 cv, .int .u64 cb, .int .u64 k0, .int .u64 k1, .int .u64 k2, .int .u64 k3, .int .u64 sl] (LHeld.start0 W _ rfl _) ltr_size20 (by simp [Value.oneCell'])
    rw [h1, setCells_drew, setCells_new, fill20]
  clear hel hrow hcap hSg hget HPK1 HPK
  go_upto_region 20 with fail
  refine kly_r20 HPK2 hw1 hw2 hi0 hi1 HS20 hpu ?_
  intro e104 e105 e106 e107 e108 e109 e110 e111 e112 e113 e114 e115 e116 e117 e118 e119 e120 e121 e122 e123 e124
  simp only [Exit.then]
  have hbmW : Bm < W.heap.size := lt_at HBX.out.2
  obtain ⟨X, hX⟩ : ∃ X, X = (W.alloc (.cells #[.int .i64 l0, .int .i64 xk, .int .i64 xf, .int .i64 xv, .int .i64 bv, .int .i64 jv, .int .u64 jb, .int .u64 j0, .int .u64 j1, .int .u64 j2, .int .u64 j3, .string bc, .int .u64 nu, .int .i64 cv, .int .u64 cb, .int .u64 k0, .int .u64 k1, .int .u64 k2, .int .u64 k3, .int .u64 sl] 42)).drew := ⟨_, rfl⟩
  rw [← hX]
  have HBW : Hid (Below W.heap.size W X) := by rw [hX]; exact (below_alloc _ _).drew
  have HXL : Hid (X.heap[W.heap.size]? = some (.cells #[.int .i64 l0, .int .i64 xk, .int .i64 xf, .int .i64 xv, .int .i64 bv, .int .i64 jv, .int .u64 jb, .int .u64 j0, .int .u64 j1, .int .u64 j2, .int .u64 j3, .string bc, .int .u64 nu, .int .i64 cv, .int .u64 cb, .int .u64 k0, .int .u64 k1, .int .u64 k2, .int .u64 k3, .int .u64 sl] 42 (0, 0))) := by rw [hX]; exact heap_alloc_new W _
  have HXM : Hid (X.heap[Bm]? = some (.cells #[.int .i64 2, .int .i64 li, .int .i64 0, .int .i64 0, .int .i64 0, .int .u64 0, .int .u64 0, .int .u64 0, .int .u64 0, .int .u64 0, .string ⟨#[]⟩, .int .u64 0, .int .i64 0, .int .u64 0, .int .u64 0, .int .u64 0, .int .u64 0, .int .u64 0, .int .u64 0] 40 (0, 0))) := (HBW.out.block Bm hbmW).trans HBX.out.2
  clear hX hpu HS20 HPK2 hw1 hw2 q2
  obtain ⟨Bl, hBl⟩ : ∃ b, b = W.heap.size := ⟨_, rfl⟩
  rw [← hBl] at HXL ⊢
  have HBL : Hid (Bl ≠ Bm) := by show Bl ≠ Bm; omega
  clear hBl hbmW
  have l1 : X.cell? ⟨Bl, 1, none⟩ = some (.int .i64 xk) := cell_at HXL.out 1
  have l3 : X.cell? ⟨Bl, 3, none⟩ = some (.int .i64 xv) := cell_at HXL.out 3
  have m2 : X.cell? ⟨Bm, 2, none⟩ = some (.int .i64 0) := cell_at HXM.out 2
  have fz2 := free_at HXM.out 2
  by_cases hk1 : xk = 1
  rotate_left
  · have hkb : (xk != 1) = true := bne_iff_ne.2 hk1
    go_wp2
    exact HRE.out (.inr hk1) HBW.out
  have HK1 : Hid (xk = 1) := hk1
  have hkb : (xk != 1) = false := by rw [hk1]; rfl
  clear hk1
  go_upto_region 24 with fail
  obtain ⟨U, hU⟩ : ∃ U, U = X.setCell ⟨Bm, 2, none⟩ (.int .i64 xv) := ⟨_, rfl⟩
  rw [← hU]
  have HFU : Hid (Fr (fun b => b = Bm) W U) := by rw [hU]; exact (Fr.of_below HBW.out).trans (Fr.setCell (S := fun b => b = Bm) _ (a := ⟨Bm, 2, none⟩) rfl _) (fun _ h => .inl h)
  have HXU : Hid (U.heap[Bm]? = some (.cells #[.int .i64 2, .int .i64 li, .int .i64 xv, .int .i64 0, .int .i64 0, .int .u64 0, .int .u64 0, .int .u64 0, .int .u64 0, .int .u64 0, .string ⟨#[]⟩, .int .u64 0, .int .i64 0, .int .u64 0, .int .u64 0, .int .u64 0, .int .u64 0, .int .u64 0, .int .u64 0] 40 (0, 0))) := by rw [hU]; exact heap_store (i := 2) HXM.out _
  have HLU : Hid (U.heap[Bl]? = some (.cells #[.int .i64 l0, .int .i64 xk, .int .i64 xf, .int .i64 xv, .int .i64 bv, .int .i64 jv, .int .u64 jb, .int .u64 j0, .int .u64 j1, .int .u64 j2, .int .u64 j3, .string bc, .int .u64 nu, .int .i64 cv, .int .u64 cb, .int .u64 k0, .int .u64 k1, .int .u64 k2, .int .u64 k3, .int .u64 sl] 42 (0, 0))) := by rw [hU]; exact (heap_store_ne _ HBL.out).trans HXL.out
  have hlk : (rowVar 38 ⟨Bl, 4, none⟩).run Tryd.prog U = .ok (.agg #[.int .i64 bv, .int .i64 jv, .int .u64 jb, .int .u64 j0, .int .u64 j1, .int .u64 j2, .int .u64 j3, .string bc]) U := by
    refine rowVar_mid U Bl 4 38 [.int .i64 bv, .int .i64 jv, .int .u64 jb, .int .u64 j0, .int .u64 j1, .int .u64 j2, .int .u64 j3, .string bc] _ (fun j v hv => ?_) Tryd.underlying38 rfl (by kernel_rfl)
    rw [cell_at HLU.out]
    rcases j with _ | _ | _ | _ | _ | _ | _ | _ | j
    · exact hv
    · exact hv
    · exact hv
    · exact hv
    · exact hv
    · exact hv
    · exact hv
    · exact hv
    · simp at hv
  have HNU : Hid (Calls Tryd.prog 27 #[.agg #[.int .i64 bv, .int .i64 jv, .int .u64 jb, .int .u64 j0, .int .u64 j1, .int .u64 j2, .int .u64 j3, .string bc]] U fun e w' => e = .returned (.int .u64 (Blk.num ⟨bv, ⟨jv, jb, j0, j1, j2, j3⟩, bc⟩ : Nat)) ∧ Below U.heap.size U w') := pnum ⟨bv, ⟨jv, jb, j0, j1, j2, j3⟩, bc⟩ HLO.out.1.b HLO.out.1.b.c1 U (HTB.out U HFU.out)
  have HNL : Hid (Blk.num ⟨bv, ⟨jv, jb, j0, j1, j2, j3⟩, bc⟩ < 18446744073709551616) := num_lt _
  obtain ⟨nb, hnb⟩ : ∃ nb, nb = Blk.num ⟨bv, ⟨jv, jb, j0, j1, j2, j3⟩, bc⟩ := ⟨_, rfl⟩
  have HNB2 : Hid (nb = Blk.num ⟨bv, ⟨jv, jb, j0, j1, j2, j3⟩, bc⟩) := hnb
  rw [← hnb] at HNU HNL
  have HW6 : Hid (∀ W8, Below U.heap.size U W8 → W8.cell? ⟨Bm, 11, none⟩ = some (.int .u64 0) ∧ W8.frozen? ⟨Bm, 11, none⟩ = false) := fun W8 h8 => by
    have hx8 := (h8.block Bm (lt_at HXU.out)).trans HXU.out
    exact ⟨cell_at hx8 11, free_at hx8 11⟩
  clear hU hnb l1 l3 m2 fz2
  go_upto_region 25 with (go_at_call 27; refine HNU.out.mono ?_; rintro e w6 ⟨rfl, hb6⟩; have HB6 : Hid (Below U.heap.size U w6) := hb6; clear hb6; obtain ⟨d11, z11⟩ := HW6.out w6 HB6.out)
  obtain ⟨V, hV⟩ : ∃ V, V = w6.setCell ⟨Bm, 11, none⟩ (.int .u64 nb) := ⟨_, rfl⟩
  rw [← hV]
  have HXV : Hid (V.heap[Bm]? = some (.cells #[.int .i64 2, .int .i64 li, .int .i64 xv, .int .i64 0, .int .i64 0, .int .u64 0, .int .u64 0, .int .u64 0, .int .u64 0, .int .u64 0, .string ⟨#[]⟩, .int .u64 nb, .int .i64 0, .int .u64 0, .int .u64 0, .int .u64 0, .int .u64 0, .int .u64 0, .int .u64 0] 40 (0, 0))) := by rw [hV]; exact heap_store (i := 11) ((HB6.out.block Bm (lt_at HXU.out)).trans HXU.out) _
  have HFV : Hid (Fr (fun b => b = Bm) W V) := by rw [hV]; exact (HFU.out.trans (Fr.of_below HB6.out) (fun _ h => .inl h)).trans (Fr.setCell (S := fun b => b = Bm) _ (a := ⟨Bm, 11, none⟩) rfl _) (fun _ h => .inl h)
  clear hV d11 z11 hlk HNU HW6
  have e2 : V.cell? ⟨Bm, 2, none⟩ = some (.int .i64 xv) := cell_at HXV.out 2
  have e11 : V.cell? ⟨Bm, 11, none⟩ = some (.int .u64 nb) := cell_at HXV.out 11
  have HSL : Hid (Calls Tryd.prog 11 #[.int .i64 li, .int .i64 2, .int .i64 xv, .int .u64 nb] V fun e w' => e = .returned (.int .u64 (sealOf li 2 xv nb)) ∧ Below V.heap.size V w') := pseal li 2 xv nb (by omega) (by omega) (by decide) (by decide) HLO.out.2.1 HLO.out.2.2 HNL.out V (HTB.out V HFV.out).is
  obtain ⟨sq, hsq⟩ : ∃ sq, sq = sealOf li 2 xv nb := ⟨_, rfl⟩
  have HSQ : Hid (sq = sealOf li 2 xv nb) := hsq
  rw [← hsq] at HSL
  have HW8 : Hid (∀ W8, Below V.heap.size V W8 → W8.cell? ⟨Bm, 18, none⟩ = some (.int .u64 0) ∧ W8.frozen? ⟨Bm, 18, none⟩ = false) := fun W8 h8 => by
    have hx8 := (h8.block Bm (lt_at HXV.out)).trans HXV.out
    exact ⟨cell_at hx8 18, free_at hx8 18⟩
  clear hsq
  go_wp2_with (go_at_call 11; refine HSL.out.mono ?_; rintro e w8 ⟨rfl, hb8⟩; have HB8 : Hid (Below V.heap.size V w8) := hb8; clear hb8; obtain ⟨d18, z18⟩ := HW8.out w8 HB8.out)
  have hxf := heap_store (i := 18) ((HB8.out.block Bm (lt_at HXV.out)).trans HXV.out) (.int .u64 sq)
  exact HEX.out (l := ⟨l0, ⟨xk, xf, xv, ⟨bv, ⟨jv, jb, j0, j1, j2, j3⟩, bc⟩, nu, ⟨cv, cb, k0, k1, k2, k3⟩, sl⟩⟩) rfl hz HK1.out rfl HNB2.out HSQ.out ((HFV.out.trans (Fr.of_below HB8.out) (fun _ h => .inl h)).trans (Fr.setCell (S := fun b => b = Bm) _ (a := ⟨Bm, 18, none⟩) rfl _) (fun _ h => .inl h)) hxf
end Go.Proofs.YtkehpnobidendaaDoor
