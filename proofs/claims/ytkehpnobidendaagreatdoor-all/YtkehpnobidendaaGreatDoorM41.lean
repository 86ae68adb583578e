/- The document's proposal: its end: what it knows and learns, its vote, its view. The document's proposal: what it knows and learns, its vote, its view. -/
import Derived.Test.YtkehpnobidendaaGreatDoorM40
import Derived.Test.YtkehpnobidendaaGreatDoorM34
namespace Go.Proofs.YtkehpnobidendaaGreatDoor
open Go.RowKit

noncomputable def rprF : Code := ((Tryz.f66.body.bind (zfrom 21))).getD .skip
set_option maxRecDepth 1000000 in
set_option maxHeartbeats 8000000 in
theorem rpr_fin {y1 y2 y4 y5 y6 y7 y8 y9 y10 y11 y12 y13 y14 y15 y16 y17 y18 y19 y20 y21 y22 y23 y24 y25 y26 y27 y28 y29 y30 y31 y32 y33 y34 y35 y36 y37 y38 y39 y40 y41 y42 y43 y44 y45 y46 y47 y48 y49 y50 y51 y52 y53 y54 y55 y56 y57 y58 y59 y60 y61 y62 y63 y64 y65 y66 y67 y68 y69 y70 y71 y72 y73 y74 y75 y76 y77 y78 y79 y80 y81 y82 y83 y84 y85 y86 y87 y88 y89 y90 y91 y92 y93 y94 y95 y96 y97 y98 y99 y100 y101 y102 y103 y104 y105 y106 y107 y108 y109 y110 y111 y112 y113 y114 y115 y116 y117 y118 y119 y120 y121 y122 y123 y124 y125 y126 y127 y128 y129 y130 y131 y132 y133 y134 y135 y136 y137 y138 y139 y140 y141 y142 y143 y144 y145 y146 y147 y148 y149 y150 y151 y152 y153 y154 y155 y156 y157 y158 y159 y160 y161 y162 y163 y164 y165 y166 y167 y168 y169 y170 y171 y172 y173 y174 y175 : Value} {p bx B : Nat} {xk xf xv jv j0 j1 j2 j3 cv c0 c1 c2 c3 xs : Int} {jb xn cb : Nat} {bcm : ByteArray} {S : Nat → Prop} {m : Mem} {out : List Ltr} {V : World} {Q : Exit → Act → World → Prop}
    (HM : Hid (RMem V p S B m out)) (HBX : Hid (V.heap[bx]? = some (.cells #[.int .i64 xk, .int .i64 xf, .int .i64 xv, .int .i64 xv, .int .i64 jv, .int .u64 jb, .int .u64 j0, .int .u64 j1, .int .u64 j2, .int .u64 j3, .string bcm, .int .u64 xn, .int .i64 cv, .int .u64 cb, .int .u64 c0, .int .u64 c1, .int .u64 c2, .int .u64 c3, .int .u64 xs] 43 (0, 0)))) (hv0 : 1 ≤ xv) (hv1 : xv ≤ 1000)
    (HRE : Hid (∀ {v164 v165 v166 v167 v168 v169 v170 v171 v172 v173 v174 v175 : Value} {w' : World}, RMem w' p S B (m.enter (if xv < 1000 then xv + 1 else xv)) out ∧ Fr S V w' → Q .ret ⟨List.toArray (.pointer (some ⟨p, 0, none⟩) :: y1 :: y2 :: .pointer (some ⟨bx, 0, none⟩) :: .int .i64 0 :: y5 :: y6 :: y7 :: y8 :: y9 :: y10 :: y11 :: y12 :: y13 :: y14 :: y15 :: y16 :: y17 :: y18 :: y19 :: y20 :: y21 :: y22 :: y23 :: y24 :: y25 :: y26 :: y27 :: y28 :: y29 :: y30 :: y31 :: y32 :: y33 :: y34 :: y35 :: y36 :: y37 :: y38 :: y39 :: y40 :: y41 :: y42 :: y43 :: y44 :: y45 :: y46 :: y47 :: y48 :: y49 :: y50 :: y51 :: y52 :: y53 :: y54 :: y55 :: y56 :: y57 :: y58 :: y59 :: y60 :: y61 :: y62 :: y63 :: y64 :: y65 :: y66 :: y67 :: y68 :: y69 :: y70 :: y71 :: y72 :: y73 :: y74 :: y75 :: y76 :: y77 :: y78 :: y79 :: y80 :: y81 :: y82 :: y83 :: y84 :: y85 :: y86 :: y87 :: y88 :: y89 :: y90 :: y91 :: y92 :: y93 :: y94 :: y95 :: y96 :: y97 :: y98 :: y99 :: y100 :: y101 :: y102 :: y103 :: y104 :: y105 :: y106 :: y107 :: y108 :: y109 :: y110 :: y111 :: y112 :: y113 :: y114 :: y115 :: y116 :: y117 :: y118 :: y119 :: y120 :: y121 :: y122 :: y123 :: y124 :: y125 :: y126 :: y127 :: y128 :: y129 :: y130 :: y131 :: y132 :: y133 :: y134 :: y135 :: y136 :: y137 :: y138 :: y139 :: y140 :: y141 :: y142 :: y143 :: y144 :: y145 :: y146 :: y147 :: y148 :: y149 :: y150 :: y151 :: y152 :: y153 :: y154 :: y155 :: y156 :: y157 :: y158 :: y159 :: y160 :: y161 :: y162 :: y163 :: v164 :: v165 :: v166 :: v167 :: v168 :: v169 :: v170 :: v171 :: v172 :: v173 :: v174 :: v175 :: []), []⟩ w')) :
    Code.wp Tryz.prog rprF Q ⟨List.toArray (.pointer (some ⟨p, 0, none⟩) :: y1 :: y2 :: .pointer (some ⟨bx, 0, none⟩) :: y4 :: y5 :: y6 :: y7 :: y8 :: y9 :: y10 :: y11 :: y12 :: y13 :: y14 :: y15 :: y16 :: y17 :: y18 :: y19 :: y20 :: y21 :: y22 :: y23 :: y24 :: y25 :: y26 :: y27 :: y28 :: y29 :: y30 :: y31 :: y32 :: y33 :: y34 :: y35 :: y36 :: y37 :: y38 :: y39 :: y40 :: y41 :: y42 :: y43 :: y44 :: y45 :: y46 :: y47 :: y48 :: y49 :: y50 :: y51 :: y52 :: y53 :: y54 :: y55 :: y56 :: y57 :: y58 :: y59 :: y60 :: y61 :: y62 :: y63 :: y64 :: y65 :: y66 :: y67 :: y68 :: y69 :: y70 :: y71 :: y72 :: y73 :: y74 :: y75 :: y76 :: y77 :: y78 :: y79 :: y80 :: y81 :: y82 :: y83 :: y84 :: y85 :: y86 :: y87 :: y88 :: y89 :: y90 :: y91 :: y92 :: y93 :: y94 :: y95 :: y96 :: y97 :: y98 :: y99 :: y100 :: y101 :: y102 :: y103 :: y104 :: y105 :: y106 :: y107 :: y108 :: y109 :: y110 :: y111 :: y112 :: y113 :: y114 :: y115 :: y116 :: y117 :: y118 :: y119 :: y120 :: y121 :: y122 :: y123 :: y124 :: y125 :: y126 :: y127 :: y128 :: y129 :: y130 :: y131 :: y132 :: y133 :: y134 :: y135 :: y136 :: y137 :: y138 :: y139 :: y140 :: y141 :: y142 :: y143 :: y144 :: y145 :: y146 :: y147 :: y148 :: y149 :: y150 :: y151 :: y152 :: y153 :: y154 :: y155 :: y156 :: y157 :: y158 :: y159 :: y160 :: y161 :: y162 :: y163 :: y164 :: y165 :: y166 :: y167 :: y168 :: y169 :: y170 :: y171 :: y172 :: y173 :: y174 :: y175 :: []), []⟩ V := by
  conv => arg 2; whnf
  have a2 : V.cell? ⟨bx, 2, none⟩ = some (.int .i64 xv) := cell_at HBX.out 2
  by_cases h : xv < 1000
  · have HK : Hid ((if xv < 1000 then xv + 1 else xv) = xv + 1) := if_pos h
    have HE : Hid (Calls Tryz.prog 40 #[.pointer (some ⟨p, 0, none⟩), .int .i64 (xv + 1)] V fun e w' => e = .returned (.tuple #[]) ∧ RMem w' p S B (m.enter (xv + 1)) out ∧ Fr S V w') := renter V p S m B out HM.out (xv + 1)
    go_wp2_with (go_at_call 40; refine HE.out.mono ?_; rintro e w9 ⟨rfl, hm9, hf9⟩)
    refine HRE.out ?_
    rw [HK.out]
    exact ⟨hm9, hf9⟩
  · have HK : Hid ((if xv < 1000 then xv + 1 else xv) = xv) := if_neg h
    have HE : Hid (Calls Tryz.prog 40 #[.pointer (some ⟨p, 0, none⟩), .int .i64 xv] V fun e w' => e = .returned (.tuple #[]) ∧ RMem w' p S B (m.enter xv) out ∧ Fr S V w') := renter V p S m B out HM.out xv
    go_wp2_with (go_at_call 40; refine HE.out.mono ?_; rintro e w9 ⟨rfl, hm9, hf9⟩)
    refine HRE.out ?_
    rw [HK.out]
    exact ⟨hm9, hf9⟩
noncomputable def rprY : Code := ((Tryz.f66.body.bind (zfrom 18))).getD .skip
set_option maxRecDepth 1000000 in
set_option maxHeartbeats 8000000 in
theorem rpr_yes {y1 y2 y4 y5 y7 y8 y9 y10 y11 y12 y13 y14 y15 y16 y17 y18 y19 y20 y21 y22 y23 y24 y25 y26 y27 y28 y29 y30 y31 y32 y33 y34 y35 y36 y37 y38 y39 y40 y41 y42 y43 y44 y45 y46 y47 y48 y49 y50 y51 y52 y53 y54 y55 y56 y57 y58 y59 y60 y61 y62 y63 y64 y65 y66 y67 y68 y69 y70 y71 y72 y73 y74 y75 y76 y77 y78 y79 y80 y81 y82 y83 y84 y85 y86 y87 y88 y89 y90 y91 y92 y93 y94 y95 y96 y97 y98 y99 y100 y101 y102 y103 y104 y105 y106 y107 y108 y109 y110 y111 y112 y113 y114 y115 y116 y117 y118 y119 y120 y121 y122 y123 y124 y125 y126 y127 y128 y129 y130 y131 y132 y133 y134 y135 y136 y137 y138 y139 y140 y141 y142 y143 y144 y145 y146 y147 y148 y149 y150 y151 y152 y153 y154 y155 y156 y157 y158 y159 y160 y161 y162 y163 y164 y165 y166 y167 y168 y169 y170 y171 y172 y173 y174 y175 : Value} {p bx B n : Nat} {xk xf xv jv j0 j1 j2 j3 cv c0 c1 c2 c3 xs : Int} {jb xn cb : Nat} {bcm : ByteArray} {S : Nat → Prop} {m : Mem} {out : List Ltr} {V : World} {Q : Exit → Act → World → Prop}
    (HM : Hid (RMem V p S B m out)) (HBw : Hid (B ≤ V.heap.size)) (HBX : Hid (V.heap[bx]? = some (.cells #[.int .i64 xk, .int .i64 xf, .int .i64 xv, .int .i64 xv, .int .i64 jv, .int .u64 jb, .int .u64 j0, .int .u64 j1, .int .u64 j2, .int .u64 j3, .string bcm, .int .u64 xn, .int .i64 cv, .int .u64 cb, .int .u64 c0, .int .u64 c1, .int .u64 c2, .int .u64 c3, .int .u64 xs] 43 (0, 0)))) (HSX : Hid (¬ S bx)) (hv0 : 1 ≤ xv) (hv1 : xv ≤ 1000) (hn : n < 18446744073709551616) (i0 : 0 ≤ m.id) (i1 : m.id ≤ 3) (hout : out.length ≤ 1000)
    (HEX : Hid (∀ {v12 v140 v141 v142 v143 v144 v145 v146 v147 v148 v149 v150 v151 v152 v153 v154 v155 v156 v157 v158 v159 v160 v161 v162 v163 : Value} {w' : World}, (∃ S', RMem w' p S' B ({ m with voted := xv } : Mem) (out ++ [⟨(xv + 1) % 4, votMsg xv n m.id (sealOf m.id 2 xv n)⟩]) ∧ Grow S V S' ∧ Fr S V w') → Q .normal ⟨List.toArray (.pointer (some ⟨p, 0, none⟩) :: y1 :: y2 :: .pointer (some ⟨bx, 0, none⟩) :: y4 :: y5 :: .int .u64 (n : Nat) :: y7 :: y8 :: y9 :: y10 :: y11 :: v12 :: y13 :: y14 :: y15 :: y16 :: y17 :: y18 :: y19 :: y20 :: y21 :: y22 :: y23 :: y24 :: y25 :: y26 :: y27 :: y28 :: y29 :: y30 :: y31 :: y32 :: y33 :: y34 :: y35 :: y36 :: y37 :: y38 :: y39 :: y40 :: y41 :: y42 :: y43 :: y44 :: y45 :: y46 :: y47 :: y48 :: y49 :: y50 :: y51 :: y52 :: y53 :: y54 :: y55 :: y56 :: y57 :: y58 :: y59 :: y60 :: y61 :: y62 :: y63 :: y64 :: y65 :: y66 :: y67 :: y68 :: y69 :: y70 :: y71 :: y72 :: y73 :: y74 :: y75 :: y76 :: y77 :: y78 :: y79 :: y80 :: y81 :: y82 :: y83 :: y84 :: y85 :: y86 :: y87 :: y88 :: y89 :: y90 :: y91 :: y92 :: y93 :: y94 :: y95 :: y96 :: y97 :: y98 :: y99 :: y100 :: y101 :: y102 :: y103 :: y104 :: y105 :: y106 :: y107 :: y108 :: y109 :: y110 :: y111 :: y112 :: y113 :: y114 :: y115 :: y116 :: y117 :: y118 :: y119 :: y120 :: y121 :: y122 :: y123 :: y124 :: y125 :: y126 :: y127 :: y128 :: y129 :: y130 :: y131 :: y132 :: y133 :: y134 :: y135 :: y136 :: y137 :: y138 :: y139 :: v140 :: v141 :: v142 :: v143 :: v144 :: v145 :: v146 :: v147 :: v148 :: v149 :: v150 :: v151 :: v152 :: v153 :: v154 :: v155 :: v156 :: v157 :: v158 :: v159 :: v160 :: v161 :: v162 :: v163 :: y164 :: y165 :: y166 :: y167 :: y168 :: y169 :: y170 :: y171 :: y172 :: y173 :: y174 :: y175 :: []), []⟩ w')) :
    Code.wp Tryz.prog rprY Q ⟨List.toArray (.pointer (some ⟨p, 0, none⟩) :: y1 :: y2 :: .pointer (some ⟨bx, 0, none⟩) :: y4 :: y5 :: .int .u64 (n : Nat) :: y7 :: y8 :: y9 :: y10 :: y11 :: y12 :: y13 :: y14 :: y15 :: y16 :: y17 :: y18 :: y19 :: y20 :: y21 :: y22 :: y23 :: y24 :: y25 :: y26 :: y27 :: y28 :: y29 :: y30 :: y31 :: y32 :: y33 :: y34 :: y35 :: y36 :: y37 :: y38 :: y39 :: y40 :: y41 :: y42 :: y43 :: y44 :: y45 :: y46 :: y47 :: y48 :: y49 :: y50 :: y51 :: y52 :: y53 :: y54 :: y55 :: y56 :: y57 :: y58 :: y59 :: y60 :: y61 :: y62 :: y63 :: y64 :: y65 :: y66 :: y67 :: y68 :: y69 :: y70 :: y71 :: y72 :: y73 :: y74 :: y75 :: y76 :: y77 :: y78 :: y79 :: y80 :: y81 :: y82 :: y83 :: y84 :: y85 :: y86 :: y87 :: y88 :: y89 :: y90 :: y91 :: y92 :: y93 :: y94 :: y95 :: y96 :: y97 :: y98 :: y99 :: y100 :: y101 :: y102 :: y103 :: y104 :: y105 :: y106 :: y107 :: y108 :: y109 :: y110 :: y111 :: y112 :: y113 :: y114 :: y115 :: y116 :: y117 :: y118 :: y119 :: y120 :: y121 :: y122 :: y123 :: y124 :: y125 :: y126 :: y127 :: y128 :: y129 :: y130 :: y131 :: y132 :: y133 :: y134 :: y135 :: y136 :: y137 :: y138 :: y139 :: y140 :: y141 :: y142 :: y143 :: y144 :: y145 :: y146 :: y147 :: y148 :: y149 :: y150 :: y151 :: y152 :: y153 :: y154 :: y155 :: y156 :: y157 :: y158 :: y159 :: y160 :: y161 :: y162 :: y163 :: y164 :: y165 :: y166 :: y167 :: y168 :: y169 :: y170 :: y171 :: y172 :: y173 :: y174 :: y175 :: []), []⟩ V := by
  conv => arg 2; whnf
  have a2 : V.cell? ⟨bx, 2, none⟩ = some (.int .i64 xv) := cell_at HBX.out 2
  obtain ⟨vb, vv, ve, vp, vl, vq, vo, h, hB⟩ := HM.out
  have a3 : V.cell? ⟨p, 3, none⟩ = some (.int .i64 m.voted) := cell_at h.box 3
  have fz := free_at h.box
  have HBun : Hid (Bun V p 59 S (rcells m vb vv ve vp vl vq vo) [vb, vv, ve, vp, vl, vq, vo] rE (rX m out) ∧ (∀ k, vo.ownBlock = some k → B ≤ k)) := ⟨h, hB⟩
  clear h hB
  go_upto_region 19 with fail
  obtain ⟨V1, hV1⟩ : ∃ W, W = V.setCell ⟨p, 3, none⟩ (.int .i64 xv) := ⟨_, rfl⟩
  have HF1 : Hid (Fr S V V1) := by rw [hV1]; exact Fr.setCell V HBun.out.1.sp _
  have HM1 : Hid (RMem V1 p S B ({ m with voted := xv } : Mem) out) := by rw [hV1]; exact ⟨vb, vv, ve, vp, vl, vq, vo, RMem.set HBun.out.1 { m with voted := xv } 3 _ rfl rfl, HBun.out.2⟩
  have HX1 : Hid (V1.heap[bx]? = some (.cells #[.int .i64 xk, .int .i64 xf, .int .i64 xv, .int .i64 xv, .int .i64 jv, .int .u64 jb, .int .u64 j0, .int .u64 j1, .int .u64 j2, .int .u64 j3, .string bcm, .int .u64 xn, .int .i64 cv, .int .u64 cb, .int .u64 c0, .int .u64 c1, .int .u64 c2, .int .u64 c3, .int .u64 xs] 43 (0, 0))) := HF1.out.box HBX.out HSX.out
  rw [← hV1]
  clear hV1 a2 a3 fz HBun
  have hid : ({ m with voted := xv } : Mem).id = m.id := rfl
  have HSE : Hid (∀ c : Cls V1, Calls Tryz.prog 25 #[.int .i64 m.id, .int .i64 2, .int .i64 xv, .int .u64 n] c.w fun e w' => e = .returned (.int .u64 (sealOf m.id 2 xv n)) ∧ Below c.w.heap.size c.w w') := fun c => rseal m.id 2 xv n (by omega) (by omega) (by omega) (by omega) (by omega) (by omega) hn c.w
  have HSN : Hid (∀ W, Below V1.heap.size V1 W → ∀ sl : Int, Calls Tryz.prog 41 #[.pointer (some ⟨p, 0, none⟩), .int .i64 ((xv + 1) % 4), .agg #[.int .i64 2, .int .i64 0, .int .i64 xv, .int .i64 0, .int .i64 0, .int .u64 0, .int .u64 0, .int .u64 0, .int .u64 0, .int .u64 0, .string ⟨#[]⟩, .int .u64 n, .int .i64 0, .int .u64 0, .int .u64 0, .int .u64 0, .int .u64 0, .int .u64 0, .int .u64 sl]] W fun e w' => e = .returned (.tuple #[]) ∧ ∃ S', RMem w' p S' B ({ m with voted := xv } : Mem) (out ++ [⟨(xv + 1) % 4, votMsg xv n m.id sl⟩]) ∧ Grow S W S' ∧ Fr S W w') := fun W hW sl =>
    rsends W p S ({ m with voted := xv } : Mem) B (Nat.le_trans HBw.out (Nat.le_trans HF1.out.size hW.size)) out (HM1.out.below hW) ((xv + 1) % 4) ⟨2, 0, xv, ⟨0, ⟨0, 0, 0, 0, 0, 0⟩, ⟨#[]⟩⟩, n, ⟨0, 0, 0, 0, 0, 0⟩, sl⟩ hout
  have d0 : ∀ c : Cls V1, c.w.cell? ⟨p, 0, none⟩ = some (.int .i64 m.id) := fun c => (HM1.out.below c.b).see.c0
  have d2 : ∀ c : Cls V1, c.w.cell? ⟨bx, 2, none⟩ = some (.int .i64 xv) := fun c => cell_at (box_below HX1.out c.b) 2
  generalize sealOf m.id 2 xv n = sq at *
  refine wp_region_cls V1 (Below.refl _ _) (by kernel_rfl) (by kernel_rfl) ?_
  repeat (go_big_quiet_step ((go_at_call 25; exact Calls.cls (HSE.out _))))
  refine wpQuiet_nil ?_
  rintro W2 ⟨⟨_, hW2⟩, rfl⟩
  have HB2 : Hid (Below V1.heap.size V1 W2) := hW2
  clear hW2 d0 d2
  have b2 : W2.cell? ⟨bx, 2, none⟩ = some (.int .i64 xv) := cell_at (box_below HX1.out HB2.out) 2
  have hw1 : IntKind.i64.wrap (xv + 1) = xv + 1 := by rw [IntKind.wrap_i64]; omega
  go_wp2_with (go_at_call 41; refine (HSN.out W2 HB2.out sq).mono ?_; rintro e w8 ⟨rfl, S8, hm8, hg8, hf8⟩)
  refine HEX.out ⟨S8, hm8, fun k hk => (hg8 k hk).imp id (fun h => Nat.le_trans HF1.out.size (Nat.le_trans HB2.out.size h)), (HF1.out.trans (Fr.of_below (S := S) HB2.out) (fun _ h => .inl h)).trans hf8 (fun _ h => .inl h)⟩
end Go.Proofs.YtkehpnobidendaaGreatDoor

namespace Go.Proofs.YtkehpnobidendaaGreatDoor
open Go.RowKit

/-- What it comes to. -/
def Mem.voices (m1 : Mem) (b : Blk) (n : Nat) (out : List Ltr) : Mem × List Ltr := if m1.votesOn b = true then (({ m1 with voted := b.view } : Mem).enter (if b.view < 1000 then b.view + 1 else b.view), out ++ [⟨(b.view + 1) % 4, votMsg b.view n m1.id (sealOf m1.id 2 b.view n)⟩]) else (m1.enter (if b.view < 1000 then b.view + 1 else b.view), out)
noncomputable def rprE : Code := ((Tryz.f66.body.bind (zfrom 14))).getD .skip
set_option maxRecDepth 1000000 in
set_option maxHeartbeats 16000000 in
theorem rpr_end {y1 y2 y4 y7 y8 y9 y10 y11 y12 y13 y14 y15 y16 y17 y18 y19 y20 y21 y22 y23 y24 y25 y26 y27 y28 y29 y30 y31 y32 y33 y34 y35 y36 y37 y38 y39 y40 y41 y42 y43 y44 y45 y46 y47 y48 y49 y50 y51 y52 y53 y54 y55 y56 y57 y58 y59 y60 y61 y62 y63 y64 y65 y66 y67 y68 y69 y70 y71 y72 y73 y74 y75 y76 y77 y78 y79 y80 y81 y82 y83 y84 y85 y86 y87 y88 y89 y90 y91 y92 y93 y94 y95 y96 y97 y98 y99 y100 y101 y102 y103 y104 y105 y106 y107 y108 y109 y110 y111 y112 y113 y114 y115 y116 y117 y118 y119 y120 y121 y122 y123 y124 y125 y126 y127 y128 y129 y130 y131 y132 y133 y134 y135 y136 y137 y138 y139 y140 y141 y142 y143 y144 y145 y146 y147 y148 y149 y150 y151 y152 y153 y154 y155 y156 y157 y158 y159 y160 y161 y162 y163 y164 y165 y166 y167 y168 y169 y170 y171 y172 y173 y174 y175 : Value} {p bx bb B n : Nat} {xk xf xv jv j0 j1 j2 j3 cv c0 c1 c2 c3 xs : Int} {jb xn cb : Nat} {bcm : ByteArray} {S : Nat → Prop} {m : Mem} {out : List Ltr} {V : World} {Q : Exit → Act → World → Prop}
    (HM : Hid (RMem V p S B m out)) (HI : Hid (Inv m)) (HBO : Hid (Blk.Ok ⟨xv, ⟨jv, jb, j0, j1, j2, j3⟩, bcm⟩)) (HHE : Hid (Held m ⟨jv, jb, j0, j1, j2, j3⟩)) (h16 : bcm.size ≤ 16) (HBw : Hid (B ≤ V.heap.size)) (HBX : Hid (V.heap[bx]? = some (.cells #[.int .i64 xk, .int .i64 xf, .int .i64 xv, .int .i64 xv, .int .i64 jv, .int .u64 jb, .int .u64 j0, .int .u64 j1, .int .u64 j2, .int .u64 j3, .string bcm, .int .u64 xn, .int .i64 cv, .int .u64 cb, .int .u64 c0, .int .u64 c1, .int .u64 c2, .int .u64 c3, .int .u64 xs] 43 (0, 0)))) (HBB : Hid (V.heap[bb]? = some (.cells #[.int .i64 xv, .int .i64 jv, .int .u64 jb, .int .u64 j0, .int .u64 j1, .int .u64 j2, .int .u64 j3, .string bcm] 41 (0, 0)))) (HSX : Hid (¬ S bx)) (HSB : Hid (¬ S bb)) (hv0 : 1 ≤ xv) (hv1 : xv ≤ 1000) (hn : n < 18446744073709551616) (hout : out.length ≤ 1000) (hlog : m.log.length + m.blocks.length + 3 ≤ 1700000000000)
    (HRE : Hid (∀ {v11 v12 v111 v112 v113 v114 v115 v116 v117 v118 v119 v120 v121 v122 v123 v124 v125 v126 v127 v128 v129 v130 v131 v132 v133 v134 v135 v136 v137 v138 v139 v140 v141 v142 v143 v144 v145 v146 v147 v148 v149 v150 v151 v152 v153 v154 v155 v156 v157 v158 v159 v160 v161 v162 v163 v164 v165 v166 v167 v168 v169 v170 v171 v172 v173 v174 v175 : Value} {w' : World}, (∃ S', RMem w' p S' B ((m.heard ⟨xv, ⟨jv, jb, j0, j1, j2, j3⟩, bcm⟩).voices ⟨xv, ⟨jv, jb, j0, j1, j2, j3⟩, bcm⟩ n out).1 ((m.heard ⟨xv, ⟨jv, jb, j0, j1, j2, j3⟩, bcm⟩).voices ⟨xv, ⟨jv, jb, j0, j1, j2, j3⟩, bcm⟩ n out).2 ∧ Grow S V S' ∧ Fr S V w') → Q .ret ⟨List.toArray (.pointer (some ⟨p, 0, none⟩) :: y1 :: y2 :: .pointer (some ⟨bx, 0, none⟩) :: .int .i64 0 :: .pointer (some ⟨bb, 0, none⟩) :: .int .u64 (n : Nat) :: y7 :: y8 :: y9 :: y10 :: v11 :: v12 :: y13 :: y14 :: y15 :: y16 :: y17 :: y18 :: y19 :: y20 :: y21 :: y22 :: y23 :: y24 :: y25 :: y26 :: y27 :: y28 :: y29 :: y30 :: y31 :: y32 :: y33 :: y34 :: y35 :: y36 :: y37 :: y38 :: y39 :: y40 :: y41 :: y42 :: y43 :: y44 :: y45 :: y46 :: y47 :: y48 :: y49 :: y50 :: y51 :: y52 :: y53 :: y54 :: y55 :: y56 :: y57 :: y58 :: y59 :: y60 :: y61 :: y62 :: y63 :: y64 :: y65 :: y66 :: y67 :: y68 :: y69 :: y70 :: y71 :: y72 :: y73 :: y74 :: y75 :: y76 :: y77 :: y78 :: y79 :: y80 :: y81 :: y82 :: y83 :: y84 :: y85 :: y86 :: y87 :: y88 :: y89 :: y90 :: y91 :: y92 :: y93 :: y94 :: y95 :: y96 :: y97 :: y98 :: y99 :: y100 :: y101 :: y102 :: y103 :: y104 :: y105 :: y106 :: y107 :: y108 :: y109 :: y110 :: v111 :: v112 :: v113 :: v114 :: v115 :: v116 :: v117 :: v118 :: v119 :: v120 :: v121 :: v122 :: v123 :: v124 :: v125 :: v126 :: v127 :: v128 :: v129 :: v130 :: v131 :: v132 :: v133 :: v134 :: v135 :: v136 :: v137 :: v138 :: v139 :: v140 :: v141 :: v142 :: v143 :: v144 :: v145 :: v146 :: v147 :: v148 :: v149 :: v150 :: v151 :: v152 :: v153 :: v154 :: v155 :: v156 :: v157 :: v158 :: v159 :: v160 :: v161 :: v162 :: v163 :: v164 :: v165 :: v166 :: v167 :: v168 :: v169 :: v170 :: v171 :: v172 :: v173 :: v174 :: v175 :: []), []⟩ w')) :
    Code.wp Tryz.prog rprE Q ⟨List.toArray (.pointer (some ⟨p, 0, none⟩) :: y1 :: y2 :: .pointer (some ⟨bx, 0, none⟩) :: y4 :: .pointer (some ⟨bb, 0, none⟩) :: .int .u64 (n : Nat) :: y7 :: y8 :: y9 :: y10 :: y11 :: y12 :: y13 :: y14 :: y15 :: y16 :: y17 :: y18 :: y19 :: y20 :: y21 :: y22 :: y23 :: y24 :: y25 :: y26 :: y27 :: y28 :: y29 :: y30 :: y31 :: y32 :: y33 :: y34 :: y35 :: y36 :: y37 :: y38 :: y39 :: y40 :: y41 :: y42 :: y43 :: y44 :: y45 :: y46 :: y47 :: y48 :: y49 :: y50 :: y51 :: y52 :: y53 :: y54 :: y55 :: y56 :: y57 :: y58 :: y59 :: y60 :: y61 :: y62 :: y63 :: y64 :: y65 :: y66 :: y67 :: y68 :: y69 :: y70 :: y71 :: y72 :: y73 :: y74 :: y75 :: y76 :: y77 :: y78 :: y79 :: y80 :: y81 :: y82 :: y83 :: y84 :: y85 :: y86 :: y87 :: y88 :: y89 :: y90 :: y91 :: y92 :: y93 :: y94 :: y95 :: y96 :: y97 :: y98 :: y99 :: y100 :: y101 :: y102 :: y103 :: y104 :: y105 :: y106 :: y107 :: y108 :: y109 :: y110 :: y111 :: y112 :: y113 :: y114 :: y115 :: y116 :: y117 :: y118 :: y119 :: y120 :: y121 :: y122 :: y123 :: y124 :: y125 :: y126 :: y127 :: y128 :: y129 :: y130 :: y131 :: y132 :: y133 :: y134 :: y135 :: y136 :: y137 :: y138 :: y139 :: y140 :: y141 :: y142 :: y143 :: y144 :: y145 :: y146 :: y147 :: y148 :: y149 :: y150 :: y151 :: y152 :: y153 :: y154 :: y155 :: y156 :: y157 :: y158 :: y159 :: y160 :: y161 :: y162 :: y163 :: y164 :: y165 :: y166 :: y167 :: y168 :: y169 :: y170 :: y171 :: y172 :: y173 :: y174 :: y175 :: []), []⟩ V := by
  conv => arg 2; whnf
  have HI1 : Hid (Inv (m.knows ⟨xv, ⟨jv, jb, j0, j1, j2, j3⟩, bcm⟩)) := inv_knows HI.out _ HHE.out ⟨by show 0 ≤ xv; omega, by show xv ≤ 1000; omega, HBO.out, h16⟩
  have HI2 : Hid (Inv (m.heard ⟨xv, ⟨jv, jb, j0, j1, j2, j3⟩, bcm⟩)) := inv_learn HI1.out _ (HHE.out.of_blocks (fun n x hx => knows_keeps hx))
  have hkl := knows_len m ⟨xv, ⟨jv, jb, j0, j1, j2, j3⟩, bcm⟩
  have hll : (m.knows ⟨xv, ⟨jv, jb, j0, j1, j2, j3⟩, bcm⟩).log = m.log := by unfold Mem.knows; split <;> rfl
  have HKN : Hid (Calls Tryz.prog 64 #[.pointer (some ⟨p, 0, none⟩), .agg #[.int .i64 xv, .int .i64 jv, .int .u64 jb, .int .u64 j0, .int .u64 j1, .int .u64 j2, .int .u64 j3, .string bcm]] V fun e w' => e = .returned (.tuple #[]) ∧ ∃ S', RMem w' p S' B (m.knows ⟨xv, ⟨jv, jb, j0, j1, j2, j3⟩, bcm⟩) out ∧ Grow S V S' ∧ Fr S V w') := rknows V p S m B out HM.out ⟨xv, ⟨jv, jb, j0, j1, j2, j3⟩, bcm⟩ HBO.out (by omega)
  have HLE : Hid (∀ W S1, RMem W p S1 B (m.knows ⟨xv, ⟨jv, jb, j0, j1, j2, j3⟩, bcm⟩) out → Calls Tryz.prog 80 #[.pointer (some ⟨p, 0, none⟩), .agg #[.int .i64 jv, .int .u64 jb, .int .u64 j0, .int .u64 j1, .int .u64 j2, .int .u64 j3]] W fun e w' => e = .returned (.tuple #[]) ∧ ∃ S', RMem w' p S' B (m.heard ⟨xv, ⟨jv, jb, j0, j1, j2, j3⟩, bcm⟩) out ∧ Grow S1 W S' ∧ Fr S1 W w') := fun W S1 h1 => rlearn W p S1 (m.knows ⟨xv, ⟨jv, jb, j0, j1, j2, j3⟩, bcm⟩) B out h1 ⟨jv, jb, j0, j1, j2, j3⟩ (view_all HI1.out.ch) (halts_all HI1.out.ch) (by rw [hll]; omega)
  clear hkl hll HHE HBO HI
  have y0 : V.cell? ⟨bb, 0, none⟩ = some (.int .i64 xv) := cell_at HBB.out 0
  have y1 : V.cell? ⟨bb, 1, none⟩ = some (.int .i64 jv) := cell_at HBB.out 1
  have y2 : V.cell? ⟨bb, 2, none⟩ = some (.int .u64 jb) := cell_at HBB.out 2
  have y3 : V.cell? ⟨bb, 3, none⟩ = some (.int .u64 j0) := cell_at HBB.out 3
  have y4 : V.cell? ⟨bb, 4, none⟩ = some (.int .u64 j1) := cell_at HBB.out 4
  have y5 : V.cell? ⟨bb, 5, none⟩ = some (.int .u64 j2) := cell_at HBB.out 5
  have y6 : V.cell? ⟨bb, 6, none⟩ = some (.int .u64 j3) := cell_at HBB.out 6
  have y7 : V.cell? ⟨bb, 7, none⟩ = some (.string bcm) := cell_at HBB.out 7
  go_upto_region 15 with (go_at_call 64; refine HKN.out.mono ?_; rintro e w2 ⟨rfl, S2, hm2, hg2, hf2⟩)
  have HM2 : Hid (RMem w2 p S2 B (m.knows ⟨xv, ⟨jv, jb, j0, j1, j2, j3⟩, bcm⟩) out ∧ Grow S V S2 ∧ Fr S V w2) := ⟨hm2, hg2, hf2⟩
  have HX2 : Hid (w2.heap[bx]? = some (.cells #[.int .i64 xk, .int .i64 xf, .int .i64 xv, .int .i64 xv, .int .i64 jv, .int .u64 jb, .int .u64 j0, .int .u64 j1, .int .u64 j2, .int .u64 j3, .string bcm, .int .u64 xn, .int .i64 cv, .int .u64 cb, .int .u64 c0, .int .u64 c1, .int .u64 c2, .int .u64 c3, .int .u64 xs] 43 (0, 0)) ∧ ¬ S2 bx) := ⟨hf2.box HBX.out HSX.out, fun h => (hg2 bx h).elim HSX.out (fun h => by have := lt_at HBX.out; omega)⟩
  have HB2 : Hid (w2.heap[bb]? = some (.cells #[.int .i64 xv, .int .i64 jv, .int .u64 jb, .int .u64 j0, .int .u64 j1, .int .u64 j2, .int .u64 j3, .string bcm] 41 (0, 0)) ∧ ¬ S2 bb) := ⟨hf2.box HBB.out HSB.out, fun h => (hg2 bb h).elim HSB.out (fun h => by have := lt_at HBB.out; omega)⟩
  clear hm2 hg2 hf2 y0 y1 y2 y3 y4 y5 y6 y7 HKN
  have z1 : w2.cell? ⟨bb, 1, none⟩ = some (.int .i64 jv) := cell_at HB2.out.1 1
  have z2 : w2.cell? ⟨bb, 2, none⟩ = some (.int .u64 jb) := cell_at HB2.out.1 2
  have z3 : w2.cell? ⟨bb, 3, none⟩ = some (.int .u64 j0) := cell_at HB2.out.1 3
  have z4 : w2.cell? ⟨bb, 4, none⟩ = some (.int .u64 j1) := cell_at HB2.out.1 4
  have z5 : w2.cell? ⟨bb, 5, none⟩ = some (.int .u64 j2) := cell_at HB2.out.1 5
  have z6 : w2.cell? ⟨bb, 6, none⟩ = some (.int .u64 j3) := cell_at HB2.out.1 6
  go_upto_region 16 with (go_at_call 80; refine (HLE.out w2 S2 HM2.out.1).mono ?_; rintro e w3 ⟨rfl, S3, hm3, hg3, hf3⟩)
  have HM3 : Hid (RMem w3 p S3 B (m.heard ⟨xv, ⟨jv, jb, j0, j1, j2, j3⟩, bcm⟩) out) := hm3
  have HG3 : Hid (Grow S V S3 ∧ Fr S V w3) := ⟨HM2.out.2.1.trans HM2.out.2.2.size hg3, HM2.out.2.2.grow HM2.out.2.1 hf3⟩
  have HX3 : Hid (w3.heap[bx]? = some (.cells #[.int .i64 xk, .int .i64 xf, .int .i64 xv, .int .i64 xv, .int .i64 jv, .int .u64 jb, .int .u64 j0, .int .u64 j1, .int .u64 j2, .int .u64 j3, .string bcm, .int .u64 xn, .int .i64 cv, .int .u64 cb, .int .u64 c0, .int .u64 c1, .int .u64 c2, .int .u64 c3, .int .u64 xs] 43 (0, 0)) ∧ ¬ S3 bx) := ⟨hf3.box HX2.out.1 HX2.out.2, fun h => (hg3 bx h).elim HX2.out.2 (fun h => by have := lt_at HX2.out.1; omega)⟩
  have HB3 : Hid (w3.heap[bb]? = some (.cells #[.int .i64 xv, .int .i64 jv, .int .u64 jb, .int .u64 j0, .int .u64 j1, .int .u64 j2, .int .u64 j3, .string bcm] 41 (0, 0))) := hf3.box HB2.out.1 HB2.out.2
  clear hm3 hg3 hf3 z1 z2 z3 z4 z5 z6 HLE HM2 HX2 HB2 HI1 HM HBX HBB HSX HSB
  obtain ⟨m1, hm1⟩ : ∃ x, x = m.heard ⟨xv, ⟨jv, jb, j0, j1, j2, j3⟩, bcm⟩ := ⟨_, rfl⟩
  rw [← hm1] at HM3 HI2
  have HRE2 : Hid (∀ {v11 v12 v111 v112 v113 v114 v115 v116 v117 v118 v119 v120 v121 v122 v123 v124 v125 v126 v127 v128 v129 v130 v131 v132 v133 v134 v135 v136 v137 v138 v139 v140 v141 v142 v143 v144 v145 v146 v147 v148 v149 v150 v151 v152 v153 v154 v155 v156 v157 v158 v159 v160 v161 v162 v163 v164 v165 v166 v167 v168 v169 v170 v171 v172 v173 v174 v175 : Value} {w' : World}, (∃ S', RMem w' p S' B (m1.voices ⟨xv, ⟨jv, jb, j0, j1, j2, j3⟩, bcm⟩ n out).1 (m1.voices ⟨xv, ⟨jv, jb, j0, j1, j2, j3⟩, bcm⟩ n out).2 ∧ Grow S V S' ∧ Fr S V w') → Q .ret ⟨List.toArray (.pointer (some ⟨p, 0, none⟩) :: y1 :: y2 :: .pointer (some ⟨bx, 0, none⟩) :: .int .i64 0 :: .pointer (some ⟨bb, 0, none⟩) :: .int .u64 (n : Nat) :: y7 :: y8 :: y9 :: y10 :: v11 :: v12 :: y13 :: y14 :: y15 :: y16 :: y17 :: y18 :: y19 :: y20 :: y21 :: y22 :: y23 :: y24 :: y25 :: y26 :: y27 :: y28 :: y29 :: y30 :: y31 :: y32 :: y33 :: y34 :: y35 :: y36 :: y37 :: y38 :: y39 :: y40 :: y41 :: y42 :: y43 :: y44 :: y45 :: y46 :: y47 :: y48 :: y49 :: y50 :: y51 :: y52 :: y53 :: y54 :: y55 :: y56 :: y57 :: y58 :: y59 :: y60 :: y61 :: y62 :: y63 :: y64 :: y65 :: y66 :: y67 :: y68 :: y69 :: y70 :: y71 :: y72 :: y73 :: y74 :: y75 :: y76 :: y77 :: y78 :: y79 :: y80 :: y81 :: y82 :: y83 :: y84 :: y85 :: y86 :: y87 :: y88 :: y89 :: y90 :: y91 :: y92 :: y93 :: y94 :: y95 :: y96 :: y97 :: y98 :: y99 :: y100 :: y101 :: y102 :: y103 :: y104 :: y105 :: y106 :: y107 :: y108 :: y109 :: y110 :: v111 :: v112 :: v113 :: v114 :: v115 :: v116 :: v117 :: v118 :: v119 :: v120 :: v121 :: v122 :: v123 :: v124 :: v125 :: v126 :: v127 :: v128 :: v129 :: v130 :: v131 :: v132 :: v133 :: v134 :: v135 :: v136 :: v137 :: v138 :: v139 :: v140 :: v141 :: v142 :: v143 :: v144 :: v145 :: v146 :: v147 :: v148 :: v149 :: v150 :: v151 :: v152 :: v153 :: v154 :: v155 :: v156 :: v157 :: v158 :: v159 :: v160 :: v161 :: v162 :: v163 :: v164 :: v165 :: v166 :: v167 :: v168 :: v169 :: v170 :: v171 :: v172 :: v173 :: v174 :: v175 :: []), []⟩ w') := by rw [hm1]; exact HRE.out
  clear hm1 HRE
  have HAB : Hid (∀ c : Cls w3, Calls Tryz.prog 81 #[.pointer (some ⟨p, 0, none⟩), .int .u64 m1.locked.block, .int .u64 jb] c.w fun e w' => e = .returned (.bool (m1.above m1.locked.block (m1.blocks.length + 1) jb)) ∧ Below c.w.heap.size c.w w') := fun c => rabove c.w p S3 m1 B out (HM3.out.below c.b) _ _ _ (halts_all HI2.out.ch _ _)
  have HVO2 : Hid (m1.votesOn ⟨xv, ⟨jv, jb, j0, j1, j2, j3⟩, bcm⟩ = (m1.above m1.locked.block (m1.blocks.length + 1) jb || decide (m1.locked.view < jv))) := rfl
  generalize m1.above m1.locked.block (m1.blocks.length + 1) jb = ab at *
  have d12 : ∀ c : Cls w3, c.w.cell? ⟨p, 12, none⟩ = some (.int .u64 m1.locked.block) := fun c => (HM3.out.below c.b).see2.2.1
  have d2 : ∀ c : Cls w3, c.w.cell? ⟨bb, 2, none⟩ = some (.int .u64 jb) := fun c => cell_at (box_below HB3.out c.b) 2
  refine wp_region_cls w3 (Below.refl _ _) (by kernel_rfl) (by kernel_rfl) ?_
  repeat (go_big_quiet_step ((go_at_call 81; exact Calls.cls (HAB.out _))))
  refine wpQuiet_nil ?_
  rintro W4 ⟨⟨_, hW4⟩, rfl⟩
  have HB4 : Hid (Below w3.heap.size w3 W4) := hW4
  clear hW4 d12 d2 HAB
  go_upto_region 17 with fail
  have d11 : ∀ c : Cls W4, c.w.cell? ⟨p, 11, none⟩ = some (.int .i64 m1.locked.view) := fun c => (HM3.out.below (bnext HB4.out c.b)).see2.1
  have d1 : ∀ c : Cls W4, c.w.cell? ⟨bb, 1, none⟩ = some (.int .i64 jv) := fun c => cell_at (box_below HB3.out (bnext HB4.out c.b)) 1
  have fin : ∀ W, Below w3.heap.size w3 W → RMem W p S3 B m1 out ∧ W.heap[bx]? = some (.cells #[.int .i64 xk, .int .i64 xf, .int .i64 xv, .int .i64 xv, .int .i64 jv, .int .u64 jb, .int .u64 j0, .int .u64 j1, .int .u64 j2, .int .u64 j3, .string bcm, .int .u64 xn, .int .i64 cv, .int .u64 cb, .int .u64 c0, .int .u64 c1, .int .u64 c2, .int .u64 c3, .int .u64 xs] 43 (0, 0)) ∧ Fr S V W := fun W hW => ⟨HM3.out.below hW, box_below HX3.out.1 hW, HG3.out.2.trans (Fr.of_below (S := S) hW) (fun _ h => .inl h)⟩
  have HFI : Hid (∀ W, Below w3.heap.size w3 W → RMem W p S3 B m1 out ∧ W.heap[bx]? = some (.cells #[.int .i64 xk, .int .i64 xf, .int .i64 xv, .int .i64 xv, .int .i64 jv, .int .u64 jb, .int .u64 j0, .int .u64 j1, .int .u64 j2, .int .u64 j3, .string bcm, .int .u64 xn, .int .i64 cv, .int .u64 cb, .int .u64 c0, .int .u64 c1, .int .u64 c2, .int .u64 c3, .int .u64 xs] 43 (0, 0)) ∧ Fr S V W) := fin
  clear fin
  have hbs : B ≤ w3.heap.size := Nat.le_trans HBw.out HG3.out.2.size
  have i0 := HI2.out.i0
  have i1 := HI2.out.i1
  clear HM3 HI2 HBw HB3
  cases hab : ab with
  | true =>
    subst hab
    have HVY : Hid (m1.votesOn ⟨xv, ⟨jv, jb, j0, j1, j2, j3⟩, bcm⟩ = true) := by show _ = _; rw [HVO2.out]; rfl
    clear HVO2
    refine wp_region_cls W4 (Below.refl _ _) (by kernel_rfl) (by kernel_rfl) ?_
    repeat (go_big_quiet_step (fail))
    refine wpQuiet_nil ?_
    rintro W5 ⟨⟨_, hW5⟩, rfl⟩
    have HB5 : Hid (Below w3.heap.size w3 W5) := bnext HB4.out hW5
    clear hW5 d11 d1
    go_upto_if 139 with fail
    refine wp_cond_true rfl ?_
    refine rpr_yes (S := S3) (m := m1) (out := out) (B := B) (HFI.out W5 HB5.out).1 (Nat.le_trans hbs HB5.out.size) (HFI.out W5 HB5.out).2.1 HX3.out.2 hv0 hv1 hn i0 i1 hout ?_
    intro h12 h140 h141 h142 h143 h144 h145 h146 h147 h148 h149 h150 h151 h152 h153 h154 h155 h156 h157 h158 h159 h160 h161 h162 h163 w6 h6
    obtain ⟨S6, z1, z2, z3⟩ := h6
    have HM6 : Hid (RMem w6 p S6 B ({ m1 with voted := xv } : Mem) (out ++ [⟨(xv + 1) % 4, votMsg xv n m1.id (sealOf m1.id 2 xv n)⟩])) := z1
    have HG6 : Hid (Grow S V S6 ∧ Fr S V w6) := ⟨fun k hk => (z2 k hk).elim (fun h => HG3.out.1 k h) (fun h => .inr (Nat.le_trans (HFI.out W5 HB5.out).2.2.size h)), (HFI.out W5 HB5.out).2.2.trans z3 (fun k hk => HG3.out.1 k hk)⟩
    have HX6 : Hid (w6.heap[bx]? = some (.cells #[.int .i64 xk, .int .i64 xf, .int .i64 xv, .int .i64 xv, .int .i64 jv, .int .u64 jb, .int .u64 j0, .int .u64 j1, .int .u64 j2, .int .u64 j3, .string bcm, .int .u64 xn, .int .i64 cv, .int .u64 cb, .int .u64 c0, .int .u64 c1, .int .u64 c2, .int .u64 c3, .int .u64 xs] 43 (0, 0))) := z3.box (HFI.out W5 HB5.out).2.1 HX3.out.2
    clear z1 z2 z3
    simp only [Exit.then]
    refine (?kkA : ∀ (a : Act) (w : World), Code.wp Tryz.prog ?kcA ?kqA a w → _) _ _ ?goalA
    case kkA => assumption
    refine rpr_fin HM6 HX6 hv0 hv1 ?_
    intro g164 g165 g166 g167 g168 g169 g170 g171 g172 g173 g174 g175 w9 h9
    refine HRE2.out ?_
    unfold Mem.voices
    rw [if_pos HVY.out]
    exact ⟨S6, h9.1, HG6.out.1, HG6.out.2.trans h9.2 (fun k hk => HG6.out.1 k hk)⟩
  | false =>
    subst hab
    by_cases hlv : m1.locked.view < jv
    · have HVY : Hid (m1.votesOn ⟨xv, ⟨jv, jb, j0, j1, j2, j3⟩, bcm⟩ = true) := by show _ = _; rw [HVO2.out]; simp [hlv]
      clear HVO2
      refine wp_region_cls W4 (Below.refl _ _) (by kernel_rfl) (by kernel_rfl) ?_
      repeat (go_big_quiet_step (fail))
      refine wpQuiet_nil ?_
      rintro W5 ⟨⟨_, hW5⟩, rfl⟩
      have HB5 : Hid (Below w3.heap.size w3 W5) := bnext HB4.out hW5
      clear hW5 d11 d1
      go_upto_if 139 with fail
      refine wp_cond_true rfl ?_
      refine rpr_yes (S := S3) (m := m1) (out := out) (B := B) (HFI.out W5 HB5.out).1 (Nat.le_trans hbs HB5.out.size) (HFI.out W5 HB5.out).2.1 HX3.out.2 hv0 hv1 hn i0 i1 hout ?_
      intro h12 h140 h141 h142 h143 h144 h145 h146 h147 h148 h149 h150 h151 h152 h153 h154 h155 h156 h157 h158 h159 h160 h161 h162 h163 w6 h6
      obtain ⟨S6, z1, z2, z3⟩ := h6
      have HM6 : Hid (RMem w6 p S6 B ({ m1 with voted := xv } : Mem) (out ++ [⟨(xv + 1) % 4, votMsg xv n m1.id (sealOf m1.id 2 xv n)⟩])) := z1
      have HG6 : Hid (Grow S V S6 ∧ Fr S V w6) := ⟨fun k hk => (z2 k hk).elim (fun h => HG3.out.1 k h) (fun h => .inr (Nat.le_trans (HFI.out W5 HB5.out).2.2.size h)), (HFI.out W5 HB5.out).2.2.trans z3 (fun k hk => HG3.out.1 k hk)⟩
      have HX6 : Hid (w6.heap[bx]? = some (.cells #[.int .i64 xk, .int .i64 xf, .int .i64 xv, .int .i64 xv, .int .i64 jv, .int .u64 jb, .int .u64 j0, .int .u64 j1, .int .u64 j2, .int .u64 j3, .string bcm, .int .u64 xn, .int .i64 cv, .int .u64 cb, .int .u64 c0, .int .u64 c1, .int .u64 c2, .int .u64 c3, .int .u64 xs] 43 (0, 0))) := z3.box (HFI.out W5 HB5.out).2.1 HX3.out.2
      clear z1 z2 z3
      simp only [Exit.then]
      refine (?kkB : ∀ (a : Act) (w : World), Code.wp Tryz.prog ?kcB ?kqB a w → _) _ _ ?goalB
      case kkB => assumption
      refine rpr_fin HM6 HX6 hv0 hv1 ?_
      intro g164 g165 g166 g167 g168 g169 g170 g171 g172 g173 g174 g175 w9 h9
      refine HRE2.out ?_
      unfold Mem.voices
      rw [if_pos HVY.out]
      exact ⟨S6, h9.1, HG6.out.1, HG6.out.2.trans h9.2 (fun k hk => HG6.out.1 k hk)⟩
    · have HVY : Hid (m1.votesOn ⟨xv, ⟨jv, jb, j0, j1, j2, j3⟩, bcm⟩ = false) := by show _ = _; rw [HVO2.out]; simp [hlv]
      clear HVO2
      refine wp_region_cls W4 (Below.refl _ _) (by kernel_rfl) (by kernel_rfl) ?_
      repeat (go_big_quiet_step (fail))
      refine wpQuiet_nil ?_
      rintro W5 ⟨⟨_, hW5⟩, rfl⟩
      have HB5 : Hid (Below w3.heap.size w3 W5) := bnext HB4.out hW5
      clear hW5 d11 d1
      go_upto_if 139 with fail
      refine wp_cond_false rfl ?_
      refine wp_skip ?_
      simp only [Exit.then]
      refine (?kkC : ∀ (a : Act) (w : World), Code.wp Tryz.prog ?kcC ?kqC a w → _) _ _ ?goalC
      case kkC => assumption
      refine rpr_fin (HFI.out W5 HB5.out).1 (HFI.out W5 HB5.out).2.1 hv0 hv1 ?_
      intro g164 g165 g166 g167 g168 g169 g170 g171 g172 g173 g174 g175 w9 h9
      refine HRE2.out ?_
      unfold Mem.voices
      rw [if_neg (by rw [HVY.out]; decide)]
      exact ⟨S3, h9.1, HG3.out.1, (HFI.out W5 HB5.out).2.2.trans h9.2 (fun k hk => (HG3.out.1 k hk))⟩
end Go.Proofs.YtkehpnobidendaaGreatDoor
