/- parleykeep's lies: a proposal of the liar's. parleykeep's lies: an Enter of the liar's, a vote of the liar's. parleykeep's lies: each of its kinds. -/
import Derived.Test.YtkehpnobidendaaDoorM49
namespace Go.Proofs.YtkehpnobidendaaDoor
open Go.RowKit
theorem put_blkK (a : Addr) (v : Value) : storeVar 38 a v = rowPut 38 a v := rfl
attribute [local go_sem ↓] put_blkK load_blk ld_crtK
noncomputable def klyR13 : Code := ((Tryd.f40.body.bind (regOf 13))).getD .skip
set_option maxRecDepth 1000000 in
set_option maxHeartbeats 8000000 in
theorem kly_r13 {y1 y2 y3 y4 y5 y9 y10 y11 y12 y13 y14 y15 y16 y17 y18 y19 y20 y21 y22 y23 y24 y25 y26 y27 y28 y29 y30 y31 y32 y33 y34 y35 y36 y37 y38 y39 y40 y41 y42 y43 y44 y45 y46 y47 y48 y49 y50 y51 y52 y53 y54 y55 y56 y57 y58 y59 y60 y61 y62 y63 y64 y65 y66 y67 y68 y69 y70 y71 y72 y73 y74 y75 y76 y77 y78 y79 y80 y81 y82 y83 y84 y85 y86 y87 y88 y89 y90 y91 y92 y93 y94 y95 y96 y97 y98 y99 y100 y101 y102 y103 y104 y105 y106 y107 y108 y109 y110 y111 y112 y113 y114 y115 y116 y117 y118 y119 y120 y121 y122 y123 y124 y125 y126 y127 y128 y129 y130 y131 y132 y133 y134 y135 y136 y137 y138 y139 y140 y141 y142 y143 y144 y145 y146 y147 y148 y149 y150 y151 y152 y153 y154 y155 y156 y157 y158 y159 y160 y161 y162 y163 y164 y165 y166 y167 y168 y169 y170 y171 y172 y173 y174 y175 y176 y177 y178 y179 y180 y181 y182 y183 : Value} {v cv k0 k1 k2 k3 : Int} {cb p Bm Bc : Nat} {cm : ByteArray} {S : Nat → Prop} {ps : List (Option Nat)} {K2 : Clu} {wr : World} {Q : Exit → Act → World → Prop}
    (HCM : Hid (Calls Tryd.prog 20 #[.pointer (some ⟨p, 0, none⟩)] wr.drew fun e w' => e = .returned (.string cm) ∧ KMem w' p S ps K2 ∧ Fr S wr w'))
    (HS : Hid (∀ W, Fr S wr W → (rowVar 26 ⟨Bc, 0, none⟩).run Tryd.prog W = .ok (.agg #[.int .i64 cv, .int .u64 cb, .int .u64 k0, .int .u64 k1, .int .u64 k2, .int .u64 k3]) W))
    (HPU : Hid (∀ W, Fr S wr W → (rowPut 38 ⟨Bm, 3, none⟩ (.agg #[.int .i64 v, .int .i64 cv, .int .u64 cb, .int .u64 k0, .int .u64 k1, .int .u64 k2, .int .u64 k3, .string cm])).run Tryd.prog W = .ok () (W.setCells Bm 3 [.int .i64 v, .int .i64 cv, .int .u64 cb, .int .u64 k0, .int .u64 k1, .int .u64 k2, .int .u64 k3, .string cm])))
    (HEX : Hid (∀ {v78 v79 v80 v81 v82 v83 : Value} {w5 : World}, KMem w5 p S ps K2 → Fr S wr w5 → Q .normal ⟨List.toArray (.pointer (some ⟨p, 0, none⟩) :: y1 :: y2 :: y3 :: y4 :: y5 :: .pointer (some ⟨Bm, 0, none⟩) :: .pointer (some ⟨Bc, 0, none⟩) :: .int .i64 v :: y9 :: y10 :: y11 :: y12 :: y13 :: y14 :: y15 :: y16 :: y17 :: y18 :: y19 :: y20 :: y21 :: y22 :: y23 :: y24 :: y25 :: y26 :: y27 :: y28 :: y29 :: y30 :: y31 :: y32 :: y33 :: y34 :: y35 :: y36 :: y37 :: y38 :: y39 :: y40 :: y41 :: y42 :: y43 :: y44 :: y45 :: y46 :: y47 :: y48 :: y49 :: y50 :: y51 :: y52 :: y53 :: y54 :: y55 :: y56 :: y57 :: y58 :: y59 :: y60 :: y61 :: y62 :: y63 :: y64 :: y65 :: y66 :: y67 :: y68 :: y69 :: y70 :: y71 :: y72 :: y73 :: y74 :: y75 :: y76 :: y77 :: v78 :: v79 :: v80 :: v81 :: v82 :: v83 :: y84 :: y85 :: y86 :: y87 :: y88 :: y89 :: y90 :: y91 :: y92 :: y93 :: y94 :: y95 :: y96 :: y97 :: y98 :: y99 :: y100 :: y101 :: y102 :: y103 :: y104 :: y105 :: y106 :: y107 :: y108 :: y109 :: y110 :: y111 :: y112 :: y113 :: y114 :: y115 :: y116 :: y117 :: y118 :: y119 :: y120 :: y121 :: y122 :: y123 :: y124 :: y125 :: y126 :: y127 :: y128 :: y129 :: y130 :: y131 :: y132 :: y133 :: y134 :: y135 :: y136 :: y137 :: y138 :: y139 :: y140 :: y141 :: y142 :: y143 :: y144 :: y145 :: y146 :: y147 :: y148 :: y149 :: y150 :: y151 :: y152 :: y153 :: y154 :: y155 :: y156 :: y157 :: y158 :: y159 :: y160 :: y161 :: y162 :: y163 :: y164 :: y165 :: y166 :: y167 :: y168 :: y169 :: y170 :: y171 :: y172 :: y173 :: y174 :: y175 :: y176 :: y177 :: y178 :: y179 :: y180 :: y181 :: y182 :: y183 :: []), []⟩ (w5.setCells Bm 3 [.int .i64 v, .int .i64 cv, .int .u64 cb, .int .u64 k0, .int .u64 k1, .int .u64 k2, .int .u64 k3, .string cm]))) :
    Code.wp Tryd.prog klyR13 Q ⟨List.toArray (.pointer (some ⟨p, 0, none⟩) :: y1 :: y2 :: y3 :: y4 :: y5 :: .pointer (some ⟨Bm, 0, none⟩) :: .pointer (some ⟨Bc, 0, none⟩) :: .int .i64 v :: y9 :: y10 :: y11 :: y12 :: y13 :: y14 :: y15 :: y16 :: y17 :: y18 :: y19 :: y20 :: y21 :: y22 :: y23 :: y24 :: y25 :: y26 :: y27 :: y28 :: y29 :: y30 :: y31 :: y32 :: y33 :: y34 :: y35 :: y36 :: y37 :: y38 :: y39 :: y40 :: y41 :: y42 :: y43 :: y44 :: y45 :: y46 :: y47 :: y48 :: y49 :: y50 :: y51 :: y52 :: y53 :: y54 :: y55 :: y56 :: y57 :: y58 :: y59 :: y60 :: y61 :: y62 :: y63 :: y64 :: y65 :: y66 :: y67 :: y68 :: y69 :: y70 :: y71 :: y72 :: y73 :: y74 :: y75 :: y76 :: y77 :: y78 :: y79 :: y80 :: y81 :: y82 :: y83 :: y84 :: y85 :: y86 :: y87 :: y88 :: y89 :: y90 :: y91 :: y92 :: y93 :: y94 :: y95 :: y96 :: y97 :: y98 :: y99 :: y100 :: y101 :: y102 :: y103 :: y104 :: y105 :: y106 :: y107 :: y108 :: y109 :: y110 :: y111 :: y112 :: y113 :: y114 :: y115 :: y116 :: y117 :: y118 :: y119 :: y120 :: y121 :: y122 :: y123 :: y124 :: y125 :: y126 :: y127 :: y128 :: y129 :: y130 :: y131 :: y132 :: y133 :: y134 :: y135 :: y136 :: y137 :: y138 :: y139 :: y140 :: y141 :: y142 :: y143 :: y144 :: y145 :: y146 :: y147 :: y148 :: y149 :: y150 :: y151 :: y152 :: y153 :: y154 :: y155 :: y156 :: y157 :: y158 :: y159 :: y160 :: y161 :: y162 :: y163 :: y164 :: y165 :: y166 :: y167 :: y168 :: y169 :: y170 :: y171 :: y172 :: y173 :: y174 :: y175 :: y176 :: y177 :: y178 :: y179 :: y180 :: y181 :: y182 :: y183 :: []), []⟩ wr := by
  refine wp_mono (Q := Exit.then (Q .normal) (fun _ _ _ => False)) ?_ (fun e a w h => by cases e <;> first | exact h | exact h.elim)
  conv => arg 2; whnf
  have hl0 := HS.out wr.drew (Fr.drew _ _)
  go_region_with (go_at_call 20; refine HCM.out.mono ?_; rintro e w5 ⟨rfl, hm5, hf5⟩; have HM5 : Hid (KMem w5 p S ps K2) := hm5; have HF5 : Hid (Fr S wr w5) := hf5; have hpu5 := HPU.out w5 hf5; have hl5 := HS.out w5 hf5; clear hm5 hf5)
  all_goals exact HEX.out HM5.out HF5.out
theorem upTo_mod (v f : Int) (hf : 0 ≤ f ∧ f ≤ 3) : upTo v f % 4 = f := by unfold upTo; omega
theorem upTo_not {v f u : Int} (h : v ≤ u) (hu : u < upTo v f) : u % 4 ≠ f := by unfold upTo at hu; omega
theorem heap_stores {b : Nat} {T : TypeId} {f : Nat × Nat} : ∀ (vs : List Value) (o : Nat) {C : Array Value} {w : World}, w.heap[b]? = some (.cells C T f) → (w.setCells b o vs).heap[b]? = some (.cells (fillA C o vs) T f)
  | [], _, _, _, h => h
  | v :: r, o, C, w, h => by
    show ((w.setCell ⟨b, o, none⟩ v).setCells b (o + 1) r).heap[b]? = some (.cells (fillA (C.setIfInBounds o v) (o + 1) r) T f)
    exact heap_stores r (o + 1) (heap_store h v)
theorem fill3 (a0 a1 a2 a3 a4 a5 a6 a7 a8 a9 a10 a11 a12 a13 a14 a15 a16 a17 a18 b0 b1 b2 b3 b4 b5 b6 b7 : Value) : fillA #[a0, a1, a2, a3, a4, a5, a6, a7, a8, a9, a10, a11, a12, a13, a14, a15, a16, a17, a18] 3 [b0, b1, b2, b3, b4, b5, b6, b7] = #[a0, a1, a2, b0, b1, b2, b3, b4, b5, b6, b7, a11, a12, a13, a14, a15, a16, a17, a18] := by kernel_rfl
/-- The cluster's record turns, and one block that is nobody's. -/
theorem KSit.clu2 {w w' : World} {p : Nat} {A : Nat → Nat → Prop} {ps : List (Option Nat)} {K : Clu} (h : KSit w p A ps K) {K' : Clu} {S' : Nat → Prop} {B : Nat} (hk : KMem w' p S' ps K') (hm : K'.mem = K.mem) (hg : Grow (A 0) w S') (hf : Fr (fun b => A 0 b ∨ b = B) w w') (hB : ¬ UA A B) (hB0 : B ≠ 0) : KSit w' p (updA A 0 S') ps K' := by
  have ho := h.other (i := 0) (by omega) hg hk.own hk.t0 hf.size
  have hz0 := h.z 0 (by omega)
  refine ⟨?_, h.l, fun j hj => ?_, ho.1, ho.2.1, ho.2.2⟩
  · rw [updA_at]; exact hk
  · rw [updA_ne A S' (by omega : j + 1 ≠ 0)]
    have h1 := (h.mem j hj).fr hf (fun k h1 h2 => by
      rcases h2 with h2 | h2
      · exact absurd (h.dis (j + 1) 0 k (by omega) (by omega) h1 h2) (by omega)
      · subst h2; exact hB ⟨j + 1, by omega, h1⟩) (fun h2 => by
      rcases h2 with h2 | h2
      · exact hz0 h2
      · exact hB0 h2.symm)
    unfold Clu.memAt at *
    rw [hm]; exact h1
theorem there_box {w : World} {b : Nat} {C : Array Value} {T : TypeId} (h : w.heap[b]? = some (.cells C T (0, 0))) (o n : Nat) (hn : o + n ≤ C.size) : w.there b o n := fun j hj => by
  refine ⟨?_, free_at h _⟩
  rw [cell_at h]
  simp; omega
noncomputable def kly4 : Code := ((Tryd.f40.body.bind (fromReg 9))).getD .skip
set_option maxRecDepth 1000000 in
set_option maxHeartbeats 8000000 in
theorem kly_p {y1 y2 y4 y8 y9 y10 y11 y12 y13 y14 y15 y16 y17 y18 y19 y20 y21 y22 y23 y24 y25 y26 y27 y28 y29 y30 y31 y32 y33 y34 y35 y36 y37 y38 y39 y40 y41 y42 y43 y44 y45 y46 y47 y48 y49 y50 y51 y52 y53 y54 y55 y56 y57 y58 y59 y60 y61 y62 y63 y64 y65 y66 y67 y68 y69 y70 y71 y72 y73 y74 y75 y76 y77 y78 y79 y80 y81 y82 y83 y84 y85 y86 y87 y88 y89 y90 y91 y92 y93 y94 y95 y96 y97 y98 y99 y100 y101 y102 y103 y104 y105 y106 y107 y108 y109 y110 y111 y112 y113 y114 y115 y116 y117 y118 y119 y120 y121 y122 y123 y124 y125 y126 y127 y128 y129 y130 y131 y132 y133 y134 y135 y136 y137 y138 y139 y140 y141 y142 y143 y144 y145 y146 y147 y148 y149 y150 y151 y152 y153 y154 y155 y156 y157 y158 y159 y160 y161 y162 y163 y164 y165 y166 y167 y168 y169 y170 y171 y172 y173 y174 y175 y176 y177 y178 y179 y180 y181 y182 y183 : Value} {li sa sb cv k0 k1 k2 k3 : Int} {cb p Bt Bm Bc pk n nn : Nat} {W : World} {A : Nat → Nat → Prop} {ps : List (Option Nat)} {K : Clu} {Q : Exit → Act → World → Prop}
    (HPK : Hid (∀ W, Calls Tryd.prog 13 #[.int .i64 sa, .int .i64 4] W fun e w' => e = .returned (.int .i64 (pk : Int)) ∧ w' = W)) (hpk : (pk : Int) ≤ 3) (hcv : 0 ≤ cv) (hcv1 : cv ≤ 1000) (hli : 0 ≤ li) (hli3 : li ≤ 3)
    (HS : Hid (KSit W p A ps K)) (HO : Hid (KOk K n)) (hn : n ≤ 1500000000) (HCO : Hid (Crt.Ok ⟨cv, cb, k0, k1, k2, k3⟩)) (HCN : Hid (K.count = (nn : Int))) (hnn : nn ≤ 20000000000001)
    (HBX : Hid (W.heap[Bt]? = some (.cells #[.int .i64 4, .int .i64 sa, .int .i64 sb] 66 (0, 0)) ∧ W.heap[Bm]? = some (.cells #[.int .i64 1, .int .i64 li, .int .i64 0, .int .i64 0, .int .i64 0, .int .u64 0, .int .u64 0, .int .u64 0, .int .u64 0, .int .u64 0, .string ⟨#[]⟩, .int .u64 0, .int .i64 0, .int .u64 0, .int .u64 0, .int .u64 0, .int .u64 0, .int .u64 0, .int .u64 0] 40 (0, 0)) ∧ W.heap[Bc]? = some (.cells #[.int .i64 cv, .int .u64 cb, .int .u64 k0, .int .u64 k1, .int .u64 k2, .int .u64 k3] 26 (0, 0))))
    (HNB : Hid (¬ UA A Bt ∧ ¬ UA A Bm ∧ ¬ UA A Bc ∧ Bm ≠ Bt ∧ Bm ≠ Bc)) (HB0 : Hid (Bm ≠ 0))
    (HEX : Hid (∀ {v8 v9 v63 v64 v65 v66 v67 v68 v69 v70 v71 v72 v73 v74 v75 v76 v77 v78 v79 v80 v81 v82 v83 v84 v85 v86 v87 v88 v89 v90 v91 v92 v93 v94 v95 : Value} {w' : World} {S' : Nat → Prop} {v : Int} {sq : Int}, v = upTo (cv + 1 + (pk : Int)) li → sq = sealOf li 1 v (Blk.num ⟨v, ⟨cv, cb, k0, k1, k2, k3⟩, cmdText (nn + 1)⟩) → KSit w' p (updA A 0 S') ps (({ K with count := ((nn + 1 : Nat) : Int) } : Clu).meets ⟨v, ⟨cv, cb, k0, k1, k2, k3⟩, cmdText (nn + 1)⟩) → Grow (A 0) W S' → Fr (fun b => A 0 b ∨ b = Bm) W w' → w'.heap[Bm]? = some (.cells #[.int .i64 1, .int .i64 li, .int .i64 v, .int .i64 v, .int .i64 cv, .int .u64 cb, .int .u64 k0, .int .u64 k1, .int .u64 k2, .int .u64 k3, .string (cmdText (nn + 1)), .int .u64 0, .int .i64 0, .int .u64 0, .int .u64 0, .int .u64 0, .int .u64 0, .int .u64 0, .int .u64 sq] 40 (0, 0)) → Q .normal ⟨List.toArray (.pointer (some ⟨p, 0, none⟩) :: y1 :: y2 :: .pointer (some ⟨Bt, 0, none⟩) :: y4 :: .int .i64 li :: .pointer (some ⟨Bm, 0, none⟩) :: .pointer (some ⟨Bc, 0, none⟩) :: v8 :: v9 :: y10 :: y11 :: y12 :: y13 :: y14 :: y15 :: y16 :: y17 :: y18 :: y19 :: y20 :: y21 :: y22 :: y23 :: y24 :: y25 :: y26 :: y27 :: y28 :: y29 :: y30 :: y31 :: y32 :: y33 :: y34 :: y35 :: y36 :: y37 :: y38 :: y39 :: y40 :: y41 :: y42 :: y43 :: y44 :: y45 :: y46 :: y47 :: y48 :: y49 :: y50 :: y51 :: y52 :: y53 :: y54 :: y55 :: y56 :: y57 :: y58 :: y59 :: y60 :: y61 :: y62 :: v63 :: v64 :: v65 :: v66 :: v67 :: v68 :: v69 :: v70 :: v71 :: v72 :: v73 :: v74 :: v75 :: v76 :: v77 :: v78 :: v79 :: v80 :: v81 :: v82 :: v83 :: v84 :: v85 :: v86 :: v87 :: v88 :: v89 :: v90 :: v91 :: v92 :: v93 :: v94 :: v95 :: y96 :: y97 :: y98 :: y99 :: y100 :: y101 :: y102 :: y103 :: y104 :: y105 :: y106 :: y107 :: y108 :: y109 :: y110 :: y111 :: y112 :: y113 :: y114 :: y115 :: y116 :: y117 :: y118 :: y119 :: y120 :: y121 :: y122 :: y123 :: y124 :: y125 :: y126 :: y127 :: y128 :: y129 :: y130 :: y131 :: y132 :: y133 :: y134 :: y135 :: y136 :: y137 :: y138 :: y139 :: y140 :: y141 :: y142 :: y143 :: y144 :: y145 :: y146 :: y147 :: y148 :: y149 :: y150 :: y151 :: y152 :: y153 :: y154 :: y155 :: y156 :: y157 :: y158 :: y159 :: y160 :: y161 :: y162 :: y163 :: y164 :: y165 :: y166 :: y167 :: y168 :: y169 :: y170 :: y171 :: y172 :: y173 :: y174 :: y175 :: y176 :: y177 :: y178 :: y179 :: y180 :: y181 :: y182 :: y183 :: []), []⟩ w')) :
    Code.wp Tryd.prog kly4 Q ⟨List.toArray (.pointer (some ⟨p, 0, none⟩) :: y1 :: y2 :: .pointer (some ⟨Bt, 0, none⟩) :: y4 :: .int .i64 li :: .pointer (some ⟨Bm, 0, none⟩) :: .pointer (some ⟨Bc, 0, none⟩) :: y8 :: y9 :: y10 :: y11 :: y12 :: y13 :: y14 :: y15 :: y16 :: y17 :: y18 :: y19 :: y20 :: y21 :: y22 :: y23 :: y24 :: y25 :: y26 :: y27 :: y28 :: y29 :: y30 :: y31 :: y32 :: y33 :: y34 :: y35 :: y36 :: y37 :: y38 :: y39 :: y40 :: y41 :: y42 :: y43 :: y44 :: y45 :: y46 :: y47 :: y48 :: y49 :: y50 :: y51 :: y52 :: y53 :: y54 :: y55 :: y56 :: y57 :: y58 :: y59 :: y60 :: y61 :: y62 :: y63 :: y64 :: y65 :: y66 :: y67 :: y68 :: y69 :: y70 :: y71 :: y72 :: y73 :: y74 :: y75 :: y76 :: y77 :: y78 :: y79 :: y80 :: y81 :: y82 :: y83 :: y84 :: y85 :: y86 :: y87 :: y88 :: y89 :: y90 :: y91 :: y92 :: y93 :: y94 :: y95 :: y96 :: y97 :: y98 :: y99 :: y100 :: y101 :: y102 :: y103 :: y104 :: y105 :: y106 :: y107 :: y108 :: y109 :: y110 :: y111 :: y112 :: y113 :: y114 :: y115 :: y116 :: y117 :: y118 :: y119 :: y120 :: y121 :: y122 :: y123 :: y124 :: y125 :: y126 :: y127 :: y128 :: y129 :: y130 :: y131 :: y132 :: y133 :: y134 :: y135 :: y136 :: y137 :: y138 :: y139 :: y140 :: y141 :: y142 :: y143 :: y144 :: y145 :: y146 :: y147 :: y148 :: y149 :: y150 :: y151 :: y152 :: y153 :: y154 :: y155 :: y156 :: y157 :: y158 :: y159 :: y160 :: y161 :: y162 :: y163 :: y164 :: y165 :: y166 :: y167 :: y168 :: y169 :: y170 :: y171 :: y172 :: y173 :: y174 :: y175 :: y176 :: y177 :: y178 :: y179 :: y180 :: y181 :: y182 :: y183 :: []), []⟩ W := by
  conv => arg 2; whnf
  have c0 : W.cell? ⟨Bc, 0, none⟩ = some (.int .i64 cv) := cell_at HBX.out.2.2 0
  have t1 : W.cell? ⟨Bt, 1, none⟩ = some (.int .i64 sa) := cell_at HBX.out.1 1
  have hw1 : IntKind.i64.wrap (cv + 1) = cv + 1 := by rw [IntKind.wrap_i64]; omega
  have hw2 : IntKind.i64.wrap (cv + 1 + (pk : Int)) = cv + 1 + (pk : Int) := by rw [IntKind.wrap_i64]; omega
  go_upto_region 9 with fail
  go_quiet (first | (go_at_call 13; exact Calls.quiet_of_same (HPK.out _)))
  simp only [Exit.then]
  obtain ⟨U, hU⟩ : ∃ U, U = W.drewN nq := ⟨_, rfl⟩
  rw [← hU]
  have HU : Hid (Below W.heap.size W U ∧ U.heap = W.heap) := by rw [hU]; exact ⟨belowN (Below.refl _ _) nq, rfl⟩
  have HSU : Hid (KSit U p A ps K) := HS.out.below HU.out.1
  have HBU : Hid (U.heap[Bt]? = some (.cells #[.int .i64 4, .int .i64 sa, .int .i64 sb] 66 (0, 0)) ∧ U.heap[Bm]? = some (.cells #[.int .i64 1, .int .i64 li, .int .i64 0, .int .i64 0, .int .i64 0, .int .u64 0, .int .u64 0, .int .u64 0, .int .u64 0, .int .u64 0, .string ⟨#[]⟩, .int .u64 0, .int .i64 0, .int .u64 0, .int .u64 0, .int .u64 0, .int .u64 0, .int .u64 0, .int .u64 0] 40 (0, 0)) ∧ U.heap[Bc]? = some (.cells #[.int .i64 cv, .int .u64 cb, .int .u64 k0, .int .u64 k1, .int .u64 k2, .int .u64 k3] 26 (0, 0))) := by rw [HU.out.2]; exact HBX.out
  clear hU c0 t1 hw1 hw2
  obtain ⟨v0, hv0⟩ : ∃ v0, v0 = cv + 1 + (pk : Int) := ⟨_, rfl⟩
  rw [← hv0]
  have HV0 : Hid (v0 = cv + 1 + (pk : Int)) := hv0
  have hup := upTo_le v0 li
  have hv1 : 1 ≤ v0 := by omega
  have hv2 : v0 ≤ 1004 := by omega
  have hum := upTo_mod v0 li ⟨hli, hli3⟩
  have HNO : Hid (∀ u, v0 ≤ u → u < upTo v0 li → u % 4 ≠ li) := fun u h1 h2 => upTo_not h1 h2
  have HUV : Hid (upTo v0 li = upTo (cv + 1 + (pk : Int)) li) := by rw [hv0]; rfl
  generalize upTo v0 li = vt at hup hum HNO HUV
  clear hv0
  go_wp2
  go_loopw [8] (fun vv w' => ∃ u : Int, v0 ≤ u ∧ u ≤ vt ∧ vv = .int .i64 u ∧ Hid (w' = U)) (fun vv _ => (vt - intOf vv).toNat)
  case atStart => exact ⟨v0, Int.le_refl _, hup.1, rfl, rfl⟩
  case round =>
    obtain ⟨u, hu1, hu2, rfl, hw⟩ := hrel
    obtain rfl := hw.out
    have htm : u.tmod 4 = u % 4 := Int.tmod_eq_emod_of_nonneg (by omega)
    by_cases hue : u = vt
    rotate_left
    · have hne : (u.tmod 4 != li) = true := by rw [htm]; exact bne_iff_ne.2 (HNO.out u hu1 (by omega))
      clear htm
      go_wp2
      go_roundw
      case rel => exact ⟨u + 1, by omega, by omega, by go_num, by first | exact trivial | exact rfl⟩
      case measure => simp [intOf]; omega
    · subst hue
      have hne : (u.tmod 4 != li) = false := by rw [htm, hum]; simp
      clear htm
      have m2 : wr.cell? ⟨Bm, 2, none⟩ = some (.int .i64 0) := cell_at HBU.out.2.1 2
      have fz2 := free_at HBU.out.2.1 2
      go_upto_region 13 with fail
      obtain ⟨U1, hU1⟩ : ∃ U1, U1 = wr.setCell ⟨Bm, 2, none⟩ (.int .i64 u) := ⟨_, rfl⟩
      rw [← hU1]
      have HX1 : Hid (U1.heap[Bm]? = some (.cells #[.int .i64 1, .int .i64 li, .int .i64 u, .int .i64 0, .int .i64 0, .int .u64 0, .int .u64 0, .int .u64 0, .int .u64 0, .int .u64 0, .string ⟨#[]⟩, .int .u64 0, .int .i64 0, .int .u64 0, .int .u64 0, .int .u64 0, .int .u64 0, .int .u64 0, .int .u64 0] 40 (0, 0))) := by rw [hU1]; exact heap_store (i := 2) HBU.out.2.1 _
      have HF1 : Hid (Fr (fun b => b = Bm) wr U1) := by rw [hU1]; exact Fr.setCell (S := fun b => b = Bm) _ (a := ⟨Bm, 2, none⟩) rfl _
      have HC1 : Hid (U1.heap[Bc]? = some (.cells #[.int .i64 cv, .int .u64 cb, .int .u64 k0, .int .u64 k1, .int .u64 k2, .int .u64 k3] 26 (0, 0))) := by rw [hU1]; exact (heap_store_ne _ (Ne.symm HNB.out.2.2.2.2)).trans HBU.out.2.2
      clear hU1 m2 fz2
      have HA0 : Hid (∀ b, A 0 b → b ≠ Bm) := fun b hb e => HNB.out.2.1 ⟨0, by omega, by rw [← e]; exact hb⟩
      have HK1 : Hid (KMem U1 p (A 0) ps K) := HSU.out.k.fr HF1.out (fun b h1 h2 => HA0.out b h1 h2) (fun e => HB0.out e.symm)
      have HFW : Hid (Fr (fun b => A 0 b ∨ b = Bm) W U1) := (Fr.of_below HU.out.1).trans (HF1.out.mono (fun _ h => .inr h)) (fun _ h => .inl h)
      have HCM : Hid (Calls Tryd.prog 20 #[.pointer (some ⟨p, 0, none⟩)] U1.drew fun e w' => e = .returned (.string (cmdText (nn + 1))) ∧ KMem w' p (A 0) ps { K with count := ((nn + 1 : Nat) : Int) } ∧ Fr (A 0) U1 w') := (kcommand U1.drew p (A 0) ps K (HK1.out.heap rfl) nn HCN.out (by omega)).mono (fun e w' h => ⟨h.1, h.2.1, (Fr.drew _ _).trans h.2.2 (fun _ h => .inl h)⟩)
      have HBB : Hid (∀ W', Fr (A 0) U1 W' → W'.heap[Bm]? = some (.cells #[.int .i64 1, .int .i64 li, .int .i64 u, .int .i64 0, .int .i64 0, .int .u64 0, .int .u64 0, .int .u64 0, .int .u64 0, .int .u64 0, .string ⟨#[]⟩, .int .u64 0, .int .i64 0, .int .u64 0, .int .u64 0, .int .u64 0, .int .u64 0, .int .u64 0, .int .u64 0] 40 (0, 0)) ∧ W'.heap[Bc]? = some (.cells #[.int .i64 cv, .int .u64 cb, .int .u64 k0, .int .u64 k1, .int .u64 k2, .int .u64 k3] 26 (0, 0))) := fun W' hW => ⟨(hW.block Bm (lt_at HX1.out) (fun h => HA0.out _ h rfl)).trans HX1.out, (hW.block Bc (lt_at HC1.out) (fun h => HNB.out.2.2.1 ⟨0, by omega, h⟩)).trans HC1.out⟩
      have HS13 : Hid (∀ W', Fr (A 0) U1 W' → (rowVar 26 ⟨Bc, 0, none⟩).run Tryd.prog W' = .ok (.agg #[.int .i64 cv, .int .u64 cb, .int .u64 k0, .int .u64 k1, .int .u64 k2, .int .u64 k3]) W') := fun W' hW => rowVar_whole _ Bc 26 26 _ (0, 0) _ (HBB.out W' hW).2 Tryd.underlying26 rfl (by kernel_rfl)
      have HPU13 : Hid (∀ W', Fr (A 0) U1 W' → (rowPut 38 ⟨Bm, 3, none⟩ (.agg #[.int .i64 u, .int .i64 cv, .int .u64 cb, .int .u64 k0, .int .u64 k1, .int .u64 k2, .int .u64 k3, .string (cmdText (nn + 1))])).run Tryd.prog W' = .ok () (W'.setCells Bm 3 [.int .i64 u, .int .i64 cv, .int .u64 cb, .int .u64 k0, .int .u64 k1, .int .u64 k2, .int .u64 k3, .string (cmdText (nn + 1))])) := fun W' hW => rowPut_mid W' Bm 3 38 #[.int .i64 u, .int .i64 cv, .int .u64 cb, .int .u64 k0, .int .u64 k1, .int .u64 k2, .int .u64 k3, .string (cmdText (nn + 1))] (there_box (HBB.out W' hW).1 3 8 (by simp)) (by kernel_rfl) (by simp [Value.oneCell'])
      refine kly_r13 HCM HS13 HPU13 ?_
      intro e78 e79 e80 e81 e82 e83 w5 hm5 hf5
      simp only [Exit.then]
      obtain ⟨V1, hV1⟩ : ∃ V1, V1 = w5.setCells Bm 3 [.int .i64 u, .int .i64 cv, .int .u64 cb, .int .u64 k0, .int .u64 k1, .int .u64 k2, .int .u64 k3, .string (cmdText (nn + 1))] := ⟨_, rfl⟩
      rw [← hV1]
      have HXV : Hid (V1.heap[Bm]? = some (.cells #[.int .i64 1, .int .i64 li, .int .i64 u, .int .i64 u, .int .i64 cv, .int .u64 cb, .int .u64 k0, .int .u64 k1, .int .u64 k2, .int .u64 k3, .string (cmdText (nn + 1)), .int .u64 0, .int .i64 0, .int .u64 0, .int .u64 0, .int .u64 0, .int .u64 0, .int .u64 0, .int .u64 0] 40 (0, 0))) := by
        rw [hV1]
        have := heap_stores [.int .i64 u, .int .i64 cv, .int .u64 cb, .int .u64 k0, .int .u64 k1, .int .u64 k2, .int .u64 k3, .string (cmdText (nn + 1))] 3 (HBB.out w5 hf5).1
        rw [fill3] at this
        exact this
      have hfm : Fr (fun b => b = Bm) w5 V1 := by rw [hV1]; exact Fr.setCells (S := fun b => b = Bm) rfl _ _ _
      have HKV : Hid (KMem V1 p (A 0) ps { K with count := ((nn + 1 : Nat) : Int) }) := hm5.fr hfm (fun b h1 h2 => HA0.out b h1 h2) (fun e => HB0.out e.symm)
      have HFV : Hid (Fr (fun b => A 0 b ∨ b = Bm) W V1) := (HFW.out.trans (hf5.mono (fun _ h => Or.inl h)) (fun _ h => .inl h)).trans (hfm.mono (fun _ h => .inr h)) (fun _ h => .inl h)
      clear hV1 hfm hm5 hf5 HCM HS13 HPU13 HBB HX1 HF1 HC1 HK1 HFW
      have hcs : (cmdText (nn + 1)).size ≤ 16 := cmd_size (nn + 1) (by omega)
      have HBO : Hid (Blk.Ok ⟨u, ⟨cv, cb, k0, k1, k2, k3⟩, cmdText (nn + 1)⟩) := ⟨by show _ ≤ u; omega, by show u ≤ _; omega, HCO.out, Nat.le_trans hcs (by decide)⟩
      have HLK : Hid (∀ W', W'.heap[Bm]? = some (.cells #[.int .i64 1, .int .i64 li, .int .i64 u, .int .i64 u, .int .i64 cv, .int .u64 cb, .int .u64 k0, .int .u64 k1, .int .u64 k2, .int .u64 k3, .string (cmdText (nn + 1)), .int .u64 0, .int .i64 0, .int .u64 0, .int .u64 0, .int .u64 0, .int .u64 0, .int .u64 0, .int .u64 0] 40 (0, 0)) → (rowVar 38 ⟨Bm, 3, none⟩).run Tryd.prog W' = .ok (.agg #[.int .i64 u, .int .i64 cv, .int .u64 cb, .int .u64 k0, .int .u64 k1, .int .u64 k2, .int .u64 k3, .string (cmdText (nn + 1))]) W') := fun W' hW => by
        refine rowVar_mid W' Bm 3 38 [.int .i64 u, .int .i64 cv, .int .u64 cb, .int .u64 k0, .int .u64 k1, .int .u64 k2, .int .u64 k3, .string (cmdText (nn + 1))] _ (fun j v hv => ?_) Tryd.underlying38 rfl (by kernel_rfl)
        rw [cell_at hW]
        rcases j with _ | _ | _ | _ | _ | _ | _ | _ | j
        · exact hv
        · exact hv
        · exact hv
        · exact hv
        · exact hv
        · exact hv
        · exact hv
        · exact hv
        · simp at hv
      have HMT : Hid (Calls Tryd.prog 55 #[.pointer (some ⟨p, 0, none⟩), .agg #[.int .i64 u, .int .i64 cv, .int .u64 cb, .int .u64 k0, .int .u64 k1, .int .u64 k2, .int .u64 k3, .string (cmdText (nn + 1))]] V1 fun e w' => e = .returned (.tuple #[]) ∧ ∃ S', KMem w' p S' ps (({ K with count := ((nn + 1 : Nat) : Int) } : Clu).meets ⟨u, ⟨cv, cb, k0, k1, k2, k3⟩, cmdText (nn + 1)⟩) ∧ Grow (A 0) V1 S' ∧ Fr (A 0) V1 w') := kmeets V1 p (A 0) ps _ HKV.out ⟨u, ⟨cv, cb, k0, k1, k2, k3⟩, cmdText (nn + 1)⟩ HBO.out HO.out.ok.bl (by have := HO.out.len.bl; show K.blocks.length ≤ _; omega)
      have hlk := HLK.out V1 HXV.out
      have HNU : Hid (∀ W', Tab W' → Calls Tryd.prog 27 #[.agg #[.int .i64 u, .int .i64 cv, .int .u64 cb, .int .u64 k0, .int .u64 k1, .int .u64 k2, .int .u64 k3, .string (cmdText (nn + 1))]] W' fun e w' => e = .returned (.int .u64 (Blk.num ⟨u, ⟨cv, cb, k0, k1, k2, k3⟩, cmdText (nn + 1)⟩ : Nat)) ∧ Below W'.heap.size W' w') := fun W' hW => pnum ⟨u, ⟨cv, cb, k0, k1, k2, k3⟩, cmdText (nn + 1)⟩ HBO.out HBO.out.c1 W' hW
      go_upto_region 15 with (go_at_call 55; refine HMT.out.mono ?_; rintro e w6 ⟨rfl, S6, hm6, hg6, hf6⟩; have HM6 : Hid (KMem w6 p S6 ps (({ K with count := ((nn + 1 : Nat) : Int) } : Clu).meets ⟨u, ⟨cv, cb, k0, k1, k2, k3⟩, cmdText (nn + 1)⟩) ∧ Grow (A 0) V1 S6 ∧ Fr (A 0) V1 w6) := ⟨hm6, hg6, hf6⟩; clear hm6 hg6 hf6)
      have HX6 : Hid (w6.heap[Bm]? = some (.cells #[.int .i64 1, .int .i64 li, .int .i64 u, .int .i64 u, .int .i64 cv, .int .u64 cb, .int .u64 k0, .int .u64 k1, .int .u64 k2, .int .u64 k3, .string (cmdText (nn + 1)), .int .u64 0, .int .i64 0, .int .u64 0, .int .u64 0, .int .u64 0, .int .u64 0, .int .u64 0, .int .u64 0] 40 (0, 0))) := (HM6.out.2.2.block Bm (lt_at HXV.out) (fun h => HA0.out _ h rfl)).trans HXV.out
      have hlk6 := HLK.out w6 HX6.out
      have HNU6 : Hid (Calls Tryd.prog 27 #[.agg #[.int .i64 u, .int .i64 cv, .int .u64 cb, .int .u64 k0, .int .u64 k1, .int .u64 k2, .int .u64 k3, .string (cmdText (nn + 1))]] w6 fun e w' => e = .returned (.int .u64 (Blk.num ⟨u, ⟨cv, cb, k0, k1, k2, k3⟩, cmdText (nn + 1)⟩ : Nat)) ∧ Below w6.heap.size w6 w') := HNU.out w6 HM6.out.1.tab
      have HNL : Hid (Blk.num ⟨u, ⟨cv, cb, k0, k1, k2, k3⟩, cmdText (nn + 1)⟩ < 18446744073709551616) := num_lt _
      clear hlk HMT HNU
      obtain ⟨nb, hnb⟩ : ∃ nb, nb = Blk.num ⟨u, ⟨cv, cb, k0, k1, k2, k3⟩, cmdText (nn + 1)⟩ := ⟨_, rfl⟩
      have HNB2 : Hid (nb = Blk.num ⟨u, ⟨cv, cb, k0, k1, k2, k3⟩, cmdText (nn + 1)⟩) := hnb
      rw [← hnb] at HNU6 HNL
      clear hnb
      go_upto_region 16 with (go_at_call 27; refine HNU6.out.mono ?_; rintro e w7 ⟨rfl, hb7⟩; have HB7 : Hid (Below w6.heap.size w6 w7) := hb7; clear hb7)
      have HX7 : Hid (w7.heap[Bm]? = some (.cells #[.int .i64 1, .int .i64 li, .int .i64 u, .int .i64 u, .int .i64 cv, .int .u64 cb, .int .u64 k0, .int .u64 k1, .int .u64 k2, .int .u64 k3, .string (cmdText (nn + 1)), .int .u64 0, .int .i64 0, .int .u64 0, .int .u64 0, .int .u64 0, .int .u64 0, .int .u64 0, .int .u64 0] 40 (0, 0))) := (HB7.out.block Bm (lt_at HX6.out)).trans HX6.out
      have HSL : Hid (Calls Tryd.prog 11 #[.int .i64 li, .int .i64 1, .int .i64 u, .int .u64 nb] w7 fun e w' => e = .returned (.int .u64 (sealOf li 1 u nb)) ∧ Below w7.heap.size w7 w') := pseal li 1 u nb (by omega) (by omega) (by decide) (by decide) (by omega) (by omega) HNL.out w7 (HM6.out.1.tab.below HB7.out).is
      obtain ⟨sq, hsq⟩ : ∃ sq, sq = sealOf li 1 u nb := ⟨_, rfl⟩
      have HSQ : Hid (sq = sealOf li 1 u nb) := hsq
      rw [← hsq] at HSL
      clear hsq hlk6 HNU6
      have HW8 : Hid (∀ W8, Below w7.heap.size w7 W8 → W8.cell? ⟨Bm, 18, none⟩ = some (.int .u64 0) ∧ W8.frozen? ⟨Bm, 18, none⟩ = false) := fun W8 h8 => by
        have hx8 := (h8.block Bm (lt_at HX7.out)).trans HX7.out
        exact ⟨cell_at hx8 18, free_at hx8 18⟩
      go_wp2_with (go_at_call 11; refine HSL.out.mono ?_; rintro e w8 ⟨rfl, hb8⟩; have HB8 : Hid (Below w7.heap.size w7 w8) := hb8; clear hb8; obtain ⟨d18, z18⟩ := HW8.out w8 HB8.out)
      have hxf := heap_store (i := 18) ((HB8.out.block Bm (lt_at HX7.out)).trans HX7.out) (.int .u64 sq)
      have hfs : Fr (fun b => b = Bm) w8 (w8.setCell ⟨Bm, 18, none⟩ (.int .u64 sq)) := Fr.setCell (S := fun b => b = Bm) _ (a := ⟨Bm, 18, none⟩) rfl _
      have hs6 : ∀ b, S6 b → b ≠ Bm := fun b hb e => by
        subst e
        rcases HM6.out.2.1 b hb with h1 | h1
        · exact HA0.out b h1 rfl
        · have := lt_at HXV.out; omega
      have hkf : KMem (w8.setCell ⟨Bm, 18, none⟩ (.int .u64 sq)) p S6 ps (({ K with count := ((nn + 1 : Nat) : Int) } : Clu).meets ⟨u, ⟨cv, cb, k0, k1, k2, k3⟩, cmdText (nn + 1)⟩) := ((HM6.out.1.below HB7.out).below HB8.out).fr hfs hs6 (fun e => HB0.out e.symm)
      have hff : Fr (fun b => A 0 b ∨ b = Bm) W (w8.setCell ⟨Bm, 18, none⟩ (.int .u64 sq)) := (((HFV.out.trans (HM6.out.2.2.mono (fun _ h => Or.inl h)) (fun _ h => .inl h)).trans (Fr.of_below HB7.out) (fun _ h => .inl h)).trans (Fr.of_below HB8.out) (fun _ h => .inl h)).trans (hfs.mono (fun _ h => .inr h)) (fun _ h => .inl h)
      have hgg : Grow (A 0) W S6 := (Grow.refl (A 0) W).trans HFV.out.size HM6.out.2.1
      refine HEX.out (S' := S6) (v := u) (sq := sq) HUV.out ?_ ?_ hgg hff hxf
      · rw [HSQ.out, HNB2.out]
      · exact HS.out.clu2 (B := Bm) hkf (meets_ck _ _).m hgg hff HNB.out.2.1 HB0.out
end Go.Proofs.YtkehpnobidendaaDoor

namespace Go.Proofs.YtkehpnobidendaaDoor
open Go.RowKit
attribute [local go_sem ↓] ld_crtK put_crtK load_blk
theorem fill12 (a0 a1 a2 a3 a4 a5 a6 a7 a8 a9 a10 a11 a12 a13 a14 a15 a16 a17 a18 b0 b1 b2 b3 b4 b5 : Value) : fillA #[a0, a1, a2, a3, a4, a5, a6, a7, a8, a9, a10, a11, a12, a13, a14, a15, a16, a17, a18] 12 [b0, b1, b2, b3, b4, b5] = #[a0, a1, a2, a3, a4, a5, a6, a7, a8, a9, a10, a11, b0, b1, b2, b3, b4, b5, a18] := by kernel_rfl
theorem fill20 (a0 a1 a2 a3 a4 a5 a6 a7 a8 a9 a10 a11 a12 a13 a14 a15 a16 a17 a18 a19 z0 z1 z2 z3 z4 z5 z6 z7 z8 z9 z10 z11 z12 z13 z14 z15 z16 z17 z18 z19 : Value) : fillA #[z0, z1, z2, z3, z4, z5, z6, z7, z8, z9, z10, z11, z12, z13, z14, z15, z16, z17, z18, z19] 0 [a0, a1, a2, a3, a4, a5, a6, a7, a8, a9, a10, a11, a12, a13, a14, a15, a16, a17, a18, a19] = #[a0, a1, a2, a3, a4, a5, a6, a7, a8, a9, a10, a11, a12, a13, a14, a15, a16, a17, a18, a19] := by kernel_rfl
noncomputable def kly6 : Code := ((Tryd.f40.body.bind (fromReg 5))).getD .skip
set_option maxRecDepth 1000000 in
set_option maxHeartbeats 8000000 in
theorem kly_e {y0 y1 y2 y4 y8 y9 y10 y11 y12 y13 y14 y15 y16 y17 y18 y19 y20 y21 y22 y23 y24 y25 y26 y27 y28 y29 y30 y31 y32 y33 y34 y35 y36 y37 y38 y39 y40 y41 y42 y43 y44 y45 y46 y47 y48 y49 y50 y51 y52 y53 y54 y55 y56 y57 y58 y59 y60 y61 y62 y63 y64 y65 y66 y67 y68 y69 y70 y71 y72 y73 y74 y75 y76 y77 y78 y79 y80 y81 y82 y83 y84 y85 y86 y87 y88 y89 y90 y91 y92 y93 y94 y95 y96 y97 y98 y99 y100 y101 y102 y103 y104 y105 y106 y107 y108 y109 y110 y111 y112 y113 y114 y115 y116 y117 y118 y119 y120 y121 y122 y123 y124 y125 y126 y127 y128 y129 y130 y131 y132 y133 y134 y135 y136 y137 y138 y139 y140 y141 y142 y143 y144 y145 y146 y147 y148 y149 y150 y151 y152 y153 y154 y155 y156 y157 y158 y159 y160 y161 y162 y163 y164 y165 y166 y167 y168 y169 y170 y171 y172 y173 y174 y175 y176 y177 y178 y179 y180 y181 y182 y183 : Value} {kd li sa sb cv k0 k1 k2 k3 : Int} {cb Bt Bm Bc pk : Nat} {W : World} {Q : Exit → Act → World → Prop}
    (HPK : Hid (∀ W, Calls Tryd.prog 13 #[.int .i64 sa, .int .i64 6] W fun e w' => e = .returned (.int .i64 (pk : Int)) ∧ W = w')) (hpk : (pk : Int) ≤ 5) (hcv : 0 ≤ cv) (hcv1 : cv ≤ 1000) (hli : 0 ≤ li) (hli3 : li ≤ 3)
    (HTB : Hid (∀ W', Fr (fun b => b = Bm) W W' → Tab W'))
    (HBX : Hid (W.heap[Bt]? = some (.cells #[.int .i64 kd, .int .i64 sa, .int .i64 sb] 66 (0, 0)) ∧ W.heap[Bm]? = some (.cells #[.int .i64 3, .int .i64 li, .int .i64 0, .int .i64 0, .int .i64 0, .int .u64 0, .int .u64 0, .int .u64 0, .int .u64 0, .int .u64 0, .string ⟨#[]⟩, .int .u64 0, .int .i64 0, .int .u64 0, .int .u64 0, .int .u64 0, .int .u64 0, .int .u64 0, .int .u64 0] 40 (0, 0)) ∧ W.heap[Bc]? = some (.cells #[.int .i64 cv, .int .u64 cb, .int .u64 k0, .int .u64 k1, .int .u64 k2, .int .u64 k3] 26 (0, 0))))
    (HNB : Hid (Bm ≠ Bc))
    (HEX : Hid (∀ {v46 v47 v48 v49 v50 v51 v52 v53 v54 v55 v56 v57 v58 v59 v60 : Value} {w' : World} {v sq : Int}, v = cv + 1 + (pk : Int) → sq = sealOf li 3 v 0 → Fr (fun b => b = Bm) W w' → w'.heap[Bm]? = some (.cells #[.int .i64 3, .int .i64 li, .int .i64 v, .int .i64 0, .int .i64 0, .int .u64 0, .int .u64 0, .int .u64 0, .int .u64 0, .int .u64 0, .string ⟨#[]⟩, .int .u64 0, .int .i64 cv, .int .u64 cb, .int .u64 k0, .int .u64 k1, .int .u64 k2, .int .u64 k3, .int .u64 sq] 40 (0, 0)) → Q .normal ⟨List.toArray (y0 :: y1 :: y2 :: .pointer (some ⟨Bt, 0, none⟩) :: y4 :: .int .i64 li :: .pointer (some ⟨Bm, 0, none⟩) :: .pointer (some ⟨Bc, 0, none⟩) :: y8 :: y9 :: y10 :: y11 :: y12 :: y13 :: y14 :: y15 :: y16 :: y17 :: y18 :: y19 :: y20 :: y21 :: y22 :: y23 :: y24 :: y25 :: y26 :: y27 :: y28 :: y29 :: y30 :: y31 :: y32 :: y33 :: y34 :: y35 :: y36 :: y37 :: y38 :: y39 :: y40 :: y41 :: y42 :: y43 :: y44 :: y45 :: v46 :: v47 :: v48 :: v49 :: v50 :: v51 :: v52 :: v53 :: v54 :: v55 :: v56 :: v57 :: v58 :: v59 :: v60 :: y61 :: y62 :: y63 :: y64 :: y65 :: y66 :: y67 :: y68 :: y69 :: y70 :: y71 :: y72 :: y73 :: y74 :: y75 :: y76 :: y77 :: y78 :: y79 :: y80 :: y81 :: y82 :: y83 :: y84 :: y85 :: y86 :: y87 :: y88 :: y89 :: y90 :: y91 :: y92 :: y93 :: y94 :: y95 :: y96 :: y97 :: y98 :: y99 :: y100 :: y101 :: y102 :: y103 :: y104 :: y105 :: y106 :: y107 :: y108 :: y109 :: y110 :: y111 :: y112 :: y113 :: y114 :: y115 :: y116 :: y117 :: y118 :: y119 :: y120 :: y121 :: y122 :: y123 :: y124 :: y125 :: y126 :: y127 :: y128 :: y129 :: y130 :: y131 :: y132 :: y133 :: y134 :: y135 :: y136 :: y137 :: y138 :: y139 :: y140 :: y141 :: y142 :: y143 :: y144 :: y145 :: y146 :: y147 :: y148 :: y149 :: y150 :: y151 :: y152 :: y153 :: y154 :: y155 :: y156 :: y157 :: y158 :: y159 :: y160 :: y161 :: y162 :: y163 :: y164 :: y165 :: y166 :: y167 :: y168 :: y169 :: y170 :: y171 :: y172 :: y173 :: y174 :: y175 :: y176 :: y177 :: y178 :: y179 :: y180 :: y181 :: y182 :: y183 :: []), []⟩ w')) :
    Code.wp Tryd.prog kly6 Q ⟨List.toArray (y0 :: y1 :: y2 :: .pointer (some ⟨Bt, 0, none⟩) :: y4 :: .int .i64 li :: .pointer (some ⟨Bm, 0, none⟩) :: .pointer (some ⟨Bc, 0, none⟩) :: y8 :: y9 :: y10 :: y11 :: y12 :: y13 :: y14 :: y15 :: y16 :: y17 :: y18 :: y19 :: y20 :: y21 :: y22 :: y23 :: y24 :: y25 :: y26 :: y27 :: y28 :: y29 :: y30 :: y31 :: y32 :: y33 :: y34 :: y35 :: y36 :: y37 :: y38 :: y39 :: y40 :: y41 :: y42 :: y43 :: y44 :: y45 :: y46 :: y47 :: y48 :: y49 :: y50 :: y51 :: y52 :: y53 :: y54 :: y55 :: y56 :: y57 :: y58 :: y59 :: y60 :: y61 :: y62 :: y63 :: y64 :: y65 :: y66 :: y67 :: y68 :: y69 :: y70 :: y71 :: y72 :: y73 :: y74 :: y75 :: y76 :: y77 :: y78 :: y79 :: y80 :: y81 :: y82 :: y83 :: y84 :: y85 :: y86 :: y87 :: y88 :: y89 :: y90 :: y91 :: y92 :: y93 :: y94 :: y95 :: y96 :: y97 :: y98 :: y99 :: y100 :: y101 :: y102 :: y103 :: y104 :: y105 :: y106 :: y107 :: y108 :: y109 :: y110 :: y111 :: y112 :: y113 :: y114 :: y115 :: y116 :: y117 :: y118 :: y119 :: y120 :: y121 :: y122 :: y123 :: y124 :: y125 :: y126 :: y127 :: y128 :: y129 :: y130 :: y131 :: y132 :: y133 :: y134 :: y135 :: y136 :: y137 :: y138 :: y139 :: y140 :: y141 :: y142 :: y143 :: y144 :: y145 :: y146 :: y147 :: y148 :: y149 :: y150 :: y151 :: y152 :: y153 :: y154 :: y155 :: y156 :: y157 :: y158 :: y159 :: y160 :: y161 :: y162 :: y163 :: y164 :: y165 :: y166 :: y167 :: y168 :: y169 :: y170 :: y171 :: y172 :: y173 :: y174 :: y175 :: y176 :: y177 :: y178 :: y179 :: y180 :: y181 :: y182 :: y183 :: []), []⟩ W := by
  conv => arg 2; whnf
  have c0 : W.cell? ⟨Bc, 0, none⟩ = some (.int .i64 cv) := cell_at HBX.out.2.2 0
  have t1 : W.cell? ⟨Bt, 1, none⟩ = some (.int .i64 sa) := cell_at HBX.out.1 1
  have m2 : W.cell? ⟨Bm, 2, none⟩ = some (.int .i64 0) := cell_at HBX.out.2.1 2
  have fz2 := free_at HBX.out.2.1 2
  have hw1 : IntKind.i64.wrap (cv + 1) = cv + 1 := by rw [IntKind.wrap_i64]; omega
  have hw2 : IntKind.i64.wrap (cv + 1 + (pk : Int)) = cv + 1 + (pk : Int) := by rw [IntKind.wrap_i64]; omega
  go_upto_region 5 with fail
  refine kly_r5 HPK hw1 hw2 c0 t1 m2 fz2 ?_
  intro e46 e47 e48 e49 e50 e51 e52 e53
  simp only [Exit.then]
  obtain ⟨v, hv⟩ : ∃ v, v = cv + 1 + (pk : Int) := ⟨_, rfl⟩
  rw [← hv]
  have HV : Hid (v = cv + 1 + (pk : Int)) := hv
  have hv1 : 1 ≤ v := by omega
  have hv2 : v ≤ 1010 := by omega
  obtain ⟨U, hU⟩ : ∃ U, U = (W.setCell ⟨Bm, 2, none⟩ (.int .i64 v)).drew := ⟨_, rfl⟩
  rw [← hU]
  have HFU : Hid (Fr (fun b => b = Bm) W U) := by rw [hU]; exact (Fr.setCell (S := fun b => b = Bm) _ (a := ⟨Bm, 2, none⟩) rfl _).trans (Fr.drew (fun b => b = Bm) _) (fun _ h => .inl h)
  have hXU : U.heap[Bm]? = some (.cells #[.int .i64 3, .int .i64 li, .int .i64 v, .int .i64 0, .int .i64 0, .int .u64 0, .int .u64 0, .int .u64 0, .int .u64 0, .int .u64 0, .string ⟨#[]⟩, .int .u64 0, .int .i64 0, .int .u64 0, .int .u64 0, .int .u64 0, .int .u64 0, .int .u64 0, .int .u64 0] 40 (0, 0)) := by rw [hU]; exact heap_store (i := 2) HBX.out.2.1 _
  have hCU : U.heap[Bc]? = some (.cells #[.int .i64 cv, .int .u64 cb, .int .u64 k0, .int .u64 k1, .int .u64 k2, .int .u64 k3] 26 (0, 0)) := by rw [hU]; exact (heap_store_ne _ (Ne.symm HNB.out)).trans HBX.out.2.2
  have hlw : (rowVar 26 ⟨Bc, 0, none⟩).run Tryd.prog U = .ok (.agg #[.int .i64 cv, .int .u64 cb, .int .u64 k0, .int .u64 k1, .int .u64 k2, .int .u64 k3]) U := rowVar_whole _ Bc 26 26 _ (0, 0) _ hCU Tryd.underlying26 rfl (by kernel_rfl)
  have hpu : (rowPut 26 ⟨Bm, 12, none⟩ (.agg #[.int .i64 cv, .int .u64 cb, .int .u64 k0, .int .u64 k1, .int .u64 k2, .int .u64 k3])).run Tryd.prog U = .ok () (U.setCells Bm 12 [.int .i64 cv, .int .u64 cb, .int .u64 k0, .int .u64 k1, .int .u64 k2, .int .u64 k3]) := rowPut_mid U Bm 12 26 #[.int .i64 cv, .int .u64 cb, .int .u64 k0, .int .u64 k1, .int .u64 k2, .int .u64 k3] (there_box hXU 12 6 (by simp)) (by kernel_rfl) (by simp [Value.oneCell'])
  obtain ⟨V, hVV⟩ : ∃ V, V = U.setCells Bm 12 [.int .i64 cv, .int .u64 cb, .int .u64 k0, .int .u64 k1, .int .u64 k2, .int .u64 k3] := ⟨_, rfl⟩
  rw [← hVV] at hpu
  have HXV : Hid (V.heap[Bm]? = some (.cells #[.int .i64 3, .int .i64 li, .int .i64 v, .int .i64 0, .int .i64 0, .int .u64 0, .int .u64 0, .int .u64 0, .int .u64 0, .int .u64 0, .string ⟨#[]⟩, .int .u64 0, .int .i64 cv, .int .u64 cb, .int .u64 k0, .int .u64 k1, .int .u64 k2, .int .u64 k3, .int .u64 0] 40 (0, 0))) := by
    rw [hVV]
    have := heap_stores [.int .i64 cv, .int .u64 cb, .int .u64 k0, .int .u64 k1, .int .u64 k2, .int .u64 k3] 12 hXU
    rw [fill12] at this
    exact this
  have HFV : Hid (Fr (fun b => b = Bm) W V) := by rw [hVV]; exact HFU.out.trans (Fr.setCells (S := fun b => b = Bm) rfl _ _ _) (fun _ h => .inl h)
  clear hU hVV hXU hCU hv c0 t1 m2 fz2 hw1 hw2
  go_upto_region 7 with fail
  clear hlw hpu
  have d2 : V.cell? ⟨Bm, 2, none⟩ = some (.int .i64 v) := cell_at HXV.out 2
  have HSL : Hid (Calls Tryd.prog 11 #[.int .i64 li, .int .i64 3, .int .i64 v, .int .u64 0] V fun e w' => e = .returned (.int .u64 (sealOf li 3 v 0)) ∧ Below V.heap.size V w') := pseal li 3 v 0 (by omega) (by omega) (by decide) (by decide) (by omega) (by omega) (by decide) V (HTB.out V HFV.out).is
  obtain ⟨sq, hsq⟩ : ∃ sq, sq = sealOf li 3 v 0 := ⟨_, rfl⟩
  have HSQ : Hid (sq = sealOf li 3 v 0) := hsq
  rw [← hsq] at HSL
  clear hsq
  have HW8 : Hid (∀ W8, Below V.heap.size V W8 → W8.cell? ⟨Bm, 18, none⟩ = some (.int .u64 0) ∧ W8.frozen? ⟨Bm, 18, none⟩ = false) := fun W8 h8 => by
    have hx8 := (h8.block Bm (lt_at HXV.out)).trans HXV.out
    exact ⟨cell_at hx8 18, free_at hx8 18⟩
  go_wp2_with (go_at_call 11; refine HSL.out.mono ?_; rintro e w8 ⟨rfl, hb8⟩; have HB8 : Hid (Below V.heap.size V w8) := hb8; clear hb8; obtain ⟨d18, z18⟩ := HW8.out w8 HB8.out)
  have hxf := heap_store (i := 18) ((HB8.out.block Bm (lt_at HXV.out)).trans HXV.out) (.int .u64 sq)
  exact HEX.out HV.out HSQ.out ((HFV.out.trans (Fr.of_below HB8.out) (fun _ h => .inl h)).trans (Fr.setCell (S := fun b => b = Bm) _ (a := ⟨Bm, 18, none⟩) rfl _) (fun _ h => .inl h)) hxf
theorem setCells_drew : ∀ (vs : List Value) (o : Nat) (w : World) (b : Nat), w.drew.setCells b o vs = (w.setCells b o vs).drew
  | [], _, _, _ => rfl
  | v :: r, o, w, b => setCells_drew r (o + 1) (w.setCell ⟨b, o, none⟩ v) b
attribute [local go_sem ↓] ld_ltr put_ltr
noncomputable def kly5 : Code := ((Tryd.f40.body.bind (fromReg 18))).getD .skip
set_option maxRecDepth 1000000 in
set_option maxHeartbeats 8000000 in
theorem kly_v {y1 y2 y4 y7 y8 y9 y10 y11 y12 y13 y14 y15 y16 y17 y18 y19 y20 y21 y22 y23 y24 y25 y26 y27 y28 y29 y30 y31 y32 y33 y34 y35 y36 y37 y38 y39 y40 y41 y42 y43 y44 y45 y46 y47 y48 y49 y50 y51 y52 y53 y54 y55 y56 y57 y58 y59 y60 y61 y62 y63 y64 y65 y66 y67 y68 y69 y70 y71 y72 y73 y74 y75 y76 y77 y78 y79 y80 y81 y82 y83 y84 y85 y86 y87 y88 y89 y90 y91 y92 y93 y94 y95 y96 y97 y98 y99 y100 y101 y102 y103 y104 y105 y106 y107 y108 y109 y110 y111 y112 y113 y114 y115 y116 y117 y118 y119 y120 y121 y122 y123 y124 y125 y126 y127 y128 y129 y130 y131 y132 y133 y134 y135 y136 y137 y138 y139 y140 y141 y142 y143 y144 y145 y146 y147 y148 y149 y150 y151 y152 y153 y154 y155 y156 y157 y158 y159 y160 y161 y162 y163 y164 y165 y166 y167 y168 y169 y170 y171 y172 y173 y174 y175 y176 y177 y178 y179 y180 y181 y182 y183 : Value} {kd li sa sb : Int} {p Bt Bm n : Nat} {W : World} {A : Nat → Nat → Prop} {ps : List (Option Nat)} {K : Clu} {Q : Exit → Act → World → Prop}
    (HPK : Hid (K.letters.length ≠ 0 → ∀ W, Calls Tryd.prog 13 #[.int .i64 sa, .int .i64 K.letters.length] W fun e w' => e = .returned (.int .i64 (pickN sa K.letters.length : Nat)) ∧ W = w')) (hli : 0 ≤ li) (hli3 : li ≤ 3)
    (HS : Hid (KSit W p A ps K)) (HO : Hid (KOk K n)) (hn : n ≤ 1500000000)
    (HTB : Hid (∀ W', Fr (fun b => b = Bm) W W' → Tab W'))
    (HBX : Hid (W.heap[Bt]? = some (.cells #[.int .i64 kd, .int .i64 sa, .int .i64 sb] 66 (0, 0)) ∧ W.heap[Bm]? = some (.cells #[.int .i64 2, .int .i64 li, .int .i64 0, .int .i64 0, .int .i64 0, .int .u64 0, .int .u64 0, .int .u64 0, .int .u64 0, .int .u64 0, .string ⟨#[]⟩, .int .u64 0, .int .i64 0, .int .u64 0, .int .u64 0, .int .u64 0, .int .u64 0, .int .u64 0, .int .u64 0] 40 (0, 0))))
    (HRE : Hid (∀ {v10 v98 v99 v100 v101 v102 v103 v104 v105 v106 v107 v108 v109 v110 v111 v112 v113 v114 v115 v116 v117 v118 v119 v120 v121 v122 v123 v124 v125 v126 v127 v128 v129 v130 v131 v132 v133 v134 v135 v136 v137 v138 v139 v140 v141 v142 v143 v144 : Value} {w' : World}, (K.letters.length = 0 ∨ (K.letters.getD (K.letters.length - 1 - pickN sa K.letters.length) ⟨0, Msg.zero⟩).msg.kind ≠ 1) → Below W.heap.size W w' → Q .ret ⟨List.toArray (.pointer (some ⟨p, 0, none⟩) :: y1 :: y2 :: .pointer (some ⟨Bt, 0, none⟩) :: .bool true :: .int .i64 li :: .pointer (some ⟨Bm, 0, none⟩) :: y7 :: y8 :: y9 :: v10 :: y11 :: y12 :: y13 :: y14 :: y15 :: y16 :: y17 :: y18 :: y19 :: y20 :: y21 :: y22 :: y23 :: y24 :: y25 :: y26 :: y27 :: y28 :: y29 :: y30 :: y31 :: y32 :: y33 :: y34 :: y35 :: y36 :: y37 :: y38 :: y39 :: y40 :: y41 :: y42 :: y43 :: y44 :: y45 :: y46 :: y47 :: y48 :: y49 :: y50 :: y51 :: y52 :: y53 :: y54 :: y55 :: y56 :: y57 :: y58 :: y59 :: y60 :: y61 :: y62 :: y63 :: y64 :: y65 :: y66 :: y67 :: y68 :: y69 :: y70 :: y71 :: y72 :: y73 :: y74 :: y75 :: y76 :: y77 :: y78 :: y79 :: y80 :: y81 :: y82 :: y83 :: y84 :: y85 :: y86 :: y87 :: y88 :: y89 :: y90 :: y91 :: y92 :: y93 :: y94 :: y95 :: y96 :: y97 :: v98 :: v99 :: v100 :: v101 :: v102 :: v103 :: v104 :: v105 :: v106 :: v107 :: v108 :: v109 :: v110 :: v111 :: v112 :: v113 :: v114 :: v115 :: v116 :: v117 :: v118 :: v119 :: v120 :: v121 :: v122 :: v123 :: v124 :: v125 :: v126 :: v127 :: v128 :: v129 :: v130 :: v131 :: v132 :: v133 :: v134 :: v135 :: v136 :: v137 :: v138 :: v139 :: v140 :: v141 :: v142 :: v143 :: v144 :: y145 :: y146 :: y147 :: y148 :: y149 :: y150 :: y151 :: y152 :: y153 :: y154 :: y155 :: y156 :: y157 :: y158 :: y159 :: y160 :: y161 :: y162 :: y163 :: y164 :: y165 :: y166 :: y167 :: y168 :: y169 :: y170 :: y171 :: y172 :: y173 :: y174 :: y175 :: y176 :: y177 :: y178 :: y179 :: y180 :: y181 :: y182 :: y183 :: []), []⟩ w'))
    (HEX : Hid (∀ {v10 v98 v99 v100 v101 v102 v103 v104 v105 v106 v107 v108 v109 v110 v111 v112 v113 v114 v115 v116 v117 v118 v119 v120 v121 v122 v123 v124 v125 v126 v127 v128 v129 v130 v131 v132 v133 v134 v135 v136 v137 v138 v139 v140 v141 v142 v143 v144 : Value} {w' : World} {l : Ltr} {sq xv : Int} {nb : Nat}, l = K.letters.getD (K.letters.length - 1 - pickN sa K.letters.length) ⟨0, Msg.zero⟩ → K.letters.length ≠ 0 → l.msg.kind = 1 → xv = l.msg.view → nb = l.msg.block.num → sq = sealOf li 2 xv nb → Fr (fun b => b = Bm) W w' → w'.heap[Bm]? = some (.cells #[.int .i64 2, .int .i64 li, .int .i64 xv, .int .i64 0, .int .i64 0, .int .u64 0, .int .u64 0, .int .u64 0, .int .u64 0, .int .u64 0, .string ⟨#[]⟩, .int .u64 nb, .int .i64 0, .int .u64 0, .int .u64 0, .int .u64 0, .int .u64 0, .int .u64 0, .int .u64 sq] 40 (0, 0)) → Q .normal ⟨List.toArray (.pointer (some ⟨p, 0, none⟩) :: y1 :: y2 :: .pointer (some ⟨Bt, 0, none⟩) :: y4 :: .int .i64 li :: .pointer (some ⟨Bm, 0, none⟩) :: y7 :: y8 :: y9 :: v10 :: y11 :: y12 :: y13 :: y14 :: y15 :: y16 :: y17 :: y18 :: y19 :: y20 :: y21 :: y22 :: y23 :: y24 :: y25 :: y26 :: y27 :: y28 :: y29 :: y30 :: y31 :: y32 :: y33 :: y34 :: y35 :: y36 :: y37 :: y38 :: y39 :: y40 :: y41 :: y42 :: y43 :: y44 :: y45 :: y46 :: y47 :: y48 :: y49 :: y50 :: y51 :: y52 :: y53 :: y54 :: y55 :: y56 :: y57 :: y58 :: y59 :: y60 :: y61 :: y62 :: y63 :: y64 :: y65 :: y66 :: y67 :: y68 :: y69 :: y70 :: y71 :: y72 :: y73 :: y74 :: y75 :: y76 :: y77 :: y78 :: y79 :: y80 :: y81 :: y82 :: y83 :: y84 :: y85 :: y86 :: y87 :: y88 :: y89 :: y90 :: y91 :: y92 :: y93 :: y94 :: y95 :: y96 :: y97 :: v98 :: v99 :: v100 :: v101 :: v102 :: v103 :: v104 :: v105 :: v106 :: v107 :: v108 :: v109 :: v110 :: v111 :: v112 :: v113 :: v114 :: v115 :: v116 :: v117 :: v118 :: v119 :: v120 :: v121 :: v122 :: v123 :: v124 :: v125 :: v126 :: v127 :: v128 :: v129 :: v130 :: v131 :: v132 :: v133 :: v134 :: v135 :: v136 :: v137 :: v138 :: v139 :: v140 :: v141 :: v142 :: v143 :: v144 :: y145 :: y146 :: y147 :: y148 :: y149 :: y150 :: y151 :: y152 :: y153 :: y154 :: y155 :: y156 :: y157 :: y158 :: y159 :: y160 :: y161 :: y162 :: y163 :: y164 :: y165 :: y166 :: y167 :: y168 :: y169 :: y170 :: y171 :: y172 :: y173 :: y174 :: y175 :: y176 :: y177 :: y178 :: y179 :: y180 :: y181 :: y182 :: y183 :: []), []⟩ w')) :
    Code.wp Tryd.prog kly5 Q ⟨List.toArray (.pointer (some ⟨p, 0, none⟩) :: y1 :: y2 :: .pointer (some ⟨Bt, 0, none⟩) :: y4 :: .int .i64 li :: .pointer (some ⟨Bm, 0, none⟩) :: y7 :: y8 :: y9 :: y10 :: y11 :: y12 :: y13 :: y14 :: y15 :: y16 :: y17 :: y18 :: y19 :: y20 :: y21 :: y22 :: y23 :: y24 :: y25 :: y26 :: y27 :: y28 :: y29 :: y30 :: y31 :: y32 :: y33 :: y34 :: y35 :: y36 :: y37 :: y38 :: y39 :: y40 :: y41 :: y42 :: y43 :: y44 :: y45 :: y46 :: y47 :: y48 :: y49 :: y50 :: y51 :: y52 :: y53 :: y54 :: y55 :: y56 :: y57 :: y58 :: y59 :: y60 :: y61 :: y62 :: y63 :: y64 :: y65 :: y66 :: y67 :: y68 :: y69 :: y70 :: y71 :: y72 :: y73 :: y74 :: y75 :: y76 :: y77 :: y78 :: y79 :: y80 :: y81 :: y82 :: y83 :: y84 :: y85 :: y86 :: y87 :: y88 :: y89 :: y90 :: y91 :: y92 :: y93 :: y94 :: y95 :: y96 :: y97 :: y98 :: y99 :: y100 :: y101 :: y102 :: y103 :: y104 :: y105 :: y106 :: y107 :: y108 :: y109 :: y110 :: y111 :: y112 :: y113 :: y114 :: y115 :: y116 :: y117 :: y118 :: y119 :: y120 :: y121 :: y122 :: y123 :: y124 :: y125 :: y126 :: y127 :: y128 :: y129 :: y130 :: y131 :: y132 :: y133 :: y134 :: y135 :: y136 :: y137 :: y138 :: y139 :: y140 :: y141 :: y142 :: y143 :: y144 :: y145 :: y146 :: y147 :: y148 :: y149 :: y150 :: y151 :: y152 :: y153 :: y154 :: y155 :: y156 :: y157 :: y158 :: y159 :: y160 :: y161 :: y162 :: y163 :: y164 :: y165 :: y166 :: y167 :: y168 :: y169 :: y170 :: y171 :: y172 :: y173 :: y174 :: y175 :: y176 :: y177 :: y178 :: y179 :: y180 :: y181 :: y182 :: y183 :: []), []⟩ W := by
  conv => arg 2; whnf
  obtain ⟨al, cl, q2, hrow⟩ := HS.out.lcells
  have hll : K.letters.length ≤ 1600000000 := by have := HO.out.len.lt; omega
  by_cases hz : K.letters.length = 0
  · have hzb : ((K.letters.length : Int) == 0) = true := by rw [hz]; rfl
    go_wp2
    exact HRE.out (.inl hz) (Below.refl _ _)
  have hzb : ((K.letters.length : Int) == 0) = false := beq_eq_false_iff_ne.2 (by omega)
  obtain ⟨g, off, rfl, hSg, hg, hcap⟩ := hrow.place (by omega)
  have hpl := pickN_lt sa K.letters.length (by omega)
  have HPK1 := HPK.out hz
  have HPK2 : Hid (∀ W, Calls Tryd.prog 13 #[.int .i64 sa, .int .i64 K.letters.length] W fun e w' => e = .returned (.int .i64 (pickN sa K.letters.length : Nat)) ∧ W = w') := HPK1
  generalize pickN sa K.letters.length = pk at hpl HPK2 HRE HEX
  obtain ⟨i, hi⟩ : ∃ i, i = K.letters.length - 1 - pk := ⟨_, rfl⟩
  rw [← hi] at HRE HEX
  have hil : i < K.letters.length := by omega
  have hw1 : IntKind.i64.wrap ((K.letters.length : Int) - 1) = (K.letters.length : Int) - 1 := by rw [IntKind.wrap_i64]; omega
  have hw2 : IntKind.i64.wrap ((K.letters.length : Int) - 1 - (pk : Int)) = (i : Int) := by rw [IntKind.wrap_i64]; omega
  have hi0 : (0 : Int) ≤ (i : Int) := by omega
  have hi1 : (i : Int) < (K.letters.length : Int) := by omega
  have hget : K.letters.getD i ⟨0, Msg.zero⟩ = K.letters[i] := by rw [List.getD_eq_getElem?_getD, List.getElem?_eq_getElem hil]; rfl
  rw [hget] at HRE HEX
  have HLO : Hid (Ltr.Ok K.letters[i]) := HO.out.lt _ (List.getElem_mem hil)
  have hel := hrow.elemAt (show ∀ l : Ltr, l.cells.length = 20 from fun _ => rfl) i hil
  generalize K.letters[i] = l at HLO hel HRE HEX
  obtain ⟨l0, ⟨xk, xf, xv, ⟨bv, ⟨jv, jb, j0, j1, j2, j3⟩, bc⟩, nu, ⟨cv, cb, k0, k1, k2, k3⟩, sl⟩⟩ := l
  have hpW : p < W.heap.size := HS.out.k.lt
  have HS20 : Hid (∀ W', Below W.heap.size W W' → Below W.heap.size W W' ∧ W'.cell? ⟨p, 2, none⟩ = some (.slice (some ⟨g, off, none⟩) K.letters.length cl) ∧ W'.cell? ⟨Bt, 1, none⟩ = some (.int .i64 sa) ∧ (rowVar 42 ⟨g, off + i * 20, none⟩).run Tryd.prog W' = .ok (.agg #[.int .i64 l0, .int .i64 xk, .int .i64 xf, .int .i64 xv, .int .i64 bv, .int .i64 jv, .int .u64 jb, .int .u64 j0, .int .u64 j1, .int .u64 j2, .int .u64 j3, .string bc, .int .u64 nu, .int .i64 cv, .int .u64 cb, .int .u64 k0, .int .u64 k1, .int .u64 k2, .int .u64 k3, .int .u64 sl]) W') := fun W' hW => by
    refine ⟨hW, (hW.cell (p := ⟨p, 2, none⟩) hpW).trans q2, (hW.cell (p := ⟨Bt, 1, none⟩) (lt_at HBX.out.1)).trans (cell_at HBX.out.1 1), ?_⟩
    exact rowVar_mid W' g (off + i * 20) _ (Ltr.cells ⟨l0, ⟨xk, xf, xv, ⟨bv, ⟨jv, jb, j0, j1, j2, j3⟩, bc⟩, nu, ⟨cv, cb, k0, k1, k2, k3⟩, sl⟩⟩) _ (fun j v hv => (hW.cell (p := ⟨g, off + i * 20 + j, none⟩) hg).trans (hel j v hv)) Tryd.underlying42 rfl ltr_size20
  have hpu : (rowPut 42 ⟨W.heap.size, 0, none⟩ (.agg #[.int .i64 l0, .int .i64 xk, .int .i64 xf, .int .i64 xv, .int .i64 bv, .int .i64 jv, .int .u64 jb, .int .u64 j0, .int .u64 j1, .int .u64 j2, .int .u64 j3, .string bc, .int .u64 nu, .int .i64 cv, .int .u64 cb, .int .u64 k0, .int .u64 k1, .int .u64 k2, .int .u64 k3, .int .u64 sl])).run Tryd.prog (W.alloc (.cells #[.int .i64 0, .int .i64 0, .int .i64 0, .int .i64 0, .int .i64 0, .int .i64 0, .int .u64 0, .int .u64 0, .int .u64 0, .int .u64 0, .int .u64 0, .string ⟨#[]⟩, .int .u64 0, .int .i64 0, .int .u64 0, .int .u64 0, .int .u64 0, .int .u64 0, .int .u64 0, .int .u64 0] 42)).drew = .ok () (W.alloc (.cells #[.int .i64 l0, .int .i64 xk, .int .i64 xf, .int .i64 xv, .int .i64 bv, .int .i64 jv, .int .u64 jb, .int .u64 j0, .int .u64 j1, .int .u64 j2, .int .u64 j3, .string bc, .int .u64 nu, .int .i64 cv, .int .u64 cb, .int .u64 k0, .int .u64 k1, .int .u64 k2, .int .u64 k3, .int .u64 sl] 42)).drew := by
    have h1 := rowPut_mid (P := Tryd.prog) (W.alloc (.cells #[.int .i64 0, .int .i64 0, .int .i64 0, .int .i64 0, .int .i64 0, .int .i64 0, .int .u64 0, .int .u64 0, .int .u64 0, .int .u64 0, .int .u64 0, .string ⟨#[]⟩, .int .u64 0, .int .i64 0, .int .u64 0, .int .u64 0, .int .u64 0, .int .u64 0, .int .u64 0, .int .u64 0] 42)).drew W.heap.size 0 42 #[.int .i64 l0, .int .i64 xk, .int .i64 xf, .int .i64 xv, .int .i64 bv, .int .i64 jv, .int .u64 jb, .int .u64 j0, .int .u64 j1, .int .u64 j2, .int .u64 j3, .string bc, .int .u64 nu, .int .i64 cv, .int .u64 cb, .int .u64 k0, .int .u64 k1, .int .u64 k2, .int .u64 k3, .int .u64 sl] (LHeld.start0 W _ rfl _) ltr_size20 (by simp [Value.oneCell'])
    rw [h1, setCells_drew, setCells_new, fill20]
  clear hel hrow hcap hSg hget HPK1 HPK
  go_upto_region 20 with fail
  refine kly_r20 HPK2 hw1 hw2 hi0 hi1 HS20 hpu ?_
  intro e104 e105 e106 e107 e108 e109 e110 e111 e112 e113 e114 e115 e116 e117 e118 e119 e120 e121 e122 e123 e124
  simp only [Exit.then]
  have hbmW : Bm < W.heap.size := lt_at HBX.out.2
  obtain ⟨X, hX⟩ : ∃ X, X = (W.alloc (.cells #[.int .i64 l0, .int .i64 xk, .int .i64 xf, .int .i64 xv, .int .i64 bv, .int .i64 jv, .int .u64 jb, .int .u64 j0, .int .u64 j1, .int .u64 j2, .int .u64 j3, .string bc, .int .u64 nu, .int .i64 cv, .int .u64 cb, .int .u64 k0, .int .u64 k1, .int .u64 k2, .int .u64 k3, .int .u64 sl] 42)).drew := ⟨_, rfl⟩
  rw [← hX]
  have HBW : Hid (Below W.heap.size W X) := by rw [hX]; exact (below_alloc _ _).drew
  have HXL : Hid (X.heap[W.heap.size]? = some (.cells #[.int .i64 l0, .int .i64 xk, .int .i64 xf, .int .i64 xv, .int .i64 bv, .int .i64 jv, .int .u64 jb, .int .u64 j0, .int .u64 j1, .int .u64 j2, .int .u64 j3, .string bc, .int .u64 nu, .int .i64 cv, .int .u64 cb, .int .u64 k0, .int .u64 k1, .int .u64 k2, .int .u64 k3, .int .u64 sl] 42 (0, 0))) := by rw [hX]; exact heap_alloc_new W _
  have HXM : Hid (X.heap[Bm]? = some (.cells #[.int .i64 2, .int .i64 li, .int .i64 0, .int .i64 0, .int .i64 0, .int .u64 0, .int .u64 0, .int .u64 0, .int .u64 0, .int .u64 0, .string ⟨#[]⟩, .int .u64 0, .int .i64 0, .int .u64 0, .int .u64 0, .int .u64 0, .int .u64 0, .int .u64 0, .int .u64 0] 40 (0, 0))) := (HBW.out.block Bm hbmW).trans HBX.out.2
  clear hX hpu HS20 HPK2 hw1 hw2 q2
  obtain ⟨Bl, hBl⟩ : ∃ b, b = W.heap.size := ⟨_, rfl⟩
  rw [← hBl] at HXL ⊢
  have HBL : Hid (Bl ≠ Bm) := by show Bl ≠ Bm; omega
  clear hBl hbmW
  have l1 : X.cell? ⟨Bl, 1, none⟩ = some (.int .i64 xk) := cell_at HXL.out 1
  have l3 : X.cell? ⟨Bl, 3, none⟩ = some (.int .i64 xv) := cell_at HXL.out 3
  have m2 : X.cell? ⟨Bm, 2, none⟩ = some (.int .i64 0) := cell_at HXM.out 2
  have fz2 := free_at HXM.out 2
  by_cases hk1 : xk = 1
  rotate_left
  · have hkb : (xk != 1) = true := bne_iff_ne.2 hk1
    go_wp2
    exact HRE.out (.inr hk1) HBW.out
  have HK1 : Hid (xk = 1) := hk1
  have hkb : (xk != 1) = false := by rw [hk1]; rfl
  clear hk1
  go_upto_region 24 with fail
  obtain ⟨U, hU⟩ : ∃ U, U = X.setCell ⟨Bm, 2, none⟩ (.int .i64 xv) := ⟨_, rfl⟩
  rw [← hU]
  have HFU : Hid (Fr (fun b => b = Bm) W U) := by rw [hU]; exact (Fr.of_below HBW.out).trans (Fr.setCell (S := fun b => b = Bm) _ (a := ⟨Bm, 2, none⟩) rfl _) (fun _ h => .inl h)
  have HXU : Hid (U.heap[Bm]? = some (.cells #[.int .i64 2, .int .i64 li, .int .i64 xv, .int .i64 0, .int .i64 0, .int .u64 0, .int .u64 0, .int .u64 0, .int .u64 0, .int .u64 0, .string ⟨#[]⟩, .int .u64 0, .int .i64 0, .int .u64 0, .int .u64 0, .int .u64 0, .int .u64 0, .int .u64 0, .int .u64 0] 40 (0, 0))) := by rw [hU]; exact heap_store (i := 2) HXM.out _
  have HLU : Hid (U.heap[Bl]? = some (.cells #[.int .i64 l0, .int .i64 xk, .int .i64 xf, .int .i64 xv, .int .i64 bv, .int .i64 jv, .int .u64 jb, .int .u64 j0, .int .u64 j1, .int .u64 j2, .int .u64 j3, .string bc, .int .u64 nu, .int .i64 cv, .int .u64 cb, .int .u64 k0, .int .u64 k1, .int .u64 k2, .int .u64 k3, .int .u64 sl] 42 (0, 0))) := by rw [hU]; exact (heap_store_ne _ HBL.out).trans HXL.out
  have hlk : (rowVar 38 ⟨Bl, 4, none⟩).run Tryd.prog U = .ok (.agg #[.int .i64 bv, .int .i64 jv, .int .u64 jb, .int .u64 j0, .int .u64 j1, .int .u64 j2, .int .u64 j3, .string bc]) U := by
    refine rowVar_mid U Bl 4 38 [.int .i64 bv, .int .i64 jv, .int .u64 jb, .int .u64 j0, .int .u64 j1, .int .u64 j2, .int .u64 j3, .string bc] _ (fun j v hv => ?_) Tryd.underlying38 rfl (by kernel_rfl)
    rw [cell_at HLU.out]
    rcases j with _ | _ | _ | _ | _ | _ | _ | _ | j
    · exact hv
    · exact hv
    · exact hv
    · exact hv
    · exact hv
    · exact hv
    · exact hv
    · exact hv
    · simp at hv
  have HNU : Hid (Calls Tryd.prog 27 #[.agg #[.int .i64 bv, .int .i64 jv, .int .u64 jb, .int .u64 j0, .int .u64 j1, .int .u64 j2, .int .u64 j3, .string bc]] U fun e w' => e = .returned (.int .u64 (Blk.num ⟨bv, ⟨jv, jb, j0, j1, j2, j3⟩, bc⟩ : Nat)) ∧ Below U.heap.size U w') := pnum ⟨bv, ⟨jv, jb, j0, j1, j2, j3⟩, bc⟩ HLO.out.1.b HLO.out.1.b.c1 U (HTB.out U HFU.out)
  have HNL : Hid (Blk.num ⟨bv, ⟨jv, jb, j0, j1, j2, j3⟩, bc⟩ < 18446744073709551616) := num_lt _
  obtain ⟨nb, hnb⟩ : ∃ nb, nb = Blk.num ⟨bv, ⟨jv, jb, j0, j1, j2, j3⟩, bc⟩ := ⟨_, rfl⟩
  have HNB2 : Hid (nb = Blk.num ⟨bv, ⟨jv, jb, j0, j1, j2, j3⟩, bc⟩) := hnb
  rw [← hnb] at HNU HNL
  have HW6 : Hid (∀ W8, Below U.heap.size U W8 → W8.cell? ⟨Bm, 11, none⟩ = some (.int .u64 0) ∧ W8.frozen? ⟨Bm, 11, none⟩ = false) := fun W8 h8 => by
    have hx8 := (h8.block Bm (lt_at HXU.out)).trans HXU.out
    exact ⟨cell_at hx8 11, free_at hx8 11⟩
  clear hU hnb l1 l3 m2 fz2
  go_upto_region 25 with (go_at_call 27; refine HNU.out.mono ?_; rintro e w6 ⟨rfl, hb6⟩; have HB6 : Hid (Below U.heap.size U w6) := hb6; clear hb6; obtain ⟨d11, z11⟩ := HW6.out w6 HB6.out)
  obtain ⟨V, hV⟩ : ∃ V, V = w6.setCell ⟨Bm, 11, none⟩ (.int .u64 nb) := ⟨_, rfl⟩
  rw [← hV]
  have HXV : Hid (V.heap[Bm]? = some (.cells #[.int .i64 2, .int .i64 li, .int .i64 xv, .int .i64 0, .int .i64 0, .int .u64 0, .int .u64 0, .int .u64 0, .int .u64 0, .int .u64 0, .string ⟨#[]⟩, .int .u64 nb, .int .i64 0, .int .u64 0, .int .u64 0, .int .u64 0, .int .u64 0, .int .u64 0, .int .u64 0] 40 (0, 0))) := by rw [hV]; exact heap_store (i := 11) ((HB6.out.block Bm (lt_at HXU.out)).trans HXU.out) _
  have HFV : Hid (Fr (fun b => b = Bm) W V) := by rw [hV]; exact (HFU.out.trans (Fr.of_below HB6.out) (fun _ h => .inl h)).trans (Fr.setCell (S := fun b => b = Bm) _ (a := ⟨Bm, 11, none⟩) rfl _) (fun _ h => .inl h)
  clear hV d11 z11 hlk HNU HW6
  have e2 : V.cell? ⟨Bm, 2, none⟩ = some (.int .i64 xv) := cell_at HXV.out 2
  have e11 : V.cell? ⟨Bm, 11, none⟩ = some (.int .u64 nb) := cell_at HXV.out 11
  have HSL : Hid (Calls Tryd.prog 11 #[.int .i64 li, .int .i64 2, .int .i64 xv, .int .u64 nb] V fun e w' => e = .returned (.int .u64 (sealOf li 2 xv nb)) ∧ Below V.heap.size V w') := pseal li 2 xv nb (by omega) (by omega) (by decide) (by decide) HLO.out.2.1 HLO.out.2.2 HNL.out V (HTB.out V HFV.out).is
  obtain ⟨sq, hsq⟩ : ∃ sq, sq = sealOf li 2 xv nb := ⟨_, rfl⟩
  have HSQ : Hid (sq = sealOf li 2 xv nb) := hsq
  rw [← hsq] at HSL
  have HW8 : Hid (∀ W8, Below V.heap.size V W8 → W8.cell? ⟨Bm, 18, none⟩ = some (.int .u64 0) ∧ W8.frozen? ⟨Bm, 18, none⟩ = false) := fun W8 h8 => by
    have hx8 := (h8.block Bm (lt_at HXV.out)).trans HXV.out
    exact ⟨cell_at hx8 18, free_at hx8 18⟩
  clear hsq
  go_wp2_with (go_at_call 11; refine HSL.out.mono ?_; rintro e w8 ⟨rfl, hb8⟩; have HB8 : Hid (Below V.heap.size V w8) := hb8; clear hb8; obtain ⟨d18, z18⟩ := HW8.out w8 HB8.out)
  have hxf := heap_store (i := 18) ((HB8.out.block Bm (lt_at HXV.out)).trans HXV.out) (.int .u64 sq)
  exact HEX.out (l := ⟨l0, ⟨xk, xf, xv, ⟨bv, ⟨jv, jb, j0, j1, j2, j3⟩, bc⟩, nu, ⟨cv, cb, k0, k1, k2, k3⟩, sl⟩⟩) rfl hz HK1.out rfl HNB2.out HSQ.out ((HFV.out.trans (Fr.of_below HB8.out) (fun _ h => .inl h)).trans (Fr.setCell (S := fun b => b = Bm) _ (a := ⟨Bm, 18, none⟩) rfl _) (fun _ h => .inl h)) hxf
end Go.Proofs.YtkehpnobidendaaDoor

namespace Go.Proofs.YtkehpnobidendaaDoor
open Go.RowKit
attribute [local go_sem ↓] pload_msg put_msgK
theorem meets_kok {K : Clu} {n : Nat} (h : KOk K n) {c : Int} (b : Blk) (hb : b.Ok) : KOk (({ K with count := c } : Clu).meets b) (n + 1) := by
  have hm := meets_keep ({ K with count := c } : Clu) b
  have hs := meets_same ({ K with count := c } : Clu) b
  have hk := kmeets_ok (K := { K with count := c }) ⟨h.ok.bl, h.ok.vt, h.ok.l0, h.ok.l1⟩ b hb
  refine ⟨hk, ⟨?_, ?_, ?_, ?_⟩, ?_, ?_, ?_, fun k => ?_⟩
  · rw [hs.2.1]; exact Nat.le_succ_of_le h.len.lt
  · rw [hs.2.2.1]; exact Nat.le_succ_of_le h.len.ct
  · rw [hs.1]; exact Nat.le_succ_of_le h.len.vt
  · have h1 := hm.2.2.2.2.2
    have h2 := h.len.bl
    have h3 : ({ K with count := c } : Clu).blocks.length = K.blocks.length := rfl
    omega
  · rw [hs.2.1]; exact h.lt
  · rw [hs.2.2.2.1]; exact h.ml
  · rw [hs.2.2.2.1]; exact fun m hm => (h.ms m hm).mono (by omega)
  · rw [hs.2.2.2.2.1]; exact Nat.le_succ_of_le (h.wl k)
set_option maxRecDepth 1000000 in
set_option maxHeartbeats 8000000 in
theorem klies4 (w : World) (p : Nat) (A : Nat → Nat → Prop) (ps : List (Option Nat)) (K : Clu) (h : KSit w p A ps K) (n : Nat) (ok : KOk K n) (hn : n ≤ 1400000000) (a b : Int) (a0 : -9223372036854775808 ≤ a) (a1 : a ≤ 9223372036854775807) (b0 : -9223372036854775808 ≤ b) (b1 : b ≤ 9223372036854775807) (hl0 : 0 ≤ K.liar) (hl3 : K.liar ≤ 3) (hcr : ∀ c ∈ K.certs, c.Ok ∧ 0 ≤ c.view ∧ c.view ≤ 1000) (hc1 : 1 ≤ K.certs.length) (nn : Nat) (hcn : K.count = (nn : Int)) (hnn : nn ≤ 20000000000001) :
    Calls Tryd.prog 40 #[.pointer (some ⟨p, 0, none⟩), .agg #[.int .i64 4, .int .i64 a, .int .i64 b]] w fun e w' => ∃ go, e = .returned (.bool (K.lies 4 a b go).2) ∧ KGoes w w' p A ps (K.lies 4 a b go).1 := by
  have HS0 : Hid (KSit w p A ps K) := h
  have HO : Hid (KOk K n) := ok
  obtain ⟨vc3, cl, hc3, hrow⟩ : ∃ al cl, w.cell? ⟨p, 3, none⟩ = some (.slice al K.certs.length cl) ∧ Row w (A 0) 26 6 (.slice al K.certs.length cl) K.certs.length (K.certs.flatMap Crt.cells) := by
    obtain ⟨vm, vl, vc, vv, l0, l1, l2, l3, vb, g1⟩ := h.k.ex
    have hr : Row w (A 0) 26 6 vc K.certs.length (K.certs.flatMap Crt.cells) := g1.row 2 _ _ _ rfl rfl rfl
    obtain ⟨am, cm, rfl⟩ := hr.isSlice
    exact ⟨am, cm, cell_at g1.box 3, hr⟩
  obtain ⟨g, off, rfl, hSg, hg, hcap⟩ := hrow.place (by omega)
  have hll : K.certs.length ≤ 1600000000 := by have := ok.len.ct; omega
  have hpl := pickN_lt b K.certs.length (by omega)
  have HPK : Hid (∀ W, Calls Tryd.prog 13 #[.int .i64 b, .int .i64 K.certs.length] W fun e w' => e = .returned (.int .i64 (pickN b K.certs.length : Nat)) ∧ W = w') := fun W => (kpick b K.certs.length b0 b1 (by omega) (by omega) W).mono (fun _ _ h => ⟨h.1, h.2.symm⟩)
  obtain ⟨pb, hpb⟩ : ∃ pb, pb = pickN b K.certs.length := ⟨_, rfl⟩
  rw [← hpb] at HPK hpl
  obtain ⟨i, hi⟩ : ∃ i, i = K.certs.length - 1 - pb := ⟨_, rfl⟩
  have hil : i < K.certs.length := by omega
  have hw1 : IntKind.i64.wrap ((K.certs.length : Int) - 1) = (K.certs.length : Int) - 1 := by rw [IntKind.wrap_i64]; omega
  have hw2 : IntKind.i64.wrap ((K.certs.length : Int) - 1 - (pb : Int)) = (i : Int) := by rw [IntKind.wrap_i64]; omega
  have hi0 : (0 : Int) ≤ (i : Int) := by omega
  have hi1 : (i : Int) < (K.certs.length : Int) := by omega
  have hget : K.certs.getD (K.certs.length - 1 - pickN b K.certs.length) Crt.zero = K.certs[i] := by
    rw [← hpb, ← hi, List.getD_eq_getElem?_getD, List.getElem?_eq_getElem hil]; rfl
  have HCR : Hid (K.certs[i].Ok ∧ 0 ≤ K.certs[i].view ∧ K.certs[i].view ≤ 1000) := hcr _ (List.getElem_mem hil)
  have hel := hrow.elemAt (show ∀ c : Crt, c.cells.length = 6 from fun _ => rfl) i hil
  have HGET : Hid (K.certs.getD (K.certs.length - 1 - pickN b K.certs.length) Crt.zero = K.certs[i]) := hget
  generalize K.certs[i] = c at HCR hel HGET
  obtain ⟨cv, cb, k0, k1, k2, k3⟩ := c
  have HLI : Hid (0 ≤ K.liar ∧ K.liar ≤ 3) := ⟨hl0, hl3⟩
  obtain ⟨li, hli⟩ : ∃ li, li = K.liar := ⟨_, rfl⟩
  have HLE : Hid (li = K.liar) := hli
  have hlc : w.cell? ⟨p, 1, none⟩ = some (.int .i64 li) := by
    obtain ⟨vm, vl, vc, vv, l0, l1, l2, l3, vb, g1⟩ := h.k.ex
    rw [hli]
    exact cell_at g1.box 1
  have hpW : p < w.heap.size := h.k.lt
  -- the step's box, the message's box
  obtain ⟨W1, hW1⟩ : ∃ W1, W1 = w.alloc (.cells #[.int .i64 4, .int .i64 a, .int .i64 b] 66) := ⟨_, rfl⟩
  have HB1 : Hid (Below w.heap.size w W1 ∧ w.heap.size < W1.heap.size ∧ W1.heap[w.heap.size]? = some (.cells #[.int .i64 4, .int .i64 a, .int .i64 b] 66 (0, 0))) := by
    rw [hW1]
    have := heap_alloc_new w (.cells #[.int .i64 4, .int .i64 a, .int .i64 b] 66)
    exact ⟨below_alloc _ _, lt_at this, this⟩
  have p1c : W1.cell? ⟨p, 1, none⟩ = some (.int .i64 li) := (HB1.out.1.cell (p := ⟨p, 1, none⟩) hpW).trans hlc
  have s0c : W1.cell? ⟨w.heap.size, 0, none⟩ = some (.int .i64 4) := cell_at HB1.out.2.2 0
  have hpu : (rowPut 40 ⟨W1.heap.size, 0, none⟩ (.agg #[.int .i64 1, .int .i64 li, .int .i64 0, .int .i64 0, .int .i64 0, .int .u64 0, .int .u64 0, .int .u64 0, .int .u64 0, .int .u64 0, .string ⟨#[]⟩, .int .u64 0, .int .i64 0, .int .u64 0, .int .u64 0, .int .u64 0, .int .u64 0, .int .u64 0, .int .u64 0])).run Tryd.prog (W1.alloc (.cells #[.int .i64 0, .int .i64 0, .int .i64 0, .int .i64 0, .int .i64 0, .int .u64 0, .int .u64 0, .int .u64 0, .int .u64 0, .int .u64 0, .string ⟨#[]⟩, .int .u64 0, .int .i64 0, .int .u64 0, .int .u64 0, .int .u64 0, .int .u64 0, .int .u64 0, .int .u64 0] 40)) = .ok () (W1.alloc (.cells #[.int .i64 1, .int .i64 li, .int .i64 0, .int .i64 0, .int .i64 0, .int .u64 0, .int .u64 0, .int .u64 0, .int .u64 0, .int .u64 0, .string ⟨#[]⟩, .int .u64 0, .int .i64 0, .int .u64 0, .int .u64 0, .int .u64 0, .int .u64 0, .int .u64 0, .int .u64 0] 40)) := (rowPut_mid _ W1.heap.size 0 40 #[.int .i64 1, .int .i64 li, .int .i64 0, .int .i64 0, .int .i64 0, .int .u64 0, .int .u64 0, .int .u64 0, .int .u64 0, .int .u64 0, .string ⟨#[]⟩, .int .u64 0, .int .i64 0, .int .u64 0, .int .u64 0, .int .u64 0, .int .u64 0, .int .u64 0, .int .u64 0] (start19 W1 _ rfl _) (by kernel_rfl) (by simp [Value.oneCell'])).trans (by rw [setCells_new, fill19])
  obtain ⟨W2, hW2⟩ : ∃ W2, W2 = W1.alloc (.cells #[.int .i64 1, .int .i64 li, .int .i64 0, .int .i64 0, .int .i64 0, .int .u64 0, .int .u64 0, .int .u64 0, .int .u64 0, .int .u64 0, .string ⟨#[]⟩, .int .u64 0, .int .i64 0, .int .u64 0, .int .u64 0, .int .u64 0, .int .u64 0, .int .u64 0, .int .u64 0] 40) := ⟨_, rfl⟩
  have HB2 : Hid (Below W1.heap.size W1 W2 ∧ W1.heap.size < W2.heap.size ∧ W2.heap[W1.heap.size]? = some (.cells #[.int .i64 1, .int .i64 li, .int .i64 0, .int .i64 0, .int .i64 0, .int .u64 0, .int .u64 0, .int .u64 0, .int .u64 0, .int .u64 0, .string ⟨#[]⟩, .int .u64 0, .int .i64 0, .int .u64 0, .int .u64 0, .int .u64 0, .int .u64 0, .int .u64 0, .int .u64 0] 40 (0, 0))) := by
    rw [hW2]
    have := heap_alloc_new W1 (.cells #[.int .i64 1, .int .i64 li, .int .i64 0, .int .i64 0, .int .i64 0, .int .u64 0, .int .u64 0, .int .u64 0, .int .u64 0, .int .u64 0, .string ⟨#[]⟩, .int .u64 0, .int .i64 0, .int .u64 0, .int .u64 0, .int .u64 0, .int .u64 0, .int .u64 0, .int .u64 0] 40)
    exact ⟨below_alloc _ _, lt_at this, this⟩
  have HBB : Hid (Below w.heap.size w W2) := bnext HB1.out.1 HB2.out.1
  have HS3 : Hid (∀ W, Below W2.heap.size W2 W → Below W2.heap.size W2 W ∧ W.cell? ⟨p, 3, none⟩ = some (.slice (some ⟨g, off, none⟩) K.certs.length cl) ∧ W.cell? ⟨w.heap.size, 2, none⟩ = some (.int .i64 b) ∧ W.cell? ⟨g, off + i * 6, none⟩ = some (.int .i64 cv) ∧ W.cell? ⟨g, off + i * 6 + 1, none⟩ = some (.int .u64 cb) ∧ W.cell? ⟨g, off + i * 6 + 2, none⟩ = some (.int .u64 k0) ∧ W.cell? ⟨g, off + i * 6 + 3, none⟩ = some (.int .u64 k1) ∧ W.cell? ⟨g, off + i * 6 + 4, none⟩ = some (.int .u64 k2) ∧ W.cell? ⟨g, off + i * 6 + 5, none⟩ = some (.int .u64 k3)) := fun W hW => by
    have hb := bnext HBB.out hW
    have hc : ∀ j v, (Crt.cells ⟨cv, cb, k0, k1, k2, k3⟩)[j]? = some v → W.cell? ⟨g, off + i * 6 + j, none⟩ = some v := fun j v hv => (hb.cell (p := ⟨g, off + i * 6 + j, none⟩) hg).trans (hel j v hv)
    have hbt : W.heap[w.heap.size]? = some (.cells #[.int .i64 4, .int .i64 a, .int .i64 b] 66 (0, 0)) := (hW.block _ (Nat.lt_of_lt_of_le HB1.out.2.1 HB2.out.1.size)).trans ((HB2.out.1.block _ HB1.out.2.1).trans HB1.out.2.2)
    exact ⟨hW, (hb.cell (p := ⟨p, 3, none⟩) hpW).trans hc3, cell_at hbt 2, hc 0 _ rfl, hc 1 _ rfl, hc 2 _ rfl, hc 3 _ rfl, hc 4 _ rfl, hc 5 _ rfl⟩
  have HCN : Hid (K.count = (nn : Int)) := hcn
  clear h ok hcr hget hli hlc hrow hel hcap hSg hcn hpb hi
  go_enter Tryd.func40, Tryd.ntmps40
  go_upto_region 1 with fail
  rw [← hW1]
  clear hW1
  go_upto_region 3 with fail
  rw [← hW2]
  clear p1c s0c hpu hW2
  obtain ⟨Bt, hBt⟩ : ∃ x, x = w.heap.size := ⟨_, rfl⟩
  have HBT : Hid (Bt = w.heap.size) := hBt
  obtain ⟨Bm, hBm⟩ : ∃ x, x = W1.heap.size := ⟨_, rfl⟩
  have HBM : Hid (Bm = W1.heap.size) := hBm
  rw [← hBt, ← hBm]
  rw [← hBt] at HS3
  clear hBt hBm
  refine kly_r3 HPK hw1 hw2 hi0 hi1 HS3 ?_
  intro c23 c24 c25 c26 c27 c28 c29 c30 c31 c32 c33 c34 c35 c36 c37 c38 c39 c40 c41 c42 c43
  simp only [Exit.then]
  obtain ⟨W, hW⟩ : ∃ W, W = (W2.alloc (.cells #[.int .i64 cv, .int .u64 cb, .int .u64 k0, .int .u64 k1, .int .u64 k2, .int .u64 k3] 26)).drew := ⟨_, rfl⟩
  rw [← hW]
  have HBW : Hid (Below W2.heap.size W2 W) := by rw [hW]; exact (below_alloc _ _).drew
  have HCW : Hid (W.heap[W2.heap.size]? = some (.cells #[.int .i64 cv, .int .u64 cb, .int .u64 k0, .int .u64 k1, .int .u64 k2, .int .u64 k3] 26 (0, 0))) := by rw [hW]; exact heap_alloc_new W2 _
  clear hW HS3 HPK hw1 hw2
  obtain ⟨Bc, hBc⟩ : ∃ x, x = W2.heap.size := ⟨_, rfl⟩
  rw [← hBc] at HCW ⊢
  have HBC : Hid (Bc = W2.heap.size) := hBc
  clear hBc
  have HBE : Hid (Below w.heap.size w W) := bnext HBB.out HBW.out
  have HS : Hid (KSit W p A ps K) := HS0.out.below HBE.out
  have HNB : Hid (¬ UA A Bt ∧ ¬ UA A Bm ∧ ¬ UA A Bc ∧ Bm ≠ Bt ∧ Bm ≠ Bc) := by
    have e1 := HBT.out; have e2 := HBM.out; have e3 := HBC.out; have e4 := HB1.out.2.1; have e5 := HB2.out.2.1
    refine ⟨?_, ?_, ?_, by omega, by omega⟩
    all_goals (rintro ⟨j, hj, hb⟩; have := HS0.out.lt j _ hj hb; omega)
  have HB0 : Hid (Bm ≠ 0) := by show Bm ≠ 0; have e2 := HBM.out; have e4 := HB1.out.2.1; omega
  have HBX : Hid (W.heap[Bt]? = some (.cells #[.int .i64 4, .int .i64 a, .int .i64 b] 66 (0, 0)) ∧ W.heap[Bm]? = some (.cells #[.int .i64 1, .int .i64 li, .int .i64 0, .int .i64 0, .int .i64 0, .int .u64 0, .int .u64 0, .int .u64 0, .int .u64 0, .int .u64 0, .string ⟨#[]⟩, .int .u64 0, .int .i64 0, .int .u64 0, .int .u64 0, .int .u64 0, .int .u64 0, .int .u64 0, .int .u64 0] 40 (0, 0)) ∧ W.heap[Bc]? = some (.cells #[.int .i64 cv, .int .u64 cb, .int .u64 k0, .int .u64 k1, .int .u64 k2, .int .u64 k3] 26 (0, 0))) := by
    rw [HBT.out, HBM.out]
    refine ⟨?_, ?_, HCW.out⟩
    · exact (HBW.out.block _ (Nat.lt_of_lt_of_le HB1.out.2.1 HB2.out.1.size)).trans ((HB2.out.1.block _ HB1.out.2.1).trans HB1.out.2.2)
    · exact (HBW.out.block _ HB2.out.2.1).trans HB2.out.2.2
  have HTB : Hid (∀ W', Fr (fun b => b = Bm) W W' → Tab W') := fun W' hW' => HS.out.k.tab.fr hW' (fun e => HB0.out e.symm)
  have tk : W.cell? ⟨Bt, 0, none⟩ = some (.int .i64 4) := cell_at HBX.out.1 0
  have HW1S : Hid (w.heap.size ≤ W1.heap.size) := HB1.out.1.size
  clear HB1 HB2 HBB HBW HCW HS0
  have hpk := pickN_lt a 4 (by decide)
  have HPK4 : Hid (∀ W, Calls Tryd.prog 13 #[.int .i64 a, .int .i64 4] W fun e w' => e = .returned (.int .i64 (pickN a 4 : Nat)) ∧ w' = W) := fun W => kpick a 4 a0 a1 (by decide) (by decide) W
  go_upto_if 61 with fail
  refine wp_cond_true rfl ?_
  have hpk3 : ((pickN a 4 : Nat) : Int) ≤ 3 := by omega
  have hli0 : 0 ≤ li := by rw [HLE.out]; exact HLI.out.1
  have hli3 : li ≤ 3 := by rw [HLE.out]; exact HLI.out.2
  refine kly_p (nn := nn) HPK4 hpk3 HCR.out.2.1 HCR.out.2.2 hli0 hli3 HS HO (by omega) HCR.out.1 HCN hnn HBX HNB HB0 ?_
  intro d8 d9 d63 d64 d65 d66 d67 d68 d69 d70 d71 d72 d73 d74 d75 d76 d77 d78 d79 d80 d81 d82 d83 d84 d85 d86 d87 d88 d89 d90 d91 d92 d93 d94 d95 w' S' v sq hv hsq hks hgr hfr hbm
  simp only [Exit.inBlock, Exit.then]
  have HBO : Hid (Blk.Ok ⟨v, ⟨cv, cb, k0, k1, k2, k3⟩, cmdText (nn + 1)⟩) := by
    have hu := upTo_le (cv + 1 + ((pickN a 4 : Nat) : Int)) li
    rw [← hv] at hu
    have h1 : 0 ≤ cv := HCR.out.2.1
    have h2 : cv ≤ 1000 := HCR.out.2.2
    exact ⟨by show _ ≤ v; omega, by show v ≤ _; omega, HCR.out.1, Nat.le_trans (cmd_size (nn + 1) (by omega)) (by decide)⟩
  have HVR : Hid (-9223372036854775808 ≤ v ∧ v ≤ 9223372036854775807) := ⟨HBO.out.v0, HBO.out.v1⟩
  have HLY : Hid (∀ go, K.lies 4 a b go = (({ K with count := ((nn + 1 : Nat) : Int) } : Clu).meets ⟨v, ⟨cv, cb, k0, k1, k2, k3⟩, cmdText (nn + 1)⟩).says ⟨1, li, v, ⟨v, ⟨cv, cb, k0, k1, k2, k3⟩, cmdText (nn + 1)⟩, 0, Crt.zero, sq⟩ go) := fun go => by
    unfold Clu.lies
    dsimp only
    rw [HGET.out, if_pos rfl]
    have e1 : K.count + 1 = ((nn + 1 : Nat) : Int) := by rw [HCN.out]; rfl
    have e2 : K.count.toNat = nn := by rw [HCN.out]; rfl
    rw [e1, e2, ← HLE.out, ← hv, ← hsq]
  have HOK3 : Hid (KOk (({ K with count := ((nn + 1 : Nat) : Int) } : Clu).meets ⟨v, ⟨cv, cb, k0, k1, k2, k3⟩, cmdText (nn + 1)⟩) (n + 1)) := meets_kok HO.out _ HBO.out
  have hUA : ∀ B, B < W.heap.size → ¬ UA A B → ¬ UA (updA A 0 S') B := fun B hB hn h => by
    rcases grow_u (i := 0) hgr B h with h1 | h1
    · exact hn h1
    · omega
  have HBT2 : Hid (w'.heap[Bt]? = some (.cells #[.int .i64 4, .int .i64 a, .int .i64 b] 66 (0, 0)) ∧ w'.heap[Bm]? = some (.cells #[.int .i64 1, .int .i64 li, .int .i64 v, .int .i64 v, .int .i64 cv, .int .u64 cb, .int .u64 k0, .int .u64 k1, .int .u64 k2, .int .u64 k3, .string (cmdText (nn + 1)), .int .u64 ((0 : Nat) : Int), .int .i64 0, .int .u64 ((0 : Nat) : Int), .int .u64 0, .int .u64 0, .int .u64 0, .int .u64 0, .int .u64 sq] 40 (0, 0)) ∧ ¬ UA (updA A 0 S') Bt ∧ ¬ UA (updA A 0 S') Bm) := by
    refine ⟨(hfr.block Bt (lt_at HBX.out.1) (fun h => ?_)).trans HBX.out.1, hbm, hUA Bt (lt_at HBX.out.1) HNB.out.1, hUA Bm (lt_at HBX.out.2.1) HNB.out.2.1⟩
    rcases h with h | h
    · exact HNB.out.1 ⟨0, by omega, h⟩
    · exact HNB.out.2.2.2.1 h.symm
  have HGW : Hid (Grow (UA A) w (UA (updA A 0 S')) ∧ Fr (UA A) w w') := by
    refine ⟨(Grow.refl (UA A) w).trans HBE.out.size (grow_u (i := 0) hgr), (Fr.of_below HBE.out).trans hfr (fun b h => ?_)⟩
    rcases h with h | h
    · exact .inl ⟨0, by omega, h⟩
    · right; rw [h, HBM.out]; exact HW1S.out
  have HKS : Hid (KSit w' p (updA A 0 S') ps (({ K with count := ((nn + 1 : Nat) : Int) } : Clu).meets ⟨v, ⟨cv, cb, k0, k1, k2, k3⟩, cmdText (nn + 1)⟩)) := hks
  clear hv hsq hks hgr hfr hbm hUA tk
  refine (?kk : ∀ (a : Act) (w : World), Code.wp Tryd.prog ?kc ?kq a w → _) _ _ ?goal
  case kk => assumption
  refine kly_says (n := n + 1) (kd := 4) (sa := a) (sb := b) HKS HOK3 (by omega) (⟨⟨HBO.out, by show (0 : Nat) < _; decide, crt_zero_ok⟩, HVR.out.1, HVR.out.2⟩ : Ltr.Ok ⟨-1, ⟨1, li, v, ⟨v, ⟨cv, cb, k0, k1, k2, k3⟩, cmdText (nn + 1)⟩, 0, ⟨0, 0, 0, 0, 0, 0⟩, sq⟩⟩) HBT2 ?_
  intro f11 f12 f13 f145 f146 f147 f148 f149 f150 f151 f152 f153 f154 f155 f156 f157 f158 f159 f160 f161 f162 f163 f164 f165 f166 f167 f168 f169 f170 f171 f172 f173 f174 f175 f176 f177 f178 f179 f180 f181 f182 f183 w9 go bo hbo hgo
  have HBO2 : Hid (bo = (K.lies 4 a b go).2) := by show _ = _; rw [HLY.out]; exact hbo
  have HGO2 : Hid (KGoes w w9 p A ps (K.lies 4 a b go).1) := by show KGoes _ _ _ _ _ _; rw [HLY.out]; exact hgo.trans HGW.out.1 HGW.out.2
  clear hbo hgo
  go_ret
  exact ⟨go, by rw [HBO2.out]; rfl, HGO2.out⟩
set_option maxRecDepth 1000000 in
set_option maxHeartbeats 8000000 in
theorem klies5 (w : World) (p : Nat) (A : Nat → Nat → Prop) (ps : List (Option Nat)) (K : Clu) (h : KSit w p A ps K) (n : Nat) (ok : KOk K n) (hn : n ≤ 1400000000) (a b : Int) (a0 : -9223372036854775808 ≤ a) (a1 : a ≤ 9223372036854775807) (b0 : -9223372036854775808 ≤ b) (b1 : b ≤ 9223372036854775807) (hl0 : 0 ≤ K.liar) (hl3 : K.liar ≤ 3) (hcr : ∀ c ∈ K.certs, c.Ok ∧ 0 ≤ c.view ∧ c.view ≤ 1000) (hc1 : 1 ≤ K.certs.length) :
    Calls Tryd.prog 40 #[.pointer (some ⟨p, 0, none⟩), .agg #[.int .i64 5, .int .i64 a, .int .i64 b]] w fun e w' => ∃ go, e = .returned (.bool (K.lies 5 a b go).2) ∧ KGoes w w' p A ps (K.lies 5 a b go).1 := by
  have HS0 : Hid (KSit w p A ps K) := h
  have HO : Hid (KOk K n) := ok
  obtain ⟨vc3, cl, hc3, hrow⟩ : ∃ al cl, w.cell? ⟨p, 3, none⟩ = some (.slice al K.certs.length cl) ∧ Row w (A 0) 26 6 (.slice al K.certs.length cl) K.certs.length (K.certs.flatMap Crt.cells) := by
    obtain ⟨vm, vl, vc, vv, l0, l1, l2, l3, vb, g1⟩ := h.k.ex
    have hr : Row w (A 0) 26 6 vc K.certs.length (K.certs.flatMap Crt.cells) := g1.row 2 _ _ _ rfl rfl rfl
    obtain ⟨am, cm, rfl⟩ := hr.isSlice
    exact ⟨am, cm, cell_at g1.box 3, hr⟩
  obtain ⟨g, off, rfl, hSg, hg, hcap⟩ := hrow.place (by omega)
  have hll : K.certs.length ≤ 1600000000 := by have := ok.len.ct; omega
  have hpl := pickN_lt b K.certs.length (by omega)
  have HPK : Hid (∀ W, Calls Tryd.prog 13 #[.int .i64 b, .int .i64 K.certs.length] W fun e w' => e = .returned (.int .i64 (pickN b K.certs.length : Nat)) ∧ W = w') := fun W => (kpick b K.certs.length b0 b1 (by omega) (by omega) W).mono (fun _ _ h => ⟨h.1, h.2.symm⟩)
  obtain ⟨pb, hpb⟩ : ∃ pb, pb = pickN b K.certs.length := ⟨_, rfl⟩
  rw [← hpb] at HPK hpl
  obtain ⟨i, hi⟩ : ∃ i, i = K.certs.length - 1 - pb := ⟨_, rfl⟩
  have hil : i < K.certs.length := by omega
  have hw1 : IntKind.i64.wrap ((K.certs.length : Int) - 1) = (K.certs.length : Int) - 1 := by rw [IntKind.wrap_i64]; omega
  have hw2 : IntKind.i64.wrap ((K.certs.length : Int) - 1 - (pb : Int)) = (i : Int) := by rw [IntKind.wrap_i64]; omega
  have hi0 : (0 : Int) ≤ (i : Int) := by omega
  have hi1 : (i : Int) < (K.certs.length : Int) := by omega
  have hget : K.certs.getD (K.certs.length - 1 - pickN b K.certs.length) Crt.zero = K.certs[i] := by
    rw [← hpb, ← hi, List.getD_eq_getElem?_getD, List.getElem?_eq_getElem hil]; rfl
  have HCR : Hid (K.certs[i].Ok ∧ 0 ≤ K.certs[i].view ∧ K.certs[i].view ≤ 1000) := hcr _ (List.getElem_mem hil)
  have hel := hrow.elemAt (show ∀ c : Crt, c.cells.length = 6 from fun _ => rfl) i hil
  have HGET : Hid (K.certs.getD (K.certs.length - 1 - pickN b K.certs.length) Crt.zero = K.certs[i]) := hget
  generalize K.certs[i] = c at HCR hel HGET
  obtain ⟨cv, cb, k0, k1, k2, k3⟩ := c
  have HLI : Hid (0 ≤ K.liar ∧ K.liar ≤ 3) := ⟨hl0, hl3⟩
  obtain ⟨li, hli⟩ : ∃ li, li = K.liar := ⟨_, rfl⟩
  have HLE : Hid (li = K.liar) := hli
  have hlc : w.cell? ⟨p, 1, none⟩ = some (.int .i64 li) := by
    obtain ⟨vm, vl, vc, vv, l0, l1, l2, l3, vb, g1⟩ := h.k.ex
    rw [hli]
    exact cell_at g1.box 1
  have hpW : p < w.heap.size := h.k.lt
  -- the step's box, the message's box
  obtain ⟨W1, hW1⟩ : ∃ W1, W1 = w.alloc (.cells #[.int .i64 5, .int .i64 a, .int .i64 b] 66) := ⟨_, rfl⟩
  have HB1 : Hid (Below w.heap.size w W1 ∧ w.heap.size < W1.heap.size ∧ W1.heap[w.heap.size]? = some (.cells #[.int .i64 5, .int .i64 a, .int .i64 b] 66 (0, 0))) := by
    rw [hW1]
    have := heap_alloc_new w (.cells #[.int .i64 5, .int .i64 a, .int .i64 b] 66)
    exact ⟨below_alloc _ _, lt_at this, this⟩
  have p1c : W1.cell? ⟨p, 1, none⟩ = some (.int .i64 li) := (HB1.out.1.cell (p := ⟨p, 1, none⟩) hpW).trans hlc
  have s0c : W1.cell? ⟨w.heap.size, 0, none⟩ = some (.int .i64 5) := cell_at HB1.out.2.2 0
  have hpu : (rowPut 40 ⟨W1.heap.size, 0, none⟩ (.agg #[.int .i64 2, .int .i64 li, .int .i64 0, .int .i64 0, .int .i64 0, .int .u64 0, .int .u64 0, .int .u64 0, .int .u64 0, .int .u64 0, .string ⟨#[]⟩, .int .u64 0, .int .i64 0, .int .u64 0, .int .u64 0, .int .u64 0, .int .u64 0, .int .u64 0, .int .u64 0])).run Tryd.prog (W1.alloc (.cells #[.int .i64 0, .int .i64 0, .int .i64 0, .int .i64 0, .int .i64 0, .int .u64 0, .int .u64 0, .int .u64 0, .int .u64 0, .int .u64 0, .string ⟨#[]⟩, .int .u64 0, .int .i64 0, .int .u64 0, .int .u64 0, .int .u64 0, .int .u64 0, .int .u64 0, .int .u64 0] 40)) = .ok () (W1.alloc (.cells #[.int .i64 2, .int .i64 li, .int .i64 0, .int .i64 0, .int .i64 0, .int .u64 0, .int .u64 0, .int .u64 0, .int .u64 0, .int .u64 0, .string ⟨#[]⟩, .int .u64 0, .int .i64 0, .int .u64 0, .int .u64 0, .int .u64 0, .int .u64 0, .int .u64 0, .int .u64 0] 40)) := (rowPut_mid _ W1.heap.size 0 40 #[.int .i64 2, .int .i64 li, .int .i64 0, .int .i64 0, .int .i64 0, .int .u64 0, .int .u64 0, .int .u64 0, .int .u64 0, .int .u64 0, .string ⟨#[]⟩, .int .u64 0, .int .i64 0, .int .u64 0, .int .u64 0, .int .u64 0, .int .u64 0, .int .u64 0, .int .u64 0] (start19 W1 _ rfl _) (by kernel_rfl) (by simp [Value.oneCell'])).trans (by rw [setCells_new, fill19])
  obtain ⟨W2, hW2⟩ : ∃ W2, W2 = W1.alloc (.cells #[.int .i64 2, .int .i64 li, .int .i64 0, .int .i64 0, .int .i64 0, .int .u64 0, .int .u64 0, .int .u64 0, .int .u64 0, .int .u64 0, .string ⟨#[]⟩, .int .u64 0, .int .i64 0, .int .u64 0, .int .u64 0, .int .u64 0, .int .u64 0, .int .u64 0, .int .u64 0] 40) := ⟨_, rfl⟩
  have HB2 : Hid (Below W1.heap.size W1 W2 ∧ W1.heap.size < W2.heap.size ∧ W2.heap[W1.heap.size]? = some (.cells #[.int .i64 2, .int .i64 li, .int .i64 0, .int .i64 0, .int .i64 0, .int .u64 0, .int .u64 0, .int .u64 0, .int .u64 0, .int .u64 0, .string ⟨#[]⟩, .int .u64 0, .int .i64 0, .int .u64 0, .int .u64 0, .int .u64 0, .int .u64 0, .int .u64 0, .int .u64 0] 40 (0, 0))) := by
    rw [hW2]
    have := heap_alloc_new W1 (.cells #[.int .i64 2, .int .i64 li, .int .i64 0, .int .i64 0, .int .i64 0, .int .u64 0, .int .u64 0, .int .u64 0, .int .u64 0, .int .u64 0, .string ⟨#[]⟩, .int .u64 0, .int .i64 0, .int .u64 0, .int .u64 0, .int .u64 0, .int .u64 0, .int .u64 0, .int .u64 0] 40)
    exact ⟨below_alloc _ _, lt_at this, this⟩
  have HBB : Hid (Below w.heap.size w W2) := bnext HB1.out.1 HB2.out.1
  have HS3 : Hid (∀ W, Below W2.heap.size W2 W → Below W2.heap.size W2 W ∧ W.cell? ⟨p, 3, none⟩ = some (.slice (some ⟨g, off, none⟩) K.certs.length cl) ∧ W.cell? ⟨w.heap.size, 2, none⟩ = some (.int .i64 b) ∧ W.cell? ⟨g, off + i * 6, none⟩ = some (.int .i64 cv) ∧ W.cell? ⟨g, off + i * 6 + 1, none⟩ = some (.int .u64 cb) ∧ W.cell? ⟨g, off + i * 6 + 2, none⟩ = some (.int .u64 k0) ∧ W.cell? ⟨g, off + i * 6 + 3, none⟩ = some (.int .u64 k1) ∧ W.cell? ⟨g, off + i * 6 + 4, none⟩ = some (.int .u64 k2) ∧ W.cell? ⟨g, off + i * 6 + 5, none⟩ = some (.int .u64 k3)) := fun W hW => by
    have hb := bnext HBB.out hW
    have hc : ∀ j v, (Crt.cells ⟨cv, cb, k0, k1, k2, k3⟩)[j]? = some v → W.cell? ⟨g, off + i * 6 + j, none⟩ = some v := fun j v hv => (hb.cell (p := ⟨g, off + i * 6 + j, none⟩) hg).trans (hel j v hv)
    have hbt : W.heap[w.heap.size]? = some (.cells #[.int .i64 5, .int .i64 a, .int .i64 b] 66 (0, 0)) := (hW.block _ (Nat.lt_of_lt_of_le HB1.out.2.1 HB2.out.1.size)).trans ((HB2.out.1.block _ HB1.out.2.1).trans HB1.out.2.2)
    exact ⟨hW, (hb.cell (p := ⟨p, 3, none⟩) hpW).trans hc3, cell_at hbt 2, hc 0 _ rfl, hc 1 _ rfl, hc 2 _ rfl, hc 3 _ rfl, hc 4 _ rfl, hc 5 _ rfl⟩
  clear h ok hcr hget hli hlc hrow hel hcap hSg hpb hi
  go_enter Tryd.func40, Tryd.ntmps40
  go_upto_region 1 with fail
  rw [← hW1]
  clear hW1
  go_upto_region 3 with fail
  rw [← hW2]
  clear p1c s0c hpu hW2
  obtain ⟨Bt, hBt⟩ : ∃ x, x = w.heap.size := ⟨_, rfl⟩
  have HBT : Hid (Bt = w.heap.size) := hBt
  obtain ⟨Bm, hBm⟩ : ∃ x, x = W1.heap.size := ⟨_, rfl⟩
  have HBM : Hid (Bm = W1.heap.size) := hBm
  rw [← hBt, ← hBm]
  rw [← hBt] at HS3
  clear hBt hBm
  refine kly_r3 HPK hw1 hw2 hi0 hi1 HS3 ?_
  intro c23 c24 c25 c26 c27 c28 c29 c30 c31 c32 c33 c34 c35 c36 c37 c38 c39 c40 c41 c42 c43
  simp only [Exit.then]
  obtain ⟨W, hW⟩ : ∃ W, W = (W2.alloc (.cells #[.int .i64 cv, .int .u64 cb, .int .u64 k0, .int .u64 k1, .int .u64 k2, .int .u64 k3] 26)).drew := ⟨_, rfl⟩
  rw [← hW]
  have HBW : Hid (Below W2.heap.size W2 W) := by rw [hW]; exact (below_alloc _ _).drew
  have HCW : Hid (W.heap[W2.heap.size]? = some (.cells #[.int .i64 cv, .int .u64 cb, .int .u64 k0, .int .u64 k1, .int .u64 k2, .int .u64 k3] 26 (0, 0))) := by rw [hW]; exact heap_alloc_new W2 _
  clear hW HS3 HPK hw1 hw2
  obtain ⟨Bc, hBc⟩ : ∃ x, x = W2.heap.size := ⟨_, rfl⟩
  rw [← hBc] at HCW ⊢
  have HBC : Hid (Bc = W2.heap.size) := hBc
  clear hBc
  have HBE : Hid (Below w.heap.size w W) := bnext HBB.out HBW.out
  have HS : Hid (KSit W p A ps K) := HS0.out.below HBE.out
  have HNB : Hid (¬ UA A Bt ∧ ¬ UA A Bm ∧ ¬ UA A Bc ∧ Bm ≠ Bt ∧ Bm ≠ Bc) := by
    have e1 := HBT.out; have e2 := HBM.out; have e3 := HBC.out; have e4 := HB1.out.2.1; have e5 := HB2.out.2.1
    refine ⟨?_, ?_, ?_, by omega, by omega⟩
    all_goals (rintro ⟨j, hj, hb⟩; have := HS0.out.lt j _ hj hb; omega)
  have HB0 : Hid (Bm ≠ 0) := by show Bm ≠ 0; have e2 := HBM.out; have e4 := HB1.out.2.1; omega
  have HBX : Hid (W.heap[Bt]? = some (.cells #[.int .i64 5, .int .i64 a, .int .i64 b] 66 (0, 0)) ∧ W.heap[Bm]? = some (.cells #[.int .i64 2, .int .i64 li, .int .i64 0, .int .i64 0, .int .i64 0, .int .u64 0, .int .u64 0, .int .u64 0, .int .u64 0, .int .u64 0, .string ⟨#[]⟩, .int .u64 0, .int .i64 0, .int .u64 0, .int .u64 0, .int .u64 0, .int .u64 0, .int .u64 0, .int .u64 0] 40 (0, 0)) ∧ W.heap[Bc]? = some (.cells #[.int .i64 cv, .int .u64 cb, .int .u64 k0, .int .u64 k1, .int .u64 k2, .int .u64 k3] 26 (0, 0))) := by
    rw [HBT.out, HBM.out]
    refine ⟨?_, ?_, HCW.out⟩
    · exact (HBW.out.block _ (Nat.lt_of_lt_of_le HB1.out.2.1 HB2.out.1.size)).trans ((HB2.out.1.block _ HB1.out.2.1).trans HB1.out.2.2)
    · exact (HBW.out.block _ HB2.out.2.1).trans HB2.out.2.2
  have HTB : Hid (∀ W', Fr (fun b => b = Bm) W W' → Tab W') := fun W' hW' => HS.out.k.tab.fr hW' (fun e => HB0.out e.symm)
  have tk : W.cell? ⟨Bt, 0, none⟩ = some (.int .i64 5) := cell_at HBX.out.1 0
  have HW1S : Hid (w.heap.size ≤ W1.heap.size) := HB1.out.1.size
  clear HB1 HB2 HBB HBW HCW HS0
  have HPK5 : Hid (K.letters.length ≠ 0 → ∀ W, Calls Tryd.prog 13 #[.int .i64 a, .int .i64 K.letters.length] W fun e w' => e = .returned (.int .i64 (pickN a K.letters.length : Nat)) ∧ W = w') := fun hz W => (kpick a K.letters.length a0 a1 (by omega) (by have := HO.out.len.lt; omega) W).mono (fun _ _ h => ⟨h.1, h.2.symm⟩)
  go_upto_if 96 with fail
  refine wp_cond_true rfl ?_
  have hli0 : 0 ≤ li := by rw [HLE.out]; exact HLI.out.1
  have hli3 : li ≤ 3 := by rw [HLE.out]; exact HLI.out.2
  refine kly_v HPK5 hli0 hli3 HS HO (by omega) HTB ⟨HBX.out.1, HBX.out.2.1⟩ ?_ ?_
  · intro d10 d98 d99 d100 d101 d102 d103 d104 d105 d106 d107 d108 d109 d110 d111 d112 d113 d114 d115 d116 d117 d118 d119 d120 d121 d122 d123 d124 d125 d126 d127 d128 d129 d130 d131 d132 d133 d134 d135 d136 d137 d138 d139 d140 d141 d142 d143 d144 w' hor hbl
    simp only [Exit.inBlock, Exit.then]
    have HLN : Hid (K.lies 5 a b (fun _ => true) = (K, true)) := by
      show _ = _
      unfold Clu.lies
      dsimp only
      rw [if_neg (by decide), if_pos rfl]
      rcases hor with h1 | h1
      · rw [if_pos h1]
      · by_cases h0 : K.letters.length = 0
        · rw [if_pos h0]
        · rw [if_neg h0, if_pos h1]
    have HGN : Hid (KGoes w w' p A ps K) := ⟨⟨A, HS.out.below hbl, Grow.refl _ _⟩, Fr.of_below (bnext HBE.out hbl)⟩
    clear hor hbl
    go_ret
    refine ⟨fun _ => true, ?_, ?_⟩
    · rw [HLN.out]; rfl
    · rw [HLN.out]; exact HGN.out
  intro d10 d98 d99 d100 d101 d102 d103 d104 d105 d106 d107 d108 d109 d110 d111 d112 d113 d114 d115 d116 d117 d118 d119 d120 d121 d122 d123 d124 d125 d126 d127 d128 d129 d130 d131 d132 d133 d134 d135 d136 d137 d138 d139 d140 d141 d142 d143 d144 w' l sq xv nb hl hz hk1 hxv hnb hsq hfr hbm
  simp only [Exit.inBlock, Exit.then]
  have HLR : Ltr.Ok l := by
    have hpl := pickN_lt a K.letters.length (by omega)
    have hil : K.letters.length - 1 - pickN a K.letters.length < K.letters.length := by omega
    rw [hl, List.getD_eq_getElem?_getD, List.getElem?_eq_getElem hil]
    exact HO.out.lt _ (List.getElem_mem hil)
  have HXO : Ltr.Ok ⟨-1, ⟨2, li, xv, ⟨0, ⟨0, 0, 0, 0, 0, 0⟩, ⟨#[]⟩⟩, nb, ⟨0, 0, 0, 0, 0, 0⟩, sq⟩⟩ := ⟨⟨blk_zero_ok, by show nb < _; rw [hnb]; exact num_lt _, crt_zero_ok⟩, by show _ ≤ xv; rw [hxv]; exact HLR.2.1, by show xv ≤ _; rw [hxv]; exact HLR.2.2⟩
  have HLY : Hid (∀ go, K.lies 5 a b go = K.says ⟨2, li, xv, ⟨0, ⟨0, 0, 0, 0, 0, 0⟩, ⟨#[]⟩⟩, nb, ⟨0, 0, 0, 0, 0, 0⟩, sq⟩ go) := fun go => by
    unfold Clu.lies
    dsimp only
    rw [if_neg (by decide), if_pos rfl, if_neg hz, ← hl, if_neg (by rw [hk1]; decide), ← hxv, ← hnb, ← HLE.out, ← hsq]
    rfl
  clear hl hz hk1 hxv hnb hsq HLR tk
  have HOK3 : Hid (KOk K n) := HO.out
  have HBT2 : Hid (w'.heap[Bt]? = some (.cells #[.int .i64 5, .int .i64 a, .int .i64 b] 66 (0, 0)) ∧ w'.heap[Bm]? = some (.cells #[.int .i64 2, .int .i64 li, .int .i64 xv, .int .i64 0, .int .i64 0, .int .u64 ((0 : Nat) : Int), .int .u64 0, .int .u64 0, .int .u64 0, .int .u64 0, .string ⟨#[]⟩, .int .u64 nb, .int .i64 0, .int .u64 ((0 : Nat) : Int), .int .u64 0, .int .u64 0, .int .u64 0, .int .u64 0, .int .u64 sq] 40 (0, 0)) ∧ ¬ UA A Bt ∧ ¬ UA A Bm) := ⟨(hfr.block Bt (lt_at HBX.out.1) (fun e => HNB.out.2.2.2.1 e.symm)).trans HBX.out.1, hbm, HNB.out.1, HNB.out.2.1⟩
  have HKS : Hid (KSit w' p A ps K) := HS.out.fr hfr (fun b hb e => HNB.out.2.1 (by rw [← e]; exact hb)) (fun e => HB0.out e.symm)
  have HGW : Hid (Grow (UA A) w (UA A) ∧ Fr (UA A) w w') := by
    refine ⟨Grow.refl _ _, (Fr.of_below HBE.out).trans hfr (fun b h => ?_)⟩
    right; rw [h, HBM.out]; exact HW1S.out
  clear hfr hbm
  refine (?kk : ∀ (a : Act) (w : World), Code.wp Tryd.prog ?kc ?kq a w → _) _ _ ?goal
  case kk => assumption
  refine kly_says (n := n) (kd := 5) (sa := a) (sb := b) HKS HOK3 (by omega) (HXO : Ltr.Ok ⟨-1, ⟨2, li, xv, ⟨0, ⟨0, 0, 0, 0, 0, 0⟩, ⟨#[]⟩⟩, nb, ⟨0, 0, 0, 0, 0, 0⟩, sq⟩⟩) HBT2 ?_
  intro f11 f12 f13 f145 f146 f147 f148 f149 f150 f151 f152 f153 f154 f155 f156 f157 f158 f159 f160 f161 f162 f163 f164 f165 f166 f167 f168 f169 f170 f171 f172 f173 f174 f175 f176 f177 f178 f179 f180 f181 f182 f183 w9 go bo hbo hgo
  have HBO2 : Hid (bo = (K.lies 5 a b go).2) := by show _ = _; rw [HLY.out]; exact hbo
  have HGO2 : Hid (KGoes w w9 p A ps (K.lies 5 a b go).1) := by show KGoes _ _ _ _ _ _; rw [HLY.out]; exact hgo.trans HGW.out.1 HGW.out.2
  clear hbo hgo
  go_ret
  exact ⟨go, by rw [HBO2.out]; rfl, HGO2.out⟩
set_option maxRecDepth 1000000 in
set_option maxHeartbeats 8000000 in
theorem klies6 (w : World) (p : Nat) (A : Nat → Nat → Prop) (ps : List (Option Nat)) (K : Clu) (h : KSit w p A ps K) (n : Nat) (ok : KOk K n) (hn : n ≤ 1400000000) (a b : Int) (a0 : -9223372036854775808 ≤ a) (a1 : a ≤ 9223372036854775807) (b0 : -9223372036854775808 ≤ b) (b1 : b ≤ 9223372036854775807) (hl0 : 0 ≤ K.liar) (hl3 : K.liar ≤ 3) (hcr : ∀ c ∈ K.certs, c.Ok ∧ 0 ≤ c.view ∧ c.view ≤ 1000) (hc1 : 1 ≤ K.certs.length) :
    Calls Tryd.prog 40 #[.pointer (some ⟨p, 0, none⟩), .agg #[.int .i64 6, .int .i64 a, .int .i64 b]] w fun e w' => ∃ go, e = .returned (.bool (K.lies 6 a b go).2) ∧ KGoes w w' p A ps (K.lies 6 a b go).1 := by
  have HS0 : Hid (KSit w p A ps K) := h
  have HO : Hid (KOk K n) := ok
  obtain ⟨vc3, cl, hc3, hrow⟩ : ∃ al cl, w.cell? ⟨p, 3, none⟩ = some (.slice al K.certs.length cl) ∧ Row w (A 0) 26 6 (.slice al K.certs.length cl) K.certs.length (K.certs.flatMap Crt.cells) := by
    obtain ⟨vm, vl, vc, vv, l0, l1, l2, l3, vb, g1⟩ := h.k.ex
    have hr : Row w (A 0) 26 6 vc K.certs.length (K.certs.flatMap Crt.cells) := g1.row 2 _ _ _ rfl rfl rfl
    obtain ⟨am, cm, rfl⟩ := hr.isSlice
    exact ⟨am, cm, cell_at g1.box 3, hr⟩
  obtain ⟨g, off, rfl, hSg, hg, hcap⟩ := hrow.place (by omega)
  have hll : K.certs.length ≤ 1600000000 := by have := ok.len.ct; omega
  have hpl := pickN_lt b K.certs.length (by omega)
  have HPK : Hid (∀ W, Calls Tryd.prog 13 #[.int .i64 b, .int .i64 K.certs.length] W fun e w' => e = .returned (.int .i64 (pickN b K.certs.length : Nat)) ∧ W = w') := fun W => (kpick b K.certs.length b0 b1 (by omega) (by omega) W).mono (fun _ _ h => ⟨h.1, h.2.symm⟩)
  obtain ⟨pb, hpb⟩ : ∃ pb, pb = pickN b K.certs.length := ⟨_, rfl⟩
  rw [← hpb] at HPK hpl
  obtain ⟨i, hi⟩ : ∃ i, i = K.certs.length - 1 - pb := ⟨_, rfl⟩
  have hil : i < K.certs.length := by omega
  have hw1 : IntKind.i64.wrap ((K.certs.length : Int) - 1) = (K.certs.length : Int) - 1 := by rw [IntKind.wrap_i64]; omega
  have hw2 : IntKind.i64.wrap ((K.certs.length : Int) - 1 - (pb : Int)) = (i : Int) := by rw [IntKind.wrap_i64]; omega
  have hi0 : (0 : Int) ≤ (i : Int) := by omega
  have hi1 : (i : Int) < (K.certs.length : Int) := by omega
  have hget : K.certs.getD (K.certs.length - 1 - pickN b K.certs.length) Crt.zero = K.certs[i] := by
    rw [← hpb, ← hi, List.getD_eq_getElem?_getD, List.getElem?_eq_getElem hil]; rfl
  have HCR : Hid (K.certs[i].Ok ∧ 0 ≤ K.certs[i].view ∧ K.certs[i].view ≤ 1000) := hcr _ (List.getElem_mem hil)
  have hel := hrow.elemAt (show ∀ c : Crt, c.cells.length = 6 from fun _ => rfl) i hil
  have HGET : Hid (K.certs.getD (K.certs.length - 1 - pickN b K.certs.length) Crt.zero = K.certs[i]) := hget
  generalize K.certs[i] = c at HCR hel HGET
  obtain ⟨cv, cb, k0, k1, k2, k3⟩ := c
  have HLI : Hid (0 ≤ K.liar ∧ K.liar ≤ 3) := ⟨hl0, hl3⟩
  obtain ⟨li, hli⟩ : ∃ li, li = K.liar := ⟨_, rfl⟩
  have HLE : Hid (li = K.liar) := hli
  have hlc : w.cell? ⟨p, 1, none⟩ = some (.int .i64 li) := by
    obtain ⟨vm, vl, vc, vv, l0, l1, l2, l3, vb, g1⟩ := h.k.ex
    rw [hli]
    exact cell_at g1.box 1
  have hpW : p < w.heap.size := h.k.lt
  -- the step's box, the message's box
  obtain ⟨W1, hW1⟩ : ∃ W1, W1 = w.alloc (.cells #[.int .i64 6, .int .i64 a, .int .i64 b] 66) := ⟨_, rfl⟩
  have HB1 : Hid (Below w.heap.size w W1 ∧ w.heap.size < W1.heap.size ∧ W1.heap[w.heap.size]? = some (.cells #[.int .i64 6, .int .i64 a, .int .i64 b] 66 (0, 0))) := by
    rw [hW1]
    have := heap_alloc_new w (.cells #[.int .i64 6, .int .i64 a, .int .i64 b] 66)
    exact ⟨below_alloc _ _, lt_at this, this⟩
  have p1c : W1.cell? ⟨p, 1, none⟩ = some (.int .i64 li) := (HB1.out.1.cell (p := ⟨p, 1, none⟩) hpW).trans hlc
  have s0c : W1.cell? ⟨w.heap.size, 0, none⟩ = some (.int .i64 6) := cell_at HB1.out.2.2 0
  have hpu : (rowPut 40 ⟨W1.heap.size, 0, none⟩ (.agg #[.int .i64 3, .int .i64 li, .int .i64 0, .int .i64 0, .int .i64 0, .int .u64 0, .int .u64 0, .int .u64 0, .int .u64 0, .int .u64 0, .string ⟨#[]⟩, .int .u64 0, .int .i64 0, .int .u64 0, .int .u64 0, .int .u64 0, .int .u64 0, .int .u64 0, .int .u64 0])).run Tryd.prog (W1.alloc (.cells #[.int .i64 0, .int .i64 0, .int .i64 0, .int .i64 0, .int .i64 0, .int .u64 0, .int .u64 0, .int .u64 0, .int .u64 0, .int .u64 0, .string ⟨#[]⟩, .int .u64 0, .int .i64 0, .int .u64 0, .int .u64 0, .int .u64 0, .int .u64 0, .int .u64 0, .int .u64 0] 40)) = .ok () (W1.alloc (.cells #[.int .i64 3, .int .i64 li, .int .i64 0, .int .i64 0, .int .i64 0, .int .u64 0, .int .u64 0, .int .u64 0, .int .u64 0, .int .u64 0, .string ⟨#[]⟩, .int .u64 0, .int .i64 0, .int .u64 0, .int .u64 0, .int .u64 0, .int .u64 0, .int .u64 0, .int .u64 0] 40)) := (rowPut_mid _ W1.heap.size 0 40 #[.int .i64 3, .int .i64 li, .int .i64 0, .int .i64 0, .int .i64 0, .int .u64 0, .int .u64 0, .int .u64 0, .int .u64 0, .int .u64 0, .string ⟨#[]⟩, .int .u64 0, .int .i64 0, .int .u64 0, .int .u64 0, .int .u64 0, .int .u64 0, .int .u64 0, .int .u64 0] (start19 W1 _ rfl _) (by kernel_rfl) (by simp [Value.oneCell'])).trans (by rw [setCells_new, fill19])
  obtain ⟨W2, hW2⟩ : ∃ W2, W2 = W1.alloc (.cells #[.int .i64 3, .int .i64 li, .int .i64 0, .int .i64 0, .int .i64 0, .int .u64 0, .int .u64 0, .int .u64 0, .int .u64 0, .int .u64 0, .string ⟨#[]⟩, .int .u64 0, .int .i64 0, .int .u64 0, .int .u64 0, .int .u64 0, .int .u64 0, .int .u64 0, .int .u64 0] 40) := ⟨_, rfl⟩
  have HB2 : Hid (Below W1.heap.size W1 W2 ∧ W1.heap.size < W2.heap.size ∧ W2.heap[W1.heap.size]? = some (.cells #[.int .i64 3, .int .i64 li, .int .i64 0, .int .i64 0, .int .i64 0, .int .u64 0, .int .u64 0, .int .u64 0, .int .u64 0, .int .u64 0, .string ⟨#[]⟩, .int .u64 0, .int .i64 0, .int .u64 0, .int .u64 0, .int .u64 0, .int .u64 0, .int .u64 0, .int .u64 0] 40 (0, 0))) := by
    rw [hW2]
    have := heap_alloc_new W1 (.cells #[.int .i64 3, .int .i64 li, .int .i64 0, .int .i64 0, .int .i64 0, .int .u64 0, .int .u64 0, .int .u64 0, .int .u64 0, .int .u64 0, .string ⟨#[]⟩, .int .u64 0, .int .i64 0, .int .u64 0, .int .u64 0, .int .u64 0, .int .u64 0, .int .u64 0, .int .u64 0] 40)
    exact ⟨below_alloc _ _, lt_at this, this⟩
  have HBB : Hid (Below w.heap.size w W2) := bnext HB1.out.1 HB2.out.1
  have HS3 : Hid (∀ W, Below W2.heap.size W2 W → Below W2.heap.size W2 W ∧ W.cell? ⟨p, 3, none⟩ = some (.slice (some ⟨g, off, none⟩) K.certs.length cl) ∧ W.cell? ⟨w.heap.size, 2, none⟩ = some (.int .i64 b) ∧ W.cell? ⟨g, off + i * 6, none⟩ = some (.int .i64 cv) ∧ W.cell? ⟨g, off + i * 6 + 1, none⟩ = some (.int .u64 cb) ∧ W.cell? ⟨g, off + i * 6 + 2, none⟩ = some (.int .u64 k0) ∧ W.cell? ⟨g, off + i * 6 + 3, none⟩ = some (.int .u64 k1) ∧ W.cell? ⟨g, off + i * 6 + 4, none⟩ = some (.int .u64 k2) ∧ W.cell? ⟨g, off + i * 6 + 5, none⟩ = some (.int .u64 k3)) := fun W hW => by
    have hb := bnext HBB.out hW
    have hc : ∀ j v, (Crt.cells ⟨cv, cb, k0, k1, k2, k3⟩)[j]? = some v → W.cell? ⟨g, off + i * 6 + j, none⟩ = some v := fun j v hv => (hb.cell (p := ⟨g, off + i * 6 + j, none⟩) hg).trans (hel j v hv)
    have hbt : W.heap[w.heap.size]? = some (.cells #[.int .i64 6, .int .i64 a, .int .i64 b] 66 (0, 0)) := (hW.block _ (Nat.lt_of_lt_of_le HB1.out.2.1 HB2.out.1.size)).trans ((HB2.out.1.block _ HB1.out.2.1).trans HB1.out.2.2)
    exact ⟨hW, (hb.cell (p := ⟨p, 3, none⟩) hpW).trans hc3, cell_at hbt 2, hc 0 _ rfl, hc 1 _ rfl, hc 2 _ rfl, hc 3 _ rfl, hc 4 _ rfl, hc 5 _ rfl⟩
  clear h ok hcr hget hli hlc hrow hel hcap hSg hpb hi
  go_enter Tryd.func40, Tryd.ntmps40
  go_upto_region 1 with fail
  rw [← hW1]
  clear hW1
  go_upto_region 3 with fail
  rw [← hW2]
  clear p1c s0c hpu hW2
  obtain ⟨Bt, hBt⟩ : ∃ x, x = w.heap.size := ⟨_, rfl⟩
  have HBT : Hid (Bt = w.heap.size) := hBt
  obtain ⟨Bm, hBm⟩ : ∃ x, x = W1.heap.size := ⟨_, rfl⟩
  have HBM : Hid (Bm = W1.heap.size) := hBm
  rw [← hBt, ← hBm]
  rw [← hBt] at HS3
  clear hBt hBm
  refine kly_r3 HPK hw1 hw2 hi0 hi1 HS3 ?_
  intro c23 c24 c25 c26 c27 c28 c29 c30 c31 c32 c33 c34 c35 c36 c37 c38 c39 c40 c41 c42 c43
  simp only [Exit.then]
  obtain ⟨W, hW⟩ : ∃ W, W = (W2.alloc (.cells #[.int .i64 cv, .int .u64 cb, .int .u64 k0, .int .u64 k1, .int .u64 k2, .int .u64 k3] 26)).drew := ⟨_, rfl⟩
  rw [← hW]
  have HBW : Hid (Below W2.heap.size W2 W) := by rw [hW]; exact (below_alloc _ _).drew
  have HCW : Hid (W.heap[W2.heap.size]? = some (.cells #[.int .i64 cv, .int .u64 cb, .int .u64 k0, .int .u64 k1, .int .u64 k2, .int .u64 k3] 26 (0, 0))) := by rw [hW]; exact heap_alloc_new W2 _
  clear hW HS3 HPK hw1 hw2
  obtain ⟨Bc, hBc⟩ : ∃ x, x = W2.heap.size := ⟨_, rfl⟩
  rw [← hBc] at HCW ⊢
  have HBC : Hid (Bc = W2.heap.size) := hBc
  clear hBc
  have HBE : Hid (Below w.heap.size w W) := bnext HBB.out HBW.out
  have HS : Hid (KSit W p A ps K) := HS0.out.below HBE.out
  have HNB : Hid (¬ UA A Bt ∧ ¬ UA A Bm ∧ ¬ UA A Bc ∧ Bm ≠ Bt ∧ Bm ≠ Bc) := by
    have e1 := HBT.out; have e2 := HBM.out; have e3 := HBC.out; have e4 := HB1.out.2.1; have e5 := HB2.out.2.1
    refine ⟨?_, ?_, ?_, by omega, by omega⟩
    all_goals (rintro ⟨j, hj, hb⟩; have := HS0.out.lt j _ hj hb; omega)
  have HB0 : Hid (Bm ≠ 0) := by show Bm ≠ 0; have e2 := HBM.out; have e4 := HB1.out.2.1; omega
  have HBX : Hid (W.heap[Bt]? = some (.cells #[.int .i64 6, .int .i64 a, .int .i64 b] 66 (0, 0)) ∧ W.heap[Bm]? = some (.cells #[.int .i64 3, .int .i64 li, .int .i64 0, .int .i64 0, .int .i64 0, .int .u64 0, .int .u64 0, .int .u64 0, .int .u64 0, .int .u64 0, .string ⟨#[]⟩, .int .u64 0, .int .i64 0, .int .u64 0, .int .u64 0, .int .u64 0, .int .u64 0, .int .u64 0, .int .u64 0] 40 (0, 0)) ∧ W.heap[Bc]? = some (.cells #[.int .i64 cv, .int .u64 cb, .int .u64 k0, .int .u64 k1, .int .u64 k2, .int .u64 k3] 26 (0, 0))) := by
    rw [HBT.out, HBM.out]
    refine ⟨?_, ?_, HCW.out⟩
    · exact (HBW.out.block _ (Nat.lt_of_lt_of_le HB1.out.2.1 HB2.out.1.size)).trans ((HB2.out.1.block _ HB1.out.2.1).trans HB1.out.2.2)
    · exact (HBW.out.block _ HB2.out.2.1).trans HB2.out.2.2
  have HTB : Hid (∀ W', Fr (fun b => b = Bm) W W' → Tab W') := fun W' hW' => HS.out.k.tab.fr hW' (fun e => HB0.out e.symm)
  have tk : W.cell? ⟨Bt, 0, none⟩ = some (.int .i64 6) := cell_at HBX.out.1 0
  have HW1S : Hid (w.heap.size ≤ W1.heap.size) := HB1.out.1.size
  clear HB1 HB2 HBB HBW HCW HS0
  have hpk := pickN_lt a 6 (by decide)
  have HPK6 : Hid (∀ W, Calls Tryd.prog 13 #[.int .i64 a, .int .i64 6] W fun e w' => e = .returned (.int .i64 (pickN a 6 : Nat)) ∧ W = w') := fun W => (kpick a 6 a0 a1 (by decide) (by decide) W).mono (fun _ _ h => ⟨h.1, h.2.symm⟩)
  go_upto_if 96 with fail
  refine wp_cond_false rfl ?_
  have hpk5 : ((pickN a 6 : Nat) : Int) ≤ 5 := by omega
  have hli0 : 0 ≤ li := by rw [HLE.out]; exact HLI.out.1
  have hli3 : li ≤ 3 := by rw [HLE.out]; exact HLI.out.2
  refine kly_e HPK6 hpk5 HCR.out.2.1 HCR.out.2.2 hli0 hli3 HTB HBX HNB.out.2.2.2.2 ?_
  intro d46 d47 d48 d49 d50 d51 d52 d53 d54 d55 d56 d57 d58 d59 d60 w' v sq hv hsq hfr hbm
  simp only [Exit.inBlock, Exit.then]
  dsimp only at hv hbm
  have h1 : 0 ≤ cv := HCR.out.2.1
  have h2 : cv ≤ 1000 := HCR.out.2.2
  have HXO : Ltr.Ok ⟨-1, ⟨3, li, v, ⟨0, ⟨0, 0, 0, 0, 0, 0⟩, ⟨#[]⟩⟩, 0, ⟨cv, cb, k0, k1, k2, k3⟩, sq⟩⟩ := ⟨⟨blk_zero_ok, by show (0 : Nat) < _; decide, HCR.out.1⟩, by show _ ≤ v; omega, by show v ≤ _; omega⟩
  have HLY : Hid (∀ go, K.lies 6 a b go = K.says ⟨3, li, v, ⟨0, ⟨0, 0, 0, 0, 0, 0⟩, ⟨#[]⟩⟩, 0, ⟨cv, cb, k0, k1, k2, k3⟩, sq⟩ go) := fun go => by
    unfold Clu.lies
    dsimp only
    rw [HGET.out, if_neg (by decide), if_neg (by decide)]
    show K.says ⟨3, K.liar, cv + 1 + ((pickN a 6 : Nat) : Int), Blk.zero, 0, ⟨cv, cb, k0, k1, k2, k3⟩, sealOf K.liar 3 (cv + 1 + ((pickN a 6 : Nat) : Int)) 0⟩ go = _
    rw [← HLE.out, ← hv, ← hsq]
    rfl
  clear hv hsq tk
  have HOK3 : Hid (KOk K n) := HO.out
  have HBT2 : Hid (w'.heap[Bt]? = some (.cells #[.int .i64 6, .int .i64 a, .int .i64 b] 66 (0, 0)) ∧ w'.heap[Bm]? = some (.cells #[.int .i64 3, .int .i64 li, .int .i64 v, .int .i64 0, .int .i64 0, .int .u64 ((0 : Nat) : Int), .int .u64 0, .int .u64 0, .int .u64 0, .int .u64 0, .string ⟨#[]⟩, .int .u64 ((0 : Nat) : Int), .int .i64 cv, .int .u64 cb, .int .u64 k0, .int .u64 k1, .int .u64 k2, .int .u64 k3, .int .u64 sq] 40 (0, 0)) ∧ ¬ UA A Bt ∧ ¬ UA A Bm) := ⟨(hfr.block Bt (lt_at HBX.out.1) (fun e => HNB.out.2.2.2.1 e.symm)).trans HBX.out.1, hbm, HNB.out.1, HNB.out.2.1⟩
  have HKS : Hid (KSit w' p A ps K) := HS.out.fr hfr (fun b hb e => HNB.out.2.1 (by rw [← e]; exact hb)) (fun e => HB0.out e.symm)
  have HGW : Hid (Grow (UA A) w (UA A) ∧ Fr (UA A) w w') := by
    refine ⟨Grow.refl _ _, (Fr.of_below HBE.out).trans hfr (fun b h => ?_)⟩
    right; rw [h, HBM.out]; exact HW1S.out
  clear hfr hbm
  refine (?kk : ∀ (a : Act) (w : World), Code.wp Tryd.prog ?kc ?kq a w → _) _ _ ?goal
  case kk => assumption
  refine kly_says (n := n) (kd := 6) (sa := a) (sb := b) HKS HOK3 (by omega) (HXO : Ltr.Ok ⟨-1, ⟨3, li, v, ⟨0, ⟨0, 0, 0, 0, 0, 0⟩, ⟨#[]⟩⟩, 0, ⟨cv, cb, k0, k1, k2, k3⟩, sq⟩⟩) HBT2 ?_
  intro f11 f12 f13 f145 f146 f147 f148 f149 f150 f151 f152 f153 f154 f155 f156 f157 f158 f159 f160 f161 f162 f163 f164 f165 f166 f167 f168 f169 f170 f171 f172 f173 f174 f175 f176 f177 f178 f179 f180 f181 f182 f183 w9 go bo hbo hgo
  have HBO2 : Hid (bo = (K.lies 6 a b go).2) := by show _ = _; rw [HLY.out]; exact hbo
  have HGO2 : Hid (KGoes w w9 p A ps (K.lies 6 a b go).1) := by show KGoes _ _ _ _ _ _; rw [HLY.out]; exact hgo.trans HGW.out.1 HGW.out.2
  clear hbo hgo
  go_ret
  exact ⟨go, by rw [HBO2.out]; rfl, HGO2.out⟩
end Go.Proofs.YtkehpnobidendaaDoor
