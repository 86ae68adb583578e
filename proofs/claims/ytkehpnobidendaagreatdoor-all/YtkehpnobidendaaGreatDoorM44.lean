/- The document's vote: its end: the vote is kept; a third one makes a certificate. -/
import Derived.Test.YtkehpnobidendaaGreatDoorM40
namespace Go.Proofs.YtkehpnobidendaaGreatDoor
open Go.RowKit
attribute [local go_sem ↓] Go.wp_at_zero Go.wp_at_succ

/-- A region of a code, by its number. -/
def zreg (n : Nat) : Code → Option Code
  | .region k o d => if k = n then some (.region k o d) else none
  | .loop c => zreg n c
  | .seq a b => match zreg n a with
    | some c => some c
    | none => zreg n b
  | .block _ c => zreg n c
  | .scope c => zreg n c
  | .cond _ a b => match zreg n a with
    | some c => some c
    | none => zreg n b
  | _ => none
def appT (args : Array Value) : Sem Value := Builtin.append_ #[56, 56] 56 args
theorem app_t (args : Array Value) : Builtin.append_ #[56, 56] 56 args = appT args := rfl
theorem Bun.app2 {w : World} {p : Nat} {T : TypeId} {S : Nat → Prop} {C : Array Value} {V : List Value} {E : List (TypeId × Nat)} {X : List (Nat × List Value)} (h : Bun w p T S C V E X) (i : Nat) {v : Value} (hv : V[i]? = some v) {e : TypeId} {size : Nat} (he : E[i]? = some (e, size)) {n : Nat} {xs : List Value} (hx : X[i]? = some (n, xs)) (ty : TypeId) (hty : Tryz.prog.underlying ty = some (.slice e)) {z : Value} {bytes : Nat} (hinfo : (Tryz.prog.info? e).map (fun i => (i.zero, i.size, i.bytes)) = some (some z, size, bytes)) (hzs : z.cells.size = size) (cs : List Value) (hcs : cs.length = 1 * size) (h1 : ∀ u ∈ cs, u.oneCell' = true) (hn : n + 1 ≤ maxLen) (hby : (n + 1) * bytes ≤ 140737488355328) :
    ∃ a' c' w1, (Builtin.append_ #[ty, ty] ty #[v, .slice (some ⟨w.heap.size, 0, none⟩) 1 1]).run Tryz.prog (w.alloc (.cells cs.toArray e)).drew = .ok (.slice a' (n + 1) c') w1 ∧ Row w1 (fun k => v.ownBlock = some k ∨ k = (w.alloc (.cells cs.toArray e)).drew.heap.size) e size (.slice a' (n + 1) c') (n + 1) (xs ++ cs) ∧ Fr (fun k => v.ownBlock = some k) (w.alloc (.cells cs.toArray e)).drew w1 := by
  obtain ⟨i0, hi0, hz0, hz1, hz2⟩ := info_parts hinfo
  have hr := ((h.alloc (.cells cs.toArray e)).drew).row i v (e, size) (n, xs) hv he hx
  obtain ⟨v', w1, hrun, hr', hf⟩ := run_append_row Tryz.prog (w.alloc (.cells cs.toArray e)).drew S ty ty e i0 z size bytes hty hi0 hz0 hz1 hz2 hzs v n xs hr ⟨w.heap.size, 0, none⟩ 1 1 cs hcs (new_cells w cs e rfl) h1 (by omega) hn hby
  obtain ⟨a', c', rfl⟩ := hr'.isSlice
  exact ⟨a', c', w1, hrun, hr', hf⟩
/-- What an append leaves: ahead of the store, and behind it. -/
structure RApp (w w1 : World) (p : Nat) (S : Nat → Prop) (B : Nat) (m' : Mem) (out : List Ltr) (old new : Value) : Prop where
  c0 : w.cell? ⟨p, 18, none⟩ = some old
  ca : ∀ ob, (w.alloc ob).cell? ⟨p, 18, none⟩ = some old
  c1 : w1.cell? ⟨p, 18, none⟩ = some old
  f1 : w1.frozen? ⟨p, 18, none⟩ = false
  ex : ∃ S', RMem (w1.setCell ⟨p, 18, none⟩ new) p S' B m' out ∧ Grow S w S' ∧ Fr S w (w1.setCell ⟨p, 18, none⟩ new)
theorem RMem.appV {w : World} {p : Nat} {S : Nat → Prop} {B : Nat} {m : Mem} {out : List Ltr} (h : RMem w p S B m out) (t : Tk) (hn : m.votes.length ≤ 1700000000000) :
    ∃ al cl a' c' w1, (appT #[.slice al m.votes.length cl, .slice (some ⟨w.heap.size, 0, none⟩) 1 1]).run Tryz.prog (w.alloc (.cells (Tk.cells t).toArray 113)).drew = .ok (.slice a' (m.votes.length + 1) c') w1 ∧ RApp w w1 p S B ({ m with votes := m.votes ++ [t] } : Mem) out (.slice al m.votes.length cl) (.slice a' (m.votes.length + 1) c') := by
  obtain ⟨vb, vv, ve, vp, vl, vq, vo, hB, hO⟩ := h
  have hRL : Row w S 113 4 vv m.votes.length (m.votes.flatMap Tk.cells) := hB.row 1 _ _ _ rfl rfl rfl
  obtain ⟨al, cl, rfl⟩ := hRL.isSlice
  obtain ⟨a', c', w1, hrun, hr', hf⟩ := hB.app2 1 rfl rfl rfl 56 Tryz.underlying56 info_taken rfl (Tk.cells t) rfl (by simp [Tk.cells, Value.oneCell']) (by unfold maxLen; omega) (by omega)
  have hb7 := ((hB.alloc _).drew).after 1 rfl hf
  refine ⟨al, cl, a', c', w1, hrun, cell_at hB.box 18, fun o => cell_at (hB.alloc o).box 18, cell_at hb7 18, free_at hb7 18, fun k => S k ∨ (Value.slice a' (m.votes.length + 1) c').ownBlock = some k, ⟨vb, .slice a' (m.votes.length + 1) c', ve, vp, vl, vq, vo, ?_, hO⟩, ?_, ?_⟩
  · exact ((hB.alloc _).drew).put 1 rfl rfl _ (m.votes.length + 1, m.votes.flatMap Tk.cells ++ Tk.cells t) hr' hf 18 rfl rfl (by simp [rX])
  · exact grow_put hr' (by simp [World.drew]) (fun k hk => (hRL.ownS hk).1)
  · exact ((hB.alloc _).drew).frPut (S := S) (w := w) ((Fr.alloc S w _).trans (Fr.drew S _) (fun _ hi => .inl hi)) 1 rfl hf 18 _
noncomputable def rvtR : Code := ((Tryz.f67.body.bind (zreg 23))).getD .skip
section
attribute [local go_sem ↓] app_t
set_option maxRecDepth 1000000 in
set_option maxHeartbeats 8000000 in
theorem rvt_r23 {y1 y2 y4 y5 y6 y7 y8 y9 y10 y11 y12 y13 y14 y15 y16 y17 y18 y19 y20 y21 y22 y23 y24 y25 y26 y27 y28 y29 y30 y31 y32 y33 y34 y35 y36 y37 y38 y39 y40 y41 y42 y43 y44 y45 y46 y47 y48 y49 y50 y51 y52 y53 y54 y55 y56 y57 y58 y59 y60 y61 y62 y63 y64 y65 y66 y67 y68 y69 y70 y71 y72 y73 y74 y75 y76 y77 y78 y79 y80 y81 y82 y83 y84 y85 y86 y87 y88 y89 y90 y91 y92 y93 y94 y95 y96 y97 y98 y99 y100 y101 y102 y103 y104 y105 y106 y107 y108 y109 y110 y111 y112 y113 y114 y115 y116 y117 y118 y119 y120 y121 y122 y123 y124 y125 y126 y127 y128 y129 y130 y131 y132 y133 y134 y135 y136 y137 y138 y139 y140 y141 y142 y143 y144 y145 y146 y147 y148 y149 y150 y151 y152 y153 y154 y155 y156 y157 y158 y159 y160 y161 y162 y163 y164 y165 : Value} {p bx nl cl c7 : Nat} {al a7 : Option Addr} {f : Int} {xv xs : Int} {xn : Nat} {V w7 : World} {Q : Exit → Act → World → Prop}
    (hrun : (appT #[.slice al nl cl, .slice (some ⟨V.heap.size, 0, none⟩) 1 1]).run Tryz.prog (V.alloc (.cells #[.int .i64 f, .int .i64 xv, .int .u64 xn, .int .u64 xs] 113)).drew = .ok (.slice a7 (nl + 1) c7) w7) (q3 : V.cell? ⟨p, 18, none⟩ = some (.slice al nl cl)) (q3a : ∀ ob, (V.alloc ob).cell? ⟨p, 18, none⟩ = some (.slice al nl cl)) (q7 : w7.cell? ⟨p, 18, none⟩ = some (.slice al nl cl)) (fz7 : w7.frozen? ⟨p, 18, none⟩ = false)
    (e1 : V.cell? ⟨bx, 1, none⟩ = some (.int .i64 f)) (e2 : V.cell? ⟨bx, 2, none⟩ = some (.int .i64 xv)) (e11 : V.cell? ⟨bx, 11, none⟩ = some (.int .u64 xn)) (e18 : V.cell? ⟨bx, 18, none⟩ = some (.int .u64 xs))
    (HEX : Hid (∀ {v131 v132 v133 v134 v135 v136 v137 v138 v139 v140 v141 v142 v143 v144 v145 v146 v147 v148 : Value}, Q .normal ⟨List.toArray (.pointer (some ⟨p, 0, none⟩) :: y1 :: y2 :: .pointer (some ⟨bx, 0, none⟩) :: y4 :: y5 :: y6 :: y7 :: y8 :: y9 :: y10 :: y11 :: y12 :: y13 :: y14 :: y15 :: y16 :: y17 :: y18 :: y19 :: y20 :: y21 :: y22 :: y23 :: y24 :: y25 :: y26 :: y27 :: y28 :: y29 :: y30 :: y31 :: y32 :: y33 :: y34 :: y35 :: y36 :: y37 :: y38 :: y39 :: y40 :: y41 :: y42 :: y43 :: y44 :: y45 :: y46 :: y47 :: y48 :: y49 :: y50 :: y51 :: y52 :: y53 :: y54 :: y55 :: y56 :: y57 :: y58 :: y59 :: y60 :: y61 :: y62 :: y63 :: y64 :: y65 :: y66 :: y67 :: y68 :: y69 :: y70 :: y71 :: y72 :: y73 :: y74 :: y75 :: y76 :: y77 :: y78 :: y79 :: y80 :: y81 :: y82 :: y83 :: y84 :: y85 :: y86 :: y87 :: y88 :: y89 :: y90 :: y91 :: y92 :: y93 :: y94 :: y95 :: y96 :: y97 :: y98 :: y99 :: y100 :: y101 :: y102 :: y103 :: y104 :: y105 :: y106 :: y107 :: y108 :: y109 :: y110 :: y111 :: y112 :: y113 :: y114 :: y115 :: y116 :: y117 :: y118 :: y119 :: y120 :: y121 :: y122 :: y123 :: y124 :: y125 :: y126 :: y127 :: y128 :: y129 :: y130 :: v131 :: v132 :: v133 :: v134 :: v135 :: v136 :: v137 :: v138 :: v139 :: v140 :: v141 :: v142 :: v143 :: v144 :: v145 :: v146 :: v147 :: v148 :: y149 :: y150 :: y151 :: y152 :: y153 :: y154 :: y155 :: y156 :: y157 :: y158 :: y159 :: y160 :: y161 :: y162 :: y163 :: y164 :: y165 :: []), []⟩ (w7.setCell ⟨p, 18, none⟩ (.slice a7 (nl + 1) c7)))) :
    Code.wp Tryz.prog rvtR Q ⟨List.toArray (.pointer (some ⟨p, 0, none⟩) :: y1 :: y2 :: .pointer (some ⟨bx, 0, none⟩) :: y4 :: y5 :: y6 :: y7 :: y8 :: y9 :: y10 :: y11 :: y12 :: y13 :: y14 :: y15 :: y16 :: y17 :: y18 :: y19 :: y20 :: y21 :: y22 :: y23 :: y24 :: y25 :: y26 :: y27 :: y28 :: y29 :: y30 :: y31 :: y32 :: y33 :: y34 :: y35 :: y36 :: y37 :: y38 :: y39 :: y40 :: y41 :: y42 :: y43 :: y44 :: y45 :: y46 :: y47 :: y48 :: y49 :: y50 :: y51 :: y52 :: y53 :: y54 :: y55 :: y56 :: y57 :: y58 :: y59 :: y60 :: y61 :: y62 :: y63 :: y64 :: y65 :: y66 :: y67 :: y68 :: y69 :: y70 :: y71 :: y72 :: y73 :: y74 :: y75 :: y76 :: y77 :: y78 :: y79 :: y80 :: y81 :: y82 :: y83 :: y84 :: y85 :: y86 :: y87 :: y88 :: y89 :: y90 :: y91 :: y92 :: y93 :: y94 :: y95 :: y96 :: y97 :: y98 :: y99 :: y100 :: y101 :: y102 :: y103 :: y104 :: y105 :: y106 :: y107 :: y108 :: y109 :: y110 :: y111 :: y112 :: y113 :: y114 :: y115 :: y116 :: y117 :: y118 :: y119 :: y120 :: y121 :: y122 :: y123 :: y124 :: y125 :: y126 :: y127 :: y128 :: y129 :: y130 :: y131 :: y132 :: y133 :: y134 :: y135 :: y136 :: y137 :: y138 :: y139 :: y140 :: y141 :: y142 :: y143 :: y144 :: y145 :: y146 :: y147 :: y148 :: y149 :: y150 :: y151 :: y152 :: y153 :: y154 :: y155 :: y156 :: y157 :: y158 :: y159 :: y160 :: y161 :: y162 :: y163 :: y164 :: y165 :: []), []⟩ V := by
  refine wp_mono (Q := Exit.then (Q .normal) (fun _ _ _ => False)) ?_ (fun e a w h => by cases e <;> first | exact h | exact h.elim)
  conv => arg 2; whnf
  go_region
  all_goals exact HEX.out
end
/-- What it comes to. -/
def Mem.counted (m1 : Mem) (nv : Nat) (c : Crt) (v : Int) : Mem := if 3 ≤ nv + 1 then (if (m1.learn c).view ≤ v then (m1.learn c).enter (v + 1) else m1.learn c) else m1
noncomputable def rvtE : Code := ((Tryz.f67.body.bind (zfrom 22))).getD .skip
set_option maxRecDepth 1000000 in
set_option maxHeartbeats 8000000 in
theorem rvt_end {y1 y2 y4 y5 y6 y7 y10 y11 y12 y13 y14 y15 y16 y17 y18 y19 y20 y21 y22 y23 y24 y25 y26 y27 y28 y29 y30 y31 y32 y33 y34 y35 y36 y37 y38 y39 y40 y41 y42 y43 y44 y45 y46 y47 y48 y49 y50 y51 y52 y53 y54 y55 y56 y57 y58 y59 y60 y61 y62 y63 y64 y65 y66 y67 y68 y69 y70 y71 y72 y73 y74 y75 y76 y77 y78 y79 y80 y81 y82 y83 y84 y85 y86 y87 y88 y89 y90 y91 y92 y93 y94 y95 y96 y97 y98 y99 y100 y101 y102 y103 y104 y105 y106 y107 y108 y109 y110 y111 y112 y113 y114 y115 y116 y117 y118 y119 y120 y121 y122 y123 y124 y125 y126 y127 y128 y129 y130 y131 y132 y133 y134 y135 y136 y137 y138 y139 y140 y141 y142 y143 y144 y145 y146 y147 y148 y149 y150 y151 y152 y153 y154 y155 y156 y157 y158 y159 y160 y161 y162 y163 y164 y165 : Value} {p bx bc B nv f : Nat} {c : Crt} {xk xv bv jv j0 j1 j2 j3 cv c0 c1 c2 c3 xs : Int} {jb xn cb : Nat} {bcm : ByteArray} {S : Nat → Prop} {m : Mem} {out : List Ltr} {V : World} {Q : Exit → Act → World → Prop}
    (HM : Hid (RMem V p S B m out)) (HI : Hid (Inv m)) (HBX : Hid (V.heap[bx]? = some (.cells #[.int .i64 xk, .int .i64 (f : Int), .int .i64 xv, .int .i64 bv, .int .i64 jv, .int .u64 jb, .int .u64 j0, .int .u64 j1, .int .u64 j2, .int .u64 j3, .string bcm, .int .u64 xn, .int .i64 cv, .int .u64 cb, .int .u64 c0, .int .u64 c1, .int .u64 c2, .int .u64 c3, .int .u64 xs] 43 (0, 0)))) (HBC : Hid (V.heap[bc]? = some (.cells c.cells.toArray 39 (0, 0)))) (HSC : Hid (¬ S bc)) (HSX : Hid (¬ S bx)) (HNE : Hid (bx ≠ bc)) (hf4 : f < 4) (hnv : nv ≤ 1700000000000) (hvl : m.votes.length ≤ 1700000000000) (hlog : m.log.length + m.blocks.length + 2 ≤ 1700000000000) (hv0 : 1 ≤ xv) (hv1 : xv ≤ 999)
    (HRE : Hid (∀ {v125 v126 v127 v128 v129 v130 v131 v132 v133 v134 v135 v136 v137 v138 v139 v140 v141 v142 v143 v144 v145 v146 v147 v148 v149 v150 v151 v152 v153 v154 v155 v156 v157 v158 v159 v160 v161 v162 v163 v164 v165 : Value} {w' : World}, (∃ S', RMem w' p S' B (({ m with votes := m.votes ++ [⟨(f : Int), xv, xn, xs⟩] } : Mem).counted nv (c.put (f : Int) xs) xv) out ∧ Grow S V S' ∧ Fr (fun b => S b ∨ b = bc) V w') → Q .ret ⟨List.toArray (.pointer (some ⟨p, 0, none⟩) :: y1 :: y2 :: .pointer (some ⟨bx, 0, none⟩) :: .int .i64 0 :: y5 :: y6 :: y7 :: .pointer (some ⟨bc, 0, none⟩) :: .int .i64 ((nv : Int) + 1) :: y10 :: y11 :: y12 :: y13 :: y14 :: y15 :: y16 :: y17 :: y18 :: y19 :: y20 :: y21 :: y22 :: y23 :: y24 :: y25 :: y26 :: y27 :: y28 :: y29 :: y30 :: y31 :: y32 :: y33 :: y34 :: y35 :: y36 :: y37 :: y38 :: y39 :: y40 :: y41 :: y42 :: y43 :: y44 :: y45 :: y46 :: y47 :: y48 :: y49 :: y50 :: y51 :: y52 :: y53 :: y54 :: y55 :: y56 :: y57 :: y58 :: y59 :: y60 :: y61 :: y62 :: y63 :: y64 :: y65 :: y66 :: y67 :: y68 :: y69 :: y70 :: y71 :: y72 :: y73 :: y74 :: y75 :: y76 :: y77 :: y78 :: y79 :: y80 :: y81 :: y82 :: y83 :: y84 :: y85 :: y86 :: y87 :: y88 :: y89 :: y90 :: y91 :: y92 :: y93 :: y94 :: y95 :: y96 :: y97 :: y98 :: y99 :: y100 :: y101 :: y102 :: y103 :: y104 :: y105 :: y106 :: y107 :: y108 :: y109 :: y110 :: y111 :: y112 :: y113 :: y114 :: y115 :: y116 :: y117 :: y118 :: y119 :: y120 :: y121 :: y122 :: y123 :: y124 :: v125 :: v126 :: v127 :: v128 :: v129 :: v130 :: v131 :: v132 :: v133 :: v134 :: v135 :: v136 :: v137 :: v138 :: v139 :: v140 :: v141 :: v142 :: v143 :: v144 :: v145 :: v146 :: v147 :: v148 :: v149 :: v150 :: v151 :: v152 :: v153 :: v154 :: v155 :: v156 :: v157 :: v158 :: v159 :: v160 :: v161 :: v162 :: v163 :: v164 :: v165 :: []), []⟩ w')) :
    Code.wp Tryz.prog rvtE Q ⟨List.toArray (.pointer (some ⟨p, 0, none⟩) :: y1 :: y2 :: .pointer (some ⟨bx, 0, none⟩) :: y4 :: y5 :: y6 :: y7 :: .pointer (some ⟨bc, 0, none⟩) :: .int .i64 ((nv : Int) + 1) :: y10 :: y11 :: y12 :: y13 :: y14 :: y15 :: y16 :: y17 :: y18 :: y19 :: y20 :: y21 :: y22 :: y23 :: y24 :: y25 :: y26 :: y27 :: y28 :: y29 :: y30 :: y31 :: y32 :: y33 :: y34 :: y35 :: y36 :: y37 :: y38 :: y39 :: y40 :: y41 :: y42 :: y43 :: y44 :: y45 :: y46 :: y47 :: y48 :: y49 :: y50 :: y51 :: y52 :: y53 :: y54 :: y55 :: y56 :: y57 :: y58 :: y59 :: y60 :: y61 :: y62 :: y63 :: y64 :: y65 :: y66 :: y67 :: y68 :: y69 :: y70 :: y71 :: y72 :: y73 :: y74 :: y75 :: y76 :: y77 :: y78 :: y79 :: y80 :: y81 :: y82 :: y83 :: y84 :: y85 :: y86 :: y87 :: y88 :: y89 :: y90 :: y91 :: y92 :: y93 :: y94 :: y95 :: y96 :: y97 :: y98 :: y99 :: y100 :: y101 :: y102 :: y103 :: y104 :: y105 :: y106 :: y107 :: y108 :: y109 :: y110 :: y111 :: y112 :: y113 :: y114 :: y115 :: y116 :: y117 :: y118 :: y119 :: y120 :: y121 :: y122 :: y123 :: y124 :: y125 :: y126 :: y127 :: y128 :: y129 :: y130 :: y131 :: y132 :: y133 :: y134 :: y135 :: y136 :: y137 :: y138 :: y139 :: y140 :: y141 :: y142 :: y143 :: y144 :: y145 :: y146 :: y147 :: y148 :: y149 :: y150 :: y151 :: y152 :: y153 :: y154 :: y155 :: y156 :: y157 :: y158 :: y159 :: y160 :: y161 :: y162 :: y163 :: y164 :: y165 :: []), []⟩ V := by
  conv => arg 2; whnf
  have hf0 : (0 : Int) ≤ (f : Int) := by omega
  have hfI : (f : Int) < 4 := by omega
  have a1 : V.cell? ⟨bx, 1, none⟩ = some (.int .i64 (f : Int)) := cell_at HBX.out 1
  have a18 : V.cell? ⟨bx, 18, none⟩ = some (.int .u64 xs) := cell_at HBX.out 18
  obtain ⟨z1, z2⟩ := crt_seal HBC.out f hf4
  go_upto_region 23 with fail
  obtain ⟨V1, hV1⟩ : ∃ W, W = V.setCell ⟨bc, 2 + f, none⟩ (.int .u64 xs) := ⟨_, rfl⟩
  rw [← hV1]
  have HF1 : Hid (Fr (fun b => b = bc) V V1) := by rw [hV1]; exact Fr.setCell (S := fun b => b = bc) _ rfl _
  have HC1 : Hid (V1.heap[bc]? = some (.cells (c.put (f : Int) xs).cells.toArray 39 (0, 0))) := by rw [hV1]; exact crt_put HBC.out f hf4 xs
  have HX1 : Hid (V1.heap[bx]? = some (.cells #[.int .i64 xk, .int .i64 (f : Int), .int .i64 xv, .int .i64 bv, .int .i64 jv, .int .u64 jb, .int .u64 j0, .int .u64 j1, .int .u64 j2, .int .u64 j3, .string bcm, .int .u64 xn, .int .i64 cv, .int .u64 cb, .int .u64 c0, .int .u64 c1, .int .u64 c2, .int .u64 c3, .int .u64 xs] 43 (0, 0))) := HF1.out.box HBX.out HNE.out
  have HM1 : Hid (RMem V1 p S B m out) := HM.out.fr HF1.out (fun b hb e => HSC.out (by rw [← e]; exact hb))
  clear hV1 a1 a18 z1 z2
  obtain ⟨al, cl, a7, c7, w7, hrun, hap⟩ := HM1.out.appV ⟨(f : Int), xv, xn, xs⟩ hvl
  have q3 := hap.c0
  have q3a := hap.ca
  have q7 := hap.c1
  have fz7 := hap.f1
  have HE7 : Hid (∃ S', RMem (w7.setCell ⟨p, 18, none⟩ (.slice a7 (m.votes.length + 1) c7)) p S' B ({ m with votes := m.votes ++ [⟨(f : Int), xv, xn, xs⟩] } : Mem) out ∧ Grow S V1 S' ∧ Fr S V1 (w7.setCell ⟨p, 18, none⟩ (.slice a7 (m.votes.length + 1) c7))) := hap.ex
  have a1 : V1.cell? ⟨bx, 1, none⟩ = some (.int .i64 (f : Int)) := cell_at HX1.out 1
  have a2 : V1.cell? ⟨bx, 2, none⟩ = some (.int .i64 xv) := cell_at HX1.out 2
  have a11 : V1.cell? ⟨bx, 11, none⟩ = some (.int .u64 xn) := cell_at HX1.out 11
  have a18 : V1.cell? ⟨bx, 18, none⟩ = some (.int .u64 xs) := cell_at HX1.out 18
  clear hap
  refine rvt_r23 hrun q3 q3a q7 fz7 a1 a2 a11 a18 ?_
  intro q131 q132 q133 q134 q135 q136 q137 q138 q139 q140 q141 q142 q143 q144 q145 q146 q147 q148
  simp only [Exit.then]
  generalize w7.setCell ⟨p, 18, none⟩ (.slice a7 (m.votes.length + 1) c7) = wc at *
  obtain ⟨S7, hM7, hG7, hF7⟩ := HE7.out
  have HM7 : Hid (RMem wc p S7 B ({ m with votes := m.votes ++ [⟨(f : Int), xv, xn, xs⟩] } : Mem) out) := hM7
  have HX7 : Hid (wc.heap[bx]? = some (.cells #[.int .i64 xk, .int .i64 (f : Int), .int .i64 xv, .int .i64 bv, .int .i64 jv, .int .u64 jb, .int .u64 j0, .int .u64 j1, .int .u64 j2, .int .u64 j3, .string bcm, .int .u64 xn, .int .i64 cv, .int .u64 cb, .int .u64 c0, .int .u64 c1, .int .u64 c2, .int .u64 c3, .int .u64 xs] 43 (0, 0))) := hF7.box HX1.out HSX.out
  have HC7 : Hid (wc.heap[bc]? = some (.cells (c.put (f : Int) xs).cells.toArray 39 (0, 0))) := hF7.box HC1.out HSC.out
  have HG7 : Hid (Grow S V S7) := (fun k hk => (hG7 k hk).imp id (fun h => Nat.le_trans HF1.out.size h))
  have HF7 : Hid (Fr (fun b => S b ∨ b = bc) V wc) := (HF1.out.mono (fun _ h => .inr h)).trans (hF7.mono (fun _ h => .inl h)) (fun _ h => .inl h)
  have HN7 : Hid (¬ S7 bx ∧ ¬ S7 bc) := ⟨fun h => by
    rcases hG7 _ h with h1 | h1
    · exact HSX.out h1
    · have := lt_at HX1.out; omega, fun h => by
    rcases hG7 _ h with h1 | h1
    · exact HSC.out h1
    · have := lt_at HC1.out; omega⟩
  clear hM7 hG7 hF7 HE7 hrun q3 q3a q7 fz7 a1 a2 a11 a18 HM1 HX1 HC1 HF1
  by_cases h3 : 3 ≤ nv + 1
  rotate_left
  · have hi3 : ¬ (3 : Int) ≤ (nv : Int) + 1 := by omega
    have HK : Hid (({ m with votes := m.votes ++ [⟨(f : Int), xv, xn, xs⟩] } : Mem).counted nv (c.put (f : Int) xs) xv = ({ m with votes := m.votes ++ [⟨(f : Int), xv, xn, xs⟩] } : Mem)) := by show _ = _; unfold Mem.counted; exact if_neg h3
    go_wp2
    refine HRE.out ?_
    rw [HK.out]
    exact ⟨S7, HM7.out, HG7.out, HF7.out⟩
  have hi3 : (3 : Int) ≤ (nv : Int) + 1 := by omega
  obtain ⟨ct, hct⟩ : ∃ x, x = (c.put (f : Int) xs) := ⟨_, rfl⟩
  have HL : Hid (Calls Tryz.prog 80 #[.pointer (some ⟨p, 0, none⟩), .agg #[.int .i64 ct.view, .int .u64 ct.block, .int .u64 ct.s0, .int .u64 ct.s1, .int .u64 ct.s2, .int .u64 ct.s3]] wc fun e w' => e = .returned (.tuple #[]) ∧ ∃ S', RMem w' p S' B (({ m with votes := m.votes ++ [⟨(f : Int), xv, xn, xs⟩] } : Mem).learn ct) out ∧ Grow S7 wc S' ∧ Fr S7 wc w') := rlearn wc p S7 ({ m with votes := m.votes ++ [⟨(f : Int), xv, xn, xs⟩] } : Mem) B out HM7.out ct (view_all (m := ({ m with votes := m.votes ++ [⟨(f : Int), xv, xn, xs⟩] } : Mem)) HI.out.ch) (halts_all (m := ({ m with votes := m.votes ++ [⟨(f : Int), xv, xn, xs⟩] } : Mem)) HI.out.ch) hlog
  have HK : Hid (({ m with votes := m.votes ++ [⟨(f : Int), xv, xn, xs⟩] } : Mem).counted nv ct xv = if (({ m with votes := m.votes ++ [⟨(f : Int), xv, xn, xs⟩] } : Mem).learn ct).view ≤ xv then (({ m with votes := m.votes ++ [⟨(f : Int), xv, xn, xs⟩] } : Mem).learn ct).enter (xv + 1) else ({ m with votes := m.votes ++ [⟨(f : Int), xv, xn, xs⟩] } : Mem).learn ct) := by show _ = _; unfold Mem.counted; exact if_pos h3
  have HRE2 : Hid (∀ {v125 v126 v127 v128 v129 v130 v131 v132 v133 v134 v135 v136 v137 v138 v139 v140 v141 v142 v143 v144 v145 v146 v147 v148 v149 v150 v151 v152 v153 v154 v155 v156 v157 v158 v159 v160 v161 v162 v163 v164 v165 : Value} {w' : World}, (∃ S', RMem w' p S' B (({ m with votes := m.votes ++ [⟨(f : Int), xv, xn, xs⟩] } : Mem).counted nv ct xv) out ∧ Grow S V S' ∧ Fr (fun b => S b ∨ b = bc) V w') → Q .ret ⟨List.toArray (.pointer (some ⟨p, 0, none⟩) :: y1 :: y2 :: .pointer (some ⟨bx, 0, none⟩) :: .int .i64 0 :: y5 :: y6 :: y7 :: .pointer (some ⟨bc, 0, none⟩) :: .int .i64 ((nv : Int) + 1) :: y10 :: y11 :: y12 :: y13 :: y14 :: y15 :: y16 :: y17 :: y18 :: y19 :: y20 :: y21 :: y22 :: y23 :: y24 :: y25 :: y26 :: y27 :: y28 :: y29 :: y30 :: y31 :: y32 :: y33 :: y34 :: y35 :: y36 :: y37 :: y38 :: y39 :: y40 :: y41 :: y42 :: y43 :: y44 :: y45 :: y46 :: y47 :: y48 :: y49 :: y50 :: y51 :: y52 :: y53 :: y54 :: y55 :: y56 :: y57 :: y58 :: y59 :: y60 :: y61 :: y62 :: y63 :: y64 :: y65 :: y66 :: y67 :: y68 :: y69 :: y70 :: y71 :: y72 :: y73 :: y74 :: y75 :: y76 :: y77 :: y78 :: y79 :: y80 :: y81 :: y82 :: y83 :: y84 :: y85 :: y86 :: y87 :: y88 :: y89 :: y90 :: y91 :: y92 :: y93 :: y94 :: y95 :: y96 :: y97 :: y98 :: y99 :: y100 :: y101 :: y102 :: y103 :: y104 :: y105 :: y106 :: y107 :: y108 :: y109 :: y110 :: y111 :: y112 :: y113 :: y114 :: y115 :: y116 :: y117 :: y118 :: y119 :: y120 :: y121 :: y122 :: y123 :: y124 :: v125 :: v126 :: v127 :: v128 :: v129 :: v130 :: v131 :: v132 :: v133 :: v134 :: v135 :: v136 :: v137 :: v138 :: v139 :: v140 :: v141 :: v142 :: v143 :: v144 :: v145 :: v146 :: v147 :: v148 :: v149 :: v150 :: v151 :: v152 :: v153 :: v154 :: v155 :: v156 :: v157 :: v158 :: v159 :: v160 :: v161 :: v162 :: v163 :: v164 :: v165 :: []), []⟩ w') := by rw [hct]; exact HRE.out
  rw [← hct] at HC7
  clear HRE hct
  have b0 : wc.cell? ⟨bc, 0, none⟩ = some (.int .i64 ct.view) := cell_at HC7.out 0
  have b1 : wc.cell? ⟨bc, 1, none⟩ = some (.int .u64 ct.block) := cell_at HC7.out 1
  have b2 : wc.cell? ⟨bc, 2, none⟩ = some (.int .u64 ct.s0) := cell_at HC7.out 2
  have b3 : wc.cell? ⟨bc, 3, none⟩ = some (.int .u64 ct.s1) := cell_at HC7.out 3
  have b4 : wc.cell? ⟨bc, 4, none⟩ = some (.int .u64 ct.s2) := cell_at HC7.out 4
  have b5 : wc.cell? ⟨bc, 5, none⟩ = some (.int .u64 ct.s3) := cell_at HC7.out 5
  generalize hm2 : ({ m with votes := m.votes ++ [⟨(f : Int), xv, xn, xs⟩] } : Mem).learn ct = m2 at *
  clear hm2
  go_upto_region 26 with (go_at_call 80; refine HL.out.mono ?_; rintro e w8 ⟨rfl, S8, hm8, hg8, hf8⟩)
  have HM8 : Hid (RMem w8 p S8 B m2 out) := hm8
  have HG8 : Hid (Grow S V S8) := HG7.out.trans HF7.out.size hg8
  have HF8 : Hid (Fr (fun b => S b ∨ b = bc) V w8) := HF7.out.trans hf8 (fun k hk => (HG7.out k hk).imp .inl id)
  have hX8 := hf8.box HX7.out HN7.out.1
  have e2 : w8.cell? ⟨bx, 2, none⟩ = some (.int .i64 xv) := cell_at hX8 2
  have HX8 : Hid (w8.heap[bx]? = some (.cells #[.int .i64 xk, .int .i64 (f : Int), .int .i64 xv, .int .i64 bv, .int .i64 jv, .int .u64 jb, .int .u64 j0, .int .u64 j1, .int .u64 j2, .int .u64 j3, .string bcm, .int .u64 xn, .int .i64 cv, .int .u64 cb, .int .u64 c0, .int .u64 c1, .int .u64 c2, .int .u64 c3, .int .u64 xs] 43 (0, 0))) := hX8
  have d2 := hm8.see.c2
  clear hX8 hm8 hg8 hf8 HL b0 b1 b2 b3 b4 b5 HM7 HX7 HC7 HG7 HF7 HN7
  by_cases hvv : m2.view ≤ xv
  · have K : Hid (({ m with votes := m.votes ++ [⟨(f : Int), xv, xn, xs⟩] } : Mem).counted nv ct xv = m2.enter (xv + 1)) := by show _ = _; rw [HK.out, if_pos hvv]
    go_quiet (fail)
    have e3 : (w8.drewN nq).cell? ⟨bx, 2, none⟩ = some (.int .i64 xv) := cell_at (show (w8.drewN nq).heap[bx]? = _ from HX8.out) 2
    go_wp2_with (go_at_call 40; refine (renter (w8.drewN nq) p S8 m2 B out (HM8.out.heap rfl) (xv + 1)).mono ?_; rintro e w9 ⟨rfl, hm9, hf9⟩)
    refine HRE2.out ?_
    rw [K.out]
    exact ⟨S8, hm9, HG8.out, (HF8.out.trans (Fr.drewN _ w8 nq) (fun _ h => .inl h)).trans hf9 (fun k hk => (HG8.out k hk).imp .inl id)⟩
  · have K : Hid (({ m with votes := m.votes ++ [⟨(f : Int), xv, xn, xs⟩] } : Mem).counted nv ct xv = m2) := by show _ = _; rw [HK.out, if_neg hvv]
    go_quiet (fail)
    go_wp2
    refine HRE2.out ?_
    rw [K.out]
    exact ⟨S8, HM8.out.heap rfl, HG8.out, HF8.out.trans (Fr.drewN _ w8 nq) (fun _ h => .inl h)⟩
end Go.Proofs.YtkehpnobidendaaGreatDoor
