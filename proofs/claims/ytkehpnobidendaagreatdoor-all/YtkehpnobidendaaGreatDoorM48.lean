/- The law's step: the region that passes a letter on. The law's steps on a member: a letter passed on, a message forged. The law's steps on a member: a message forged. The law's step, of every kind: it answers true, and the situation goes on. The law Ticks: at every script the played steps all answer true; memory below is as it was. The law All: at every script the played steps all answer true; memory below is as it was. The law All over no script, and the law's door itself. -/
import Derived.Test.YtkehpnobidendaaGreatDoorM47
import Derived.Test.YtkehpnobidendaaGreatDoorM39
import Derived.Test.YtkehpnobidendaaGreatDoorM06
namespace Go.Proofs.YtkehpnobidendaaGreatDoor
open Go.RowKit
attribute [local go_sem ↓] pload_msg

noncomputable def lstR : Code := ((Tryz.f7.body.bind (zreg 29))).getD .skip
set_option maxRecDepth 1000000 in
set_option maxHeartbeats 32000000 in
theorem lst_r29 {y1 y2 y4 y6 y7 y8 y9 y10 y11 y12 y13 y14 y15 y16 y17 y18 y19 y20 y21 y22 y23 y24 y25 y26 y27 y28 y29 y30 y31 y32 y33 y34 y35 y36 y37 y38 y39 y40 y41 y42 y43 y44 y45 y46 y47 y48 y49 y50 y51 y52 y53 y54 y55 y56 y57 y58 y59 y60 y61 y62 y63 y64 y65 y66 y67 y68 y69 y70 y71 y72 y73 y74 y75 y76 y77 y78 y79 y80 y81 y82 y83 y84 y85 y86 y87 y88 y89 y90 y91 y92 y93 y94 y95 y96 y97 y98 y99 y100 y101 y102 y103 y104 y105 y106 y107 y108 y109 y110 y111 y112 y113 y114 y115 y116 y117 y118 y119 y120 y121 y122 y123 y124 y125 y126 y127 y128 y129 y130 y131 y132 y133 y134 y135 y136 y137 y138 y139 y140 y141 y142 y143 y144 y145 y146 y147 y148 y149 y150 : Value} {q b3 b5 g off cm n i p1 p2 : Nat} {a : Int} {mv : Value} {G : World → Prop} {W : World} {Q : Exit → Act → World → Prop}
    (LP : Hid (∀ W, Calls Tryz.prog 10 #[.int .i64 a, .int .i64 n] W fun e w' => e = .returned (.int .i64 i) ∧ w' = W))
    (q1 : W.cell? ⟨q, 1, none⟩ = some (.slice (some ⟨g, off, none⟩) n cm)) (q2 : W.cell? ⟨b3, 2, none⟩ = some (.int .i64 a)) (e0 : W.cell? ⟨b5, 0, none⟩ = some (.pointer (some ⟨p1, 0, none⟩))) (e1 : W.cell? ⟨b5, 1, none⟩ = some (.pointer (some ⟨p2, 0, none⟩))) (i0 : (0 : Int) ≤ (i : Int)) (i1 : (i : Int) < (n : Int))
    (hlm : (rowVar 43 ⟨g, off + i * 20 + 1, none⟩).run Tryz.prog W.drew = .ok mv W.drew)
    (HH : Hid (Calls Tryz.prog 21 #[.pointer (some ⟨q, 0, none⟩), .agg #[.pointer (some ⟨p1, 0, none⟩), .pointer (some ⟨p2, 0, none⟩)], mv] W.drew fun e w' => e = .returned (.bool true) ∧ G w'))
    (HEX : Hid (∀ {v123 v124 v125 v126 v127 v128 v129 v130 v131 v132 v133 v134 v135 v136 v137 v138 v139 v140 : Value} {w' : World}, G w' → Q .normal ⟨List.toArray (.pointer (some ⟨q, 0, none⟩) :: y1 :: y2 :: .pointer (some ⟨b3, 0, none⟩) :: .bool true :: .pointer (some ⟨b5, 0, none⟩) :: y6 :: y7 :: y8 :: y9 :: y10 :: y11 :: y12 :: y13 :: y14 :: y15 :: y16 :: y17 :: y18 :: y19 :: y20 :: y21 :: y22 :: y23 :: y24 :: y25 :: y26 :: y27 :: y28 :: y29 :: y30 :: y31 :: y32 :: y33 :: y34 :: y35 :: y36 :: y37 :: y38 :: y39 :: y40 :: y41 :: y42 :: y43 :: y44 :: y45 :: y46 :: y47 :: y48 :: y49 :: y50 :: y51 :: y52 :: y53 :: y54 :: y55 :: y56 :: y57 :: y58 :: y59 :: y60 :: y61 :: y62 :: y63 :: y64 :: y65 :: y66 :: y67 :: y68 :: y69 :: y70 :: y71 :: y72 :: y73 :: y74 :: y75 :: y76 :: y77 :: y78 :: y79 :: y80 :: y81 :: y82 :: y83 :: y84 :: y85 :: y86 :: y87 :: y88 :: y89 :: y90 :: y91 :: y92 :: y93 :: y94 :: y95 :: y96 :: y97 :: y98 :: y99 :: y100 :: y101 :: y102 :: y103 :: y104 :: y105 :: y106 :: y107 :: y108 :: y109 :: y110 :: y111 :: y112 :: y113 :: y114 :: y115 :: y116 :: y117 :: y118 :: y119 :: y120 :: y121 :: y122 :: v123 :: v124 :: v125 :: v126 :: v127 :: v128 :: v129 :: v130 :: v131 :: v132 :: v133 :: v134 :: v135 :: v136 :: v137 :: v138 :: v139 :: v140 :: y141 :: y142 :: y143 :: y144 :: y145 :: y146 :: y147 :: y148 :: y149 :: y150 :: []), []⟩ w')) :
    Code.wp Tryz.prog lstR Q ⟨List.toArray (.pointer (some ⟨q, 0, none⟩) :: y1 :: y2 :: .pointer (some ⟨b3, 0, none⟩) :: y4 :: .pointer (some ⟨b5, 0, none⟩) :: y6 :: y7 :: y8 :: y9 :: y10 :: y11 :: y12 :: y13 :: y14 :: y15 :: y16 :: y17 :: y18 :: y19 :: y20 :: y21 :: y22 :: y23 :: y24 :: y25 :: y26 :: y27 :: y28 :: y29 :: y30 :: y31 :: y32 :: y33 :: y34 :: y35 :: y36 :: y37 :: y38 :: y39 :: y40 :: y41 :: y42 :: y43 :: y44 :: y45 :: y46 :: y47 :: y48 :: y49 :: y50 :: y51 :: y52 :: y53 :: y54 :: y55 :: y56 :: y57 :: y58 :: y59 :: y60 :: y61 :: y62 :: y63 :: y64 :: y65 :: y66 :: y67 :: y68 :: y69 :: y70 :: y71 :: y72 :: y73 :: y74 :: y75 :: y76 :: y77 :: y78 :: y79 :: y80 :: y81 :: y82 :: y83 :: y84 :: y85 :: y86 :: y87 :: y88 :: y89 :: y90 :: y91 :: y92 :: y93 :: y94 :: y95 :: y96 :: y97 :: y98 :: y99 :: y100 :: y101 :: y102 :: y103 :: y104 :: y105 :: y106 :: y107 :: y108 :: y109 :: y110 :: y111 :: y112 :: y113 :: y114 :: y115 :: y116 :: y117 :: y118 :: y119 :: y120 :: y121 :: y122 :: y123 :: y124 :: y125 :: y126 :: y127 :: y128 :: y129 :: y130 :: y131 :: y132 :: y133 :: y134 :: y135 :: y136 :: y137 :: y138 :: y139 :: y140 :: y141 :: y142 :: y143 :: y144 :: y145 :: y146 :: y147 :: y148 :: y149 :: y150 :: []), []⟩ W := by
  refine wp_mono (Q := Exit.then (Q .normal) (fun _ _ _ => False)) ?_ (fun e a w h => by cases e <;> first | exact h | exact h.elim)
  conv => arg 2; whnf
  refine wp_region_last (fun W' => W' = W.drew) 17 (by kernel_rfl) ?_
  refine wpAnyL_take 0 ?_ rfl (by kernel_rfl) (by kernel_rfl) (by kernel_rfl) (by kernel_rfl) (by kernel_rfl) (fun _ _ _ h => h) (Or.inl ⟨by rfl, fun w hSw => ?_⟩) rfl ?_
  rotate_left
  · (cases hSw; go_simp; with_reducible rfl)
  simp only [Act.put, List.setIfInBounds_toArray, List.set_cons_zero, List.set_cons_succ]
  refine wpAnyL_take 1 ?_ rfl (by kernel_rfl) (by kernel_rfl) (by kernel_rfl) (by kernel_rfl) (by kernel_rfl) (fun _ _ _ h => h) (Or.inl ⟨by rfl, fun w hSw => ?_⟩) rfl ?_
  rotate_left
  · (cases hSw; go_simp; with_reducible rfl)
  simp only [Act.put, List.setIfInBounds_toArray, List.set_cons_zero, List.set_cons_succ]
  refine wpAnyL_take 2 ?_ rfl (by kernel_rfl) (by kernel_rfl) (by kernel_rfl) (by kernel_rfl) (by kernel_rfl) (fun _ _ _ h => h) (Or.inl ⟨by rfl, fun w hSw => ?_⟩) rfl ?_
  rotate_left
  · (cases hSw; go_simp; with_reducible rfl)
  simp only [Act.put, List.setIfInBounds_toArray, List.set_cons_zero, List.set_cons_succ]
  refine wpAnyL_take 3 ?_ rfl (by kernel_rfl) (by kernel_rfl) (by kernel_rfl) (by kernel_rfl) (by kernel_rfl) (fun _ _ _ h => h) (Or.inl ⟨by rfl, fun w hSw => ?_⟩) rfl ?_
  rotate_left
  · (cases hSw; go_simp; with_reducible rfl)
  simp only [Act.put, List.setIfInBounds_toArray, List.set_cons_zero, List.set_cons_succ]
  refine wpAnyL_take 4 ?_ rfl (by kernel_rfl) (by kernel_rfl) (by kernel_rfl) (by kernel_rfl) (by kernel_rfl) (fun _ _ _ h => h) (Or.inl ⟨by rfl, fun w hSw => ?_⟩) rfl ?_
  rotate_left
  · (cases hSw; go_simp; with_reducible rfl)
  simp only [Act.put, List.setIfInBounds_toArray, List.set_cons_zero, List.set_cons_succ]
  refine wpAnyL_take 5 ?_ rfl (by kernel_rfl) (by kernel_rfl) (by kernel_rfl) (by kernel_rfl) (by kernel_rfl) (fun _ _ _ h => h) (Or.inl ⟨by rfl, fun w hSw => ?_⟩) rfl ?_
  rotate_left
  · (cases hSw; go_simp; with_reducible rfl)
  simp only [Act.put, List.setIfInBounds_toArray, List.set_cons_zero, List.set_cons_succ]
  refine wpAnyL_take 6 ?_ rfl (by kernel_rfl) (by kernel_rfl) (by kernel_rfl) (by kernel_rfl) (by kernel_rfl) (fun _ _ _ h => h) (Or.inl ⟨by rfl, fun w hSw => ?_⟩) rfl ?_
  rotate_left
  · (cases hSw; go_simp; with_reducible rfl)
  simp only [Act.put, List.setIfInBounds_toArray, List.set_cons_zero, List.set_cons_succ]
  refine wpAnyL_take 7 ?_ rfl (by kernel_rfl) (by kernel_rfl) (by kernel_rfl) (by kernel_rfl) (by kernel_rfl) (fun _ _ _ h => h) (Or.inl ⟨by rfl, fun w hSw => ?_⟩) rfl ?_
  rotate_left
  · (cases hSw; go_simp; with_reducible rfl)
  simp only [Act.put, List.setIfInBounds_toArray, List.set_cons_zero, List.set_cons_succ]
  refine wpAnyL_take 8 ?_ rfl (by kernel_rfl) (by kernel_rfl) (by kernel_rfl) (by kernel_rfl) (by kernel_rfl) (fun _ _ _ h => h) (Or.inl ⟨by rfl, fun w hSw => ?_⟩) rfl ?_
  rotate_left
  · (cases hSw; go_simp; with_reducible rfl)
  simp only [Act.put, List.setIfInBounds_toArray, List.set_cons_zero, List.set_cons_succ]
  refine wpAnyL_take 9 ?_ rfl (by kernel_rfl) (by kernel_rfl) (by kernel_rfl) (by kernel_rfl) (by kernel_rfl) (fun _ _ _ h => h) (Or.inl ⟨by rfl, fun w hSw => ?_⟩) rfl ?_
  rotate_left
  · (cases hSw; go_simp; with_reducible rfl)
  simp only [Act.put, List.setIfInBounds_toArray, List.set_cons_zero, List.set_cons_succ]
  refine wpAnyL_take 10 ?_ rfl (by kernel_rfl) (by kernel_rfl) (by kernel_rfl) (by kernel_rfl) (by kernel_rfl) (fun _ _ _ h => h) (Or.inl ⟨by rfl, fun w hSw => ?_⟩) rfl ?_
  rotate_left
  · (cases hSw; go_simp; with_reducible rfl)
  simp only [Act.put, List.setIfInBounds_toArray, List.set_cons_zero, List.set_cons_succ]
  refine wpAnyL_take 11 ?_ rfl (by kernel_rfl) (by kernel_rfl) (by kernel_rfl) (by kernel_rfl) (by kernel_rfl) (fun _ _ _ h => h) (Or.inl ⟨by rfl, fun w hSw => ?_⟩) rfl ?_
  rotate_left
  · (cases hSw; go_simp; with_reducible rfl)
  simp only [Act.put, List.setIfInBounds_toArray, List.set_cons_zero, List.set_cons_succ]
  refine wpAnyL_take 12 ?_ rfl (by kernel_rfl) (by kernel_rfl) (by kernel_rfl) (by kernel_rfl) (by kernel_rfl) (fun _ _ _ h => h) (Or.inl ⟨by rfl, fun w hSw => ?_⟩) rfl ?_
  rotate_left
  · (cases hSw; go_simp; with_reducible rfl)
  simp only [Act.put, List.setIfInBounds_toArray, List.set_cons_zero, List.set_cons_succ]
  refine wpAnyL_one 13 rfl (by kernel_rfl) (fun K hK => ?_)
  go_simp
  go_at_call 10
  refine (LP.out _).mono ?_
  rintro e w3 ⟨rfl, rfl⟩
  refine hK.out _ _ rfl ?_
  clear hK K
  simp only [List.setIfInBounds_toArray]
  refine wpAnyL_take 14 ?_ rfl (by kernel_rfl) (by kernel_rfl) (by kernel_rfl) (by kernel_rfl) (by kernel_rfl) (fun _ _ _ h => h) (Or.inl ⟨by rfl, fun w hSw => ?_⟩) rfl ?_
  rotate_left
  · (cases hSw; go_simp; with_reducible rfl)
  simp only [Act.put, List.setIfInBounds_toArray, List.set_cons_zero, List.set_cons_succ]
  refine wpAnyL_take 15 ?_ rfl (by kernel_rfl) (by kernel_rfl) (by kernel_rfl) (by kernel_rfl) (by kernel_rfl) (fun _ _ _ h => h) (Or.inl ⟨by rfl, fun w hSw => ?_⟩) rfl ?_
  rotate_left
  · (cases hSw; go_simp; with_reducible rfl)
  simp only [Act.put, List.setIfInBounds_toArray, List.set_cons_zero, List.set_cons_succ]
  refine wpAnyL_take 16 ?_ rfl (by kernel_rfl) (by kernel_rfl) (by kernel_rfl) (by kernel_rfl) (by kernel_rfl) (fun _ _ _ h => h) (Or.inl ⟨by rfl, fun w hSw => ?_⟩) rfl ?_
  rotate_left
  · (cases hSw; go_simp; with_reducible rfl)
  simp only [Act.put, List.setIfInBounds_toArray, List.set_cons_zero, List.set_cons_succ]
  refine wpAnyL_past 17 rfl (by kernel_rfl) (by kernel_rfl) (fun K hK => ?_)
  go_simp
  go_at_call 21
  refine HH.out.mono ?_
  rintro e w9 ⟨rfl, hG⟩
  refine hK.out _ _ ?_
  clear hK K
  simp only [List.setIfInBounds_toArray]
  refine wpAnyL_past 18 rfl (by kernel_rfl) (by kernel_rfl) (fun K hK => ?_)
  go_simp
  refine hK.out _ _ ?_
  clear hK K
  simp only [List.setIfInBounds_toArray]
  refine wpAnyL_done (by kernel_rfl) ?_ _
  exact HEX.out hG
end Go.Proofs.YtkehpnobidendaaGreatDoor

namespace Go.Proofs.YtkehpnobidendaaGreatDoor
open Go.RowKit

set_option maxRecDepth 1000000 in
set_option maxHeartbeats 4000000 in
theorem step11 (o : OpD) (ho : o.Ok) (hk : o.k = 11) {w : World} {q : Nat} {L : Law} {x : Nat × Nat} (hs : SeeL w q L (pickN o.on L.members.length) x) (hl : 0 < L.members.length) (hl8 : L.members.length ≤ 8) {S : Nat → Prop} (hL : LMem w q S L) (hlt : ∀ l ∈ L.letters, LOk l) (hl2 : L.letters.length ≤ 2000) (G : World → Prop) (hg0 : ∀ w', Below w.heap.size w w' → G w') (hha : ∀ (W : World) (X : Msg), Below w.heap.size w W → X.Ok → -9223372036854775808 ≤ X.view → X.view ≤ 9223372036854775807 → Calls Tryz.prog 21 #[.pointer (some ⟨q, 0, none⟩), .agg #[.pointer (some ⟨x.1, 0, none⟩), .pointer (some ⟨x.2, 0, none⟩)], .agg X.cells.toArray] W fun e w' => e = .returned (.bool true) ∧ G w') :
    Calls Tryz.prog 7 #[.pointer (some ⟨q, 0, none⟩), .agg o.cells] w fun e w' => e = .returned (.bool true) ∧ G w' := by
  obtain ⟨al, cl, ql1, hrow, hqq⟩ := hL.lets
  have HRO : Hid (Row w S 67 20 (.slice al L.letters.length cl) L.letters.length (L.letters.flatMap Ltr.cells)) := hrow
  have HLT : Hid (∀ l ∈ L.letters, LOk l) := hlt
  have HQ1 : Hid (∀ W, Below w.heap.size w W → W.cell? ⟨q, 1, none⟩ = some (.slice al L.letters.length cl)) := fun W hW => (hW.cell (p := ⟨q, 1, none⟩) hqq).trans ql1
  have HG0 : Hid (∀ w', Below w.heap.size w w' → G w') := hg0
  have HHA : Hid (∀ (W : World) (X : Msg), Below w.heap.size w W → X.Ok → -9223372036854775808 ≤ X.view → X.view ≤ 9223372036854775807 → Calls Tryz.prog 21 #[.pointer (some ⟨q, 0, none⟩), .agg #[.pointer (some ⟨x.1, 0, none⟩), .pointer (some ⟨x.2, 0, none⟩)], .agg X.cells.toArray] W fun e w' => e = .returned (.bool true) ∧ G w') := hha
  have oa0 := ho.a0
  have oa1 := ho.a1
  clear hL hrow hlt hg0 hha ql1 hqq
  obtain ⟨g, off, cm, q0, p0, p1, hg, hq, hcm⟩ := hs.ex
  have h0 := ho.on0
  have h1 := ho.on1
  clear hs
  obtain ⟨k, on, a, b, s, n, m0, m1, m2, bv, jv, jb, j0, j1, j2, j3, c, nu, cv, cb, c0, c1, c2, c3, sl⟩ := o
  dsimp only [OpD.cells] at *
  subst hk
  clear ho
  have hpl := pickN_lt on L.members.length hl
  have LP : Hid (∀ W, Calls Tryz.prog 10 #[.int .i64 on, .int .i64 L.members.length] W fun e w' => e = .returned (.int .i64 (pickN on L.members.length)) ∧ w' = W) := fun W => lpick on L.members.length h0 h1 hl (by omega) W
  generalize pickN on L.members.length = i at *
  obtain ⟨C, hC⟩ : ∃ C : Array Value, C = #[.int .i64 11, .int .i64 on, .int .i64 a, .int .i64 b, .string s, .int .u64 n, .int .i64 m0, .int .i64 m1, .int .i64 m2, .int .i64 bv, .int .i64 jv, .int .u64 jb, .int .u64 j0, .int .u64 j1, .int .u64 j2, .int .u64 j3, .string c, .int .u64 nu, .int .i64 cv, .int .u64 cb, .int .u64 c0, .int .u64 c1, .int .u64 c2, .int .u64 c3, .int .u64 sl] := ⟨_, rfl⟩
  have i0 : (0 : Int) ≤ (i : Int) := by omega
  have i1 : (i : Int) < (L.members.length : Int) := by omega
  have hX1 : (w.alloc (.cells C 45)).heap[w.heap.size]? = some (.cells C 45 (0, 0)) := heap_alloc_new w _
  have hB1 : Below w.heap.size w (w.alloc (.cells C 45)) := below_alloc w _
  have hZ1 : (w.alloc (.cells C 45)).heap.size = w.heap.size + 1 := by simp
  obtain ⟨W1, hW1⟩ : ∃ W, W = w.alloc (.cells C 45) := ⟨_, rfl⟩
  rw [← hW1] at hX1 hB1 hZ1
  rw [hC] at hW1
  go_enter Tryz.func7, Tryz.ntmps7
  go_upto_region 5 with fail
  rw [← hW1]
  have qa : W1.cell? ⟨q, 0, none⟩ = some (.slice (some ⟨g, off, none⟩) L.members.length cm) := (hB1.cell (p := ⟨q, 0, none⟩) hq).trans q0
  have qb : W1.cell? ⟨g, off + i * 2, none⟩ = some (.pointer (some ⟨x.1, 0, none⟩)) := (hB1.cell (p := ⟨g, _, none⟩) hg).trans p0
  have qc : W1.cell? ⟨g, off + i * 2 + 1, none⟩ = some (.pointer (some ⟨x.2, 0, none⟩)) := (hB1.cell (p := ⟨g, _, none⟩) hg).trans p1
  have qd : W1.cell? ⟨w.heap.size, 1, none⟩ = some (.int .i64 on) := (cell_at hX1 1).trans (by rw [hC]; rfl)
  have hqw : q < W1.heap.size := by omega
  have hgw : g < W1.heap.size := by omega
  have hww : w.heap.size < W1.heap.size := by omega
  have HS : Hid (∀ w', Below W1.heap.size W1 w' → Below W1.heap.size W1 w' ∧ w'.cell? ⟨q, 0, none⟩ = some (.slice (some ⟨g, off, none⟩) L.members.length cm) ∧ w'.cell? ⟨g, off + i * 2, none⟩ = some (.pointer (some ⟨x.1, 0, none⟩)) ∧ w'.cell? ⟨g, off + i * 2 + 1, none⟩ = some (.pointer (some ⟨x.2, 0, none⟩)) ∧ w'.cell? ⟨w.heap.size, 1, none⟩ = some (.int .i64 on)) := fun w' hb => ⟨hb, (hb.cell (p := ⟨q, 0, none⟩) hqw).trans qa, (hb.cell (p := ⟨g, _, none⟩) hgw).trans qb, (hb.cell (p := ⟨g, _, none⟩) hgw).trans qc, (hb.cell (p := ⟨w.heap.size, 1, none⟩) hww).trans qd⟩
  have hB2 : Below W1.heap.size W1 (W1.alloc (.cells #[.pointer (some ⟨x.1, 0, none⟩), .pointer (some ⟨x.2, 0, none⟩)] 50)).drew := (below_alloc W1 _).drew
  have hx2 : (W1.alloc (.cells #[.pointer (some ⟨x.1, 0, none⟩), .pointer (some ⟨x.2, 0, none⟩)] 50)).drew.heap[w.heap.size + 1]? = some (.cells #[.pointer (some ⟨x.1, 0, none⟩), .pointer (some ⟨x.2, 0, none⟩)] 50 (0, 0)) := by rw [← hZ1]; exact heap_alloc_new W1 _
  obtain ⟨W2, hW2⟩ : ∃ W, W = (W1.alloc (.cells #[.pointer (some ⟨x.1, 0, none⟩), .pointer (some ⟨x.2, 0, none⟩)] 50)).drew := ⟨_, rfl⟩
  rw [← hW2] at hB2 hx2
  have HX : Hid (∀ W, Below W2.heap.size W2 W → (W.cell? ⟨w.heap.size + 1, 0, none⟩ = some (.pointer (some ⟨x.1, 0, none⟩)) ∧ W.cell? ⟨w.heap.size + 1, 1, none⟩ = some (.pointer (some ⟨x.2, 0, none⟩)) ∧ W.cell? ⟨w.heap.size, 0, none⟩ = some (.int .i64 11) ∧ W.cell? ⟨w.heap.size, 4, none⟩ = some (.string s))) := fun W hW => by
    have e1 := (hW.block _ (lt_at hx2)).trans hx2
    have e2 := (hW.block w.heap.size (Nat.lt_of_lt_of_le hww hB2.size)).trans ((hB2.block w.heap.size hww).trans hX1)
    exact ⟨cell_at e1 0, cell_at e1 1, (cell_at e2 0).trans (by rw [hC]; rfl), (cell_at e2 4).trans (by rw [hC]; rfl)⟩
  have HB2 : Hid (Below w.heap.size w W2) := bnext hB1 hB2
  have HX2 : Hid (W2.heap[w.heap.size + 1]? = some (.cells #[.pointer (some ⟨x.1, 0, none⟩), .pointer (some ⟨x.2, 0, none⟩)] 50 (0, 0))) := hx2
  have HW1 : Hid (w.heap.size < W1.heap.size ∧ W1.heap[w.heap.size]? = some (.cells C 45 (0, 0)) ∧ Below W1.heap.size W1 W2) := ⟨hww, hX1, hB2⟩
  have HC : Hid (C = #[.int .i64 11, .int .i64 on, .int .i64 a, .int .i64 b, .string s, .int .u64 n, .int .i64 m0, .int .i64 m1, .int .i64 m2, .int .i64 bv, .int .i64 jv, .int .u64 jb, .int .u64 j0, .int .u64 j1, .int .u64 j2, .int .u64 j3, .string c, .int .u64 nu, .int .i64 cv, .int .u64 cb, .int .u64 c0, .int .u64 c1, .int .u64 c2, .int .u64 c3, .int .u64 sl]) := hC
  clear q0 p0 p1 hX1 hB1 hW1 hx2 hB2 hC qa qb qc qd
  go_region_held3 (fun w' => Below W1.heap.size W1 w' ∧ w'.cell? ⟨q, 0, none⟩ = some (.slice (some ⟨g, off, none⟩) L.members.length cm) ∧ w'.cell? ⟨g, off + i * 2, none⟩ = some (.pointer (some ⟨x.1, 0, none⟩)) ∧ w'.cell? ⟨g, off + i * 2 + 1, none⟩ = some (.pointer (some ⟨x.2, 0, none⟩)) ∧ w'.cell? ⟨w.heap.size, 1, none⟩ = some (.int .i64 on))
    (first | (exact HS.out _ (Below.refl _ _).drew) | (exact HS.out _ (bnext (And.left ‹Below W1.heap.size W1 _ ∧ _›) (below_alloc _ _))) | (exact HS.out _ (bnext (Below.refl _ _).drew (below_alloc _ _))))
    ((go_at_call 10; refine (LP.out _).mono ?_; rintro e w3 ⟨rfl, rfl⟩))
  all_goals (
    rw [← hW2]
    clear ‹_ ∧ _›
    clear hW2 HS LP
    have xs := HX.out W2 (Below.refl _ _)
    obtain ⟨x0, x1, k0, x4⟩ := xs
    clear x4
    have q1 := HQ1.out W2 HB2.out
    have q2 : W2.cell? ⟨w.heap.size, 2, none⟩ = some (.int .i64 a) := (cell_at ((HW1.out.2.2.block w.heap.size HW1.out.1).trans HW1.out.2.1) 2).trans (by rw [HC.out]; rfl)
    by_cases hll : 0 < L.letters.length
    rotate_left
    · have hlz : L.letters.length = 0 := by omega
      rw [hlz] at q1
      go_wp2
      go_ret
      exact ⟨rfl, HG0.out _ HB2.out⟩
    · obtain ⟨gl, ol, rfl, _, hgl, _⟩ := HRO.out.place hll
      have hlz : ((L.letters.length : Int) == 0) = false := beq_eq_false_iff_ne.2 (by omega)
      have hjn := pickN_lt a L.letters.length hll
      have LPB : Hid (∀ W, Calls Tryz.prog 10 #[.int .i64 a, .int .i64 L.letters.length] W fun e w' => e = .returned (.int .i64 (pickN a L.letters.length)) ∧ w' = W) := fun W => lpick a L.letters.length oa0 oa1 hll (by omega) W
      generalize pickN a L.letters.length = j at hjn LPB
      have hel := HRO.out.elemAt lcells_len j hjn
      have HLO : Hid (LOk L.letters[j]) := HLT.out _ (List.getElem_mem hjn)
      generalize L.letters[j] = l at hel HLO
      obtain ⟨l0, ⟨xk, xf, xv, ⟨xbv, ⟨xjv, xjb, xj0, xj1, xj2, xj3⟩, xbc⟩, xn, ⟨xcv, xcb, xc0, xc1, xc2, xc3⟩, xs⟩⟩ := l
      have hlm : (rowVar 43 ⟨gl, ol + j * 20 + 1, none⟩).run Tryz.prog W2.drew = .ok (.agg #[.int .i64 xk, .int .i64 xf, .int .i64 xv, .int .i64 xbv, .int .i64 xjv, .int .u64 xjb, .int .u64 xj0, .int .u64 xj1, .int .u64 xj2, .int .u64 xj3, .string xbc, .int .u64 xn, .int .i64 xcv, .int .u64 xcb, .int .u64 xc0, .int .u64 xc1, .int .u64 xc2, .int .u64 xc3, .int .u64 xs]) W2.drew := rowVar_mid W2.drew gl (ol + j * 20 + 1) 43 [.int .i64 xk, .int .i64 xf, .int .i64 xv, .int .i64 xbv, .int .i64 xjv, .int .u64 xjb, .int .u64 xj0, .int .u64 xj1, .int .u64 xj2, .int .u64 xj3, .string xbc, .int .u64 xn, .int .i64 xcv, .int .u64 xcb, .int .u64 xc0, .int .u64 xc1, .int .u64 xc2, .int .u64 xc3, .int .u64 xs] _ (fun t v hv => by
        have h1 := hel (t + 1) v hv
        rw [show ol + j * 20 + (t + 1) = ol + j * 20 + 1 + t by omega] at h1
        exact (HB2.out.cell (p := ⟨gl, ol + j * 20 + 1 + t, none⟩) hgl).trans h1) Tryz.underlying43 rfl (by kernel_rfl)
      have HH : Hid (Calls Tryz.prog 21 #[.pointer (some ⟨q, 0, none⟩), .agg #[.pointer (some ⟨x.1, 0, none⟩), .pointer (some ⟨x.2, 0, none⟩)], .agg #[.int .i64 xk, .int .i64 xf, .int .i64 xv, .int .i64 xbv, .int .i64 xjv, .int .u64 xjb, .int .u64 xj0, .int .u64 xj1, .int .u64 xj2, .int .u64 xj3, .string xbc, .int .u64 xn, .int .i64 xcv, .int .u64 xcb, .int .u64 xc0, .int .u64 xc1, .int .u64 xc2, .int .u64 xc3, .int .u64 xs]] W2.drew fun e w' => e = .returned (.bool true) ∧ G w') := HHA.out W2.drew ⟨xk, xf, xv, ⟨xbv, ⟨xjv, xjb, xj0, xj1, xj2, xj3⟩, xbc⟩, xn, ⟨xcv, xcb, xc0, xc1, xc2, xc3⟩, xs⟩ HB2.out.drew HLO.out.1 HLO.out.2.1 HLO.out.2.2
      have j0' : (0 : Int) ≤ (j : Int) := by omega
      have j1' : (j : Int) < (L.letters.length : Int) := by omega
      clear hel hgl
      go_upto_region 29 with fail
      refine lst_r29 LPB q1 q2 x0 x1 j0' j1' hlm HH ?_
      intro z123 z124 z125 z126 z127 z128 z129 z130 z131 z132 z133 z134 z135 z136 z137 z138 z139 z140 w9 hG
      clear hlm HH
      simp only [Exit.then]
      go_wp2
      go_ret
      exact ⟨rfl, hG⟩)
end Go.Proofs.YtkehpnobidendaaGreatDoor

namespace Go.Proofs.YtkehpnobidendaaGreatDoor
open Go.RowKit
attribute [local go_sem ↓] pload_msg st_msgZ

set_option maxRecDepth 1000000 in
set_option maxHeartbeats 4000000 in
theorem step12 (o : OpD) (ho : o.Ok) (hk : o.k = 12) {w : World} {q : Nat} {L : Law} {x : Nat × Nat} (hs : SeeL w q L (pickN o.on L.members.length) x) (hl : 0 < L.members.length) (hl8 : L.members.length ≤ 8) {S R : Nat → Prop} (hL : LMem w q S L) (hlt : ∀ l ∈ L.letters, LOk l) (hl2 : L.letters.length ≤ 2000) {m : Mem} (hr : RMem w x.2 R w.heap.size m []) (hh : m.high.Ok) (G : World → Prop) (hha : ∀ (W : World) (X : Msg), Below w.heap.size w W → X.Ok → -9223372036854775808 ≤ X.view → X.view ≤ 9223372036854775807 → Calls Tryz.prog 21 #[.pointer (some ⟨q, 0, none⟩), .agg #[.pointer (some ⟨x.1, 0, none⟩), .pointer (some ⟨x.2, 0, none⟩)], .agg X.cells.toArray] W fun e w' => e = .returned (.bool true) ∧ G w') :
    Calls Tryz.prog 7 #[.pointer (some ⟨q, 0, none⟩), .agg o.cells] w fun e w' => e = .returned (.bool true) ∧ G w' := by
  have HFO : Hid (∀ W, Below w.heap.size w W → Calls Tryz.prog 22 #[.pointer (some ⟨q, 0, none⟩), .agg #[.pointer (some ⟨x.1, 0, none⟩), .pointer (some ⟨x.2, 0, none⟩)], .agg o.cells] W fun e w' => ∃ X : Msg, FOk X ∧ e = .returned (.agg X.cells.toArray) ∧ Below W.heap.size W w') := fun W hW => lforged (hL.below hW) ((hr.rest W.heap.size).below hW) hh hlt hl2 o ho
  have HHA : Hid (∀ (W : World) (X : Msg), Below w.heap.size w W → X.Ok → -9223372036854775808 ≤ X.view → X.view ≤ 9223372036854775807 → Calls Tryz.prog 21 #[.pointer (some ⟨q, 0, none⟩), .agg #[.pointer (some ⟨x.1, 0, none⟩), .pointer (some ⟨x.2, 0, none⟩)], .agg X.cells.toArray] W fun e w' => e = .returned (.bool true) ∧ G w') := hha
  clear hL hr hlt hh hha
  obtain ⟨g, off, cm, q0, p0, p1, hg, hq, hcm⟩ := hs.ex
  have h0 := ho.on0
  have h1 := ho.on1
  clear hs
  obtain ⟨k, on, a, b, s, n, m0, m1, m2, bv, jv, jb, j0, j1, j2, j3, c, nu, cv, cb, c0, c1, c2, c3, sl⟩ := o
  dsimp only [OpD.cells] at *
  subst hk
  clear ho
  have hpl := pickN_lt on L.members.length hl
  have LP : Hid (∀ W, Calls Tryz.prog 10 #[.int .i64 on, .int .i64 L.members.length] W fun e w' => e = .returned (.int .i64 (pickN on L.members.length)) ∧ w' = W) := fun W => lpick on L.members.length h0 h1 hl (by omega) W
  generalize pickN on L.members.length = i at *
  obtain ⟨C, hC⟩ : ∃ C : Array Value, C = #[.int .i64 12, .int .i64 on, .int .i64 a, .int .i64 b, .string s, .int .u64 n, .int .i64 m0, .int .i64 m1, .int .i64 m2, .int .i64 bv, .int .i64 jv, .int .u64 jb, .int .u64 j0, .int .u64 j1, .int .u64 j2, .int .u64 j3, .string c, .int .u64 nu, .int .i64 cv, .int .u64 cb, .int .u64 c0, .int .u64 c1, .int .u64 c2, .int .u64 c3, .int .u64 sl] := ⟨_, rfl⟩
  have i0 : (0 : Int) ≤ (i : Int) := by omega
  have i1 : (i : Int) < (L.members.length : Int) := by omega
  have hX1 : (w.alloc (.cells C 45)).heap[w.heap.size]? = some (.cells C 45 (0, 0)) := heap_alloc_new w _
  have hB1 : Below w.heap.size w (w.alloc (.cells C 45)) := below_alloc w _
  have hZ1 : (w.alloc (.cells C 45)).heap.size = w.heap.size + 1 := by simp
  obtain ⟨W1, hW1⟩ : ∃ W, W = w.alloc (.cells C 45) := ⟨_, rfl⟩
  rw [← hW1] at hX1 hB1 hZ1
  rw [hC] at hW1
  go_enter Tryz.func7, Tryz.ntmps7
  go_upto_region 5 with fail
  rw [← hW1]
  have qa : W1.cell? ⟨q, 0, none⟩ = some (.slice (some ⟨g, off, none⟩) L.members.length cm) := (hB1.cell (p := ⟨q, 0, none⟩) hq).trans q0
  have qb : W1.cell? ⟨g, off + i * 2, none⟩ = some (.pointer (some ⟨x.1, 0, none⟩)) := (hB1.cell (p := ⟨g, _, none⟩) hg).trans p0
  have qc : W1.cell? ⟨g, off + i * 2 + 1, none⟩ = some (.pointer (some ⟨x.2, 0, none⟩)) := (hB1.cell (p := ⟨g, _, none⟩) hg).trans p1
  have qd : W1.cell? ⟨w.heap.size, 1, none⟩ = some (.int .i64 on) := (cell_at hX1 1).trans (by rw [hC]; rfl)
  have hqw : q < W1.heap.size := by omega
  have hgw : g < W1.heap.size := by omega
  have hww : w.heap.size < W1.heap.size := by omega
  have HS : Hid (∀ w', Below W1.heap.size W1 w' → Below W1.heap.size W1 w' ∧ w'.cell? ⟨q, 0, none⟩ = some (.slice (some ⟨g, off, none⟩) L.members.length cm) ∧ w'.cell? ⟨g, off + i * 2, none⟩ = some (.pointer (some ⟨x.1, 0, none⟩)) ∧ w'.cell? ⟨g, off + i * 2 + 1, none⟩ = some (.pointer (some ⟨x.2, 0, none⟩)) ∧ w'.cell? ⟨w.heap.size, 1, none⟩ = some (.int .i64 on)) := fun w' hb => ⟨hb, (hb.cell (p := ⟨q, 0, none⟩) hqw).trans qa, (hb.cell (p := ⟨g, _, none⟩) hgw).trans qb, (hb.cell (p := ⟨g, _, none⟩) hgw).trans qc, (hb.cell (p := ⟨w.heap.size, 1, none⟩) hww).trans qd⟩
  have hB2 : Below W1.heap.size W1 (W1.alloc (.cells #[.pointer (some ⟨x.1, 0, none⟩), .pointer (some ⟨x.2, 0, none⟩)] 50)).drew := (below_alloc W1 _).drew
  have hx2 : (W1.alloc (.cells #[.pointer (some ⟨x.1, 0, none⟩), .pointer (some ⟨x.2, 0, none⟩)] 50)).drew.heap[w.heap.size + 1]? = some (.cells #[.pointer (some ⟨x.1, 0, none⟩), .pointer (some ⟨x.2, 0, none⟩)] 50 (0, 0)) := by rw [← hZ1]; exact heap_alloc_new W1 _
  obtain ⟨W2, hW2⟩ : ∃ W, W = (W1.alloc (.cells #[.pointer (some ⟨x.1, 0, none⟩), .pointer (some ⟨x.2, 0, none⟩)] 50)).drew := ⟨_, rfl⟩
  rw [← hW2] at hB2 hx2
  have HX : Hid (∀ W, Below W2.heap.size W2 W → (W.cell? ⟨w.heap.size + 1, 0, none⟩ = some (.pointer (some ⟨x.1, 0, none⟩)) ∧ W.cell? ⟨w.heap.size + 1, 1, none⟩ = some (.pointer (some ⟨x.2, 0, none⟩)) ∧ W.cell? ⟨w.heap.size, 0, none⟩ = some (.int .i64 12) ∧ W.cell? ⟨w.heap.size, 4, none⟩ = some (.string s))) := fun W hW => by
    have e1 := (hW.block _ (lt_at hx2)).trans hx2
    have e2 := (hW.block w.heap.size (Nat.lt_of_lt_of_le hww hB2.size)).trans ((hB2.block w.heap.size hww).trans hX1)
    exact ⟨cell_at e1 0, cell_at e1 1, (cell_at e2 0).trans (by rw [hC]; rfl), (cell_at e2 4).trans (by rw [hC]; rfl)⟩
  have HB2 : Hid (Below w.heap.size w W2) := bnext hB1 hB2
  have HX2 : Hid (W2.heap[w.heap.size + 1]? = some (.cells #[.pointer (some ⟨x.1, 0, none⟩), .pointer (some ⟨x.2, 0, none⟩)] 50 (0, 0))) := hx2
  have HW1 : Hid (w.heap.size < W1.heap.size ∧ W1.heap[w.heap.size]? = some (.cells C 45 (0, 0)) ∧ Below W1.heap.size W1 W2) := ⟨hww, hX1, hB2⟩
  have HC : Hid (C = #[.int .i64 12, .int .i64 on, .int .i64 a, .int .i64 b, .string s, .int .u64 n, .int .i64 m0, .int .i64 m1, .int .i64 m2, .int .i64 bv, .int .i64 jv, .int .u64 jb, .int .u64 j0, .int .u64 j1, .int .u64 j2, .int .u64 j3, .string c, .int .u64 nu, .int .i64 cv, .int .u64 cb, .int .u64 c0, .int .u64 c1, .int .u64 c2, .int .u64 c3, .int .u64 sl]) := hC
  clear q0 p0 p1 hX1 hB1 hW1 hx2 hB2 hC qa qb qc qd
  go_region_held3 (fun w' => Below W1.heap.size W1 w' ∧ w'.cell? ⟨q, 0, none⟩ = some (.slice (some ⟨g, off, none⟩) L.members.length cm) ∧ w'.cell? ⟨g, off + i * 2, none⟩ = some (.pointer (some ⟨x.1, 0, none⟩)) ∧ w'.cell? ⟨g, off + i * 2 + 1, none⟩ = some (.pointer (some ⟨x.2, 0, none⟩)) ∧ w'.cell? ⟨w.heap.size, 1, none⟩ = some (.int .i64 on))
    (first | (exact HS.out _ (Below.refl _ _).drew) | (exact HS.out _ (bnext (And.left ‹Below W1.heap.size W1 _ ∧ _›) (below_alloc _ _))) | (exact HS.out _ (bnext (Below.refl _ _).drew (below_alloc _ _))))
    ((go_at_call 10; refine (LP.out _).mono ?_; rintro e w3 ⟨rfl, rfl⟩))
  all_goals (
    rw [← hW2]
    clear ‹_ ∧ _›
    clear hW2 HS LP
    have xs := HX.out W2 (Below.refl _ _)
    obtain ⟨x0, x1, k0, x4⟩ := xs
    clear x4
    have HX3 : Hid (W2.heap[w.heap.size]? = some (.cells C 45 (0, 0))) := (HW1.out.2.2.block w.heap.size HW1.out.1).trans HW1.out.2.1
    rw [HC.out] at HX3
    go_upto_region 32 with (first
      | (go_at_call 22; refine (HFO.out W2 HB2.out).mono ?_; rintro e w5 ⟨X, hX, rfl, hb5⟩; have HXO : Hid (FOk X) := hX; have HB5 : Hid (Below W2.heap.size W2 w5) := hb5; clear hX hb5; obtain ⟨xk, xf, xv, ⟨xbv, ⟨xjv, xjb, xj0, xj1, xj2, xj3⟩, xbc⟩, xn, ⟨xcv, xcb, xc0, xc1, xc2, xc3⟩, xs⟩ := X; have hp : (rowPut 43 ⟨w5.heap.size, 0, none⟩ (.agg #[.int .i64 xk, .int .i64 xf, .int .i64 xv, .int .i64 xbv, .int .i64 xjv, .int .u64 xjb, .int .u64 xj0, .int .u64 xj1, .int .u64 xj2, .int .u64 xj3, .string xbc, .int .u64 xn, .int .i64 xcv, .int .u64 xcb, .int .u64 xc0, .int .u64 xc1, .int .u64 xc2, .int .u64 xc3, .int .u64 xs])).run Tryz.prog (w5.alloc (.cells #[.int .i64 0, .int .i64 0, .int .i64 0, .int .i64 0, .int .i64 0, .int .u64 0, .int .u64 0, .int .u64 0, .int .u64 0, .int .u64 0, .string ⟨#[]⟩, .int .u64 0, .int .i64 0, .int .u64 0, .int .u64 0, .int .u64 0, .int .u64 0, .int .u64 0, .int .u64 0] 43)) = .ok () (w5.alloc (.cells #[.int .i64 xk, .int .i64 xf, .int .i64 xv, .int .i64 xbv, .int .i64 xjv, .int .u64 xjb, .int .u64 xj0, .int .u64 xj1, .int .u64 xj2, .int .u64 xj3, .string xbc, .int .u64 xn, .int .i64 xcv, .int .u64 xcb, .int .u64 xc0, .int .u64 xc1, .int .u64 xc2, .int .u64 xc3, .int .u64 xs] 43)) := (rowPut_mid _ w5.heap.size 0 43 #[.int .i64 xk, .int .i64 xf, .int .i64 xv, .int .i64 xbv, .int .i64 xjv, .int .u64 xjb, .int .u64 xj0, .int .u64 xj1, .int .u64 xj2, .int .u64 xj3, .string xbc, .int .u64 xn, .int .i64 xcv, .int .u64 xcb, .int .u64 xc0, .int .u64 xc1, .int .u64 xc2, .int .u64 xc3, .int .u64 xs] (there_box (heap_alloc_new w5 _) 0 19 (by simp)) (by kernel_rfl) (by simp [Value.oneCell'])).trans (by rw [zfill_new, zfill19]); dsimp only [Msg.cells])
      | (refine wpList_load_row rfl 45 _ rfl w.heap.size rfl 45 _ (0, 0) _ HX3.out Tryz.underlying45 rfl (by kernel_rfl) ?_))
    obtain ⟨W6, hW6⟩ : ∃ W, W = w5.alloc (.cells #[.int .i64 xk, .int .i64 xf, .int .i64 xv, .int .i64 xbv, .int .i64 xjv, .int .u64 xjb, .int .u64 xj0, .int .u64 xj1, .int .u64 xj2, .int .u64 xj3, .string xbc, .int .u64 xn, .int .i64 xcv, .int .u64 xcb, .int .u64 xc0, .int .u64 xc1, .int .u64 xc2, .int .u64 xc3, .int .u64 xs] 43) := ⟨_, rfl⟩
    have HB6 : Hid (Below W2.heap.size W2 W6) := by rw [hW6]; exact bnext HB5.out (below_alloc _ _)
    have HX6 : Hid (W6.heap[w5.heap.size]? = some (.cells #[.int .i64 xk, .int .i64 xf, .int .i64 xv, .int .i64 xbv, .int .i64 xjv, .int .u64 xjb, .int .u64 xj0, .int .u64 xj1, .int .u64 xj2, .int .u64 xj3, .string xbc, .int .u64 xn, .int .i64 xcv, .int .u64 xcb, .int .u64 xc0, .int .u64 xc1, .int .u64 xc2, .int .u64 xc3, .int .u64 xs] 43 (0, 0))) := by rw [hW6]; exact heap_alloc_new w5 _
    rw [← hW6]
    clear hW6 hp x0 x1 k0
    obtain ⟨x0, x1, k0, _⟩ := HX.out W6 HB6.out
    have hlm : (rowVar 43 ⟨w5.heap.size, 0, none⟩).run Tryz.prog W6 = .ok (.agg #[.int .i64 xk, .int .i64 xf, .int .i64 xv, .int .i64 xbv, .int .i64 xjv, .int .u64 xjb, .int .u64 xj0, .int .u64 xj1, .int .u64 xj2, .int .u64 xj3, .string xbc, .int .u64 xn, .int .i64 xcv, .int .u64 xcb, .int .u64 xc0, .int .u64 xc1, .int .u64 xc2, .int .u64 xc3, .int .u64 xs]) W6 := rowVar_whole _ w5.heap.size 43 43 _ (0, 0) _ HX6.out Tryz.underlying43 rfl (by kernel_rfl)
    have HH : Hid (Calls Tryz.prog 21 #[.pointer (some ⟨q, 0, none⟩), .agg #[.pointer (some ⟨x.1, 0, none⟩), .pointer (some ⟨x.2, 0, none⟩)], .agg #[.int .i64 xk, .int .i64 xf, .int .i64 xv, .int .i64 xbv, .int .i64 xjv, .int .u64 xjb, .int .u64 xj0, .int .u64 xj1, .int .u64 xj2, .int .u64 xj3, .string xbc, .int .u64 xn, .int .i64 xcv, .int .u64 xcb, .int .u64 xc0, .int .u64 xc1, .int .u64 xc2, .int .u64 xc3, .int .u64 xs]] W6 fun e w' => e = .returned (.bool true) ∧ G w') := HHA.out W6 ⟨xk, xf, xv, ⟨xbv, ⟨xjv, xjb, xj0, xj1, xj2, xj3⟩, xbc⟩, xn, ⟨xcv, xcb, xc0, xc1, xc2, xc3⟩, xs⟩ (bnext HB2.out HB6.out) HXO.out.ok HXO.out.v0 HXO.out.v1
    go_wp2_with (go_at_call 21; refine HH.out.mono ?_; rintro e w9 ⟨rfl, hG⟩)
    go_ret
    exact ⟨rfl, hG⟩)
end Go.Proofs.YtkehpnobidendaaGreatDoor

namespace Go.Proofs.YtkehpnobidendaaGreatDoor
open Go.RowKit

theorem lstep2 (o : OpD) (ho : o.Ok) (hk : o.k ≤ 12) {w0 w : World} {q : Nat} {n : Nat} (hg : Goes w0 w q n) (hn : n ≤ 660000000000) :
    Calls Tryz.prog 7 #[.pointer (some ⟨q, 0, none⟩), .agg o.cells] w fun e w' => e = .returned (.bool true) ∧ Goes w0 w' q (n + 1) := by
  by_cases h10 : o.k ≤ 10
  · exact lstep o ho h10 hg hn
  obtain ⟨L, ms, A, h⟩ := hg
  by_cases hl : 0 < L.members.length
  · have hpl := pickN_lt o.on L.members.length hl
    obtain ⟨i, hi⟩ : ∃ i, i = pickN o.on L.members.length := ⟨_, rfl⟩
    rw [← hi] at hpl
    have hx : L.members[i]? = some L.members[i] := List.getElem?_eq_getElem hpl
    obtain ⟨x, hxx⟩ : ∃ x, x = L.members[i] := ⟨_, rfl⟩
    rw [← hxx] at hx
    have hm : ms[i]? = some (ms[i]'(by rw [← h.len]; exact hpl)) := List.getElem?_eq_getElem _
    obtain ⟨m, hmm⟩ : ∃ m, m = ms[i]'(by rw [← h.len]; exact hpl) := ⟨_, rfl⟩
    rw [← hmm] at hm
    have hs := h.law.seeL hx
    rw [hi] at hs
    have M := h.mem i x m hx hm
    have l8 := h.lim.me
    have hha : ∀ (W : World) (X : Msg), Below w.heap.size w W → X.Ok → -9223372036854775808 ≤ X.view → X.view ≤ 9223372036854775807 → Calls Tryz.prog 21 #[.pointer (some ⟨q, 0, none⟩), .agg #[.pointer (some ⟨x.1, 0, none⟩), .pointer (some ⟨x.2, 0, none⟩)], .agg X.cells.toArray] W fun e w' => e = .returned (.bool true) ∧ Goes w0 w' q (n + 1) := fun W X hW hX v0 v1 => (lhandles (h.quiet hW) hn hx hm X hX v0 v1).mono (fun _ _ hh => ⟨hh.1, hh.2.1⟩)
    rcases (by omega : o.k = 11 ∨ o.k = 12) with hk' | hk'
    · exact step11 o ho hk' hs hl l8 h.law h.lim.lt h.lim.le (fun w' => Goes w0 w' q (n + 1)) (fun w' hb => Goes.of_below h hb) hha
    · exact step12 o ho hk' hs hl l8 h.law h.lim.lt h.lim.le M.rm M.ml.inv.hi.ok (fun w' => Goes w0 w' q (n + 1)) hha
  · have hl0 : L.members.length = 0 := by omega
    obtain ⟨vm, vl, vb, vt, vs, vo, vn, hb⟩ := h.law.ex
    have q0 : w.cell? ⟨q, 0, none⟩ = some vm := cell_at hb.box 0
    have hrow : Row w (A 0) 50 2 vm L.members.length (L.members.flatMap pcells) := hb.row 0 _ _ _ rfl rfl rfl
    obtain ⟨am, cm, rfl⟩ := hrow.isSlice
    rw [hl0] at q0
    refine (stepE o (fun h => by omega) q w am cm q0 (lt_at hb.box)).mono ?_
    rintro e w' ⟨rfl, hb'⟩
    exact ⟨rfl, Goes.of_below h hb'⟩
end Go.Proofs.YtkehpnobidendaaGreatDoor

namespace Go.Proofs.YtkehpnobidendaaGreatDoor
open Go.RowKit

def opNew (k : Int) : OpD := ⟨4, 0, k, 3, ⟨#[]⟩, 0, 0, 0, 0, 0, 0, 0, 0, 0, 0, 0, ⟨#[]⟩, 0, 0, 0, 0, 0, 0, 0, 0⟩
theorem opNew_ok (k : Int) (h0 : 0 ≤ k) (h1 : k ≤ 3) : (opNew k).Ok := by
  constructor <;> dsimp only [opNew] <;> first | omega | decide
theorem opFirst_ok2 (k : Int) (h0 : 1 ≤ k) (h1 : k ≤ 11) : (opFirst k).Ok := by
  constructor <;> dsimp only [opFirst] <;> first | omega | decide
/-- The law's record at its start. -/
def Law.none : Law := ⟨[], [], [], false, [], [], [], [], 0⟩
theorem sit_start (w : World) (ht : Tab w) : Goes w (w.alloc (.cells #[.slice none 0 0, .slice none 0 0, .slice none 0 0, .bool false, .slice none 0 0, .slice none 0 0, .slice none 0 0, .slice none 0 0, .int .i64 0] 34)) w.heap.size 0 := by
  refine ⟨Law.none, [], fun a k => a = 0 ∧ k = w.heap.size, ⟨fun a b k h1 h2 => by omega, fun a k h => ⟨by omega, by simp; omega⟩, ?_, ?_, rfl, fun i x m hx => by simp [Law.none] at hx, below_alloc _ _, ht, ?_⟩⟩
  · refine ⟨.slice none 0 0, .slice none 0 0, .slice none 0 0, .slice none 0 0, .slice none 0 0, .slice none 0 0, .slice none 0 0, ⟨⟨rfl, rfl⟩, heap_alloc_new w _, fun i v e x hv he hx => ?_, fun i v hv hk => ?_, fun i j v u k hv _ _ hk => ?_, by simp [lE, lX], fun k hk => by simp; omega⟩⟩
    · have := nils hv
      subst this
      have hx0 : x = (0, []) := by
        have := List.mem_of_getElem? hx
        simpa [lX, Law.none] using this
      subst hx0
      exact Row.nil _ _ _ _
    · have := nils hv; subst this; cases hk
    · have := nils hv; subst this; cases hk
  · exact ⟨rfl, rfl, fun i h => by simp [Law.none] at h, fun i h => by simp [Law.none] at h⟩
  · exact ⟨by decide, by decide, by decide, fun o ho => by simp [Law.none] at ho, fun o ho => by simp [Law.none] at ho, by decide, by decide, by decide, by decide, by decide, by decide⟩
theorem Goes.below {w0 w : World} {q n : Nat} (h : Goes w0 w q n) : Below w0.heap.size w0 w := by
  obtain ⟨L, ms, A, h⟩ := h
  exact h.below
theorem Goes.over {w0 w : World} {q n : Nat} (h : Goes w0 w q n) : ∃ ov, w.cell? ⟨q, 3, none⟩ = some (.bool ov) := by
  obtain ⟨L, ms, A, h⟩ := h
  exact ⟨_, h.law.ov⟩
theorem Goes.still {w0 w : World} {q n : Nat} (h : Goes w0 w q n) : Calls Tryz.prog 8 #[.pointer (some ⟨q, 0, none⟩)] w fun e w' => e = .returned (.bool true) ∧ Goes w0 w' q n := by
  obtain ⟨L, ms, A, h⟩ := h
  refine (lstill w q (A 0) (A 1) L h.law h.kept).mono ?_
  rintro e w' ⟨rfl, hb⟩
  exact ⟨rfl, L, ms, A, h.quiet hb⟩
theorem stepNew {w0 w : World} {q n : Nat} (k : Int) (h0 : 0 ≤ k) (h1 : k ≤ 3) (hg : Goes w0 w q n) (hn : n ≤ 100) :
    Calls Tryz.prog 7 #[.pointer (some ⟨q, 0, none⟩), .agg #[.int .i64 4, .int .i64 0, .int .i64 k, .int .i64 3, .string ⟨#[]⟩, .int .u64 0, .int .i64 0, .int .i64 0, .int .i64 0, .int .i64 0, .int .i64 0, .int .u64 0, .int .u64 0, .int .u64 0, .int .u64 0, .int .u64 0, .string ⟨#[]⟩, .int .u64 0, .int .i64 0, .int .u64 0, .int .u64 0, .int .u64 0, .int .u64 0, .int .u64 0, .int .u64 0]] w fun e w' => e = .returned (.bool true) ∧ Goes w0 w' q (n + 1) :=
  lstep (opNew k) (opNew_ok k h0 h1) (show (4 : Int) ≤ 10 by decide) hg (by omega)
theorem stepFirst2 {w0 w : World} {q n : Nat} (k : Int) (h0 : 1 ≤ k) (h1 : k ≤ 10) (hg : Goes w0 w q n) (hn : n ≤ 100) :
    Calls Tryz.prog 7 #[.pointer (some ⟨q, 0, none⟩), .agg #[.int .i64 k, .int .i64 1, .int .i64 0, .int .i64 0, .string ⟨#[102, 105, 114, 115, 116]⟩, .int .u64 0, .int .i64 0, .int .i64 0, .int .i64 0, .int .i64 0, .int .i64 0, .int .u64 0, .int .u64 0, .int .u64 0, .int .u64 0, .int .u64 0, .string ⟨#[]⟩, .int .u64 0, .int .i64 0, .int .u64 0, .int .u64 0, .int .u64 0, .int .u64 0, .int .u64 0, .int .u64 0]] w fun e w' => e = .returned (.bool true) ∧ Goes w0 w' q (n + 1) :=
  lstep (opFirst k) (opFirst_ok2 k h0 (by omega)) h1 hg (by omega)

set_option maxRecDepth 100000 in
set_option maxHeartbeats 2000000 in
theorem playedTicks (bs off len cap : Nat) (O : Nat → OpD) (hO : ∀ j, j < len → (O j).Ok) (hl : len ≤ 659000000000) (w : World) (hbs : bs < w.heap.size)
    (hc : ∀ j, j < len → w.rangeAt bs (off + j * 25) (O j).cells.toList) (ht : Tab w) :
    Calls Tryz.prog 6 #[.slice (some ⟨bs, off, none⟩) len cap, .int .i64 10] w fun e w' => e = .returned (.bool true) ∧ Below w.heap.size w w' := by
  have HC : Hid (∀ j, j < len → w.rangeAt bs (off + j * 25) (O j).cells.toList) := hc
  have HO : Hid (∀ j, j < len → (O j).Ok) := hO
  have HST := sit_start w ht
  have HS0 : Hid (Goes w (w.alloc (.cells #[.slice none 0 0, .slice none 0 0, .slice none 0 0, .bool false, .slice none 0 0, .slice none 0 0, .slice none 0 0, .slice none 0 0, .int .i64 0] 34)) w.heap.size 0) := HST
  clear hc hO HST ht
  go_enter Tryz.func6, Tryz.ntmps6
  go_wp2
  go_loopw [6, 7] (fun ok k wr => ∃ j : Nat, j ≤ 4 ∧ ok = .bool true ∧ k = .int .i64 j ∧ Hid (Goes w wr w.heap.size j)) (fun _ k _ => 4 - (intOf k).toNat)
  case atStart => exact ⟨0, by omega, rfl, rfl, HS0.out⟩
  case round =>
  obtain ⟨j, h4, rfl, rfl, hW⟩ := hrel
  by_cases hlt : j < 4
  · go_wp2_with (go_at_call 7; refine (stepNew _ (by omega) (by omega) hW.out (by omega)).mono ?_; rintro e w1 ⟨rfl, hb⟩)
    go_roundw
    case rel => exact ⟨j + 1, by omega, rfl, by go_num, hb⟩
    case measure => simp [intOf]; omega
  · go_wp2
    have HW4 : Hid (∃ m, m ≤ 4 ∧ Goes w _ w.heap.size m) := ⟨j, h4, hW.out⟩
    clear h4 hlt HS0 hW
    go_loopw [6, 8] (fun ok k wr => ∃ j n : Nat, 1 ≤ j ∧ j ≤ 11 ∧ n ≤ j + 3 ∧ ok = .bool true ∧ k = .int .i64 j ∧ Hid (Goes w wr w.heap.size n)) (fun _ k _ => 11 - (intOf k).toNat)
    case atStart =>
      obtain ⟨m, hm, hG⟩ := HW4.out
      exact ⟨1, m, by omega, by omega, by omega, rfl, rfl, hG⟩
    case round =>
    clear HW4
    obtain ⟨j, n, h1, h11, hn, rfl, rfl, hW⟩ := hrel
    by_cases hlt : j < 11
    · by_cases h4 : j = 4
      · subst h4
        go_wp2
        go_roundw
        case rel => exact ⟨5, n, by omega, by omega, by omega, rfl, rfl, hW⟩
        case measure => simp [intOf]
      · have h4b : ((j : Int) != 4) = true := by simp; omega
        go_wp2_with (go_at_call 7; refine (stepFirst2 _ (by omega) (by omega) hW.out (by omega)).mono ?_; rintro e w1 ⟨rfl, hb⟩)
        go_roundw
        case rel => exact ⟨j + 1, n + 1, by omega, by omega, by omega, rfl, by go_num, hb⟩
        case measure => simp [intOf]; omega
    · go_wp2
      have hn2 : n ≤ 14 := by omega
      clear h1 h11 hlt hn
      go_loopw [6, 9] (fun ok i wr => ∃ j n : Nat, j ≤ len ∧ n ≤ j + 14 ∧ ok = .bool true ∧ i = .int .i64 j ∧ Hid (Goes w wr w.heap.size n)) (fun _ i _ => len - (intOf i).toNat)
      case atStart => exact ⟨0, n, by omega, by omega, rfl, rfl, hW⟩
      case round =>
      clear hW hn2
      obtain ⟨i, n, hi, hn, rfl, rfl, hW⟩ := hrel
      obtain ⟨ov, c3⟩ := hW.out.over
      rcases ov with _ | _
      · by_cases hlt : i < len
        · have hr : Hid (World.rangeAt _ bs (off + i * 25) (O i).cells.toList) := range_below hbs hW.out.below (HC.out i hlt)
          have qk := range_kind hr.out
          by_cases hk : 10 < (O i).k
          · go_wp2
            go_roundw
            case rel => exact ⟨i + 1, n, by omega, by omega, rfl, by go_num, hW⟩
            case measure => simp [intOf]; omega
          · have hok := HO.out i hlt
            have hk3 : (O i).k ≤ 10 := by omega
            go_wp2_with (first
              | (go_at_call 7; refine (lstep (O i) hok hk3 hW.out (by omega)).mono ?_; rintro e w1 ⟨rfl, hb⟩; have HW1 : Hid (Goes w w1 w.heap.size (n + 1)) := hb; clear hb)
              | (go_at_call 8; refine (HW1.out.still).mono ?_; rintro e w2 ⟨rfl, hb2⟩; have HW2 : Hid (Goes w w2 w.heap.size (n + 1)) := hb2; clear hb2)
              | (refine wpList_load_mid rfl 45 _ rfl bs (off + i * 25) rfl (O i).cells.toList _ hr.out Tryz.underlying45 rfl (op_size (O i)) ?_))
            go_roundw
            case rel => exact ⟨i + 1, n + 1, by omega, by omega, rfl, by go_num, HW2⟩
            case measure => simp [intOf]; omega
        · go_wp2
          go_ret
          exact ⟨rfl, hW.out.below⟩
      · go_wp2
        go_ret
        exact ⟨rfl, hW.out.below⟩
end Go.Proofs.YtkehpnobidendaaGreatDoor

namespace Go.Proofs.YtkehpnobidendaaGreatDoor
open Go.RowKit

theorem stepFirst3 {w0 w : World} {q n : Nat} (k : Int) (h0 : 1 ≤ k) (h1 : k ≤ 11) (hg : Goes w0 w q n) (hn : n ≤ 100) :
    Calls Tryz.prog 7 #[.pointer (some ⟨q, 0, none⟩), .agg #[.int .i64 k, .int .i64 1, .int .i64 0, .int .i64 0, .string ⟨#[102, 105, 114, 115, 116]⟩, .int .u64 0, .int .i64 0, .int .i64 0, .int .i64 0, .int .i64 0, .int .i64 0, .int .u64 0, .int .u64 0, .int .u64 0, .int .u64 0, .int .u64 0, .string ⟨#[]⟩, .int .u64 0, .int .i64 0, .int .u64 0, .int .u64 0, .int .u64 0, .int .u64 0, .int .u64 0, .int .u64 0]] w fun e w' => e = .returned (.bool true) ∧ Goes w0 w' q (n + 1) :=
  lstep2 (opFirst k) (opFirst_ok2 k h0 (by omega)) (show k ≤ 12 by omega) hg (by omega)
set_option maxRecDepth 100000 in
set_option maxHeartbeats 2000000 in
theorem playedAll (bs off len cap : Nat) (O : Nat → OpD) (hO : ∀ j, j < len → (O j).Ok) (hl : len ≤ 658000000000) (w : World) (hbs : bs < w.heap.size)
    (hc : ∀ j, j < len → w.rangeAt bs (off + j * 25) (O j).cells.toList) (ht : Tab w) :
    Calls Tryz.prog 6 #[.slice (some ⟨bs, off, none⟩) len cap, .int .i64 12] w fun e w' => e = .returned (.bool true) ∧ Below w.heap.size w w' := by
  have HC : Hid (∀ j, j < len → w.rangeAt bs (off + j * 25) (O j).cells.toList) := hc
  have HO : Hid (∀ j, j < len → (O j).Ok) := hO
  have HST := sit_start w ht
  have HS0 : Hid (Goes w (w.alloc (.cells #[.slice none 0 0, .slice none 0 0, .slice none 0 0, .bool false, .slice none 0 0, .slice none 0 0, .slice none 0 0, .slice none 0 0, .int .i64 0] 34)) w.heap.size 0) := HST
  clear hc hO HST ht
  go_enter Tryz.func6, Tryz.ntmps6
  go_wp2
  go_loopw [6, 7] (fun ok k wr => ∃ j : Nat, j ≤ 4 ∧ ok = .bool true ∧ k = .int .i64 j ∧ Hid (Goes w wr w.heap.size j)) (fun _ k _ => 4 - (intOf k).toNat)
  case atStart => exact ⟨0, by omega, rfl, rfl, HS0.out⟩
  case round =>
  obtain ⟨j, h4, rfl, rfl, hW⟩ := hrel
  by_cases hlt : j < 4
  · go_wp2_with (go_at_call 7; refine (stepNew _ (by omega) (by omega) hW.out (by omega)).mono ?_; rintro e w1 ⟨rfl, hb⟩)
    go_roundw
    case rel => exact ⟨j + 1, by omega, rfl, by go_num, hb⟩
    case measure => simp [intOf]; omega
  · go_wp2
    have HW4 : Hid (∃ m, m ≤ 4 ∧ Goes w _ w.heap.size m) := ⟨j, h4, hW.out⟩
    clear h4 hlt HS0 hW
    go_loopw [6, 8] (fun ok k wr => ∃ j n : Nat, 1 ≤ j ∧ j ≤ 12 ∧ n ≤ j + 3 ∧ ok = .bool true ∧ k = .int .i64 j ∧ Hid (Goes w wr w.heap.size n)) (fun _ k _ => 12 - (intOf k).toNat)
    case atStart =>
      obtain ⟨m, hm, hG⟩ := HW4.out
      exact ⟨1, m, by omega, by omega, by omega, rfl, rfl, hG⟩
    case round =>
    clear HW4
    obtain ⟨j, n, h1, h11, hn, rfl, rfl, hW⟩ := hrel
    by_cases hlt : j < 12
    · by_cases h4 : j = 4
      · subst h4
        go_wp2
        go_roundw
        case rel => exact ⟨5, n, by omega, by omega, by omega, rfl, rfl, hW⟩
        case measure => simp [intOf]
      · have h4b : ((j : Int) != 4) = true := by simp; omega
        go_wp2_with (go_at_call 7; refine (stepFirst3 _ (by omega) (by omega) hW.out (by omega)).mono ?_; rintro e w1 ⟨rfl, hb⟩)
        go_roundw
        case rel => exact ⟨j + 1, n + 1, by omega, by omega, by omega, rfl, by go_num, hb⟩
        case measure => simp [intOf]; omega
    · go_wp2
      have hn2 : n ≤ 15 := by omega
      clear h1 h11 hlt hn
      go_loopw [6, 9] (fun ok i wr => ∃ j n : Nat, j ≤ len ∧ n ≤ j + 15 ∧ ok = .bool true ∧ i = .int .i64 j ∧ Hid (Goes w wr w.heap.size n)) (fun _ i _ => len - (intOf i).toNat)
      case atStart => exact ⟨0, n, by omega, by omega, rfl, rfl, hW⟩
      case round =>
      clear hW hn2
      obtain ⟨i, n, hi, hn, rfl, rfl, hW⟩ := hrel
      obtain ⟨ov, c3⟩ := hW.out.over
      rcases ov with _ | _
      · by_cases hlt : i < len
        · have hr : Hid (World.rangeAt _ bs (off + i * 25) (O i).cells.toList) := range_below hbs hW.out.below (HC.out i hlt)
          have qk := range_kind hr.out
          by_cases hk : 12 < (O i).k
          · go_wp2
            go_roundw
            case rel => exact ⟨i + 1, n, by omega, by omega, rfl, by go_num, hW⟩
            case measure => simp [intOf]; omega
          · have hok := HO.out i hlt
            have hk3 : (O i).k ≤ 12 := by omega
            go_wp2_with (first
              | (go_at_call 7; refine (lstep2 (O i) hok hk3 hW.out (by omega)).mono ?_; rintro e w1 ⟨rfl, hb⟩; have HW1 : Hid (Goes w w1 w.heap.size (n + 1)) := hb; clear hb)
              | (go_at_call 8; refine (HW1.out.still).mono ?_; rintro e w2 ⟨rfl, hb2⟩; have HW2 : Hid (Goes w w2 w.heap.size (n + 1)) := hb2; clear hb2)
              | (refine wpList_load_mid rfl 45 _ rfl bs (off + i * 25) rfl (O i).cells.toList _ hr.out Tryz.underlying45 rfl (op_size (O i)) ?_))
            go_roundw
            case rel => exact ⟨i + 1, n + 1, by omega, by omega, rfl, by go_num, HW2⟩
            case measure => simp [intOf]; omega
        · go_wp2
          go_ret
          exact ⟨rfl, hW.out.below⟩
      · go_wp2
        go_ret
        exact ⟨rfl, hW.out.below⟩
end Go.Proofs.YtkehpnobidendaaGreatDoor

namespace Go.Proofs.YtkehpnobidendaaGreatDoor
open Go.RowKit

set_option maxRecDepth 100000 in
set_option maxHeartbeats 2000000 in
theorem playedAll0 (a : Option Addr) (cap : Nat) (w : World) (ht : Tab w) :
    Calls Tryz.prog 6 #[.slice a 0 cap, .int .i64 12] w fun e w' => e = .returned (.bool true) ∧ Below w.heap.size w w' := by
  have HST := sit_start w ht
  have HS0 : Hid (Goes w (w.alloc (.cells #[.slice none 0 0, .slice none 0 0, .slice none 0 0, .bool false, .slice none 0 0, .slice none 0 0, .slice none 0 0, .slice none 0 0, .int .i64 0] 34)) w.heap.size 0) := HST
  clear HST ht
  go_enter Tryz.func6, Tryz.ntmps6
  go_wp2
  go_loopw [6, 7] (fun ok k wr => ∃ j : Nat, j ≤ 4 ∧ ok = .bool true ∧ k = .int .i64 j ∧ Hid (Goes w wr w.heap.size j)) (fun _ k _ => 4 - (intOf k).toNat)
  case atStart => exact ⟨0, by omega, rfl, rfl, HS0.out⟩
  case round =>
  obtain ⟨j, h4, rfl, rfl, hW⟩ := hrel
  by_cases hlt : j < 4
  · go_wp2_with (go_at_call 7; refine (stepNew _ (by omega) (by omega) hW.out (by omega)).mono ?_; rintro e w1 ⟨rfl, hb⟩)
    go_roundw
    case rel => exact ⟨j + 1, by omega, rfl, by go_num, hb⟩
    case measure => simp [intOf]; omega
  · go_wp2
    have HW4 : Hid (∃ m, m ≤ 4 ∧ Goes w _ w.heap.size m) := ⟨j, h4, hW.out⟩
    clear h4 hlt HS0 hW
    go_loopw [6, 8] (fun ok k wr => ∃ j n : Nat, 1 ≤ j ∧ j ≤ 12 ∧ n ≤ j + 3 ∧ ok = .bool true ∧ k = .int .i64 j ∧ Hid (Goes w wr w.heap.size n)) (fun _ k _ => 12 - (intOf k).toNat)
    case atStart =>
      obtain ⟨m, hm, hG⟩ := HW4.out
      exact ⟨1, m, by omega, by omega, by omega, rfl, rfl, hG⟩
    case round =>
    clear HW4
    obtain ⟨j, n, h1, h11, hn, rfl, rfl, hW⟩ := hrel
    by_cases hlt : j < 12
    · by_cases h4 : j = 4
      · subst h4
        go_wp2
        go_roundw
        case rel => exact ⟨5, n, by omega, by omega, by omega, rfl, rfl, hW⟩
        case measure => simp [intOf]
      · have h4b : ((j : Int) != 4) = true := by simp; omega
        go_wp2_with (go_at_call 7; refine (stepFirst3 _ (by omega) (by omega) hW.out (by omega)).mono ?_; rintro e w1 ⟨rfl, hb⟩)
        go_roundw
        case rel => exact ⟨j + 1, n + 1, by omega, by omega, by omega, rfl, by go_num, hb⟩
        case measure => simp [intOf]; omega
    · go_wp2
      clear h1 h11 hlt hn
      have HWn : Hid (∃ m, Goes w _ w.heap.size m) := ⟨n, hW.out⟩
      clear hW
      go_loopw [6, 9] (fun ok i wr => ok = .bool true ∧ i = .int .i64 0 ∧ Hid (∃ m, Goes w wr w.heap.size m)) (fun _ _ _ => 0)
      case atStart => exact ⟨rfl, rfl, HWn⟩
      case round =>
      clear HWn
      obtain ⟨rfl, rfl, hW⟩ := hrel
      obtain ⟨ov, c3⟩ : ∃ ov, wr.cell? ⟨w.heap.size, 3, none⟩ = some (.bool ov) := by
        obtain ⟨m, hG⟩ := hW.out
        exact hG.over
      have HB : Hid (Below w.heap.size w wr) := by
        obtain ⟨m, hG⟩ := hW.out
        exact hG.below
      rcases ov with _ | _
      · go_wp2
        go_ret
        exact ⟨rfl, HB.out⟩
      · go_wp2
        go_ret
        exact ⟨rfl, HB.out⟩
theorem allSome (bs off len cap : Nat) (O : Nat → OpD) (hO : ∀ j, j < len → (O j).Ok) (hl : len ≤ 658000000000) (w : World) (hbs : bs < w.heap.size)
    (hc : ∀ j, j < len → w.rangeAt bs (off + j * 25) (O j).cells.toList) (htab : Lib.TabIs Tryz.prog w "internal/strconv.uint64pow10" .u64 Lib.pow10Tab) :
    Calls Tryz.prog 5 #[.slice (some ⟨bs, off, none⟩) len cap] w fun e w' => e = .returned (.bool true) ∧ Below w.heap.size w w' := by
  have hp := playedAll bs off len cap O hO hl w hbs hc ⟨htab⟩
  clear hO hc htab
  go_enter Tryz.func5, Tryz.ntmps5
  go_wp2_with (go_at_call 6; refine hp.mono ?_; rintro e w1 ⟨rfl, hb⟩)
  go_ret
  exact ⟨rfl, hb⟩
theorem allNil (a : Option Addr) (cap : Nat) (w : World) (htab : Lib.TabIs Tryz.prog w "internal/strconv.uint64pow10" .u64 Lib.pow10Tab) :
    Calls Tryz.prog 5 #[.slice a 0 cap] w fun e w' => e = .returned (.bool true) ∧ Below w.heap.size w w' := by
  have hp := playedAll0 a cap w ⟨htab⟩
  clear htab
  go_enter Tryz.func5, Tryz.ntmps5
  go_wp2_with (go_at_call 6; refine hp.mono ?_; rintro e w1 ⟨rfl, hb⟩)
  go_ret
  exact ⟨rfl, hb⟩
end Go.Proofs.YtkehpnobidendaaGreatDoor
