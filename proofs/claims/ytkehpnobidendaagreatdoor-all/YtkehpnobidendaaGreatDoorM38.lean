/- The program's takeProposal with a vote. The program's take. The program's Handle. What a call leaves of a member's lists, however long the script: it proposes once a view, so its blocks are no more than the calls and a thousand. No program in it. The law's whole situation: its record, the lists that are kept, the members of both sides, all apart in memory (SitA); what a step makes of it. The law's plain at New: both sides answer alike; a member more is kept. The law's plain at New, walked. -/
import Derived.Test.YtkehpnobidendaaGreatDoorM36
import Derived.Test.YtkehpnobidendaaGreatDoorM37
import Derived.Test.YtkehpnobidendaaGreatDoorM26
import Derived.Test.YtkehpnobidendaaGreatDoorM05
namespace Go.Proofs.YtkehpnobidendaaGreatDoor
open Go.RowKit Go.Maps Go.Conc

attribute [local go_sem ↓] pload_msg
set_option maxRecDepth 100000 in
set_option maxHeartbeats 4000000 in
theorem ptakePropY (w : World) (p c : Nat) (S : Nat → Prop) (m : Mem) (h : PMem w p S m) (hc : OutB w c []) (hcs : ¬ S c) (hc0 : c ≠ 0) (hi : Inv m) (h2 : Inv2 m) (x : Msg) (hx : x.block.Ok) (hf : m.faultP x = 0) (hag : (m.learns x.block).agrees x.block = true) (hlog : m.log.length + m.blocks.length + 2 ≤ 1700000000000) :
    Calls Tryz.prog 77 #[.pointer (some ⟨p, 0, none⟩), .agg x.cells.toArray, .chan (some c)] w fun e w' => e = .returned (.int .i64 0) ∧ ∃ S', PMem w' p S' (({ m.learns x.block with voted := x.view } : Mem).enter (if x.view < 1000 then x.view + 1 else x.view)) ∧ OutB w' c [m.voteLtr x.view x.block.num] ∧ Grow S w S' ∧ Fr (fun k => S k ∨ k = c) w w' := by
  obtain ⟨W0, hW0⟩ : ∃ W, W = w.alloc (.cells x.cells.toArray 43) := ⟨_, rfl⟩
  have HB0 : Hid (Below w.heap.size w W0) := by rw [hW0]; exact below_alloc _ _
  have HX0 : Hid (W0.heap[w.heap.size]? = some (.cells x.cells.toArray 43 (0, 0))) := by rw [hW0]; exact heap_alloc_new _ _
  have hld : (rowVar 43 ⟨w.heap.size, 0, none⟩).run Tryz.prog W0 = .ok (.agg x.cells.toArray) W0 := rowVar_whole W0 w.heap.size 43 43 x.cells.toArray (0, 0) _ HX0.out Tryz.underlying43 rfl (by kernel_rfl)
  have HFV : Hid (Calls Tryz.prog 95 #[.pointer (some ⟨p, 0, none⟩), .agg x.cells.toArray] W0 fun e w' => e = .returned (.int .i64 (m.faultP x)) ∧ Below W0.heap.size W0 w') := pfaultP W0 p S m (h.below HB0.out) x hx
  rw [hf] at HFV
  obtain ⟨h1, h3, h4, h5, h6, h7⟩ := prop_fine hf
  have hh : Held m x.block.just := ⟨h3.1, hx.j, h4⟩
  have hk : Inv (m.knows x.block) := inv_knows hi x.block hh ⟨by omega, by omega, hx, h1.2.2.2.2⟩
  have hk2 := inv2_knows hi h2 x.block
  have hhk : Held (m.knows x.block) x.block.just := hh.of_blocks fun n b hb => knows_keeps hb
  have hlk := knows_len m x.block
  have hll := (knows_lists m x.block).2.2
  have hLi : Inv (m.learns x.block) := inv_learn hk _ hhk
  have hLb : (m.learns x.block).blocks = (m.knows x.block).blocks := (learn_keeps _ _).b
  have hLv : (m.learns x.block).view = m.view := by
    have e1 := (learn_keeps (m.knows x.block) x.block.just).v
    have e2 : (m.knows x.block).view = m.view := by unfold Mem.knows; split <;> rfl
    exact e1.trans e2
  have HKN : Hid (∀ W, PMem W p S m → Calls Tryz.prog 62 #[.pointer (some ⟨p, 0, none⟩), .agg x.block.cells.toArray] W fun e w' => e = .returned (.tuple #[]) ∧ PMem w' p S (m.knows x.block) ∧ Fr S W w') := fun W hW => pknow W p S m hW x.block hx (by omega)
  have HLE : Hid (∀ W, PMem W p S (m.knows x.block) → Calls Tryz.prog 96 #[.pointer (some ⟨p, 0, none⟩), .agg x.block.just.cells.toArray] W fun e w' => e = .returned (.tuple #[]) ∧ ∃ S', PMem w' p S' (m.learns x.block) ∧ Grow S W S' ∧ Fr S W w') := fun W hW => plearn W p S (m.knows x.block) hW hk hk2.up _ hhk (by rw [hll]; omega)
  have HAG : Hid (∀ W S', PMem W p S' (m.learns x.block) → Calls Tryz.prog 97 #[.pointer (some ⟨p, 0, none⟩), .agg x.block.cells.toArray] W fun e w' => e = .returned (.bool true) ∧ Below W.heap.size W w') := fun W S' hW => by have := pagrees W p S' (m.learns x.block) hW hLi x.block hx.j.b1; rw [show ((m.learns x.block).above (m.learns x.block).locked.block ((m.learns x.block).blocks.length + 1) x.block.just.block || decide ((m.learns x.block).locked.view < x.block.just.view)) = true from hag] at this; exact this
  have HEN : Hid (∀ W S', PMem W p S' ({ m.learns x.block with voted := x.view } : Mem) → Calls Tryz.prog 57 #[.pointer (some ⟨p, 0, none⟩), .int .i64 (if x.view < 1000 then x.view + 1 else x.view)] W fun e w' => e = .returned (.tuple #[]) ∧ PMem w' p S' (({ m.learns x.block with voted := x.view } : Mem).enter (if x.view < 1000 then x.view + 1 else x.view)) ∧ Fr S' W w') := fun W S' hW => penter W p S' _ hW _ (by split <;> omega) (by split <;> omega) (by show (m.learns x.block).view ≤ _; rw [hLv]; split <;> omega)
  have hwr : IntKind.i64.wrap (x.view + 1) = x.view + 1 := by rw [IntKind.wrap_i64]; omega
  have hid : (m.learns x.block).id = m.id := by
    have e1 := (learn_keeps (m.knows x.block) x.block.just).i
    have e2 : (m.knows x.block).id = m.id := by unfold Mem.knows; split <;> rfl
    exact e1.trans e2
  have HVL : Hid (∀ W S', PMem W p S' ({ m.learns x.block with voted := x.view } : Mem) → Calls Tryz.prog 98 #[.pointer (some ⟨p, 0, none⟩), .int .i64 x.view, .int .u64 x.block.num] W fun e w' => e = .returned (.agg (m.voteLtr x.view x.block.num).cells.toArray) ∧ Below W.heap.size W w') := fun W S' hW => by
    have := pvoteLetter W p S' ({ m.learns x.block with voted := x.view } : Mem) hW x.view x.block.num (num_lt _) (by show 0 ≤ (m.learns x.block).id; rw [hid]; exact hi.i0) (by show (m.learns x.block).id ≤ 3; rw [hid]; exact hi.i1) (by omega) (by omega)
    rw [show ({ m.learns x.block with voted := x.view } : Mem).voteLtr x.view x.block.num = m.voteLtr x.view x.block.num by unfold Mem.voteLtr; rw [show ({ m.learns x.block with voted := x.view } : Mem).id = m.id from hid]] at this
    exact this
  have HNU : Hid (∀ W, Tab W → Calls Tryz.prog 26 #[.agg x.block.cells.toArray] W fun e w' => e = .returned (.int .u64 x.block.num) ∧ Below W.heap.size W w') := fun W hW => pnum x.block hx hx.c1 W hW
  obtain ⟨ve, hve⟩ : ∃ v, v = (if x.view < 1000 then x.view + 1 else x.view) := ⟨_, rfl⟩
  have hmin : (if x.view + 1 < 1000 then x.view + 1 else 1000) = ve := by rw [hve]; split <;> split <;> omega
  have hmin2 : min (x.view + 1) 1000 = ve := by rw [hve]; split <;> omega
  rw [← hve] at HEN ⊢
  have HP : Hid (PMem w p S m) := h
  have HC : Hid (OutB w c []) := hc
  have HLT : Hid (¬ S w.heap.size) := fun hh => by have := h.lt _ hh; omega
  have HSET : Hid (∀ W S', PMem W p S' (m.learns x.block) → PMem (W.setCell ⟨p, 4, none⟩ (.int .i64 x.view)) p S' ({ m.learns x.block with voted := x.view } : Mem)) := fun W S' hW => hW.set { m.learns x.block with voted := x.view } 4 _ (fun _ _ _ _ _ => rfl) rfl rfl rfl rfl rfl (Int.le_refl _) (Int.le_refl _)
  clear h hc hi h2 hf hag hlog h1 h3 h4 h5 h6 h7 hh hk hk2 hhk hlk hll hLi hLb hLv hve hid
  obtain ⟨mk, hmk⟩ : ∃ y, y = m.knows x.block := ⟨_, rfl⟩
  rw [← hmk] at HKN HLE
  obtain ⟨mv, hmv⟩ : ∃ y : Mem, y = { m.learns x.block with voted := x.view } := ⟨_, rfl⟩
  rw [← hmv] at HEN HVL HSET ⊢
  obtain ⟨ml, hml⟩ : ∃ y, y = m.learns x.block := ⟨_, rfl⟩
  rw [← hml] at HLE HAG HSET
  obtain ⟨nb, hnb⟩ : ∃ y, y = x.block.num := ⟨_, rfl⟩
  rw [← hnb] at HVL HNU ⊢
  obtain ⟨lt, hlt⟩ : ∃ y, y = m.voteLtr x.view nb := ⟨_, rfl⟩
  rw [← hlt] at HVL ⊢
  clear hmk hml hmv hnb hlt hx
  obtain ⟨xk, xf, xv, ⟨bv, ⟨jv, jb, j0, j1, j2, j3⟩, bc⟩, nu, ⟨cv, cb, k0, k1, k2, k3⟩, sl⟩ := x
  dsimp only [Msg.cells, Blk.cells, Crt.cells] at *
  refine calls_of_wn Tryz.func77 rfl ?_
  simp only [Tryz.ntmps77, List.size_toArray, List.length_cons, List.length_nil, Nat.reduceAdd, Nat.reduceSub, Array.replicate_succ, Array.replicate_zero, List.push_toArray, List.append_toArray, List.nil_append, List.cons_append]
  refine WN.seq_wp (fun K hK => ?_)
  go_wp2
  rw [← hW0]
  clear hW0
  refine WN.seq_wp (fun K hK => ?_)
  go_wp2_with (go_at_call 95; refine HFV.out.mono ?_; rintro e w1 ⟨rfl, hb1⟩)
  have hB1 : Below w.heap.size w w1 := bnext HB0.out hb1
  have HM1 : Hid (w1.heap[w.heap.size]? = some (.cells #[.int .i64 xk, .int .i64 xf, .int .i64 xv, .int .i64 bv, .int .i64 jv, .int .u64 jb, .int .u64 j0, .int .u64 j1, .int .u64 j2, .int .u64 j3, .string bc, .int .u64 nu, .int .i64 cv, .int .u64 cb, .int .u64 k0, .int .u64 k1, .int .u64 k2, .int .u64 k3, .int .u64 sl] 43 (0, 0))) := (hb1.block _ (lt_at HX0.out)).trans HX0.out
  have HP1 : Hid (PMem w1 p S m) := HP.out.below hB1
  have HF1 : Hid (Fr S w w1) := Fr.of_below hB1
  clear hb1 hB1 HFV HX0 HB0 hld
  have z2 : w1.cell? ⟨w.heap.size, 2, none⟩ = some (.int .i64 xv) := cell_at HM1.out 2
  have z3 : w1.cell? ⟨w.heap.size, 3, none⟩ = some (.int .i64 bv) := cell_at HM1.out 3
  have z4 : w1.cell? ⟨w.heap.size, 4, none⟩ = some (.int .i64 jv) := cell_at HM1.out 4
  have z5 : w1.cell? ⟨w.heap.size, 5, none⟩ = some (.int .u64 jb) := cell_at HM1.out 5
  have z6 : w1.cell? ⟨w.heap.size, 6, none⟩ = some (.int .u64 j0) := cell_at HM1.out 6
  have z7 : w1.cell? ⟨w.heap.size, 7, none⟩ = some (.int .u64 j1) := cell_at HM1.out 7
  have z8 : w1.cell? ⟨w.heap.size, 8, none⟩ = some (.int .u64 j2) := cell_at HM1.out 8
  have z9 : w1.cell? ⟨w.heap.size, 9, none⟩ = some (.int .u64 j3) := cell_at HM1.out 9
  have z10 : w1.cell? ⟨w.heap.size, 10, none⟩ = some (.string bc) := cell_at HM1.out 10
  refine WN.seq_wp (fun K hK => ?_)
  go_wp2_with (go_at_call 62; refine (HKN.out _ HP1.out).mono ?_; rintro e w2 ⟨rfl, hp2, hf2⟩)
  have HM2 : Hid (w2.heap[w.heap.size]? = some (.cells #[.int .i64 xk, .int .i64 xf, .int .i64 xv, .int .i64 bv, .int .i64 jv, .int .u64 jb, .int .u64 j0, .int .u64 j1, .int .u64 j2, .int .u64 j3, .string bc, .int .u64 nu, .int .i64 cv, .int .u64 cb, .int .u64 k0, .int .u64 k1, .int .u64 k2, .int .u64 k3, .int .u64 sl] 43 (0, 0))) := (hf2.block _ (lt_at HM1.out) HLT.out).trans HM1.out
  have HP2 : Hid (PMem w2 p S mk) := hp2
  have HF2 : Hid (Fr S w w2) := HF1.out.trans hf2 (fun _ h => .inl h)
  clear z2 z3 z4 z5 z6 z7 z8 z9 z10 hp2 hf2 HM1 HP1 HF1
  have z2 : w2.cell? ⟨w.heap.size, 2, none⟩ = some (.int .i64 xv) := cell_at HM2.out 2
  have z3 : w2.cell? ⟨w.heap.size, 3, none⟩ = some (.int .i64 bv) := cell_at HM2.out 3
  have z4 : w2.cell? ⟨w.heap.size, 4, none⟩ = some (.int .i64 jv) := cell_at HM2.out 4
  have z5 : w2.cell? ⟨w.heap.size, 5, none⟩ = some (.int .u64 jb) := cell_at HM2.out 5
  have z6 : w2.cell? ⟨w.heap.size, 6, none⟩ = some (.int .u64 j0) := cell_at HM2.out 6
  have z7 : w2.cell? ⟨w.heap.size, 7, none⟩ = some (.int .u64 j1) := cell_at HM2.out 7
  have z8 : w2.cell? ⟨w.heap.size, 8, none⟩ = some (.int .u64 j2) := cell_at HM2.out 8
  have z9 : w2.cell? ⟨w.heap.size, 9, none⟩ = some (.int .u64 j3) := cell_at HM2.out 9
  have z10 : w2.cell? ⟨w.heap.size, 10, none⟩ = some (.string bc) := cell_at HM2.out 10
  refine WN.seq_wp (fun K hK => ?_)
  go_wp2_with (go_at_call 96; refine (HLE.out _ HP2.out).mono ?_; rintro e w3 ⟨rfl, S3, hp3, hg3, hf3⟩)
  have HM3 : Hid (w3.heap[w.heap.size]? = some (.cells #[.int .i64 xk, .int .i64 xf, .int .i64 xv, .int .i64 bv, .int .i64 jv, .int .u64 jb, .int .u64 j0, .int .u64 j1, .int .u64 j2, .int .u64 j3, .string bc, .int .u64 nu, .int .i64 cv, .int .u64 cb, .int .u64 k0, .int .u64 k1, .int .u64 k2, .int .u64 k3, .int .u64 sl] 43 (0, 0))) := (hf3.block _ (lt_at HM2.out) HLT.out).trans HM2.out
  have HP3 : Hid (PMem w3 p S3 ml) := hp3
  have HG3 : Hid (Grow S w S3) := fun k hk => (hg3 k hk).elim .inl (fun h => .inr (Nat.le_trans HF2.out.size h))
  have HF3 : Hid (Fr S w w3) := HF2.out.trans hf3 (fun _ h => .inl h)
  clear z2 z3 z4 z5 z6 z7 z8 z9 z10 hp3 hg3 hf3 HM2 HP2 HF2
  have z2 : w3.cell? ⟨w.heap.size, 2, none⟩ = some (.int .i64 xv) := cell_at HM3.out 2
  have z3 : w3.cell? ⟨w.heap.size, 3, none⟩ = some (.int .i64 bv) := cell_at HM3.out 3
  have z4 : w3.cell? ⟨w.heap.size, 4, none⟩ = some (.int .i64 jv) := cell_at HM3.out 4
  have z5 : w3.cell? ⟨w.heap.size, 5, none⟩ = some (.int .u64 jb) := cell_at HM3.out 5
  have z6 : w3.cell? ⟨w.heap.size, 6, none⟩ = some (.int .u64 j0) := cell_at HM3.out 6
  have z7 : w3.cell? ⟨w.heap.size, 7, none⟩ = some (.int .u64 j1) := cell_at HM3.out 7
  have z8 : w3.cell? ⟨w.heap.size, 8, none⟩ = some (.int .u64 j2) := cell_at HM3.out 8
  have z9 : w3.cell? ⟨w.heap.size, 9, none⟩ = some (.int .u64 j3) := cell_at HM3.out 9
  have z10 : w3.cell? ⟨w.heap.size, 10, none⟩ = some (.string bc) := cell_at HM3.out 10
  refine WN.seq ?_
  refine WN.seq_wp (fun K hK => ?_)
  go_wp2_with (go_at_call 97; refine (HAG.out _ S3 HP3.out).mono ?_; rintro e w4 ⟨rfl, hb4⟩)
  have HM4 : Hid (w4.heap[w.heap.size]? = some (.cells #[.int .i64 xk, .int .i64 xf, .int .i64 xv, .int .i64 bv, .int .i64 jv, .int .u64 jb, .int .u64 j0, .int .u64 j1, .int .u64 j2, .int .u64 j3, .string bc, .int .u64 nu, .int .i64 cv, .int .u64 cb, .int .u64 k0, .int .u64 k1, .int .u64 k2, .int .u64 k3, .int .u64 sl] 43 (0, 0))) := (hb4.block _ (lt_at HM3.out)).trans HM3.out
  have HP4 : Hid (PMem w4 p S3 ml) := HP3.out.below hb4
  have HF4 : Hid (Fr S w w4) := HF3.out.trans (Fr.of_below hb4) (fun _ h => .inl h)
  clear z2 z3 z4 z5 z6 z7 z8 z9 z10 hb4 HM3 HP3 HF3
  have z2 : w4.cell? ⟨w.heap.size, 2, none⟩ = some (.int .i64 xv) := cell_at HM4.out 2
  have z3 : w4.cell? ⟨w.heap.size, 3, none⟩ = some (.int .i64 bv) := cell_at HM4.out 3
  have z4 : w4.cell? ⟨w.heap.size, 4, none⟩ = some (.int .i64 jv) := cell_at HM4.out 4
  have z5 : w4.cell? ⟨w.heap.size, 5, none⟩ = some (.int .u64 jb) := cell_at HM4.out 5
  have z6 : w4.cell? ⟨w.heap.size, 6, none⟩ = some (.int .u64 j0) := cell_at HM4.out 6
  have z7 : w4.cell? ⟨w.heap.size, 7, none⟩ = some (.int .u64 j1) := cell_at HM4.out 7
  have z8 : w4.cell? ⟨w.heap.size, 8, none⟩ = some (.int .u64 j2) := cell_at HM4.out 8
  have z9 : w4.cell? ⟨w.heap.size, 9, none⟩ = some (.int .u64 j3) := cell_at HM4.out 9
  have z10 : w4.cell? ⟨w.heap.size, 10, none⟩ = some (.string bc) := cell_at HM4.out 10
  refine WN.cond (t := true) rfl ?_
  simp only [if_true]
  have hs4 := HP4.out.see
  have g4 := hs4.c4
  have gf := hs4.fz
  have gl := hs4.lt
  clear hs4
  refine WN.seq_wp (fun K hK => ?_)
  go_wp2
  obtain ⟨W5, hW5⟩ : ∃ W, W = w4.setCell ⟨p, 4, none⟩ (.int .i64 xv) := ⟨_, rfl⟩
  rw [← hW5]
  have hne : w.heap.size ≠ p := fun e => HLT.out (by rw [e]; exact HP.out.sp)
  have HP5 : Hid (PMem W5 p S3 mv) := by rw [hW5]; exact HSET.out w4 S3 HP4.out
  have HM5 : Hid (W5.heap[w.heap.size]? = some (.cells #[.int .i64 xk, .int .i64 xf, .int .i64 xv, .int .i64 bv, .int .i64 jv, .int .u64 jb, .int .u64 j0, .int .u64 j1, .int .u64 j2, .int .u64 j3, .string bc, .int .u64 nu, .int .i64 cv, .int .u64 cb, .int .u64 k0, .int .u64 k1, .int .u64 k2, .int .u64 k3, .int .u64 sl] 43 (0, 0))) := by rw [hW5]; exact (heap_store_ne _ hne).trans HM4.out
  have HF5 : Hid (Fr S w W5) := by rw [hW5]; exact HF4.out.trans (Fr.setCell w4 (S := S) HP.out.sp _) (fun _ h => .inl h)
  clear z2 z3 z4 z5 z6 z7 z8 z9 z10 g4 gf gl hne hW5 HM4 HP4 HF4
  have HC5 : Hid (OutB W5 c []) := HC.out.fr HF5.out hcs
  have HCEL : Hid (∀ W, Below W5.heap.size W5 W → W.heap[w.heap.size]? = some (.cells #[.int .i64 xk, .int .i64 xf, .int .i64 xv, .int .i64 bv, .int .i64 jv, .int .u64 jb, .int .u64 j0, .int .u64 j1, .int .u64 j2, .int .u64 j3, .string bc, .int .u64 nu, .int .i64 cv, .int .u64 cb, .int .u64 k0, .int .u64 k1, .int .u64 k2, .int .u64 k3, .int .u64 sl] 43 (0, 0))) := fun W hW => (hW.block _ (lt_at HM5.out)).trans HM5.out
  refine WN.region_draw (fun t => ?_)
  refine RS.sched9 (C := fun W => Below W5.heap.size W5 W) (A := (fun b0 b1 b2 b3 b4 b5 b6 b7 => { tmps := #[.pointer (some ⟨p, 0, none⟩), .agg #[.int .i64 xk, .int .i64 xf, .int .i64 xv, .int .i64 bv, .int .i64 jv, .int .u64 jb, .int .u64 j0, .int .u64 j1, .int .u64 j2, .int .u64 j3, .string bc, .int .u64 nu, .int .i64 cv, .int .u64 cb, .int .u64 k0, .int .u64 k1, .int .u64 k2, .int .u64 k3, .int .u64 sl], .chan (some c), undef, .pointer (some ⟨w.heap.size, 0, none⟩), undef, .int .i64 0, .int .i64 0, .pointer (some ⟨p, 0, none⟩), .agg #[.int .i64 xk, .int .i64 xf, .int .i64 xv, .int .i64 bv, .int .i64 jv, .int .u64 jb, .int .u64 j0, .int .u64 j1, .int .u64 j2, .int .u64 j3, .string bc, .int .u64 nu, .int .i64 cv, .int .u64 cb, .int .u64 k0, .int .u64 k1, .int .u64 k2, .int .u64 k3, .int .u64 sl], .int .i64 0, .int .i64 0, .bool false, undef, .pointer (some ⟨p, 0, none⟩), .pointer (some ⟨w.heap.size, 3, none⟩), .agg #[.int .i64 bv, .int .i64 jv, .int .u64 jb, .int .u64 j0, .int .u64 j1, .int .u64 j2, .int .u64 j3, .string bc], .tuple #[], .pointer (some ⟨p, 0, none⟩), .pointer (some ⟨w.heap.size, 3, none⟩), .pointer (some ⟨w.heap.size, 4, none⟩), .agg #[.int .i64 jv, .int .u64 jb, .int .u64 j0, .int .u64 j1, .int .u64 j2, .int .u64 j3], .tuple #[], .pointer (some ⟨p, 0, none⟩), .pointer (some ⟨w.heap.size, 3, none⟩), .agg #[.int .i64 bv, .int .i64 jv, .int .u64 jb, .int .u64 j0, .int .u64 j1, .int .u64 j2, .int .u64 j3, .string bc], .bool true, .pointer (some ⟨p, 0, none⟩), .pointer (some ⟨w.heap.size, 2, none⟩), .int .i64 xv, .pointer (some ⟨p, 0, none⟩), .pointer (some ⟨p, 4, none⟩), cond b0 (.chan (some c)) undef, cond b1 (.pointer (some ⟨p, 0, none⟩)) undef, cond b2 (.pointer (some ⟨w.heap.size, 2, none⟩)) undef, cond b3 (.int .i64 xv) undef, cond b4 (.pointer (some ⟨w.heap.size, 3, none⟩)) undef, cond b5 (.agg #[.int .i64 bv, .int .i64 jv, .int .u64 jb, .int .u64 j0, .int .u64 j1, .int .u64 j2, .int .u64 j3, .string bc]) undef, cond b6 (.int .u64 nb) undef, cond b7 (.agg lt.cells.toArray) undef, undef, undef, undef, undef, undef, undef], defers := [] })) ?hr ?s0 ?s1 ?s2 ?s3 ?s4 ?s5 ?s6 ?s7 ?s8 9 t false false false false false false false false _ rfl ⟨(fun h => by cases h), (fun h => by cases h), (fun h => by cases h), (fun h => by cases h)⟩ (Below.refl _ _).drew
  case hr =>
    intro b0 b1 b2 b3 b4 b5 b6 b7
    refine List.filter_congr (fun i hi => ?_)
    have hi9 : i < 9 := List.mem_range.1 hi
    rcases (by omega : i = 0 ∨ i = 1 ∨ i = 2 ∨ i = 3 ∨ i = 4 ∨ i = 5 ∨ i = 6 ∨ i = 7 ∨ i = 8) with rfl | rfl | rfl | rfl | rfl | rfl | rfl | rfl | rfl <;> first | (simp [Region.binds]; done) | simp [Region.binds, Bool.and_assoc]
  case s0 =>
    intro rest b1 b2 b3 b4 b5 b6 b7 W hW hK
    refine RS.value (o := _) (d := some 32) (v := .chan (some c)) (w' := W) rfl rfl rfl (rfl) ?_
    exact hK W hW
  case s1 =>
    intro rest b0 b2 b3 b4 b5 b6 b7 W hW hK
    refine RS.value (o := _) (d := some 33) (v := .pointer (some ⟨p, 0, none⟩)) (w' := W) rfl rfl rfl (rfl) ?_
    exact hK W hW
  case s2 =>
    intro rest b0 b1 b3 b4 b5 b6 b7 W hW hK
    refine RS.value (o := _) (d := some 34) (v := .pointer (some ⟨w.heap.size, 2, none⟩)) (w' := W) rfl rfl rfl (by go_simp) ?_
    exact hK W hW
  case s3 =>
    intro rest b0 b1 b4 b5 b6 b7 W hW hK
    have z2 : W.cell? ⟨w.heap.size, 2, none⟩ = some (.int .i64 xv) := cell_at (HCEL.out W hW) 2
    refine RS.value (o := _) (d := some 35) (v := .int .i64 xv) (w' := W) rfl rfl rfl (by go_simp) ?_
    exact hK W hW
  case s4 =>
    intro rest b0 b1 b2 b3 b5 b6 b7 W hW hK
    refine RS.value (o := _) (d := some 36) (v := .pointer (some ⟨w.heap.size, 3, none⟩)) (w' := W) rfl rfl rfl (by go_simp) ?_
    exact hK W hW
  case s5 =>
    intro rest b0 b1 b2 b3 b6 b7 W hW hK
    have z2 : W.cell? ⟨w.heap.size, 2, none⟩ = some (.int .i64 xv) := cell_at (HCEL.out W hW) 2
    have z3 : W.cell? ⟨w.heap.size, 3, none⟩ = some (.int .i64 bv) := cell_at (HCEL.out W hW) 3
    have z4 : W.cell? ⟨w.heap.size, 4, none⟩ = some (.int .i64 jv) := cell_at (HCEL.out W hW) 4
    have z5 : W.cell? ⟨w.heap.size, 5, none⟩ = some (.int .u64 jb) := cell_at (HCEL.out W hW) 5
    have z6 : W.cell? ⟨w.heap.size, 6, none⟩ = some (.int .u64 j0) := cell_at (HCEL.out W hW) 6
    have z7 : W.cell? ⟨w.heap.size, 7, none⟩ = some (.int .u64 j1) := cell_at (HCEL.out W hW) 7
    have z8 : W.cell? ⟨w.heap.size, 8, none⟩ = some (.int .u64 j2) := cell_at (HCEL.out W hW) 8
    have z9 : W.cell? ⟨w.heap.size, 9, none⟩ = some (.int .u64 j3) := cell_at (HCEL.out W hW) 9
    have z10 : W.cell? ⟨w.heap.size, 10, none⟩ = some (.string bc) := cell_at (HCEL.out W hW) 10
    refine RS.value (o := _) (d := some 37) (v := .agg #[.int .i64 bv, .int .i64 jv, .int .u64 jb, .int .u64 j0, .int .u64 j1, .int .u64 j2, .int .u64 j3, .string bc]) (w' := W) rfl rfl rfl (by go_simp) ?_
    exact hK W hW
  case s6 =>
    intro rest b0 b1 b2 b3 b4 b7 W hW hK
    refine RS.call (o := _) (f := 26) (d := some 38) (args := #[.agg #[.int .i64 bv, .int .i64 jv, .int .u64 jb, .int .u64 j0, .int .u64 j1, .int .u64 j2, .int .u64 j3, .string bc]]) (w' := W) rfl rfl rfl (by go_simp) ?_
    refine (HNU.out W (HP5.out.below hW).tab).mono ?_
    rintro e W' ⟨rfl, hb'⟩
    exact ⟨_, rfl, hK W' (bnext hW hb')⟩
  case s7 =>
    intro rest b0 b2 b4 b5 W hW hK
    refine RS.call (o := _) (f := 98) (d := some 39) (args := #[.pointer (some ⟨p, 0, none⟩), .int .i64 xv, .int .u64 nb]) (w' := W) rfl rfl rfl (by go_simp) ?_
    refine (HVL.out W S3 (HP5.out.below hW)).mono ?_
    rintro e W' ⟨rfl, hb'⟩
    exact ⟨_, rfl, hK W' (bnext hW hb')⟩
  case s8 =>
    intro W hW
    obtain ⟨s, r, hch⟩ := (HC5.out.below hW).ex
    refine RS.send (o := _) (c := c) (w' := W) (z := .tuple #[]) (v := .agg lt.cells.toArray) (d := none) rfl rfl rfl rfl hch (by simp) (RS.nil ?_)
    have hFs := Fr.setChan (S := fun k => k = c) W rfl 2 ((([] : List Ltr).map Ltr.val).toArray.push (Value.agg lt.cells.toArray)) false (s + 1) r false
    have hcn : ¬ S3 c := fun hh => by
      rcases HG3.out c hh with h1 | h1
      · exact hcs h1
      · have := HC.out.lt; omega
    have HP6 : Hid (PMem (W.setChan c 2 ((([] : List Ltr).map Ltr.val).toArray.push (Value.agg lt.cells.toArray)) false (s + 1) r false) p S3 mv) := (HP5.out.below hW).fr hFs (fun k hk e => hcn (e ▸ hk)) (fun e => hc0 e.symm)
    have HO6 : Hid (OutB (W.setChan c 2 ((([] : List Ltr).map Ltr.val).toArray.push (Value.agg lt.cells.toArray)) false (s + 1) r false) c [lt]) := ⟨s + 1, r, heap_setChan W c _ _ _ _ _ _ (HC5.out.below hW).lt⟩
    have HF6 : Hid (Fr (fun k => S k ∨ k = c) w (W.setChan c 2 ((([] : List Ltr).map Ltr.val).toArray.push (Value.agg lt.cells.toArray)) false (s + 1) r false)) := ((HF5.out.trans (Fr.of_below (S := S) hW) (fun _ h => .inl h)).mono (fun _ h => .inl h)).trans hFs (fun i h => .inl (.inr h))
    have hmc : w.heap.size ≠ c := fun e => by have := HC.out.lt; omega
    have y2 : (W.setChan c 2 ((([] : List Ltr).map Ltr.val).toArray.push (Value.agg lt.cells.toArray)) false (s + 1) r false).cell? ⟨w.heap.size, 2, none⟩ = some (.int .i64 xv) := cell_at ((hFs.block _ (lt_at (HCEL.out W hW)) hmc).trans (HCEL.out W hW)) 2
    obtain ⟨W6, hW6⟩ : ∃ W6, W6 = W.setChan c 2 ((([] : List Ltr).map Ltr.val).toArray.push (Value.agg lt.cells.toArray)) false (s + 1) r false := ⟨_, rfl⟩
    rw [← hW6] at HP6 HO6 HF6 y2 ⊢
    clear hW6 hFs hch hmc
    refine WN.of_wp ?_
    go_frame
    go_wp2_with (go_at_call 57; refine (HEN.out _ S3 HP6.out).mono ?_; rintro e w7 ⟨rfl, hp7, hf7⟩)
    go_ret
    exact ⟨rfl, S3, hp7, HO6.out.fr hf7 hcn, HG3.out, HF6.out.trans hf7 (fun k hk => (HG3.out k hk).elim (fun h => .inl (.inl h)) .inr)⟩
end Go.Proofs.YtkehpnobidendaaGreatDoor

namespace Go.Proofs.YtkehpnobidendaaGreatDoor
open Go.RowKit Go.Maps Go.Conc

attribute [local go_sem ↓] pload_msg
/-- What is known of the lengths. -/
structure Small (m : Mem) : Prop where
  lb : m.log.length + m.blocks.length + 2 ≤ 1700000000000
  vt : m.votes.length ≤ 1700000000000
  ep : m.enters.length + m.proposed.length + 1 ≤ 1700000000000
theorem ptakeProp (w : World) (p c : Nat) (S : Nat → Prop) (m : Mem) (h : PMem w p S m) (hc : OutB w c []) (hcs : ¬ S c) (hc0 : c ≠ 0) (hi : Inv m) (h2 : Inv2 m) (x : Msg) (hx : x.block.Ok) (hs : Small m) :
    Calls Tryz.prog 77 #[.pointer (some ⟨p, 0, none⟩), .agg x.cells.toArray, .chan (some c)] w fun e w' => e = .returned (.int .i64 (m.proposal x).2.2) ∧ ∃ S', PMem w' p S' (m.proposal x).1 ∧ OutB w' c (m.proposal x).2.1 ∧ Grow S w S' ∧ Fr (fun k => S k ∨ k = c) w w' := by
  by_cases hf : m.faultP x = 0
  · obtain ⟨h1, h3, h4, h5, h6, h7⟩ := prop_fine hf
    rw [h7]
    dsimp only
    cases hag : (m.learns x.block).agrees x.block with
    | true =>
      have e : (((m.knows x.block).learn x.block.just).above ((m.knows x.block).learn x.block.just).locked.block (((m.knows x.block).learn x.block.just).blocks.length + 1) x.block.just.block || decide (((m.knows x.block).learn x.block.just).locked.view < x.block.just.view)) = true := hag
      rw [if_pos e]
      exact ptakePropY w p c S m h hc hcs hc0 hi h2 x hx hf hag hs.lb
    | false =>
      have e : ¬ (((m.knows x.block).learn x.block.just).above ((m.knows x.block).learn x.block.just).locked.block (((m.knows x.block).learn x.block.just).blocks.length + 1) x.block.just.block || decide (((m.knows x.block).learn x.block.just).locked.view < x.block.just.view)) = true := by
        have := hag
        unfold Mem.agrees Mem.learns at this
        rw [this]; simp
      rw [if_neg e]
      refine (ptakePropN w p c S m h hi h2 x hx hf hag hs.lb).mono ?_
      rintro e w' ⟨rfl, S', h1, h2, h3⟩
      exact ⟨rfl, S', h1, hc.fr h3 hcs, h2, h3.mono (fun _ h => .inl h)⟩
  · rw [prop_fault hf]
    refine (ptakePropF w p c S m h x hx hf).mono ?_
    rintro e w' ⟨rfl, hb⟩
    exact ⟨rfl, S, h.below hb, hc.below hb, Grow.refl _ _, Fr.of_below hb⟩
set_option maxRecDepth 100000 in
set_option maxHeartbeats 4000000 in
theorem ptake (w : World) (p c : Nat) (S : Nat → Prop) (m : Mem) (h : PMem w p S m) (hc : OutB w c []) (hcs : ¬ S c) (hc0 : c ≠ 0) (hi : Inv m) (h2 : Inv2 m) (x : Msg) (hx : x.Ok) (hs : Small m) :
    Calls Tryz.prog 65 #[.pointer (some ⟨p, 0, none⟩), .agg x.cells.toArray, .chan (some c)] w fun e w' => e = .returned (.int .i64 (m.takes x).2.2) ∧ ∃ S', PMem w' p S' (m.takes x).1 ∧ OutB w' c (m.takes x).2.1 ∧ Grow S w S' ∧ Fr (fun k => S k ∨ k = c) w w' := by
  obtain ⟨W0, hW0⟩ : ∃ W, W = w.alloc (.cells x.cells.toArray 43) := ⟨_, rfl⟩
  have hB0 : Below w.heap.size w W0 := by rw [hW0]; exact below_alloc _ _
  have HX0 : Hid (W0.heap[w.heap.size]? = some (.cells x.cells.toArray 43 (0, 0))) := by rw [hW0]; exact heap_alloc_new _ _
  have hld : (rowVar 43 ⟨w.heap.size, 0, none⟩).run Tryz.prog W0 = .ok (.agg x.cells.toArray) W0 := rowVar_whole W0 w.heap.size 43 43 x.cells.toArray (0, 0) _ HX0.out Tryz.underlying43 rfl (by kernel_rfl)
  have HT : Hid (Below w.heap.size w W0) := hB0
  have hcl := hc.lt
  have HEND : Hid (∀ S', Grow S W0 S' → Grow S w S') := fun S' hg k hk => (hg k hk).elim .inl (fun h => .inr (Nat.le_trans hB0.size h))
  have HFR : Hid (∀ w', Fr (fun k => S k ∨ k = c) W0 w' → Fr (fun k => S k ∨ k = c) w w') := fun w' hf => (Fr.of_below hB0).trans hf (fun _ h => .inl h)
  have HTP : Hid (Calls Tryz.prog 77 #[.pointer (some ⟨p, 0, none⟩), .agg x.cells.toArray, .chan (some c)] W0 fun e w' => e = .returned (.int .i64 (m.proposal x).2.2) ∧ ∃ S', PMem w' p S' (m.proposal x).1 ∧ OutB w' c (m.proposal x).2.1 ∧ Grow S W0 S' ∧ Fr (fun k => S k ∨ k = c) W0 w') := ptakeProp W0 p c S m (h.below hB0) (hc.below hB0) hcs hc0 hi h2 x hx.b hs
  have HTV : Hid (Calls Tryz.prog 78 #[.pointer (some ⟨p, 0, none⟩), .agg x.cells.toArray] W0 fun e w' => e = .returned (.int .i64 (m.vote x).2) ∧ ∃ S', PMem w' p S' (m.vote x).1 ∧ OutB w' c [] ∧ Grow S W0 S' ∧ Fr (fun k => S k ∨ k = c) W0 w') := by
    refine (ptakeVote W0 p S m (h.below hB0) hi h2 x hx.n (by have := hs.lb; omega) hs.vt).mono ?_
    rintro e w' ⟨rfl, S', g1, g2, g3⟩
    exact ⟨rfl, S', g1, (hc.below hB0).fr g3 hcs, g2, g3.mono (fun _ h => .inl h)⟩
  have HTE : Hid (Calls Tryz.prog 79 #[.pointer (some ⟨p, 0, none⟩), .agg x.cells.toArray] W0 fun e w' => e = .returned (.int .i64 (m.enters1 x).2) ∧ ∃ S', PMem w' p S' (m.enters1 x).1 ∧ OutB w' c [] ∧ Grow S W0 S' ∧ Fr (fun k => S k ∨ k = c) W0 w') := by
    refine (ptakeEnter W0 p S m (h.below hB0) hi h2 x hx.c (by have := hs.lb; omega) (by have := hs.ep; omega)).mono ?_
    rintro e w' ⟨rfl, S', g1, g2, g3⟩
    exact ⟨rfl, S', g1, (hc.below hB0).fr g3 hcs, g2, g3.mono (fun _ h => .inl h)⟩
  have HP0 : Hid (PMem W0 p S m ∧ OutB W0 c []) := ⟨h.below hB0, hc.below hB0⟩
  have H1 : Hid (x.kind = 1 → m.takes x = m.proposal x) := fun e => by unfold Mem.takes; rw [if_pos e]
  have H2 : Hid (x.kind = 2 → m.takes x = ((m.vote x).1, [], (m.vote x).2)) := fun e => by unfold Mem.takes; rw [if_neg (by omega), if_pos e]
  have H3 : Hid (x.kind = 3 → m.takes x = ((m.enters1 x).1, [], (m.enters1 x).2)) := fun e => by unfold Mem.takes; rw [if_neg (by omega), if_neg (by omega), if_pos e]
  have H4 : Hid (x.kind ≠ 1 → x.kind ≠ 2 → x.kind ≠ 3 → m.takes x = (m, [], 1)) := fun e1 e2 e3 => by unfold Mem.takes; rw [if_neg e1, if_neg e2, if_neg e3]
  clear h hc hi h2 hx hs hB0
  generalize m.takes x = T at *
  generalize m.proposal x = TP at *
  generalize m.vote x = TV at *
  generalize m.enters1 x = TE at *
  obtain ⟨xk, xf, xv, ⟨bv, ⟨jv, jb, j0, j1, j2, j3⟩, bc⟩, nu, ⟨cv, cb, k0, k1, k2, k3⟩, sl⟩ := x
  dsimp only [Msg.cells] at *
  have z0 : W0.cell? ⟨w.heap.size, 0, none⟩ = some (.int .i64 xk) := cell_at HX0.out 0
  go_enter Tryz.func65, Tryz.ntmps65
  go_upto_region 1 with fail
  rw [← hW0]
  clear hW0
  by_cases e1 : xk = 1
  · subst e1
    have hT := H1.out rfl
    go_wp2_with (go_at_call 77; refine HTP.out.mono ?_; rintro e w1 ⟨rfl, S1, g1, g2, g3, g4⟩)
    go_ret
    rw [hT]
    exact ⟨rfl, S1, g1, g2, HEND.out S1 g3, HFR.out w1 g4⟩
  · have q1 : (xk == 1) = false := by simp [e1]
    by_cases e2 : xk = 2
    · subst e2
      have hT := H2.out rfl
      go_wp2_with (go_at_call 78; refine HTV.out.mono ?_; rintro e w1 ⟨rfl, S1, g1, g2, g3, g4⟩)
      go_ret
      rw [hT]
      exact ⟨rfl, S1, g1, g2, HEND.out S1 g3, HFR.out w1 g4⟩
    · have q2 : (xk == 2) = false := by simp [e2]
      by_cases e3 : xk = 3
      · subst e3
        have hT := H3.out rfl
        go_wp2_with (go_at_call 79; refine HTE.out.mono ?_; rintro e w1 ⟨rfl, S1, g1, g2, g3, g4⟩)
        go_ret
        rw [hT]
        exact ⟨rfl, S1, g1, g2, HEND.out S1 g3, HFR.out w1 g4⟩
      · have q3 : (xk == 3) = false := by simp [e3]
        have hT := H4.out e1 e2 e3
        go_wp2
        go_ret
        rw [hT]
        exact ⟨rfl, S, HP0.out.1, HP0.out.2, Grow.refl _ _, Fr.of_below HT.out⟩
end Go.Proofs.YtkehpnobidendaaGreatDoor

namespace Go.Proofs.YtkehpnobidendaaGreatDoor
open Go.RowKit Go.Maps Go.Conc

attribute [local go_sem ↓] pload_msg
/-- What Handle hands out, in memory of its own. -/
structure PGaveG (w w' : World) (p : Nat) (S : Nat → Prop) (m : Mem) (a : Option Addr) (cap : Nat) (out : List Ltr) : Prop where
  ex : ∃ S', PMem w' p S' m ∧ Grow S w S' ∧ Row w' (fun k => w.heap.size ≤ k ∧ ¬ S' k) 67 20 (.slice a out.length cap) out.length (out.flatMap Ltr.cells)
  fr : Fr S w w'
theorem takes_out (m : Mem) (x : Msg) : (m.takes x).2.1.length ≤ 1 := by
  unfold Mem.takes
  split
  · by_cases hf : m.faultP x = 0
    · rw [(prop_fine hf).2.2.2.2.2]
      dsimp only
      split
      · exact Nat.le_refl 1
      · exact Nat.zero_le 1
    · rw [prop_fault hf]; exact Nat.zero_le 1
  · split
    · exact Nat.zero_le 1
    · split
      · exact Nat.zero_le 1
      · exact Nat.zero_le 1
theorem proposal_lists (m : Mem) (x : Msg) : (m.proposal x).1.enters = m.enters ∧ (m.proposal x).1.proposed = m.proposed := by
  by_cases hf : m.faultP x = 0
  · rw [(prop_fine hf).2.2.2.2.2]
    dsimp only
    have hk := learn_keeps (m.knows x.block) x.block.just
    have e1 := (knows_lists m x.block).2.1
    have e2 : (m.knows x.block).proposed = m.proposed := by unfold Mem.knows; split <;> rfl
    split
    · exact ⟨hk.es.trans e1, hk.pr.trans e2⟩
    · exact ⟨hk.es.trans e1, hk.pr.trans e2⟩
  · rw [prop_fault hf]; exact ⟨rfl, rfl⟩
theorem vote_lists (m : Mem) (x : Msg) : (m.vote x).1.enters = m.enters ∧ (m.vote x).1.proposed = m.proposed := by
  by_cases hf : m.faultV x = 0
  · rw [(vote_fine hf).2.2.2.2.2]
    dsimp only
    split
    · split
      · exact ⟨(learn_keeps _ _).es, (learn_keeps _ _).pr⟩
      · exact ⟨(learn_keeps _ _).es, (learn_keeps _ _).pr⟩
    · exact ⟨rfl, rfl⟩
  · rw [vote_fault hf]; exact ⟨rfl, rfl⟩
theorem enters_lists (m : Mem) (x : Msg) : (m.enters1 x).1.enters.length ≤ m.enters.length + 1 ∧ (m.enters1 x).1.proposed = m.proposed := by
  by_cases hf : m.faultE x = 0
  · rw [(enter_fine hf).2.2.2.2.2]
    dsimp only
    have h1 : (({ m with enters := m.enters ++ [⟨x.fro, x.view, 0, 0⟩] } : Mem).learn x.cert).enters.length ≤ m.enters.length + 1 := by rw [(learn_keeps _ _).es]; simp
    split
    · exact ⟨h1, (learn_keeps _ _).pr⟩
    · exact ⟨h1, (learn_keeps _ _).pr⟩
  · rw [enter_fault hf]; exact ⟨by simp, rfl⟩
theorem takes_ep (m : Mem) (x : Msg) : (m.takes x).1.enters.length + (m.takes x).1.proposed.length ≤ m.enters.length + m.proposed.length + 1 := by
  unfold Mem.takes
  split
  · have := proposal_lists m x; rw [this.1, this.2]; omega
  · split
    · have := vote_lists m x; dsimp only; rw [this.1, this.2]; omega
    · split
      · have := enters_lists m x; dsimp only; rw [this.2]; omega
      · exact Nat.le_succ _
set_option maxHeartbeats 2000000 in
set_option maxRecDepth 100000 in
theorem phandle (w : World) (p : Nat) (S : Nat → Prop) (m : Mem) (h : PMem w p S m) (hi : Inv m) (h2 : Inv2 m) (x : Msg) (hx : x.Ok) (hs : Small m) :
    Calls Tryz.prog 45 #[.pointer (some ⟨p, 0, none⟩), .agg x.cells.toArray] w fun e w' => ∃ a cap, e = .returned (.tuple #[.slice a (m.handle x).2.1.length cap, .int .i64 (m.handle x).2.2]) ∧ PGaveG w w' p S (m.handle x).1 a cap (m.handle x).2.1 := by
  have HP : Hid (PMem w p S m) := h
  have HTK : Hid (∀ W c, PMem W p S m → OutB W c [] → ¬ S c → c ≠ 0 → Calls Tryz.prog 65 #[.pointer (some ⟨p, 0, none⟩), .agg x.cells.toArray, .chan (some c)] W fun e w' => e = .returned (.int .i64 (m.takes x).2.2) ∧ ∃ S', PMem w' p S' (m.takes x).1 ∧ OutB w' c (m.takes x).2.1 ∧ Grow S W S' ∧ Fr (fun k => S k ∨ k = c) W w') := fun W c a1 a2 a3 a4 => ptake W p c S m a1 a2 a3 a4 hi h2 x hx hs
  have HPR : Hid (∀ W c S', PMem W p S' (m.takes x).1 → OutB W c (m.takes x).2.1 → ¬ S' c → c ≠ 0 → Calls Tryz.prog 39 #[.pointer (some ⟨p, 0, none⟩), .chan (some c)] W fun e w' => e = .returned (.tuple #[]) ∧ PMem w' p S' (m.handle x).1 ∧ OutB w' c (m.handle x).2.1 ∧ Fr (fun k => S' k ∨ k = c) W w') := fun W c S' a1 a2 a3 a4 => by
    have hti := inv_takes hi x hx
    have ht2 := inv2_takes hi h2 x hx
    exact ppropose W p c S' (m.takes x).1 a1 (m.takes x).2.1 (takes_out m x) a2 a3 a4 hti (ht2.eo.e _) (Nat.le_trans (takes_ep m x) hs.ep) (by have := takes_len m x; have := hs.lb; omega)
  have htl : (m.handle x).2.1.length ≤ 2 := by
    have h1 := takes_out m x
    have h2 : (m.takes x).1.ends.2.length ≤ 1 := by
      cases hm : (m.takes x).1.may with
      | true => rw [ends_yes hm]; simp
      | false => rw [ends_no hm]; simp
    show ((m.takes x).2.1 ++ (m.takes x).1.ends.2).length ≤ 2
    rw [List.length_append]; omega
  have HER : Hid ((m.handle x).2.2 = (m.takes x).2.2) := rfl
  have hpos := h.tab.pos
  have HLT : Hid (∀ k, S k → k < w.heap.size) := h.lt
  clear h hi h2 hx hs
  have hW2z : (((w.alloc (.cells x.cells.toArray 43)).alloc (.cells #[.slice none 0 0] 27)).alloc (.chan 2 #[] false 0 0 false)).heap.size = w.heap.size + 1 + 1 + 1 := by simp
  have HB2 : Hid (Below w.heap.size w (((w.alloc (.cells x.cells.toArray 43)).alloc (.cells #[.slice none 0 0] 27)).alloc (.chan 2 #[] false 0 0 false))) := bnext (bnext (below_alloc _ _) (below_alloc _ _)) (below_alloc _ _)
  have HX2 : Hid ((((w.alloc (.cells x.cells.toArray 43)).alloc (.cells #[.slice none 0 0] 27)).alloc (.chan 2 #[] false 0 0 false)).heap[w.heap.size]? = some (.cells x.cells.toArray 43 (0, 0))) := (Below.heap_alloc _ _ _ (by simp only [World.size_alloc]; omega)).trans ((Below.heap_alloc _ _ _ (by simp)).trans (heap_alloc_new w _))
  have HR2 : Hid ((((w.alloc (.cells x.cells.toArray 43)).alloc (.cells #[.slice none 0 0] 27)).alloc (.chan 2 #[] false 0 0 false)).heap[w.heap.size + 1]? = some (.cells #[.slice none 0 0] 27 (0, 0))) := (Below.heap_alloc _ _ _ (by simp)).trans (new_at _ (by simp))
  have HC2 : Hid (OutB (((w.alloc (.cells x.cells.toArray 43)).alloc (.cells #[.slice none 0 0] 27)).alloc (.chan 2 #[] false 0 0 false)) (w.heap.size + 1 + 1) []) := ⟨0, 0, new_at _ (by simp)⟩
  have HNS : Hid (¬ S (w.heap.size + 1 + 1) ∧ ¬ S (w.heap.size + 1)) := ⟨fun h => by have := HLT.out _ h; omega, fun h => by have := HLT.out _ h; omega⟩
  have hld : (rowVar 43 ⟨w.heap.size, 0, none⟩).run Tryz.prog (((w.alloc (.cells x.cells.toArray 43)).alloc (.cells #[.slice none 0 0] 27)).alloc (.chan 2 #[] false 0 0 false)) = .ok (.agg x.cells.toArray) (((w.alloc (.cells x.cells.toArray 43)).alloc (.cells #[.slice none 0 0] 27)).alloc (.chan 2 #[] false 0 0 false)) := rowVar_whole _ w.heap.size 43 43 x.cells.toArray (0, 0) _ HX2.out Tryz.underlying43 rfl (by kernel_rfl)
  obtain ⟨W2, hW2⟩ : ∃ y, y = (((w.alloc (.cells x.cells.toArray 43)).alloc (.cells #[.slice none 0 0] 27)).alloc (.chan 2 #[] false 0 0 false)) := ⟨_, rfl⟩
  rw [← hW2] at HB2 HR2 HC2 hld hW2z
  have HSZ : Hid (W2.heap.size = w.heap.size + 1 + 1 + 1) := hW2z
  have HP2 : Hid (PMem W2 p S m) := HP.out.below HB2.out
  clear HX2 hW2z
  obtain ⟨T, hT⟩ : ∃ y, y = m.takes x := ⟨_, rfl⟩
  rw [← hT] at HTK HPR HER
  obtain ⟨H, hH⟩ : ∃ y, y = m.handle x := ⟨_, rfl⟩
  rw [← hH] at HPR htl HER ⊢
  clear hT hH
  obtain ⟨xk, xf, xv, ⟨bv, ⟨jv, jb, j0, j1, j2, j3⟩, bc⟩, nu, ⟨cv, cb, k0, k1, k2, k3⟩, sl⟩ := x
  dsimp only [Msg.cells] at *
  go_enter_defers Tryz.func45, Tryz.ntmps45
  go_wp2_with (first
    | (go_at_call 36; refine (pnewOutbox _).mono ?_; rintro e w2 ⟨rfl, rfl⟩; rw [← hW2]; clear hW2)
    | (go_at_call 65; refine (HTK.out W2 (w.heap.size + 1 + 1) HP2.out HC2.out HNS.out.1 (by omega)).mono ?_; rintro e w3 ⟨rfl, S3, hm3, ho3, hg3, hf3⟩; have HM3 : Hid (PMem w3 p S3 T.1 ∧ OutB w3 (w.heap.size + 1 + 1) T.2.1 ∧ Grow S W2 S3 ∧ Fr (fun k => S k ∨ k = w.heap.size + 1 + 1) W2 w3) := ⟨hm3, ho3, hg3, hf3⟩; have HN3 : Hid (¬ S3 (w.heap.size + 1 + 1) ∧ ¬ S3 (w.heap.size + 1)) := ⟨fun hh => (hg3 _ hh).elim HNS.out.1 (fun h => by have := HSZ.out; omega), fun hh => (hg3 _ hh).elim HNS.out.2 (fun h => by have := HSZ.out; omega)⟩; clear hm3 ho3 hg3 hf3)
    | (go_at_call 39; refine (HPR.out w3 (w.heap.size + 1 + 1) S3 HM3.out.1 HM3.out.2.1 HN3.out.1 (by omega)).mono ?_; rintro e w4 ⟨rfl, hm4, ho4, hf4⟩; have HM4 : Hid (PMem w4 p S3 H.1 ∧ OutB w4 (w.heap.size + 1 + 1) H.2.1 ∧ Grow S W2 S3 ∧ Fr (fun k => S k ∨ k = w.heap.size + 1 + 1) W2 w4) := ⟨hm4, ho4, HM3.out.2.2.1, HM3.out.2.2.2.trans hf4 (fun i hi => hi.elim (fun h => (HM3.out.2.2.1 i h).elim (fun h => .inl (.inl h)) .inr) (fun e => .inl (.inr e)))⟩; have hr4 : w4.heap[w.heap.size + 1]? = some (.cells #[.slice none 0 0] 27 (0, 0)) := (HM4.out.2.2.2.block (w.heap.size + 1) (lt_at HR2.out) (fun h => h.elim HNS.out.2 (fun e => by omega))).trans HR2.out; have q4 : w4.cell? ⟨w.heap.size + 1, 0, none⟩ = some (.slice none 0 0) := cell_at hr4 0; have fz4 := free_at hr4; have HR4 : Hid (w4.heap[w.heap.size + 1]? = some (.cells #[.slice none 0 0] 27 (0, 0))) := hr4; clear hm4 ho4 hf4 HM3 hr4))
  have hst : (w4.setCell ⟨w.heap.size + 1, 0, none⟩ (.slice none 0 0)).heap[w.heap.size + 1]? = some (.cells #[.slice none 0 0] 27 (0, 0)) := by
    have := heap_store HR4.out (i := 0) (.slice none 0 0)
    simpa using this
  have hF5 := Fr.setCell (S := fun k => k = w.heap.size + 1) w4 (a := ⟨w.heap.size + 1, 0, none⟩) rfl (.slice none 0 0)
  have hM5 : PMem (w4.setCell ⟨w.heap.size + 1, 0, none⟩ (.slice none 0 0)) p S3 H.1 := HM4.out.1.fr hF5 (fun _ hk e => HN3.out.2 (e ▸ hk)) (fun e => by omega)
  have hT5 : Took (w4.setCell ⟨w.heap.size + 1, 0, none⟩ (.slice none 0 0)) (w.heap.size + 1 + 1) (w.heap.size + 1) [] H.2.1 (w4.setCell ⟨w.heap.size + 1, 0, none⟩ (.slice none 0 0)) := ⟨HM4.out.2.1.fr hF5 (by omega), ⟨none, 0, hst, Row.nil _ _ _ _⟩, Fr.refl _ _⟩
  have hFw : Fr S w (w4.setCell ⟨w.heap.size + 1, 0, none⟩ (.slice none 0 0)) := ((Fr.of_below (S := S) HB2.out).trans HM4.out.2.2.2 (fun i hi => hi.elim .inl (fun e => .inr (by omega)))).trans hF5 (fun i hi => .inr (by omega))
  refine leaves_cons (f := 37) (args := #[.chan (some (w.heap.size + 1 + 1)), .pointer (some ⟨w.heap.size + 1, 0, none⟩)]) (by simp) (by simp [go_sem]) ?_
  refine (ptakeAll _ (w.heap.size + 1 + 1) (w.heap.size + 1) H.2.1 htl (by omega) hT5.ob.lt (lt_at hst) hT5 .returning).mono ?_
  rintro e u' w6 ⟨rfl, rfl, hT⟩
  obtain ⟨a, cap, hR6, hrow6⟩ := hT.row
  have hsz : w.heap.size ≤ (w4.setCell ⟨w.heap.size + 1, 0, none⟩ (.slice none 0 0)).heap.size := hFw.size
  have q6 : w6.cell? ⟨w.heap.size + 1, 0, none⟩ = some (.slice a H.2.1.length cap) := cell_at hR6 0
  have hS3 : ∀ k, S3 k → k < (w4.setCell ⟨w.heap.size + 1, 0, none⟩ (.slice none 0 0)).heap.size := hM5.lt
  have hres : (results Tryz.f45 #[.pointer (some ⟨p, 0, none⟩), .agg #[.int .i64 xk, .int .i64 xf, .int .i64 xv, .int .i64 bv, .int .i64 jv, .int .u64 jb, .int .u64 j0, .int .u64 j1, .int .u64 j2, .int .u64 j3, .string bc, .int .u64 nu, .int .i64 cv, .int .u64 cb, .int .u64 k0, .int .u64 k1, .int .u64 k2, .int .u64 k3, .int .u64 sl], undef, .pointer (some ⟨w.heap.size, 0, none⟩), .pointer (some ⟨w.heap.size + 1, 0, none⟩), .int .i64 T.2.2, .chan (some (w.heap.size + 1 + 1)), .chan (some (w.heap.size + 1 + 1)), .chan (some (w.heap.size + 1 + 1)), .pointer (some ⟨p, 0, none⟩), .agg #[.int .i64 xk, .int .i64 xf, .int .i64 xv, .int .i64 bv, .int .i64 jv, .int .u64 jb, .int .u64 j0, .int .u64 j1, .int .u64 j2, .int .u64 j3, .string bc, .int .u64 nu, .int .i64 cv, .int .u64 cb, .int .u64 k0, .int .u64 k1, .int .u64 k2, .int .u64 k3, .int .u64 sl], .chan (some (w.heap.size + 1 + 1)), .int .i64 T.2.2, .pointer (some ⟨p, 0, none⟩), .chan (some (w.heap.size + 1 + 1)), .tuple #[], .int .i64 T.2.2]).run Tryz.prog w6 = .ok (.tuple #[.slice a H.2.1.length cap, .int .i64 T.2.2]) w6 := by
    simp [results, Tryz.results45, go_sem, q6]
  refine ⟨_, hres, a, cap, by rw [HER.out], ⟨S3, hM5.fr hT.fr (fun k hk e => ?_) (fun e => ?_), fun k hk => (HM4.out.2.2.1 k hk).elim .inl (fun h => .inr (Nat.le_trans HB2.out.size h)), hrow6.same (fun k hk _ => ⟨rfl, by omega, fun hh => by have := hS3 k hh; omega⟩)⟩, hFw.trans hT.fr (fun i hi => .inr (by omega))⟩
  · rcases e with rfl | rfl
    · exact HN3.out.1 hk
    · exact HN3.out.2 hk
  · omega
end Go.Proofs.YtkehpnobidendaaGreatDoor

namespace Go.Proofs.YtkehpnobidendaaGreatDoor
open Go.RowKit

theorem len_sub {α : Type} [DecidableEq α] : ∀ {l r : List α}, l.Nodup → (∀ x ∈ l, x ∈ r) → l.length ≤ r.length
  | [], _, _, _ => Nat.zero_le _
  | a :: l, r, h, hs => by
    obtain ⟨h1, h2⟩ := List.nodup_cons.1 h
    have ha : a ∈ r := hs a (by simp)
    have ih := len_sub (r := r.erase a) h2 (fun x hx => (List.mem_erase_of_ne (a := x) (b := a) (fun e => h1 (by rw [← e]; exact hx))).2 (hs x (by simp [hx])))
    rw [List.length_erase_of_mem ha] at ih
    have := List.length_pos_of_mem ha
    simp only [List.length_cons]
    omega
/-- It proposes once a view. -/
structure PBnd (m : Mem) : Prop where
  pn : m.proposed.Nodup
  pv : ∀ v ∈ m.proposed, 1 ≤ v ∧ v ≤ 1000
theorem PBnd.len {m : Mem} (h : PBnd m) : m.proposed.length ≤ 1001 := by
  have := len_sub (r := (List.range 1001).map (fun k : Nat => (k : Int))) h.pn (fun v hv => by
    have h1 := h.pv v hv
    exact List.mem_map.2 ⟨v.toNat, List.mem_range.2 (by omega), by omega⟩)
  simpa using this
theorem PBnd.same {m m' : Mem} (h : PBnd m) (e : m'.proposed = m.proposed) : PBnd m' := ⟨by rw [e]; exact h.pn, by rw [e]; exact h.pv⟩
theorem knows_more (m : Mem) (b : Blk) : (m.knows b).proposed = m.proposed ∧ (m.knows b).waited = m.waited := by
  unfold Mem.knows; split <;> exact ⟨rfl, rfl⟩
theorem ends_bnd {m : Mem} (hi : Inv m) (h : PBnd m) : PBnd m.ends.1 ∧ m.ends.1.blocks.length + m.proposed.length ≤ m.blocks.length + m.ends.1.proposed.length := by
  cases hm : m.may with
  | false => rw [ends_no hm]; exact ⟨h, Nat.le_refl _⟩
  | true =>
    rw [ends_yes hm]
    have e := (knows_more m.noted m.next).1
    refine ⟨PBnd.same ⟨?_, ?_⟩ e, ?_⟩
    · show (m.proposed ++ [m.view]).Nodup
      rw [List.nodup_append]
      refine ⟨h.pn, by simp, fun a ha c hc => ?_⟩
      simp only [List.mem_singleton] at hc
      subst hc
      intro e
      subst e
      unfold Mem.may at hm
      simp only [Bool.and_eq_true, Bool.not_eq_true'] at hm
      have := hm.1.2
      rw [List.contains_eq_mem, decide_eq_false_iff_not] at this
      exact this ha
    · intro v hv
      rcases List.mem_append.1 hv with h2 | h2
      · exact h.pv v h2
      · obtain rfl := List.mem_singleton.1 h2
        exact ⟨hi.v0, hi.v1⟩
    · have h1 := knows_len m.noted m.next
      have h2 : m.noted.blocks.length = m.blocks.length := rfl
      have h3 : m.noted.proposed.length = m.proposed.length + 1 := by simp [Mem.noted]
      rw [e]
      dsimp only
      omega
/-- The numbers of the blocks are of the language. -/
def Kb (m : Mem) : Prop := ∀ y ∈ m.blocks, y.1 < 18446744073709551616
theorem kb_blocks {m m' : Mem} (h : Kb m) (hb : m'.blocks = m.blocks) : Kb m' := fun y hy => h y (by rw [← hb]; exact hy)
theorem kb_knows {m : Mem} (h : Kb m) (b : Blk) : Kb (m.knows b) := by
  unfold Mem.knows
  split
  · exact h
  · intro y hy
    rcases List.mem_append.1 hy with h1 | h1
    · exact h y h1
    · simp at h1; subst h1; exact num_lt _
theorem kb_ends {m : Mem} (h : Kb m) : Kb m.ends.1 := by
  cases hm : m.may with
  | false => rw [ends_no hm]; exact h
  | true => rw [ends_yes hm]; exact kb_knows (m := m.noted) h _
/-- What taking a message leaves. -/
structure Takes (m m' : Mem) : Prop where
  b : m'.blocks.length ≤ m.blocks.length + 1
  p : m'.proposed = m.proposed
  v : m'.votes.length ≤ m.votes.length + 1
  e : m'.enters.length ≤ m.enters.length + 1
  w : m'.waited = m.waited ∨ m'.waited = 0
  k : Kb m → Kb m'
theorem Takes.none (m : Mem) : Takes m m := ⟨by omega, rfl, by omega, by omega, .inl rfl, fun h => h⟩
theorem takes_all (m : Mem) (x : Msg) : Takes m (m.takes x).1 := by
  unfold Mem.takes
  split
  · by_cases hf : m.faultP x = 0
    · rw [(prop_fine hf).2.2.2.2.2]
      dsimp only
      have hk := learn_keeps (m.knows x.block) x.block.just
      obtain ⟨e1, e2, _⟩ := knows_lists m x.block
      have e3 := (knows_more m x.block).1
      have e4 := knows_len m x.block
      have key : ∀ m' : Mem, m'.blocks = ((m.knows x.block).learn x.block.just).blocks → m'.proposed = ((m.knows x.block).learn x.block.just).proposed → m'.votes = ((m.knows x.block).learn x.block.just).votes → m'.enters = ((m.knows x.block).learn x.block.just).enters → m'.waited = 0 → Takes m m' := fun m' a1 a2 a3 a4 a5 =>
        ⟨by rw [a1, hk.b]; exact e4, by rw [a2, hk.pr, e3], by rw [a3, hk.vs, e1]; omega, by rw [a4, hk.es, e2]; omega, .inr a5, fun h => kb_blocks (kb_knows h x.block) (a1.trans hk.b)⟩
      split
      · exact key _ rfl rfl rfl rfl rfl
      · exact key _ rfl rfl rfl rfl rfl
    · rw [prop_fault hf]; exact Takes.none m
  · split
    · by_cases hf : m.faultV x = 0
      · rw [(vote_fine hf).2.2.2.2.2]
        dsimp only
        split
        · split
          · exact ⟨by show (Mem.learn _ _).blocks.length ≤ _; rw [(learn_keeps _ _).b]; simp, by show (Mem.learn _ _).proposed = _; rw [(learn_keeps _ _).pr], by show (Mem.learn _ _).votes.length ≤ _; rw [(learn_keeps _ _).vs]; simp, by show (Mem.learn _ _).enters.length ≤ _; rw [(learn_keeps _ _).es]; simp, .inr rfl, fun h => kb_blocks (m' := Mem.learn _ _) h (learn_keeps _ _).b⟩
          · exact ⟨by rw [(learn_keeps _ _).b]; simp, by rw [(learn_keeps _ _).pr], by rw [(learn_keeps _ _).vs]; simp, by rw [(learn_keeps _ _).es]; simp, .inl (learn_keeps _ _).w, fun h => kb_blocks h (learn_keeps _ _).b⟩
        · exact ⟨by simp, rfl, by simp, by simp, .inl rfl, fun h => h⟩
      · rw [vote_fault hf]; exact Takes.none m
    · split
      · by_cases hf : m.faultE x = 0
        · rw [(enter_fine hf).2.2.2.2.2]
          dsimp only
          split
          · exact ⟨by show (Mem.learn _ _).blocks.length ≤ _; rw [(learn_keeps _ _).b]; simp, by show (Mem.learn _ _).proposed = _; rw [(learn_keeps _ _).pr], by show (Mem.learn _ _).votes.length ≤ _; rw [(learn_keeps _ _).vs]; simp, by show (Mem.learn _ _).enters.length ≤ _; rw [(learn_keeps _ _).es]; simp, .inr rfl, fun h => kb_blocks (m' := Mem.learn _ _) h (learn_keeps _ _).b⟩
          · exact ⟨by rw [(learn_keeps _ _).b]; simp, by rw [(learn_keeps _ _).pr], by rw [(learn_keeps _ _).vs]; simp, by rw [(learn_keeps _ _).es]; simp, .inl (learn_keeps _ _).w, fun h => kb_blocks h (learn_keeps _ _).b⟩
        · rw [enter_fault hf]; exact Takes.none m
      · exact Takes.none m
/-- Letters that are proposals. -/
def props (ls : List Ltr) : Nat := (ls.filter (fun l => l.msg.kind == 1)).length
theorem takes_props (m : Mem) (x : Msg) : ∀ l ∈ (m.takes x).2.1, l.msg.kind = 2 := by
  intro l hl
  unfold Mem.takes at hl
  split at hl
  · by_cases hf : m.faultP x = 0
    · rw [(prop_fine hf).2.2.2.2.2] at hl
      dsimp only at hl
      split at hl
      · simp at hl; subst hl; rfl
      · simp at hl
    · rw [prop_fault hf] at hl; simp at hl
  · split at hl
    · simp at hl
    · split at hl
      · simp at hl
      · simp at hl
/-- What a letter that was sent is. -/
def LOk (l : Ltr) : Prop := l.msg.Ok ∧ -9223372036854775808 ≤ l.msg.view ∧ l.msg.view ≤ 9223372036854775807
theorem lcrt_zero : Crt.zero.Ok := ⟨by decide, by decide, by decide⟩
theorem lblk_zero : Blk.zero.Ok := ⟨by decide, by decide, lcrt_zero, by decide⟩
theorem lheadD_le {q : List ByteArray} (h : ∀ c ∈ q, c.size ≤ 16) : (q.headD ⟨#[]⟩).size ≤ 140737488351232 := by
  cases q with
  | nil => show (0 : Nat) ≤ _; omega
  | cons a r => have := h a (by simp); show a.size ≤ _; omega
theorem ends_lok {m : Mem} (h : Inv m) : ∀ l ∈ m.ends.2, LOk l := by
  intro l hl
  have h0 := h.v0
  have h1 := h.v1
  unfold Mem.ends at hl
  split at hl
  · simp at hl
    subst hl
    refine ⟨⟨⟨?_, ?_, h.hi.ok, lheadD_le h.qc⟩, by show (0 : Nat) < _; decide, lcrt_zero⟩, ?_, ?_⟩
    · show -9223372036854775808 ≤ m.view; omega
    · show m.view ≤ 9223372036854775807; omega
    · show -9223372036854775808 ≤ m.view; omega
    · show m.view ≤ 9223372036854775807; omega
  · simp at hl
theorem takes_lok (m : Mem) (x : Msg) : ∀ l ∈ (m.takes x).2.1, LOk l := by
  intro l hl
  unfold Mem.takes at hl
  split at hl
  · by_cases hf : m.faultP x = 0
    · obtain ⟨a, _, _, _, _, b⟩ := prop_fine hf
      rw [b] at hl
      dsimp only at hl
      split at hl
      · simp at hl
        subst hl
        exact ⟨⟨lblk_zero, num_lt _, lcrt_zero⟩, by show -9223372036854775808 ≤ x.view; omega, by show x.view ≤ 9223372036854775807; omega⟩
      · simp at hl
    · rw [prop_fault hf] at hl; simp at hl
  · split at hl
    · simp at hl
    · split at hl
      · simp at hl
      · simp at hl
theorem handle_lok {m : Mem} (h : Inv m) (x : Msg) (hx : x.Ok) : ∀ l ∈ (m.handle x).2.1, LOk l := by
  intro l hl
  have hl' : l ∈ (m.takes x).2.1 ++ (m.takes x).1.ends.2 := hl
  rcases List.mem_append.1 hl' with h1 | h1
  · exact takes_lok m x l h1
  · exact ends_lok (inv_takes h x hx) l h1
theorem tick_lok {m : Mem} (h : Inv m) : ∀ l ∈ m.tick.2, LOk l := by
  intro l hl
  have hl' : l ∈ m.wait.2 ++ m.wait.1.ends.2 := hl
  have h0 := h.v0
  rcases List.mem_append.1 hl' with h1 | h1
  · by_cases hc : m.patience ≤ m.waited + 1 ∧ m.view < 1000
    · rw [wait_yes hc] at h1; simp at h1; subst h1
      refine ⟨⟨lblk_zero, by show (0 : Nat) < _; decide, h.hi.ok⟩, ?_, ?_⟩
      · show -9223372036854775808 ≤ m.view + 1; omega
      · show m.view + 1 ≤ 9223372036854775807; omega
    · rw [wait_no hc] at h1; simp at h1
  · exact ends_lok (inv_wait h) l h1
theorem ends_one (m : Mem) : m.ends.2.length ≤ 1 := by
  cases hm : m.may with
  | false => rw [ends_no hm]; simp
  | true => rw [ends_yes hm]; simp
theorem props_zero {ls : List Ltr} (h : ∀ l ∈ ls, l.msg.kind ≠ 1) : props ls = 0 := by
  unfold props
  rw [List.filter_eq_nil_iff.2 (fun l hl => by simp; exact h l hl)]
  rfl
theorem props_append (a b : List Ltr) : props (a ++ b) = props a + props b := by
  unfold props; rw [List.filter_append, List.length_append]
theorem props_le (ls : List Ltr) : props ls ≤ ls.length := List.length_filter_le _ _
theorem handle_props (m : Mem) (x : Msg) : props (m.handle x).2.1 ≤ 1 := by
  show props ((m.takes x).2.1 ++ (m.takes x).1.ends.2) ≤ 1
  have h1 := props_zero (fun l hl e => by have := takes_props m x l hl; rw [this] at e; cases e)
  have h2 := props_le (m.takes x).1.ends.2
  have h3 := ends_one (m.takes x).1
  rw [props_append]; omega
theorem tick_props (m : Mem) : props m.tick.2 ≤ 1 := by
  show props (m.wait.2 ++ m.wait.1.ends.2) ≤ 1
  have h1 : props m.wait.2 = 0 := props_zero (fun l hl e => by
    by_cases hc : m.patience ≤ m.waited + 1 ∧ m.view < 1000
    · rw [wait_yes hc] at hl; simp at hl; subst hl; exact absurd (show (3 : Int) = 1 from e) (by decide)
    · rw [wait_no hc] at hl; simp at hl)
  have h2 := props_le m.wait.1.ends.2
  have h3 := ends_one m.wait.1
  rw [props_append]; omega
theorem handle_two (m : Mem) (x : Msg) : (m.handle x).2.1.length ≤ 2 := by
  have h1 := takes_out m x
  have h2 := ends_one (m.takes x).1
  show ((m.takes x).2.1 ++ (m.takes x).1.ends.2).length ≤ 2
  rw [List.length_append]; omega
/-- What holds of a member behind n steps. -/
structure MLim (m : Mem) (n : Nat) : Prop where
  inv : Inv m
  i2 : Inv2 m
  pd : PBnd m
  bl : m.blocks.length ≤ n + m.proposed.length + 1
  en : m.enters.length ≤ n
  vt : m.votes.length ≤ n
  wt : m.waited ≤ n
  kb : Kb m
theorem MLim.mono {m : Mem} {n n' : Nat} (h : MLim m n) (hn : n ≤ n') : MLim m n' := ⟨h.inv, h.i2, h.pd, by have := h.bl; omega, by have := h.en; omega, by have := h.vt; omega, by have := h.wt; omega, h.kb⟩
theorem MLim.small {m : Mem} {n : Nat} (h : MLim m n) (hn : n ≤ 800000000000) : Small m := by
  have h1 := log_len h.inv
  have h2 := h.bl
  have h3 := h.vt
  have h4 := h.en
  have h5 := h.pd.len
  exact ⟨by omega, by omega, by omega⟩
theorem mlim_new (a b : Int) (h : 0 ≤ a ∧ a ≤ 3 ∧ 1 ≤ b ∧ b ≤ 100) (n : Nat) : MLim (Mem.new a b) n := ⟨inv_new a b h, inv2_new a b, ⟨List.nodup_nil, fun v hv => by cases hv⟩, by simp [Mem.new], by simp [Mem.new], by simp [Mem.new], by simp [Mem.new], fun y hy => by simp [Mem.new] at hy; subst hy; decide⟩
theorem mlim_submit {m : Mem} {n : Nat} (h : MLim m n) (c : ByteArray) : MLim (m.submit c).1 n := by
  have e : (m.submit c).1.enters = m.enters ∧ (m.submit c).1.votes = m.votes ∧ (m.submit c).1.waited = m.waited ∧ (m.submit c).1.proposed = m.proposed ∧ (m.submit c).1.blocks = m.blocks := by
    unfold Mem.submit
    split
    · exact ⟨rfl, rfl, rfl, rfl, rfl⟩
    · split <;> exact ⟨rfl, rfl, rfl, rfl, rfl⟩
  obtain ⟨e1, e2, e3, e4, e5⟩ := e
  exact ⟨inv_submit h.inv c, inv2_submit h.i2 c, h.pd.same e4, by rw [e5, e4]; exact h.bl, by rw [e1]; exact h.en, by rw [e2]; exact h.vt, by rw [e3]; exact h.wt, kb_blocks h.kb e5⟩
theorem ends_same (m : Mem) : m.ends.1.enters = m.enters ∧ m.ends.1.votes = m.votes ∧ m.ends.1.waited = m.waited := by
  cases hm : m.may with
  | false => rw [ends_no hm]; exact ⟨rfl, rfl, rfl⟩
  | true =>
    rw [ends_yes hm]
    unfold Mem.knows
    split <;> exact ⟨rfl, rfl, rfl⟩
theorem wait_same (m : Mem) (h0 : 0 ≤ m.waited) : m.wait.1.enters = m.enters ∧ m.wait.1.votes = m.votes ∧ m.wait.1.proposed = m.proposed ∧ m.wait.1.blocks = m.blocks ∧ m.wait.1.waited ≤ m.waited + 1 := by
  by_cases hc : m.patience ≤ m.waited + 1 ∧ m.view < 1000
  · rw [wait_yes hc]; exact ⟨rfl, rfl, rfl, rfl, by show (0 : Int) ≤ m.waited + 1; omega⟩
  · rw [wait_no hc]; exact ⟨rfl, rfl, rfl, rfl, by show m.waited + 1 ≤ m.waited + 1; omega⟩
theorem mlim_tick {m : Mem} {n : Nat} (h : MLim m n) : MLim m.tick.1 (n + 1) := by
  obtain ⟨a1, a2, a3, a4, a5⟩ := wait_same m h.inv.w0
  obtain ⟨b1, b2, b3⟩ := ends_same m.wait.1
  obtain ⟨c1, c2⟩ := ends_bnd (inv_wait h.inv) (h.pd.same a3)
  rw [a3, a4] at c2
  have h1 := h.bl
  have h2 := h.en
  have h3 := h.vt
  have h4 := h.wt
  refine ⟨inv_tick h.inv, inv2_tick h.inv h.i2, c1, ?_, ?_, ?_, ?_, kb_ends (kb_blocks h.kb a4)⟩
  · show m.wait.1.ends.1.blocks.length ≤ n + 1 + m.wait.1.ends.1.proposed.length + 1; omega
  · show m.wait.1.ends.1.enters.length ≤ _; rw [b1, a1]; omega
  · show m.wait.1.ends.1.votes.length ≤ _; rw [b2, a2]; omega
  · show m.wait.1.ends.1.waited ≤ _; rw [b3]; omega
theorem mlim_handle {m : Mem} {n : Nat} (h : MLim m n) (x : Msg) (hx : x.Ok) : MLim (m.handle x).1 (n + 1) := by
  have a := takes_all m x
  obtain ⟨b1, b2, b3⟩ := ends_same (m.takes x).1
  obtain ⟨c1, c2⟩ := ends_bnd (inv_takes h.inv x hx) (h.pd.same a.p)
  rw [a.p] at c2
  have h1 := h.bl
  have h2 := h.en
  have h3 := h.vt
  have h4 := h.wt
  have g1 := a.b
  have g2 := a.e
  have g3 := a.v
  refine ⟨inv_handle h.inv x hx, inv2_handle h.inv h.i2 x hx, c1, ?_, ?_, ?_, ?_, kb_ends (a.k h.kb)⟩
  · show (m.takes x).1.ends.1.blocks.length ≤ n + 1 + (m.takes x).1.ends.1.proposed.length + 1; omega
  · show (m.takes x).1.ends.1.enters.length ≤ _; rw [b1]; omega
  · show (m.takes x).1.ends.1.votes.length ≤ _; rw [b2]; omega
  · show (m.takes x).1.ends.1.waited ≤ _; rw [b3]; rcases a.w with e | e <;> rw [e] <;> omega
end Go.Proofs.YtkehpnobidendaaGreatDoor

namespace Go.Proofs.YtkehpnobidendaaGreatDoor
open Go.RowKit

/-- One member of both sides. -/
structure MSit (w : World) (A : Nat → Nat → Prop) (i : Nat) (x : Nat × Nat) (m : Mem) (n : Nat) : Prop where
  pm : PMem w x.1 (A (2 * i + 2)) m
  rm : RMem w x.2 (A (2 * i + 3)) w.heap.size m []
  ml : MLim m n
/-- What the law's record may hold behind n steps. -/
structure Lim (L : Law) (n : Nat) : Prop where
  me : L.members.length ≤ 8
  le : L.letters.length ≤ 2000
  bl : L.blocks.length ≤ 2 * n
  ok : L.Ok
  lt : ∀ l ∈ L.letters, LOk l
  c0 : 0 ≤ L.count
  c1 : L.count ≤ 2 * n
  tx : L.texts.length ≤ 8 * n
  tm : L.tm.length ≤ 8 * n
  ou : L.outs.length ≤ 4 * n
  om : L.om.length ≤ 4 * n
theorem Lim.mono {L : Law} {n n' : Nat} (h : Lim L n) (hn : n ≤ n') : Lim L n' :=
  ⟨h.me, h.le, by have := h.bl; omega, h.ok, h.lt, h.c0, by have := h.c1; omega, by have := h.tx; omega, by have := h.tm; omega, by have := h.ou; omega, by have := h.om; omega⟩
theorem MSit.mono {w : World} {A : Nat → Nat → Prop} {i : Nat} {x : Nat × Nat} {m : Mem} {n n' : Nat} (h : MSit w A i x m n) (hn : n ≤ n') : MSit w A i x m n' :=
  ⟨h.pm, h.rm, h.ml.mono hn⟩
structure SitA (w0 w : World) (q : Nat) (L : Law) (ms : List Mem) (n : Nat) (A : Nat → Nat → Prop) : Prop where
  own : ∀ a b k, A a k → A b k → a = b
  bnd : ∀ a k, A a k → w0.heap.size ≤ k ∧ k < w.heap.size
  law : LMem w q (A 0) L
  kept : Kept w (A 1) L
  len : L.members.length = ms.length
  mem : ∀ i x m, L.members[i]? = some x → ms[i]? = some m → MSit w A i x m n
  below : Below w0.heap.size w0 w
  tab : Tab w0
  lim : Lim L n
theorem Kept.same {w w' : World} {T T' : Nat → Prop} {L : Law} (h : Kept w T L) (hb : ∀ k, T k → k < w.heap.size → w'.heap[k]? = w.heap[k]? ∧ T' k) : Kept w' T' L := by
  refine ⟨h.lt, h.lo, fun i h1 h2 => ?_, fun i h1 h2 => ?_⟩
  · obtain ⟨n, hr⟩ := h.t i h1 h2
    exact ⟨n, hr.same hb⟩
  · obtain ⟨n, hr⟩ := h.o i h1 h2
    exact ⟨n, hr.same hb⟩
/-- A member aside of what turns. -/
theorem MSit.fr {w w' : World} {A A' : Nat → Nat → Prop} {i : Nat} {x : Nat × Nat} {m : Mem} {n : Nat} {Z : Nat → Prop} (h : MSit w A i x m n) (hf : Fr Z w w') (h0 : ¬ Z 0) (hz : ∀ k, A (2 * i + 2) k ∨ A (2 * i + 3) k → ¬ Z k) (e2 : A' (2 * i + 2) = A (2 * i + 2)) (e3 : A' (2 * i + 3) = A (2 * i + 3)) : MSit w' A' i x m n := by
  refine ⟨?_, ?_, h.ml⟩
  · rw [e2]; exact h.pm.fr hf (fun k hk => hz k (.inl hk)) h0
  · rw [e3]; exact (h.rm.rest _).fr hf (fun k hk => hz k (.inr hk))
/-- Nothing of it turns. -/
theorem SitA.quiet {w0 w w' : World} {q : Nat} {L : Law} {ms : List Mem} {n : Nat} {A : Nat → Nat → Prop} (h : SitA w0 w q L ms n A) (hb : Below w.heap.size w w') : SitA w0 w' q L ms n A := by
  have hs := hb.size
  refine ⟨h.own, fun a k hk => ⟨(h.bnd a k hk).1, by have := (h.bnd a k hk).2; omega⟩, h.law.below hb, h.kept.same (fun k hk hl => ⟨hb.block k hl, hk⟩), h.len, fun i x m hx hm => ?_, ⟨hb.os.trans h.below.os, hb.tape.trans h.below.tape, hb.output.trans h.below.output, Nat.le_trans h.below.size hs, fun k hk => (hb.block k (Nat.lt_of_lt_of_le hk h.below.size)).trans (h.below.block k hk)⟩, h.tab, h.lim⟩
  exact (h.mem i x m hx hm).fr (Fr.of_below (S := fun _ => False) hb) (fun h => h) (fun _ _ h => h) rfl rfl
/-- Two parties' sets are others now. -/
def upd2 (A : Nat → Nat → Prop) (a : Nat) (X : Nat → Prop) (b : Nat) (Y : Nat → Prop) : Nat → Nat → Prop := fun c => if c = a then X else if c = b then Y else A c
theorem upd2_fst {A : Nat → Nat → Prop} {a b : Nat} {X Y : Nat → Prop} : upd2 A a X b Y a = X := by simp [upd2]
theorem upd2_snd {A : Nat → Nat → Prop} {a b : Nat} {X Y : Nat → Prop} (h : a ≠ b) : upd2 A a X b Y b = Y := by simp [upd2, h.symm]
theorem upd2_not {A : Nat → Nat → Prop} {a b c : Nat} {X Y : Nat → Prop} (h1 : c ≠ a) (h2 : c ≠ b) : upd2 A a X b Y c = A c := by simp [upd2, h1, h2]
theorem own_upd {A : Nat → Nat → Prop} {a b N : Nat} {X Y : Nat → Prop} (hab : a ≠ b) (own : ∀ a b k, A a k → A b k → a = b) (bnd : ∀ a k, A a k → k < N) (hX : ∀ k, X k → A a k ∨ N ≤ k) (hY : ∀ k, Y k → A b k ∨ N ≤ k) (hXY : ∀ k, X k → ¬ Y k) : ∀ c d k, upd2 A a X b Y c k → upd2 A a X b Y d k → c = d := by
  intro c d k hc hd
  have key : ∀ c k, upd2 A a X b Y c k → A c k ∨ (N ≤ k ∧ ((c = a ∧ X k) ∨ (c = b ∧ Y k))) := by
    intro c k h
    unfold upd2 at h
    by_cases h1 : c = a
    · subst h1; rw [if_pos rfl] at h
      exact (hX k h).imp id (fun hn => ⟨hn, .inl ⟨rfl, h⟩⟩)
    · rw [if_neg h1] at h
      by_cases h2 : c = b
      · subst h2; rw [if_pos rfl] at h
        exact (hY k h).imp id (fun hn => ⟨hn, .inr ⟨rfl, h⟩⟩)
      · rw [if_neg h2] at h; exact .inl h
  rcases key c k hc with h1 | ⟨hn, h1⟩
  · rcases key d k hd with h2 | ⟨hn, _⟩
    · exact own c d k h1 h2
    · have := bnd c k h1; omega
  · rcases key d k hd with h2 | ⟨_, h2⟩
    · have := bnd d k h2; omega
    · rcases h1 with ⟨rfl, h1⟩ | ⟨rfl, h1⟩ <;> rcases h2 with ⟨rfl, h2⟩ | ⟨rfl, h2⟩
      · rfl
      · exact absurd h2 (hXY k h1)
      · exact absurd h1 (hXY k h2)
      · rfl
theorem bnd_upd {A : Nat → Nat → Prop} {a b N N' B : Nat} {X Y : Nat → Prop} (bnd : ∀ a k, A a k → B ≤ k ∧ k < N) (hX : ∀ k, X k → A a k ∨ N ≤ k) (hY : ∀ k, Y k → A b k ∨ N ≤ k) (hX' : ∀ k, X k → k < N') (hY' : ∀ k, Y k → k < N') (hB : B ≤ N) (hN : N ≤ N') : ∀ c k, upd2 A a X b Y c k → B ≤ k ∧ k < N' := by
  intro c k h
  unfold upd2 at h
  split at h
  · exact ⟨(hX k h).elim (fun h => (bnd _ _ h).1) (fun h => by omega), hX' k h⟩
  · split at h
    · exact ⟨(hY k h).elim (fun h => (bnd _ _ h).1) (fun h => by omega), hY' k h⟩
    · exact ⟨(bnd _ _ h).1, by have := (bnd _ _ h).2; omega⟩
/-- A member of both sides has turned. -/
theorem SitA.member {w0 w w' : World} {q : Nat} {L : Law} {ms : List Mem} {n : Nat} {A : Nat → Nat → Prop} (h : SitA w0 w q L ms n A) {i : Nat} {x : Nat × Nat} {m' : Mem} (hx : L.members[i]? = some x) {P R : Nat → Prop} (hf : Fr (fun k => A (2 * i + 2) k ∨ A (2 * i + 3) k) w w') (hp : PMem w' x.1 P m') (hr : RMem w' x.2 R w'.heap.size m' []) (hP : Grow (A (2 * i + 2)) w P) (hR : Grow (A (2 * i + 3)) w R) (hP' : ∀ k, P k → k < w'.heap.size) (hR' : ∀ k, R k → k < w'.heap.size) (hPR : ∀ k, P k → ¬ R k)
    {n' : Nat} (hn : n ≤ n') (hl : MLim m' n') :
    SitA w0 w' q L (ms.set i m') n' (upd2 A (2 * i + 2) P (2 * i + 3) R) := by
  have hs := hf.size
  have hne : 2 * i + 2 ≠ 2 * i + 3 := by omega
  have hz0 : ¬ (A (2 * i + 2) 0 ∨ A (2 * i + 3) 0) := fun h0 => by
    have := h.tab.pos
    rcases h0 with h0 | h0
    · have := (h.bnd _ _ h0).1; omega
    · have := (h.bnd _ _ h0).1; omega
  have apart : ∀ c k, c ≠ 2 * i + 2 → c ≠ 2 * i + 3 → A c k → ¬ (A (2 * i + 2) k ∨ A (2 * i + 3) k) := fun c k h1 h2 hk hh => by
    rcases hh with hh | hh
    · exact h1 (h.own _ _ _ hk hh)
    · exact h2 (h.own _ _ _ hk hh)
  refine ⟨own_upd hne h.own (fun a k hk => (h.bnd a k hk).2) hP hR hPR, bnd_upd h.bnd hP hR hP' hR' h.below.size hs, ?_, ?_, by simp [h.len], fun j y m hy hm => ?_, ?_, h.tab, h.lim.mono hn⟩
  · rw [upd2_not (by omega) (by omega)]
    exact h.law.fr hf (fun k hk => apart 0 k (by omega) (by omega) hk)
  · rw [upd2_not (by omega) (by omega)]
    exact h.kept.same (fun k hk hl => ⟨hf.block k hl (apart 1 k (by omega) (by omega) hk), hk⟩)
  · by_cases hij : i = j
    · subst hij
      rw [hx] at hy
      cases hy
      rw [List.getElem?_set] at hm
      simp only [if_true] at hm
      split at hm
      · cases hm
        exact ⟨by rw [upd2_fst]; exact hp, by rw [upd2_snd hne]; exact hr, hl⟩
      · cases hm
    · rw [List.getElem?_set_ne hij] at hm
      refine ((h.mem j y m hy hm).fr hf hz0 (fun k hk => ?_) (upd2_not (by omega) (by omega)) (upd2_not (by omega) (by omega))).mono hn
      rcases hk with hk | hk
      · exact apart _ k (by omega) (by omega) hk
      · exact apart _ k (by omega) (by omega) hk
  · exact ⟨hf.os.trans h.below.os, hf.tape.trans h.below.tape, hf.output.trans h.below.output, Nat.le_trans h.below.size hs, fun k hk => (hf.block k (Nat.lt_of_lt_of_le hk h.below.size) (fun hh => by
      rcases hh with hh | hh
      · have := (h.bnd _ _ hh).1; omega
      · have := (h.bnd _ _ hh).1; omega)).trans (h.below.block k hk)⟩
/-- The law's record has turned, and more lists are kept. -/
theorem SitA.laws {w0 w w' : World} {q : Nat} {L L' : Law} {ms : List Mem} {n n' : Nat} {A : Nat → Nat → Prop} (h : SitA w0 w q L ms n A) {S T V : Nat → Prop} (hV : ∀ k, V k → ∀ b, ¬ A b k) (hV0 : ∀ k, V k → w0.heap.size ≤ k) (hf : Fr (fun k => A 0 k ∨ V k) w w') (hl : LMem w' q S L') (hS : Grow (A 0) w S) (hT : ∀ k, T k → (V k ∨ w.heap.size ≤ k) ∧ ¬ S k ∧ k < w'.heap.size) (hk : Kept w' (fun k => A 1 k ∨ T k) L') (hmm : L'.members = L.members) (lim : Lim L' n') (hn : n ≤ n') :
    ∃ A', SitA w0 w' q L' ms n' A' := by
  have hs := hf.size
  have hs' : ∀ k, S k → k < w'.heap.size := hl.own
  have hz0 : ¬ (A 0 0 ∨ V 0) := fun h0 => by
    have := h.tab.pos
    rcases h0 with h0 | h0
    · have := (h.bnd _ _ h0).1; omega
    · have := hV0 _ h0; omega
  have apart : ∀ c k, c ≠ 0 → A c k → ¬ (A 0 k ∨ V k) := fun c k h1 hk hh => by
    rcases hh with hh | hh
    · exact h1 (h.own _ _ _ hk hh)
    · exact hV k hh c hk
  have nS : ∀ c k, c ≠ 0 → A c k → ¬ S k := fun c k h1 hk hh => by
    rcases hS k hh with h2 | h2
    · exact h1 (h.own _ _ _ hk h2)
    · have := (h.bnd _ _ hk).2; omega
  refine ⟨fun c => if c = 0 then S else if c = 1 then (fun k => A 1 k ∨ T k) else A c, ⟨fun c d k hc hd => ?_, fun c k hc => ?_, hl, hk, by rw [hmm]; exact h.len, fun i x m hx hm => ?_, ?_, h.tab, lim⟩⟩
  · have key : ∀ c, (if c = 0 then S else if c = 1 then (fun k => A 1 k ∨ T k) else A c) k → (c = 0 ∧ S k) ∨ (c ≠ 0 ∧ A c k) ∨ (c = 1 ∧ T k) := by
      intro c hc
      by_cases h1 : c = 0
      · subst h1; rw [if_pos rfl] at hc; exact .inl ⟨rfl, hc⟩
      · rw [if_neg h1] at hc
        by_cases h2 : c = 1
        · subst h2; rw [if_pos rfl] at hc
          exact hc.elim (fun h => .inr (.inl ⟨h1, h⟩)) (fun h => .inr (.inr ⟨rfl, h⟩))
        · rw [if_neg h2] at hc; exact .inr (.inl ⟨h1, hc⟩)
    have tA : ∀ c, A c k → ¬ T k := fun c hA hT' => by
      rcases (hT k hT').1 with h1 | h1
      · exact hV k h1 c hA
      · have := (h.bnd _ _ hA).2; omega
    rcases key c hc with ⟨rfl, h1⟩ | ⟨h0, h1⟩ | ⟨rfl, h1⟩ <;> rcases key d hd with ⟨rfl, h2⟩ | ⟨h0', h2⟩ | ⟨rfl, h2⟩
    · rfl
    · exact absurd h1 (nS d k h0' h2)
    · exact absurd h1 (hT k h2).2.1
    · exact absurd h2 (nS c k h0 h1)
    · exact h.own _ _ _ h1 h2
    · exact absurd h2 (tA c h1)
    · exact absurd h2 (hT k h1).2.1
    · exact absurd h1 (tA d h2)
    · rfl
  · by_cases h1 : c = 0
    · subst h1; rw [if_pos rfl] at hc
      exact ⟨(hS k hc).elim (fun h2 => (h.bnd _ _ h2).1) (fun h2 => by have := h.below.size; omega), hs' k hc⟩
    · rw [if_neg h1] at hc
      by_cases h2 : c = 1
      · subst h2; rw [if_pos rfl] at hc
        rcases hc with hc | hc
        · exact ⟨(h.bnd _ _ hc).1, by have := (h.bnd _ _ hc).2; omega⟩
        · have h3 := hT k hc
          exact ⟨h3.1.elim (hV0 k) (fun h4 => by have := h.below.size; omega), h3.2.2⟩
      · rw [if_neg h2] at hc
        exact ⟨(h.bnd _ _ hc).1, by have := (h.bnd _ _ hc).2; omega⟩
  · rw [hmm] at hx
    refine ((h.mem i x m hx hm).fr hf hz0 (fun k hk => ?_) (by simp) (by simp)).mono hn
    rcases hk with hk | hk
    · exact apart _ k (by omega) hk
    · exact apart _ k (by omega) hk
  · exact ⟨hf.os.trans h.below.os, hf.tape.trans h.below.tape, hf.output.trans h.below.output, Nat.le_trans h.below.size hs, fun k hk => (hf.block k (Nat.lt_of_lt_of_le hk h.below.size) (fun hh => by
      rcases hh with hh | hh
      · have := (h.bnd _ _ hh).1; omega
      · have := hV0 _ hh; omega)).trans (h.below.block k hk)⟩
end Go.Proofs.YtkehpnobidendaaGreatDoor

namespace Go.Proofs.YtkehpnobidendaaGreatDoor
open Go.RowKit

/-- The record takes a member more. -/
theorem SitA.joins {w0 w w' : World} {q : Nat} {L : Law} {ms : List Mem} {n : Nat} {A : Nat → Nat → Prop} (h : SitA w0 w q L ms n A) {S P R : Nat → Prop} {x : Nat × Nat} {m : Mem} (hf : Fr (A 0) w w') (hl : LMem w' q S { L with members := L.members ++ [x] }) (hS : Grow (A 0) w S) (hp : PMem w' x.1 P m) (hr : RMem w' x.2 R w'.heap.size m []) (hP : ∀ k, P k → w.heap.size ≤ k ∧ k < w'.heap.size) (hR : ∀ k, R k → w.heap.size ≤ k ∧ k < w'.heap.size) (hPR : ∀ k, P k → ¬ R k) (hPS : ∀ k, P k → ¬ S k) (hRS : ∀ k, R k → ¬ S k) (hm8 : L.members.length < 8)
    (hl' : MLim m n) :
    ∃ A', SitA w0 w' q { L with members := L.members ++ [x] } (ms ++ [m]) n A' := by
  have hs := hf.size
  have hs' : ∀ k, S k → k < w'.heap.size := hl.own
  have hz0 : ¬ A 0 0 := fun h0 => by
    have := h.tab.pos
    have := (h.bnd _ _ h0).1; omega
  have apart : ∀ c k, c ≠ 0 → A c k → ¬ A 0 k := fun c k h1 hk hh => h1 (h.own _ _ _ hk hh)
  have nS : ∀ c k, c ≠ 0 → A c k → ¬ S k := fun c k h1 hk hh => by
    rcases hS k hh with h2 | h2
    · exact h1 (h.own _ _ _ hk h2)
    · have := (h.bnd _ _ hk).2; omega
  have hb0 := h.below.size
  obtain ⟨l, hll⟩ : ∃ l, l = L.members.length := ⟨_, rfl⟩
  obtain ⟨A', hA'⟩ : ∃ A' : Nat → Nat → Prop, A' = fun c => if c = 0 then S else if c = 2 * l + 2 then P else if c = 2 * l + 3 then R else A c := ⟨_, rfl⟩
  have a0 : A' 0 = S := by rw [hA']; simp
  have aP : A' (2 * l + 2) = P := by rw [hA']; simp
  have aR : A' (2 * l + 3) = R := by rw [hA']; simp
  have aN : ∀ c, c ≠ 0 → c ≠ 2 * l + 2 → c ≠ 2 * l + 3 → A' c = A c := fun c h1 h2 h3 => by rw [hA']; simp [h1, h2, h3]
  have key : ∀ c k, A' c k → (c = 0 ∧ S k) ∨ (c = 2 * l + 2 ∧ P k) ∨ (c = 2 * l + 3 ∧ R k) ∨ (c ≠ 0 ∧ A c k) := by
    intro c k hc
    by_cases h1 : c = 0
    · subst h1; rw [a0] at hc; exact .inl ⟨rfl, hc⟩
    · by_cases h2 : c = 2 * l + 2
      · subst h2; rw [aP] at hc; exact .inr (.inl ⟨rfl, hc⟩)
      · by_cases h3 : c = 2 * l + 3
        · subst h3; rw [aR] at hc; exact .inr (.inr (.inl ⟨rfl, hc⟩))
        · rw [aN c h1 h2 h3] at hc; exact .inr (.inr (.inr ⟨h1, hc⟩))
  have pA : ∀ c k, A c k → ¬ P k := fun c k hA hP' => by have := (hP k hP').1; have := (h.bnd _ _ hA).2; omega
  have rA : ∀ c k, A c k → ¬ R k := fun c k hA hR' => by have := (hR k hR').1; have := (h.bnd _ _ hA).2; omega
  refine ⟨A', ⟨fun c d k hc hd => ?_, fun c k hc => ?_, by rw [a0]; exact hl, ?_, by simp [h.len], fun i y m' hy hm => ?_, ?_, h.tab, ⟨by simp; omega, h.lim.le, h.lim.bl, h.lim.ok, h.lim.lt, h.lim.c0, h.lim.c1, h.lim.tx, h.lim.tm, h.lim.ou, h.lim.om⟩⟩⟩
  · rcases key c k hc with ⟨rfl, h1⟩ | ⟨rfl, h1⟩ | ⟨rfl, h1⟩ | ⟨h0, h1⟩ <;> rcases key d k hd with ⟨rfl, h2⟩ | ⟨rfl, h2⟩ | ⟨rfl, h2⟩ | ⟨h0', h2⟩
    · rfl
    · exact absurd h1 (hPS k h2)
    · exact absurd h1 (hRS k h2)
    · exact absurd h1 (nS d k h0' h2)
    · exact absurd h2 (hPS k h1)
    · rfl
    · exact absurd h2 (hPR k h1)
    · exact absurd h1 (pA d k h2)
    · exact absurd h2 (hRS k h1)
    · exact absurd h1 (hPR k h2)
    · rfl
    · exact absurd h1 (rA d k h2)
    · exact absurd h2 (nS c k h0 h1)
    · exact absurd h2 (pA c k h1)
    · exact absurd h2 (rA c k h1)
    · exact h.own _ _ _ h1 h2
  · rcases key c k hc with ⟨rfl, h1⟩ | ⟨rfl, h1⟩ | ⟨rfl, h1⟩ | ⟨h0, h1⟩
    · exact ⟨(hS k h1).elim (fun h2 => (h.bnd _ _ h2).1) (fun h2 => by omega), hs' k h1⟩
    · have := hP k h1; exact ⟨by omega, this.2⟩
    · have := hR k h1; exact ⟨by omega, this.2⟩
    · have := h.bnd c k h1; exact ⟨this.1, by omega⟩
  · rw [aN 1 (by omega) (by omega) (by omega)]
    have hk := h.kept.same (w' := w') (T' := A 1) (fun k hk hl => ⟨hf.block k hl (apart 1 k (by omega) hk), hk⟩)
    exact ⟨hk.lt, hk.lo, hk.t, hk.o⟩
  · by_cases hil : i < l
    · have hy' : L.members[i]? = some y := by
        have e : (L.members ++ [x])[i]? = L.members[i]? := List.getElem?_append_left (by omega)
        rw [← e]; exact hy
      have hm'' : ms[i]? = some m' := by
        have e : (ms ++ [m])[i]? = ms[i]? := List.getElem?_append_left (by rw [← h.len]; omega)
        rw [← e]; exact hm
      exact (h.mem i y m' hy' hm'').fr hf hz0 (fun k hk => hk.elim (fun hk => apart _ k (by omega) hk) (fun hk => apart _ k (by omega) hk)) (aN _ (by omega) (by omega) (by omega)) (aN _ (by omega) (by omega) (by omega))
    · have hil2 : i = l := by
        have := (List.getElem?_eq_some_iff.1 hy).1
        simp at this; omega
      subst hil2
      have e1 : (L.members ++ [x])[i]? = some x := by rw [List.getElem?_append_right (by omega)]; simp [hll]
      have e2 : (ms ++ [m])[i]? = some m := by rw [List.getElem?_append_right (by rw [← h.len]; omega)]; simp [hll, h.len]
      have hy2 : (L.members ++ [x])[i]? = some y := hy
      rw [e1] at hy2
      rw [e2] at hm
      cases hy2; cases hm
      exact ⟨by rw [aP]; exact hp, by rw [aR]; exact hr, hl'⟩
  · exact ⟨hf.os.trans h.below.os, hf.tape.trans h.below.tape, hf.output.trans h.below.output, Nat.le_trans h.below.size hs, fun k hk => (hf.block k (Nat.lt_of_lt_of_le hk h.below.size) (fun hh => by have := (h.bnd _ _ hh).1; omega)).trans (h.below.block k hk)⟩
end Go.Proofs.YtkehpnobidendaaGreatDoor

namespace Go.Proofs.YtkehpnobidendaaGreatDoor
open Go.RowKit

theorem RMem.own {w : World} {p : Nat} {S : Nat → Prop} {B : Nat} {m : Mem} {out : List Ltr} (h : RMem w p S B m out) : ∀ k, S k → k < w.heap.size := by
  obtain ⟨_, _, _, _, _, _, _, h, _⟩ := h
  exact h.lt
theorem once_new (a b : Int) : Once (Mem.new a b) := ⟨fun v => by simp [Mem.entered, Mem.new]; rfl⟩
theorem info_member : (Tryz.prog.info? 50).map (fun i => (i.zero, i.size, i.bytes)) = some (some (.agg #[.pointer none, .pointer none]), 2, 16) := by kernel_rfl
set_option maxRecDepth 100000 in
set_option maxHeartbeats 1000000 in
theorem plain4_no (o : OpD) (hk : o.k = 4) (w : World) (q : Nat) (hno : newOk o.a o.b = false) :
    Calls Tryz.prog 9 #[.pointer (some ⟨q, 0, none⟩), .agg o.cells] w fun e w' => e = .returned (.bool true) ∧ Below w.heap.size w w' := by
  obtain ⟨k, on, a, b, s, n, m0, m1, m2, bv, jv, jb, j0, j1, j2, j3, c, nu, cv, cb, c0, c1, c2, c3, sl⟩ := o
  dsimp only [OpD.cells] at *
  subst hk
  go_enter Tryz.func9, Tryz.ntmps9
  go_wp2_with (first
    | (go_at_call 31; refine (pnew_no _ _ hno _).mono ?_; rintro e w1 ⟨rfl, hb⟩; have e2 : w1.cell? ⟨w.heap.size, 2, none⟩ = some (.int .i64 a) := box_cell hb 2; have e3 : w1.cell? ⟨w.heap.size, 3, none⟩ = some (.int .i64 b) := box_cell hb 3)
    | (go_at_call 32; refine (rnew_no _ _ hno _).mono ?_; rintro e w2 ⟨rfl, hc⟩))
  all_goals (
    go_ret
    exact ⟨rfl, bnext (bnext (below_alloc _ _) hb) hc⟩)
set_option maxRecDepth 100000 in
set_option maxHeartbeats 1000000 in
theorem plain4_ok (o : OpD) (hk : o.k = 4) (hok : newOk o.a o.b = true) {w0 w : World} {q : Nat} {L : Law} {ms : List Mem} {n : Nat} {A : Nat → Nat → Prop} (h : SitA w0 w q L ms n A) :
    Calls Tryz.prog 9 #[.pointer (some ⟨q, 0, none⟩), .agg o.cells] w fun e w' => e = .returned (.bool true) ∧ ∃ L' ms' A', SitA w0 w' q L' ms' n A' ∧ 0 < ms'.length := by
  have HS : Hid (SitA w0 w q L ms n A) := h
  have htb : ∀ W, Below w.heap.size w W → Tab W := fun W hW => (h.tab.below h.below).below hW
  clear h
  obtain ⟨k, on, a, b, s, n', m0, m1, m2, bv, jv, jb, j0, j1, j2, j3, c, nu, cv, cb, c0, c1, c2, c3, sl⟩ := o
  dsimp only [OpD.cells] at *
  subst hk
  have HB0 : Hid (∀ o, Below w.heap.size w (w.alloc o)) := fun o => below_alloc w o
  have hnew : 0 ≤ a ∧ a ≤ 3 ∧ 1 ≤ b ∧ b ≤ 100 := by simpa [newOk] using hok
  by_cases h8 : (L.members.length : Int) < 8
  all_goals (
    go_enter Tryz.func9, Tryz.ntmps9
    go_wp2_with (first
      | (go_at_call 31; refine (pnew_ok _ _ hok _ (htb _ (HB0.out _))).mono ?_; rintro e w1 ⟨pp, rfl, hP, hb⟩; have e2 : w1.cell? ⟨w.heap.size, 2, none⟩ = some (.int .i64 a) := box_cell hb 2; have e3 : w1.cell? ⟨w.heap.size, 3, none⟩ = some (.int .i64 b) := box_cell hb 3; have HP : Hid (∃ S, PMem w1 pp S (Mem.new a b) ∧ ∀ k, S k → w.heap.size ≤ k) := (by obtain ⟨S, h1, h2⟩ := hP; exact ⟨S, h1, fun k hk => Nat.le_trans (HB0.out _).size (h2 k hk)⟩); have HB1 : Hid (Below w.heap.size w w1) := bnext (HB0.out _) hb; clear hP hb)
      | (go_at_call 32; refine (rnew_ok _ _ hok _).mono ?_; rintro e w2 ⟨rfl, hR, hc⟩; have HR : Hid (∃ S, RMem w2 w1.heap.size S w2.heap.size (Mem.new a b) [] ∧ ∀ k, S k → w1.heap.size ≤ k) := hR; have HC : Hid (Below w1.heap.size w1 w2) := hc; have HB2 : Hid (Below w.heap.size w w2) := bnext HB1.out hc; obtain ⟨vm, vl, vb, vt, vs, vo, vn, hbun⟩ := (HS.out.law.below HB2.out).ex; have q0 : w2.cell? ⟨q, 0, none⟩ = some vm := cell_at hbun.box 0; have hrow : Row w2 (A 0) 50 2 vm L.members.length (L.members.flatMap pcells) := hbun.row 0 _ _ _ rfl rfl rfl; obtain ⟨am, cm, rfl⟩ := hrow.isSlice; have HBU : Hid (Bun w2 q 34 (A 0) (lcells L (.slice am L.members.length cm) vl vb vt vs vo vn) [.slice am L.members.length cm, vl, vb, vt, vs, vo, vn] lE (lX L)) := hbun; have HRW : Hid (Row w2 (A 0) 50 2 (.slice am L.members.length cm) L.members.length (L.members.flatMap pcells)) := hrow; clear hbun hrow hR hc e2 e3)
      | (at_builtin; refine wpList_append_row rfl (.tmp 109) (.tmp 113) 26 rfl (A 0) 50 _ 2 16 Tryz.underlying26 info_member rfl (.slice am L.members.length cm) L.members.length (L.members.flatMap pcells) rfl (HRW.out.alloc _) ⟨w2.heap.size, 0, none⟩ 1 1 (pcells (pp, w1.heap.size)) rfl rfl (new_cells _ _ _ rfl) (by simp [pcells, Value.oneCell']) (by omega) (by unfold maxLen; omega) (by omega) ?_; intro v' w3 hr' hf; obtain ⟨a', cap', rfl⟩ := hr'.isSlice; have hb1 := (HBU.out.alloc _).after 0 rfl hf; have d2' : w3.cell? ⟨q, 0, none⟩ = some (.slice am L.members.length cm) := cell_at hb1 0; have fz1 := free_at hb1; clear hb1; have HR' : Hid (Row w3 (fun k => (Value.slice am L.members.length cm).ownBlock = some k ∨ k = (w2.alloc (.cells #[.pointer (some ⟨pp, 0, none⟩), .pointer (some ⟨w1.heap.size, 0, none⟩)] 50)).heap.size) 50 2 (.slice a' (L.members.length + 1) cap') (L.members.length + 1) (L.members.flatMap pcells ++ pcells (pp, w1.heap.size))) := hr'; have HF : Hid (Fr (fun k => (Value.slice am L.members.length cm).ownBlock = some k) (w2.alloc (.cells #[.pointer (some ⟨pp, 0, none⟩), .pointer (some ⟨w1.heap.size, 0, none⟩)] 50)) w3) := hf; clear hr' hf)))
  · go_ret
    obtain ⟨P, hp, hPk⟩ := HP.out
    obtain ⟨R, hr, hRk⟩ := HR.out
    have hs1 := HB1.out.size
    have hs2 := HC.out.size
    have hsa : (w2.alloc (.cells #[.pointer (some ⟨pp, 0, none⟩), .pointer (some ⟨w1.heap.size, 0, none⟩)] 50)).heap.size = w2.heap.size + 1 := by simp
    have hs3 := HF.out.size
    have hA0 : ∀ k, A 0 k → k < w.heap.size := fun k hk => (HS.out.bnd 0 k hk).2
    have hfa : Fr (A 0) w2 (w3.setCell ⟨q, 0, none⟩ (.slice a' (L.members.length + 1) cap')) := (HBU.out.alloc _).frPut (Fr.alloc (A 0) w2 _) 0 rfl HF.out 0 _
    have hz0 : ¬ A 0 0 := fun h0 => by
      have := HS.out.tab.pos
      have := (HS.out.bnd _ _ h0).1; omega
    have hgr : Grow (A 0) w2 (fun k => A 0 k ∨ (Value.slice a' (L.members.length + 1) cap').ownBlock = some k) := grow_put HR'.out (by omega) (fun k hk => (HRW.out.ownS hk).1)
    have hsz := hfa.size
    have hlt : ∀ k, P k → k < w1.heap.size := hp.lt
    have hrt : ∀ k, R k → k < w2.heap.size := hr.own
    refine ⟨rfl, _, _, (HS.out.joins (x := (pp, w1.heap.size)) (m := Mem.new a b) (P := P) (R := R) ((Fr.of_below HB2.out).trans hfa (fun _ h => .inl h)) ⟨_, vl, vb, vt, vs, vo, vn, (HBU.out.alloc _).put 0 rfl rfl _ (L.members.length + 1, L.members.flatMap pcells ++ pcells (pp, w1.heap.size)) HR'.out HF.out 0 rfl rfl (by simp [lX])⟩ (fun k hk => (hgr k hk).elim .inl (fun h => .inr (by have := HB2.out.size; omega))) ((hp.below HC.out).fr hfa (fun k hk hA => by have := hPk k hk; have := hA0 k hA; omega) hz0) ((hr.rest _).fr hfa (fun k hk hA => by have := hRk k hk; have := hA0 k hA; omega)) (fun k hk => ⟨hPk k hk, by have := hlt k hk; omega⟩) (fun k hk => ⟨by have := hRk k hk; omega, by have := hrt k hk; omega⟩) (fun k hk hR => by have := hlt k hk; have := hRk k hR; omega) (fun k hk hS => (hgr k hS).elim (fun h => by have := hPk k hk; have := hA0 k h; omega) (fun h => by have := hlt k hk; omega)) (fun k hk hS => (hgr k hS).elim (fun h => by have := hRk k hk; have := hA0 k h; omega) (fun h => by have := hrt k hk; omega)) (by omega) (mlim_new a b hnew _)).imp fun A' h => ⟨h, by simp⟩⟩
  · go_ret
    exact ⟨rfl, L, ms, A, HS.out.quiet HB2.out, by have := HS.out.len; omega⟩
end Go.Proofs.YtkehpnobidendaaGreatDoor
