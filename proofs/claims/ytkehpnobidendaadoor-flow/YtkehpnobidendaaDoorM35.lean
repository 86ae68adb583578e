/- The program's takeProposal with a vote. The program's take. The program's Handle. parleykeep's cluster: as plain data (Clu), and its record in memory (KMem). parleykeep's meets. parleykeep's sends: the plain side. -/
import Derived.Test.YtkehpnobidendaaDoorM33
import Derived.Test.YtkehpnobidendaaDoorM34
import Derived.Test.YtkehpnobidendaaDoorM11
import Derived.Deep.RegionLaw
import Derived.Deep.DeepCutAuto
namespace Go.Proofs.YtkehpnobidendaaDoor
open Go.RowKit Go.Maps Go.Conc

attribute [local go_sem ↓] pload_msg
set_option maxRecDepth 100000 in
set_option maxHeartbeats 4000000 in
theorem ptakePropY (w : World) (p c : Nat) (S : Nat → Prop) (m : Mem) (h : PMem w p S m) (hc : OutB w c []) (hcs : ¬ S c) (hc0 : c ≠ 0) (hi : Inv m) (h2 : Inv2 m) (x : Msg) (hx : x.block.Ok) (hf : m.faultP x = 0) (hag : (m.learns x.block).agrees x.block = true) (hlog : m.log.length + m.blocks.length + 2 ≤ 1700000000000) :
    Calls Tryd.prog 56 #[.pointer (some ⟨p, 0, none⟩), .agg x.cells.toArray, .chan (some c)] w fun e w' => e = .returned (.int .i64 0) ∧ ∃ S', PMem w' p S' (({ m.learns x.block with voted := x.view } : Mem).enter (if x.view < 1000 then x.view + 1 else x.view)) ∧ OutB w' c [m.voteLtr x.view x.block.num] ∧ Grow S w S' ∧ Fr (fun k => S k ∨ k = c) w w' := by
  obtain ⟨W0, hW0⟩ : ∃ W, W = w.alloc (.cells x.cells.toArray 40) := ⟨_, rfl⟩
  have HB0 : Hid (Below w.heap.size w W0) := by rw [hW0]; exact below_alloc _ _
  have HX0 : Hid (W0.heap[w.heap.size]? = some (.cells x.cells.toArray 40 (0, 0))) := by rw [hW0]; exact heap_alloc_new _ _
  have hld : (rowVar 40 ⟨w.heap.size, 0, none⟩).run Tryd.prog W0 = .ok (.agg x.cells.toArray) W0 := rowVar_whole W0 w.heap.size 40 40 x.cells.toArray (0, 0) _ HX0.out Tryd.underlying40 rfl (by kernel_rfl)
  have HFV : Hid (Calls Tryd.prog 71 #[.pointer (some ⟨p, 0, none⟩), .agg x.cells.toArray] W0 fun e w' => e = .returned (.int .i64 (m.faultP x)) ∧ Below W0.heap.size W0 w') := pfaultP W0 p S m (h.below HB0.out) x hx
  rw [hf] at HFV
  obtain ⟨h1, h3, h4, h5, h6, h7⟩ := prop_fine hf
  have hh : Held m x.block.just := ⟨h3.1, hx.j, h4⟩
  have hk : Inv (m.knows x.block) := inv_knows hi x.block hh ⟨by omega, by omega, hx, h1.2.2.2.2⟩
  have hk2 := inv2_knows hi h2 x.block
  have hhk : Held (m.knows x.block) x.block.just := hh.of_blocks fun n b hb => knows_keeps hb
  have hlk := knows_len m x.block
  have hll := (knows_lists m x.block).2.2
  have hLi : Inv (m.learns x.block) := inv_learn hk _ hhk
  have hLb : (m.learns x.block).blocks = (m.knows x.block).blocks := (learn_keeps _ _).b
  have hLv : (m.learns x.block).view = m.view := by
    have e1 := (learn_keeps (m.knows x.block) x.block.just).v
    have e2 : (m.knows x.block).view = m.view := by unfold Mem.knows; split <;> rfl
    exact e1.trans e2
  have HKN : Hid (∀ W, PMem W p S m → Calls Tryd.prog 53 #[.pointer (some ⟨p, 0, none⟩), .agg x.block.cells.toArray] W fun e w' => e = .returned (.tuple #[]) ∧ PMem w' p S (m.knows x.block) ∧ Fr S W w') := fun W hW => pknow W p S m hW x.block hx (by omega)
  have HLE : Hid (∀ W, PMem W p S (m.knows x.block) → Calls Tryd.prog 72 #[.pointer (some ⟨p, 0, none⟩), .agg x.block.just.cells.toArray] W fun e w' => e = .returned (.tuple #[]) ∧ ∃ S', PMem w' p S' (m.learns x.block) ∧ Grow S W S' ∧ Fr S W w') := fun W hW => plearn W p S (m.knows x.block) hW hk hk2.up _ hhk (by rw [hll]; omega)
  have HAG : Hid (∀ W S', PMem W p S' (m.learns x.block) → Calls Tryd.prog 73 #[.pointer (some ⟨p, 0, none⟩), .agg x.block.cells.toArray] W fun e w' => e = .returned (.bool true) ∧ Below W.heap.size W w') := fun W S' hW => by have := pagrees W p S' (m.learns x.block) hW hLi x.block hx.j.b1; rw [show ((m.learns x.block).above (m.learns x.block).locked.block ((m.learns x.block).blocks.length + 1) x.block.just.block || decide ((m.learns x.block).locked.view < x.block.just.view)) = true from hag] at this; exact this
  have HEN : Hid (∀ W S', PMem W p S' ({ m.learns x.block with voted := x.view } : Mem) → Calls Tryd.prog 48 #[.pointer (some ⟨p, 0, none⟩), .int .i64 (if x.view < 1000 then x.view + 1 else x.view)] W fun e w' => e = .returned (.tuple #[]) ∧ PMem w' p S' (({ m.learns x.block with voted := x.view } : Mem).enter (if x.view < 1000 then x.view + 1 else x.view)) ∧ Fr S' W w') := fun W S' hW => penter W p S' _ hW _ (by split <;> omega) (by split <;> omega) (by show (m.learns x.block).view ≤ _; rw [hLv]; split <;> omega)
  have hwr : IntKind.i64.wrap (x.view + 1) = x.view + 1 := by rw [IntKind.wrap_i64]; omega
  have hid : (m.learns x.block).id = m.id := by
    have e1 := (learn_keeps (m.knows x.block) x.block.just).i
    have e2 : (m.knows x.block).id = m.id := by unfold Mem.knows; split <;> rfl
    exact e1.trans e2
  have HVL : Hid (∀ W S', PMem W p S' ({ m.learns x.block with voted := x.view } : Mem) → Calls Tryd.prog 74 #[.pointer (some ⟨p, 0, none⟩), .int .i64 x.view, .int .u64 x.block.num] W fun e w' => e = .returned (.agg (m.voteLtr x.view x.block.num).cells.toArray) ∧ Below W.heap.size W w') := fun W S' hW => by
    have := pvoteLetter W p S' ({ m.learns x.block with voted := x.view } : Mem) hW x.view x.block.num (num_lt _) (by show 0 ≤ (m.learns x.block).id; rw [hid]; exact hi.i0) (by show (m.learns x.block).id ≤ 3; rw [hid]; exact hi.i1) (by omega) (by omega)
    rw [show ({ m.learns x.block with voted := x.view } : Mem).voteLtr x.view x.block.num = m.voteLtr x.view x.block.num by unfold Mem.voteLtr; rw [show ({ m.learns x.block with voted := x.view } : Mem).id = m.id from hid]] at this
    exact this
  have HNU : Hid (∀ W, Tab W → Calls Tryd.prog 27 #[.agg x.block.cells.toArray] W fun e w' => e = .returned (.int .u64 x.block.num) ∧ Below W.heap.size W w') := fun W hW => pnum x.block hx hx.c1 W hW
  obtain ⟨ve, hve⟩ : ∃ v, v = (if x.view < 1000 then x.view + 1 else x.view) := ⟨_, rfl⟩
  have hmin : (if x.view + 1 < 1000 then x.view + 1 else 1000) = ve := by rw [hve]; split <;> split <;> omega
  have hmin2 : min (x.view + 1) 1000 = ve := by rw [hve]; split <;> omega
  rw [← hve] at HEN ⊢
  have HP : Hid (PMem w p S m) := h
  have HC : Hid (OutB w c []) := hc
  have HLT : Hid (¬ S w.heap.size) := fun hh => by have := h.lt _ hh; omega
  have HSET : Hid (∀ W S', PMem W p S' (m.learns x.block) → PMem (W.setCell ⟨p, 4, none⟩ (.int .i64 x.view)) p S' ({ m.learns x.block with voted := x.view } : Mem)) := fun W S' hW => hW.set { m.learns x.block with voted := x.view } 4 _ (fun _ _ _ _ _ => rfl) rfl rfl rfl rfl rfl (Int.le_refl _) (Int.le_refl _)
  clear h hc hi h2 hf hag hlog h1 h3 h4 h5 h6 h7 hh hk hk2 hhk hlk hll hLi hLb hLv hve hid
  obtain ⟨mk, hmk⟩ : ∃ y, y = m.knows x.block := ⟨_, rfl⟩
  rw [← hmk] at HKN HLE
  obtain ⟨mv, hmv⟩ : ∃ y : Mem, y = { m.learns x.block with voted := x.view } := ⟨_, rfl⟩
  rw [← hmv] at HEN HVL HSET ⊢
  obtain ⟨ml, hml⟩ : ∃ y, y = m.learns x.block := ⟨_, rfl⟩
  rw [← hml] at HLE HAG HSET
  obtain ⟨nb, hnb⟩ : ∃ y, y = x.block.num := ⟨_, rfl⟩
  rw [← hnb] at HVL HNU ⊢
  obtain ⟨lt, hlt⟩ : ∃ y, y = m.voteLtr x.view nb := ⟨_, rfl⟩
  rw [← hlt] at HVL ⊢
  clear hmk hml hmv hnb hlt hx
  obtain ⟨xk, xf, xv, ⟨bv, ⟨jv, jb, j0, j1, j2, j3⟩, bc⟩, nu, ⟨cv, cb, k0, k1, k2, k3⟩, sl⟩ := x
  dsimp only [Msg.cells, Blk.cells, Crt.cells] at *
  refine calls_of_wn Tryd.func56 rfl ?_
  simp only [Tryd.ntmps56, List.size_toArray, List.length_cons, List.length_nil, Nat.reduceAdd, Nat.reduceSub, Array.replicate_succ, Array.replicate_zero, List.push_toArray, List.append_toArray, List.nil_append, List.cons_append]
  refine WN.seq_wp (fun K hK => ?_)
  go_wp2
  rw [← hW0]
  clear hW0
  refine WN.seq_wp (fun K hK => ?_)
  go_wp2_with (go_at_call 71; refine HFV.out.mono ?_; rintro e w1 ⟨rfl, hb1⟩)
  have hB1 : Below w.heap.size w w1 := bnext HB0.out hb1
  have HM1 : Hid (w1.heap[w.heap.size]? = some (.cells #[.int .i64 xk, .int .i64 xf, .int .i64 xv, .int .i64 bv, .int .i64 jv, .int .u64 jb, .int .u64 j0, .int .u64 j1, .int .u64 j2, .int .u64 j3, .string bc, .int .u64 nu, .int .i64 cv, .int .u64 cb, .int .u64 k0, .int .u64 k1, .int .u64 k2, .int .u64 k3, .int .u64 sl] 40 (0, 0))) := (hb1.block _ (lt_at HX0.out)).trans HX0.out
  have HP1 : Hid (PMem w1 p S m) := HP.out.below hB1
  have HF1 : Hid (Fr S w w1) := Fr.of_below hB1
  clear hb1 hB1 HFV HX0 HB0 hld
  have z2 : w1.cell? ⟨w.heap.size, 2, none⟩ = some (.int .i64 xv) := cell_at HM1.out 2
  have z3 : w1.cell? ⟨w.heap.size, 3, none⟩ = some (.int .i64 bv) := cell_at HM1.out 3
  have z4 : w1.cell? ⟨w.heap.size, 4, none⟩ = some (.int .i64 jv) := cell_at HM1.out 4
  have z5 : w1.cell? ⟨w.heap.size, 5, none⟩ = some (.int .u64 jb) := cell_at HM1.out 5
  have z6 : w1.cell? ⟨w.heap.size, 6, none⟩ = some (.int .u64 j0) := cell_at HM1.out 6
  have z7 : w1.cell? ⟨w.heap.size, 7, none⟩ = some (.int .u64 j1) := cell_at HM1.out 7
  have z8 : w1.cell? ⟨w.heap.size, 8, none⟩ = some (.int .u64 j2) := cell_at HM1.out 8
  have z9 : w1.cell? ⟨w.heap.size, 9, none⟩ = some (.int .u64 j3) := cell_at HM1.out 9
  have z10 : w1.cell? ⟨w.heap.size, 10, none⟩ = some (.string bc) := cell_at HM1.out 10
  refine WN.seq_wp (fun K hK => ?_)
  go_wp2_with (go_at_call 53; refine (HKN.out _ HP1.out).mono ?_; rintro e w2 ⟨rfl, hp2, hf2⟩)
  have HM2 : Hid (w2.heap[w.heap.size]? = some (.cells #[.int .i64 xk, .int .i64 xf, .int .i64 xv, .int .i64 bv, .int .i64 jv, .int .u64 jb, .int .u64 j0, .int .u64 j1, .int .u64 j2, .int .u64 j3, .string bc, .int .u64 nu, .int .i64 cv, .int .u64 cb, .int .u64 k0, .int .u64 k1, .int .u64 k2, .int .u64 k3, .int .u64 sl] 40 (0, 0))) := (hf2.block _ (lt_at HM1.out) HLT.out).trans HM1.out
  have HP2 : Hid (PMem w2 p S mk) := hp2
  have HF2 : Hid (Fr S w w2) := HF1.out.trans hf2 (fun _ h => .inl h)
  clear z2 z3 z4 z5 z6 z7 z8 z9 z10 hp2 hf2 HM1 HP1 HF1
  have z2 : w2.cell? ⟨w.heap.size, 2, none⟩ = some (.int .i64 xv) := cell_at HM2.out 2
  have z3 : w2.cell? ⟨w.heap.size, 3, none⟩ = some (.int .i64 bv) := cell_at HM2.out 3
  have z4 : w2.cell? ⟨w.heap.size, 4, none⟩ = some (.int .i64 jv) := cell_at HM2.out 4
  have z5 : w2.cell? ⟨w.heap.size, 5, none⟩ = some (.int .u64 jb) := cell_at HM2.out 5
  have z6 : w2.cell? ⟨w.heap.size, 6, none⟩ = some (.int .u64 j0) := cell_at HM2.out 6
  have z7 : w2.cell? ⟨w.heap.size, 7, none⟩ = some (.int .u64 j1) := cell_at HM2.out 7
  have z8 : w2.cell? ⟨w.heap.size, 8, none⟩ = some (.int .u64 j2) := cell_at HM2.out 8
  have z9 : w2.cell? ⟨w.heap.size, 9, none⟩ = some (.int .u64 j3) := cell_at HM2.out 9
  have z10 : w2.cell? ⟨w.heap.size, 10, none⟩ = some (.string bc) := cell_at HM2.out 10
  refine WN.seq_wp (fun K hK => ?_)
  go_wp2_with (go_at_call 72; refine (HLE.out _ HP2.out).mono ?_; rintro e w3 ⟨rfl, S3, hp3, hg3, hf3⟩)
  have HM3 : Hid (w3.heap[w.heap.size]? = some (.cells #[.int .i64 xk, .int .i64 xf, .int .i64 xv, .int .i64 bv, .int .i64 jv, .int .u64 jb, .int .u64 j0, .int .u64 j1, .int .u64 j2, .int .u64 j3, .string bc, .int .u64 nu, .int .i64 cv, .int .u64 cb, .int .u64 k0, .int .u64 k1, .int .u64 k2, .int .u64 k3, .int .u64 sl] 40 (0, 0))) := (hf3.block _ (lt_at HM2.out) HLT.out).trans HM2.out
  have HP3 : Hid (PMem w3 p S3 ml) := hp3
  have HG3 : Hid (Grow S w S3) := fun k hk => (hg3 k hk).elim .inl (fun h => .inr (Nat.le_trans HF2.out.size h))
  have HF3 : Hid (Fr S w w3) := HF2.out.trans hf3 (fun _ h => .inl h)
  clear z2 z3 z4 z5 z6 z7 z8 z9 z10 hp3 hg3 hf3 HM2 HP2 HF2
  have z2 : w3.cell? ⟨w.heap.size, 2, none⟩ = some (.int .i64 xv) := cell_at HM3.out 2
  have z3 : w3.cell? ⟨w.heap.size, 3, none⟩ = some (.int .i64 bv) := cell_at HM3.out 3
  have z4 : w3.cell? ⟨w.heap.size, 4, none⟩ = some (.int .i64 jv) := cell_at HM3.out 4
  have z5 : w3.cell? ⟨w.heap.size, 5, none⟩ = some (.int .u64 jb) := cell_at HM3.out 5
  have z6 : w3.cell? ⟨w.heap.size, 6, none⟩ = some (.int .u64 j0) := cell_at HM3.out 6
  have z7 : w3.cell? ⟨w.heap.size, 7, none⟩ = some (.int .u64 j1) := cell_at HM3.out 7
  have z8 : w3.cell? ⟨w.heap.size, 8, none⟩ = some (.int .u64 j2) := cell_at HM3.out 8
  have z9 : w3.cell? ⟨w.heap.size, 9, none⟩ = some (.int .u64 j3) := cell_at HM3.out 9
  have z10 : w3.cell? ⟨w.heap.size, 10, none⟩ = some (.string bc) := cell_at HM3.out 10
  refine WN.seq ?_
  refine WN.seq_wp (fun K hK => ?_)
  go_wp2_with (go_at_call 73; refine (HAG.out _ S3 HP3.out).mono ?_; rintro e w4 ⟨rfl, hb4⟩)
  have HM4 : Hid (w4.heap[w.heap.size]? = some (.cells #[.int .i64 xk, .int .i64 xf, .int .i64 xv, .int .i64 bv, .int .i64 jv, .int .u64 jb, .int .u64 j0, .int .u64 j1, .int .u64 j2, .int .u64 j3, .string bc, .int .u64 nu, .int .i64 cv, .int .u64 cb, .int .u64 k0, .int .u64 k1, .int .u64 k2, .int .u64 k3, .int .u64 sl] 40 (0, 0))) := (hb4.block _ (lt_at HM3.out)).trans HM3.out
  have HP4 : Hid (PMem w4 p S3 ml) := HP3.out.below hb4
  have HF4 : Hid (Fr S w w4) := HF3.out.trans (Fr.of_below hb4) (fun _ h => .inl h)
  clear z2 z3 z4 z5 z6 z7 z8 z9 z10 hb4 HM3 HP3 HF3
  have z2 : w4.cell? ⟨w.heap.size, 2, none⟩ = some (.int .i64 xv) := cell_at HM4.out 2
  have z3 : w4.cell? ⟨w.heap.size, 3, none⟩ = some (.int .i64 bv) := cell_at HM4.out 3
  have z4 : w4.cell? ⟨w.heap.size, 4, none⟩ = some (.int .i64 jv) := cell_at HM4.out 4
  have z5 : w4.cell? ⟨w.heap.size, 5, none⟩ = some (.int .u64 jb) := cell_at HM4.out 5
  have z6 : w4.cell? ⟨w.heap.size, 6, none⟩ = some (.int .u64 j0) := cell_at HM4.out 6
  have z7 : w4.cell? ⟨w.heap.size, 7, none⟩ = some (.int .u64 j1) := cell_at HM4.out 7
  have z8 : w4.cell? ⟨w.heap.size, 8, none⟩ = some (.int .u64 j2) := cell_at HM4.out 8
  have z9 : w4.cell? ⟨w.heap.size, 9, none⟩ = some (.int .u64 j3) := cell_at HM4.out 9
  have z10 : w4.cell? ⟨w.heap.size, 10, none⟩ = some (.string bc) := cell_at HM4.out 10
  refine WN.cond (t := true) rfl ?_
  simp only [if_true]
  have hs4 := HP4.out.see
  have g4 := hs4.c4
  have gf := hs4.fz
  have gl := hs4.lt
  clear hs4
  refine WN.seq_wp (fun K hK => ?_)
  go_wp2
  obtain ⟨W5, hW5⟩ : ∃ W, W = w4.setCell ⟨p, 4, none⟩ (.int .i64 xv) := ⟨_, rfl⟩
  rw [← hW5]
  have hne : w.heap.size ≠ p := fun e => HLT.out (by rw [e]; exact HP.out.sp)
  have HP5 : Hid (PMem W5 p S3 mv) := by rw [hW5]; exact HSET.out w4 S3 HP4.out
  have HM5 : Hid (W5.heap[w.heap.size]? = some (.cells #[.int .i64 xk, .int .i64 xf, .int .i64 xv, .int .i64 bv, .int .i64 jv, .int .u64 jb, .int .u64 j0, .int .u64 j1, .int .u64 j2, .int .u64 j3, .string bc, .int .u64 nu, .int .i64 cv, .int .u64 cb, .int .u64 k0, .int .u64 k1, .int .u64 k2, .int .u64 k3, .int .u64 sl] 40 (0, 0))) := by rw [hW5]; exact (heap_store_ne _ hne).trans HM4.out
  have HF5 : Hid (Fr S w W5) := by rw [hW5]; exact HF4.out.trans (Fr.setCell w4 (S := S) HP.out.sp _) (fun _ h => .inl h)
  clear z2 z3 z4 z5 z6 z7 z8 z9 z10 g4 gf gl hne hW5 HM4 HP4 HF4
  have HC5 : Hid (OutB W5 c []) := HC.out.fr HF5.out hcs
  have HCEL : Hid (∀ W, Below W5.heap.size W5 W → W.heap[w.heap.size]? = some (.cells #[.int .i64 xk, .int .i64 xf, .int .i64 xv, .int .i64 bv, .int .i64 jv, .int .u64 jb, .int .u64 j0, .int .u64 j1, .int .u64 j2, .int .u64 j3, .string bc, .int .u64 nu, .int .i64 cv, .int .u64 cb, .int .u64 k0, .int .u64 k1, .int .u64 k2, .int .u64 k3, .int .u64 sl] 40 (0, 0))) := fun W hW => (hW.block _ (lt_at HM5.out)).trans HM5.out
  refine WN.region_draw (fun t => ?_)
  refine RS.sched9 (C := fun W => Below W5.heap.size W5 W) (A := (fun b0 b1 b2 b3 b4 b5 b6 b7 => { tmps := #[.pointer (some ⟨p, 0, none⟩), .agg #[.int .i64 xk, .int .i64 xf, .int .i64 xv, .int .i64 bv, .int .i64 jv, .int .u64 jb, .int .u64 j0, .int .u64 j1, .int .u64 j2, .int .u64 j3, .string bc, .int .u64 nu, .int .i64 cv, .int .u64 cb, .int .u64 k0, .int .u64 k1, .int .u64 k2, .int .u64 k3, .int .u64 sl], .chan (some c), undef, .pointer (some ⟨w.heap.size, 0, none⟩), undef, .int .i64 0, .int .i64 0, .pointer (some ⟨p, 0, none⟩), .agg #[.int .i64 xk, .int .i64 xf, .int .i64 xv, .int .i64 bv, .int .i64 jv, .int .u64 jb, .int .u64 j0, .int .u64 j1, .int .u64 j2, .int .u64 j3, .string bc, .int .u64 nu, .int .i64 cv, .int .u64 cb, .int .u64 k0, .int .u64 k1, .int .u64 k2, .int .u64 k3, .int .u64 sl], .int .i64 0, .int .i64 0, .bool false, undef, .pointer (some ⟨p, 0, none⟩), .pointer (some ⟨w.heap.size, 3, none⟩), .agg #[.int .i64 bv, .int .i64 jv, .int .u64 jb, .int .u64 j0, .int .u64 j1, .int .u64 j2, .int .u64 j3, .string bc], .tuple #[], .pointer (some ⟨p, 0, none⟩), .pointer (some ⟨w.heap.size, 3, none⟩), .pointer (some ⟨w.heap.size, 4, none⟩), .agg #[.int .i64 jv, .int .u64 jb, .int .u64 j0, .int .u64 j1, .int .u64 j2, .int .u64 j3], .tuple #[], .pointer (some ⟨p, 0, none⟩), .pointer (some ⟨w.heap.size, 3, none⟩), .agg #[.int .i64 bv, .int .i64 jv, .int .u64 jb, .int .u64 j0, .int .u64 j1, .int .u64 j2, .int .u64 j3, .string bc], .bool true, .pointer (some ⟨p, 0, none⟩), .pointer (some ⟨w.heap.size, 2, none⟩), .int .i64 xv, .pointer (some ⟨p, 0, none⟩), .pointer (some ⟨p, 4, none⟩), cond b0 (.chan (some c)) undef, cond b1 (.pointer (some ⟨p, 0, none⟩)) undef, cond b2 (.pointer (some ⟨w.heap.size, 2, none⟩)) undef, cond b3 (.int .i64 xv) undef, cond b4 (.pointer (some ⟨w.heap.size, 3, none⟩)) undef, cond b5 (.agg #[.int .i64 bv, .int .i64 jv, .int .u64 jb, .int .u64 j0, .int .u64 j1, .int .u64 j2, .int .u64 j3, .string bc]) undef, cond b6 (.int .u64 nb) undef, cond b7 (.agg lt.cells.toArray) undef, undef, undef, undef, undef, undef, undef], defers := [] })) ?hr ?s0 ?s1 ?s2 ?s3 ?s4 ?s5 ?s6 ?s7 ?s8 9 t false false false false false false false false _ rfl ⟨(fun h => by cases h), (fun h => by cases h), (fun h => by cases h), (fun h => by cases h)⟩ (Below.refl _ _).drew
  case hr =>
    intro b0 b1 b2 b3 b4 b5 b6 b7
    refine List.filter_congr (fun i hi => ?_)
    have hi9 : i < 9 := List.mem_range.1 hi
    rcases (by omega : i = 0 ∨ i = 1 ∨ i = 2 ∨ i = 3 ∨ i = 4 ∨ i = 5 ∨ i = 6 ∨ i = 7 ∨ i = 8) with rfl | rfl | rfl | rfl | rfl | rfl | rfl | rfl | rfl <;> first | (simp [Region.binds]; done) | simp [Region.binds, Bool.and_assoc]
  case s0 =>
    intro rest b1 b2 b3 b4 b5 b6 b7 W hW hK
    refine RS.value (o := _) (d := some 32) (v := .chan (some c)) (w' := W) rfl rfl rfl (rfl) ?_
    exact hK W hW
  case s1 =>
    intro rest b0 b2 b3 b4 b5 b6 b7 W hW hK
    refine RS.value (o := _) (d := some 33) (v := .pointer (some ⟨p, 0, none⟩)) (w' := W) rfl rfl rfl (rfl) ?_
    exact hK W hW
  case s2 =>
    intro rest b0 b1 b3 b4 b5 b6 b7 W hW hK
    refine RS.value (o := _) (d := some 34) (v := .pointer (some ⟨w.heap.size, 2, none⟩)) (w' := W) rfl rfl rfl (by go_simp) ?_
    exact hK W hW
  case s3 =>
    intro rest b0 b1 b4 b5 b6 b7 W hW hK
    have z2 : W.cell? ⟨w.heap.size, 2, none⟩ = some (.int .i64 xv) := cell_at (HCEL.out W hW) 2
    refine RS.value (o := _) (d := some 35) (v := .int .i64 xv) (w' := W) rfl rfl rfl (by go_simp) ?_
    exact hK W hW
  case s4 =>
    intro rest b0 b1 b2 b3 b5 b6 b7 W hW hK
    refine RS.value (o := _) (d := some 36) (v := .pointer (some ⟨w.heap.size, 3, none⟩)) (w' := W) rfl rfl rfl (by go_simp) ?_
    exact hK W hW
  case s5 =>
    intro rest b0 b1 b2 b3 b6 b7 W hW hK
    have z2 : W.cell? ⟨w.heap.size, 2, none⟩ = some (.int .i64 xv) := cell_at (HCEL.out W hW) 2
    have z3 : W.cell? ⟨w.heap.size, 3, none⟩ = some (.int .i64 bv) := cell_at (HCEL.out W hW) 3
    have z4 : W.cell? ⟨w.heap.size, 4, none⟩ = some (.int .i64 jv) := cell_at (HCEL.out W hW) 4
    have z5 : W.cell? ⟨w.heap.size, 5, none⟩ = some (.int .u64 jb) := cell_at (HCEL.out W hW) 5
    have z6 : W.cell? ⟨w.heap.size, 6, none⟩ = some (.int .u64 j0) := cell_at (HCEL.out W hW) 6
    have z7 : W.cell? ⟨w.heap.size, 7, none⟩ = some (.int .u64 j1) := cell_at (HCEL.out W hW) 7
    have z8 : W.cell? ⟨w.heap.size, 8, none⟩ = some (.int .u64 j2) := cell_at (HCEL.out W hW) 8
    have z9 : W.cell? ⟨w.heap.size, 9, none⟩ = some (.int .u64 j3) := cell_at (HCEL.out W hW) 9
    have z10 : W.cell? ⟨w.heap.size, 10, none⟩ = some (.string bc) := cell_at (HCEL.out W hW) 10
    refine RS.value (o := _) (d := some 37) (v := .agg #[.int .i64 bv, .int .i64 jv, .int .u64 jb, .int .u64 j0, .int .u64 j1, .int .u64 j2, .int .u64 j3, .string bc]) (w' := W) rfl rfl rfl (by go_simp) ?_
    exact hK W hW
  case s6 =>
    intro rest b0 b1 b2 b3 b4 b7 W hW hK
    refine RS.call (o := _) (f := 27) (d := some 38) (args := #[.agg #[.int .i64 bv, .int .i64 jv, .int .u64 jb, .int .u64 j0, .int .u64 j1, .int .u64 j2, .int .u64 j3, .string bc]]) (w' := W) rfl rfl rfl (by go_simp) ?_
    refine (HNU.out W (HP5.out.below hW).tab).mono ?_
    rintro e W' ⟨rfl, hb'⟩
    exact ⟨_, rfl, hK W' (bnext hW hb')⟩
  case s7 =>
    intro rest b0 b2 b4 b5 W hW hK
    refine RS.call (o := _) (f := 74) (d := some 39) (args := #[.pointer (some ⟨p, 0, none⟩), .int .i64 xv, .int .u64 nb]) (w' := W) rfl rfl rfl (by go_simp) ?_
    refine (HVL.out W S3 (HP5.out.below hW)).mono ?_
    rintro e W' ⟨rfl, hb'⟩
    exact ⟨_, rfl, hK W' (bnext hW hb')⟩
  case s8 =>
    intro W hW
    obtain ⟨s, r, hch⟩ := (HC5.out.below hW).ex
    refine RS.send (o := _) (c := c) (w' := W) (z := .tuple #[]) (v := .agg lt.cells.toArray) (d := none) rfl rfl rfl rfl hch (by simp) (RS.nil ?_)
    have hFs := Fr.setChan (S := fun k => k = c) W rfl 2 ((([] : List Ltr).map Ltr.val).toArray.push (Value.agg lt.cells.toArray)) false (s + 1) r false
    have hcn : ¬ S3 c := fun hh => by
      rcases HG3.out c hh with h1 | h1
      · exact hcs h1
      · have := HC.out.lt; omega
    have HP6 : Hid (PMem (W.setChan c 2 ((([] : List Ltr).map Ltr.val).toArray.push (Value.agg lt.cells.toArray)) false (s + 1) r false) p S3 mv) := (HP5.out.below hW).fr hFs (fun k hk e => hcn (e ▸ hk)) (fun e => hc0 e.symm)
    have HO6 : Hid (OutB (W.setChan c 2 ((([] : List Ltr).map Ltr.val).toArray.push (Value.agg lt.cells.toArray)) false (s + 1) r false) c [lt]) := ⟨s + 1, r, heap_setChan W c _ _ _ _ _ _ (HC5.out.below hW).lt⟩
    have HF6 : Hid (Fr (fun k => S k ∨ k = c) w (W.setChan c 2 ((([] : List Ltr).map Ltr.val).toArray.push (Value.agg lt.cells.toArray)) false (s + 1) r false)) := ((HF5.out.trans (Fr.of_below (S := S) hW) (fun _ h => .inl h)).mono (fun _ h => .inl h)).trans hFs (fun i h => .inl (.inr h))
    have hmc : w.heap.size ≠ c := fun e => by have := HC.out.lt; omega
    have y2 : (W.setChan c 2 ((([] : List Ltr).map Ltr.val).toArray.push (Value.agg lt.cells.toArray)) false (s + 1) r false).cell? ⟨w.heap.size, 2, none⟩ = some (.int .i64 xv) := cell_at ((hFs.block _ (lt_at (HCEL.out W hW)) hmc).trans (HCEL.out W hW)) 2
    obtain ⟨W6, hW6⟩ : ∃ W6, W6 = W.setChan c 2 ((([] : List Ltr).map Ltr.val).toArray.push (Value.agg lt.cells.toArray)) false (s + 1) r false := ⟨_, rfl⟩
    rw [← hW6] at HP6 HO6 HF6 y2 ⊢
    clear hW6 hFs hch hmc
    refine WN.of_wp ?_
    go_frame
    go_wp2_with (go_at_call 48; refine (HEN.out _ S3 HP6.out).mono ?_; rintro e w7 ⟨rfl, hp7, hf7⟩)
    go_ret
    exact ⟨rfl, S3, hp7, HO6.out.fr hf7 hcn, HG3.out, HF6.out.trans hf7 (fun k hk => (HG3.out k hk).elim (fun h => .inl (.inl h)) .inr)⟩
end Go.Proofs.YtkehpnobidendaaDoor

namespace Go.Proofs.YtkehpnobidendaaDoor
open Go.RowKit Go.Maps Go.Conc

attribute [local go_sem ↓] pload_msg
/-- What is known of the lengths. -/
structure Small (m : Mem) : Prop where
  lb : m.log.length + m.blocks.length + 2 ≤ 1700000000000
  vt : m.votes.length ≤ 1700000000000
  ep : m.enters.length + m.proposed.length + 1 ≤ 1700000000000
theorem ptakeProp (w : World) (p c : Nat) (S : Nat → Prop) (m : Mem) (h : PMem w p S m) (hc : OutB w c []) (hcs : ¬ S c) (hc0 : c ≠ 0) (hi : Inv m) (h2 : Inv2 m) (x : Msg) (hx : x.block.Ok) (hs : Small m) :
    Calls Tryd.prog 56 #[.pointer (some ⟨p, 0, none⟩), .agg x.cells.toArray, .chan (some c)] w fun e w' => e = .returned (.int .i64 (m.proposal x).2.2) ∧ ∃ S', PMem w' p S' (m.proposal x).1 ∧ OutB w' c (m.proposal x).2.1 ∧ Grow S w S' ∧ Fr (fun k => S k ∨ k = c) w w' := by
  by_cases hf : m.faultP x = 0
  · obtain ⟨h1, h3, h4, h5, h6, h7⟩ := prop_fine hf
    rw [h7]
    dsimp only
    cases hag : (m.learns x.block).agrees x.block with
    | true =>
      have e : (((m.knows x.block).learn x.block.just).above ((m.knows x.block).learn x.block.just).locked.block (((m.knows x.block).learn x.block.just).blocks.length + 1) x.block.just.block || decide (((m.knows x.block).learn x.block.just).locked.view < x.block.just.view)) = true := hag
      rw [if_pos e]
      exact ptakePropY w p c S m h hc hcs hc0 hi h2 x hx hf hag hs.lb
    | false =>
      have e : ¬ (((m.knows x.block).learn x.block.just).above ((m.knows x.block).learn x.block.just).locked.block (((m.knows x.block).learn x.block.just).blocks.length + 1) x.block.just.block || decide (((m.knows x.block).learn x.block.just).locked.view < x.block.just.view)) = true := by
        have := hag
        unfold Mem.agrees Mem.learns at this
        rw [this]; simp
      rw [if_neg e]
      refine (ptakePropN w p c S m h hi h2 x hx hf hag hs.lb).mono ?_
      rintro e w' ⟨rfl, S', h1, h2, h3⟩
      exact ⟨rfl, S', h1, hc.fr h3 hcs, h2, h3.mono (fun _ h => .inl h)⟩
  · rw [prop_fault hf]
    refine (ptakePropF w p c S m h x hx hf).mono ?_
    rintro e w' ⟨rfl, hb⟩
    exact ⟨rfl, S, h.below hb, hc.below hb, Grow.refl _ _, Fr.of_below hb⟩
set_option maxRecDepth 100000 in
set_option maxHeartbeats 4000000 in
theorem ptake (w : World) (p c : Nat) (S : Nat → Prop) (m : Mem) (h : PMem w p S m) (hc : OutB w c []) (hcs : ¬ S c) (hc0 : c ≠ 0) (hi : Inv m) (h2 : Inv2 m) (x : Msg) (hx : x.Ok) (hs : Small m) :
    Calls Tryd.prog 42 #[.pointer (some ⟨p, 0, none⟩), .agg x.cells.toArray, .chan (some c)] w fun e w' => e = .returned (.int .i64 (m.takes x).2.2) ∧ ∃ S', PMem w' p S' (m.takes x).1 ∧ OutB w' c (m.takes x).2.1 ∧ Grow S w S' ∧ Fr (fun k => S k ∨ k = c) w w' := by
  obtain ⟨W0, hW0⟩ : ∃ W, W = w.alloc (.cells x.cells.toArray 40) := ⟨_, rfl⟩
  have hB0 : Below w.heap.size w W0 := by rw [hW0]; exact below_alloc _ _
  have HX0 : Hid (W0.heap[w.heap.size]? = some (.cells x.cells.toArray 40 (0, 0))) := by rw [hW0]; exact heap_alloc_new _ _
  have hld : (rowVar 40 ⟨w.heap.size, 0, none⟩).run Tryd.prog W0 = .ok (.agg x.cells.toArray) W0 := rowVar_whole W0 w.heap.size 40 40 x.cells.toArray (0, 0) _ HX0.out Tryd.underlying40 rfl (by kernel_rfl)
  have HT : Hid (Below w.heap.size w W0) := hB0
  have hcl := hc.lt
  have HEND : Hid (∀ S', Grow S W0 S' → Grow S w S') := fun S' hg k hk => (hg k hk).elim .inl (fun h => .inr (Nat.le_trans hB0.size h))
  have HFR : Hid (∀ w', Fr (fun k => S k ∨ k = c) W0 w' → Fr (fun k => S k ∨ k = c) w w') := fun w' hf => (Fr.of_below hB0).trans hf (fun _ h => .inl h)
  have HTP : Hid (Calls Tryd.prog 56 #[.pointer (some ⟨p, 0, none⟩), .agg x.cells.toArray, .chan (some c)] W0 fun e w' => e = .returned (.int .i64 (m.proposal x).2.2) ∧ ∃ S', PMem w' p S' (m.proposal x).1 ∧ OutB w' c (m.proposal x).2.1 ∧ Grow S W0 S' ∧ Fr (fun k => S k ∨ k = c) W0 w') := ptakeProp W0 p c S m (h.below hB0) (hc.below hB0) hcs hc0 hi h2 x hx.b hs
  have HTV : Hid (Calls Tryd.prog 57 #[.pointer (some ⟨p, 0, none⟩), .agg x.cells.toArray] W0 fun e w' => e = .returned (.int .i64 (m.vote x).2) ∧ ∃ S', PMem w' p S' (m.vote x).1 ∧ OutB w' c [] ∧ Grow S W0 S' ∧ Fr (fun k => S k ∨ k = c) W0 w') := by
    refine (ptakeVote W0 p S m (h.below hB0) hi h2 x hx.n (by have := hs.lb; omega) hs.vt).mono ?_
    rintro e w' ⟨rfl, S', g1, g2, g3⟩
    exact ⟨rfl, S', g1, (hc.below hB0).fr g3 hcs, g2, g3.mono (fun _ h => .inl h)⟩
  have HTE : Hid (Calls Tryd.prog 58 #[.pointer (some ⟨p, 0, none⟩), .agg x.cells.toArray] W0 fun e w' => e = .returned (.int .i64 (m.enters1 x).2) ∧ ∃ S', PMem w' p S' (m.enters1 x).1 ∧ OutB w' c [] ∧ Grow S W0 S' ∧ Fr (fun k => S k ∨ k = c) W0 w') := by
    refine (ptakeEnter W0 p S m (h.below hB0) hi h2 x hx.c (by have := hs.lb; omega) (by have := hs.ep; omega)).mono ?_
    rintro e w' ⟨rfl, S', g1, g2, g3⟩
    exact ⟨rfl, S', g1, (hc.below hB0).fr g3 hcs, g2, g3.mono (fun _ h => .inl h)⟩
  have HP0 : Hid (PMem W0 p S m ∧ OutB W0 c []) := ⟨h.below hB0, hc.below hB0⟩
  have H1 : Hid (x.kind = 1 → m.takes x = m.proposal x) := fun e => by unfold Mem.takes; rw [if_pos e]
  have H2 : Hid (x.kind = 2 → m.takes x = ((m.vote x).1, [], (m.vote x).2)) := fun e => by unfold Mem.takes; rw [if_neg (by omega), if_pos e]
  have H3 : Hid (x.kind = 3 → m.takes x = ((m.enters1 x).1, [], (m.enters1 x).2)) := fun e => by unfold Mem.takes; rw [if_neg (by omega), if_neg (by omega), if_pos e]
  have H4 : Hid (x.kind ≠ 1 → x.kind ≠ 2 → x.kind ≠ 3 → m.takes x = (m, [], 1)) := fun e1 e2 e3 => by unfold Mem.takes; rw [if_neg e1, if_neg e2, if_neg e3]
  clear h hc hi h2 hx hs hB0
  generalize m.takes x = T at *
  generalize m.proposal x = TP at *
  generalize m.vote x = TV at *
  generalize m.enters1 x = TE at *
  obtain ⟨xk, xf, xv, ⟨bv, ⟨jv, jb, j0, j1, j2, j3⟩, bc⟩, nu, ⟨cv, cb, k0, k1, k2, k3⟩, sl⟩ := x
  dsimp only [Msg.cells] at *
  have z0 : W0.cell? ⟨w.heap.size, 0, none⟩ = some (.int .i64 xk) := cell_at HX0.out 0
  go_enter Tryd.func42, Tryd.ntmps42
  go_upto_region 1 with fail
  rw [← hW0]
  clear hW0
  by_cases e1 : xk = 1
  · subst e1
    have hT := H1.out rfl
    go_wp2_with (go_at_call 56; refine HTP.out.mono ?_; rintro e w1 ⟨rfl, S1, g1, g2, g3, g4⟩)
    go_ret
    rw [hT]
    exact ⟨rfl, S1, g1, g2, HEND.out S1 g3, HFR.out w1 g4⟩
  · have q1 : (xk == 1) = false := by simp [e1]
    by_cases e2 : xk = 2
    · subst e2
      have hT := H2.out rfl
      go_wp2_with (go_at_call 57; refine HTV.out.mono ?_; rintro e w1 ⟨rfl, S1, g1, g2, g3, g4⟩)
      go_ret
      rw [hT]
      exact ⟨rfl, S1, g1, g2, HEND.out S1 g3, HFR.out w1 g4⟩
    · have q2 : (xk == 2) = false := by simp [e2]
      by_cases e3 : xk = 3
      · subst e3
        have hT := H3.out rfl
        go_wp2_with (go_at_call 58; refine HTE.out.mono ?_; rintro e w1 ⟨rfl, S1, g1, g2, g3, g4⟩)
        go_ret
        rw [hT]
        exact ⟨rfl, S1, g1, g2, HEND.out S1 g3, HFR.out w1 g4⟩
      · have q3 : (xk == 3) = false := by simp [e3]
        have hT := H4.out e1 e2 e3
        go_wp2
        go_ret
        rw [hT]
        exact ⟨rfl, S, HP0.out.1, HP0.out.2, Grow.refl _ _, Fr.of_below HT.out⟩
end Go.Proofs.YtkehpnobidendaaDoor

namespace Go.Proofs.YtkehpnobidendaaDoor
open Go.RowKit Go.Maps Go.Conc

attribute [local go_sem ↓] pload_msg
/-- What Handle hands out, in memory of its own. -/
structure PGaveG (w w' : World) (p : Nat) (S : Nat → Prop) (m : Mem) (a : Option Addr) (cap : Nat) (out : List Ltr) : Prop where
  ex : ∃ S', PMem w' p S' m ∧ Grow S w S' ∧ Row w' (fun k => w.heap.size ≤ k ∧ ¬ S' k) 42 20 (.slice a out.length cap) out.length (out.flatMap Ltr.cells)
  fr : Fr S w w'
theorem takes_out (m : Mem) (x : Msg) : (m.takes x).2.1.length ≤ 1 := by
  unfold Mem.takes
  split
  · by_cases hf : m.faultP x = 0
    · rw [(prop_fine hf).2.2.2.2.2]
      dsimp only
      split
      · exact Nat.le_refl 1
      · exact Nat.zero_le 1
    · rw [prop_fault hf]; exact Nat.zero_le 1
  · split
    · exact Nat.zero_le 1
    · split
      · exact Nat.zero_le 1
      · exact Nat.zero_le 1
theorem proposal_lists (m : Mem) (x : Msg) : (m.proposal x).1.enters = m.enters ∧ (m.proposal x).1.proposed = m.proposed := by
  by_cases hf : m.faultP x = 0
  · rw [(prop_fine hf).2.2.2.2.2]
    dsimp only
    have hk := learn_keeps (m.knows x.block) x.block.just
    have e1 := (knows_lists m x.block).2.1
    have e2 : (m.knows x.block).proposed = m.proposed := by unfold Mem.knows; split <;> rfl
    split
    · exact ⟨hk.es.trans e1, hk.pr.trans e2⟩
    · exact ⟨hk.es.trans e1, hk.pr.trans e2⟩
  · rw [prop_fault hf]; exact ⟨rfl, rfl⟩
theorem vote_lists (m : Mem) (x : Msg) : (m.vote x).1.enters = m.enters ∧ (m.vote x).1.proposed = m.proposed := by
  by_cases hf : m.faultV x = 0
  · rw [(vote_fine hf).2.2.2.2.2]
    dsimp only
    split
    · split
      · exact ⟨(learn_keeps _ _).es, (learn_keeps _ _).pr⟩
      · exact ⟨(learn_keeps _ _).es, (learn_keeps _ _).pr⟩
    · exact ⟨rfl, rfl⟩
  · rw [vote_fault hf]; exact ⟨rfl, rfl⟩
theorem enters_lists (m : Mem) (x : Msg) : (m.enters1 x).1.enters.length ≤ m.enters.length + 1 ∧ (m.enters1 x).1.proposed = m.proposed := by
  by_cases hf : m.faultE x = 0
  · rw [(enter_fine hf).2.2.2.2.2]
    dsimp only
    have h1 : (({ m with enters := m.enters ++ [⟨x.fro, x.view, 0, 0⟩] } : Mem).learn x.cert).enters.length ≤ m.enters.length + 1 := by rw [(learn_keeps _ _).es]; simp
    split
    · exact ⟨h1, (learn_keeps _ _).pr⟩
    · exact ⟨h1, (learn_keeps _ _).pr⟩
  · rw [enter_fault hf]; exact ⟨by simp, rfl⟩
theorem takes_ep (m : Mem) (x : Msg) : (m.takes x).1.enters.length + (m.takes x).1.proposed.length ≤ m.enters.length + m.proposed.length + 1 := by
  unfold Mem.takes
  split
  · have := proposal_lists m x; rw [this.1, this.2]; omega
  · split
    · have := vote_lists m x; dsimp only; rw [this.1, this.2]; omega
    · split
      · have := enters_lists m x; dsimp only; rw [this.2]; omega
      · exact Nat.le_succ _
set_option maxHeartbeats 2000000 in
set_option maxRecDepth 100000 in
theorem phandle (w : World) (p : Nat) (S : Nat → Prop) (m : Mem) (h : PMem w p S m) (hi : Inv m) (h2 : Inv2 m) (x : Msg) (hx : x.Ok) (hs : Small m) :
    Calls Tryd.prog 25 #[.pointer (some ⟨p, 0, none⟩), .agg x.cells.toArray] w fun e w' => ∃ a cap, e = .returned (.tuple #[.slice a (m.handle x).2.1.length cap, .int .i64 (m.handle x).2.2]) ∧ PGaveG w w' p S (m.handle x).1 a cap (m.handle x).2.1 := by
  have HP : Hid (PMem w p S m) := h
  have HTK : Hid (∀ W c, PMem W p S m → OutB W c [] → ¬ S c → c ≠ 0 → Calls Tryd.prog 42 #[.pointer (some ⟨p, 0, none⟩), .agg x.cells.toArray, .chan (some c)] W fun e w' => e = .returned (.int .i64 (m.takes x).2.2) ∧ ∃ S', PMem w' p S' (m.takes x).1 ∧ OutB w' c (m.takes x).2.1 ∧ Grow S W S' ∧ Fr (fun k => S k ∨ k = c) W w') := fun W c a1 a2 a3 a4 => ptake W p c S m a1 a2 a3 a4 hi h2 x hx hs
  have HPR : Hid (∀ W c S', PMem W p S' (m.takes x).1 → OutB W c (m.takes x).2.1 → ¬ S' c → c ≠ 0 → Calls Tryd.prog 36 #[.pointer (some ⟨p, 0, none⟩), .chan (some c)] W fun e w' => e = .returned (.tuple #[]) ∧ PMem w' p S' (m.handle x).1 ∧ OutB w' c (m.handle x).2.1 ∧ Fr (fun k => S' k ∨ k = c) W w') := fun W c S' a1 a2 a3 a4 => by
    have hti := inv_takes hi x hx
    have ht2 := inv2_takes hi h2 x hx
    exact ppropose W p c S' (m.takes x).1 a1 (m.takes x).2.1 (takes_out m x) a2 a3 a4 hti (ht2.eo.e _) (Nat.le_trans (takes_ep m x) hs.ep) (by have := takes_len m x; have := hs.lb; omega)
  have htl : (m.handle x).2.1.length ≤ 2 := by
    have h1 := takes_out m x
    have h2 : (m.takes x).1.ends.2.length ≤ 1 := by
      cases hm : (m.takes x).1.may with
      | true => rw [ends_yes hm]; simp
      | false => rw [ends_no hm]; simp
    show ((m.takes x).2.1 ++ (m.takes x).1.ends.2).length ≤ 2
    rw [List.length_append]; omega
  have HER : Hid ((m.handle x).2.2 = (m.takes x).2.2) := rfl
  have hpos := h.tab.pos
  have HLT : Hid (∀ k, S k → k < w.heap.size) := h.lt
  clear h hi h2 hx hs
  have hW2z : (((w.alloc (.cells x.cells.toArray 40)).alloc (.cells #[.slice none 0 0] 35)).alloc (.chan 2 #[] false 0 0 false)).heap.size = w.heap.size + 1 + 1 + 1 := by simp
  have HB2 : Hid (Below w.heap.size w (((w.alloc (.cells x.cells.toArray 40)).alloc (.cells #[.slice none 0 0] 35)).alloc (.chan 2 #[] false 0 0 false))) := bnext (bnext (below_alloc _ _) (below_alloc _ _)) (below_alloc _ _)
  have HX2 : Hid ((((w.alloc (.cells x.cells.toArray 40)).alloc (.cells #[.slice none 0 0] 35)).alloc (.chan 2 #[] false 0 0 false)).heap[w.heap.size]? = some (.cells x.cells.toArray 40 (0, 0))) := (Below.heap_alloc _ _ _ (by simp only [World.size_alloc]; omega)).trans ((Below.heap_alloc _ _ _ (by simp)).trans (heap_alloc_new w _))
  have HR2 : Hid ((((w.alloc (.cells x.cells.toArray 40)).alloc (.cells #[.slice none 0 0] 35)).alloc (.chan 2 #[] false 0 0 false)).heap[w.heap.size + 1]? = some (.cells #[.slice none 0 0] 35 (0, 0))) := (Below.heap_alloc _ _ _ (by simp)).trans (new_at _ (by simp))
  have HC2 : Hid (OutB (((w.alloc (.cells x.cells.toArray 40)).alloc (.cells #[.slice none 0 0] 35)).alloc (.chan 2 #[] false 0 0 false)) (w.heap.size + 1 + 1) []) := ⟨0, 0, new_at _ (by simp)⟩
  have HNS : Hid (¬ S (w.heap.size + 1 + 1) ∧ ¬ S (w.heap.size + 1)) := ⟨fun h => by have := HLT.out _ h; omega, fun h => by have := HLT.out _ h; omega⟩
  have hld : (rowVar 40 ⟨w.heap.size, 0, none⟩).run Tryd.prog (((w.alloc (.cells x.cells.toArray 40)).alloc (.cells #[.slice none 0 0] 35)).alloc (.chan 2 #[] false 0 0 false)) = .ok (.agg x.cells.toArray) (((w.alloc (.cells x.cells.toArray 40)).alloc (.cells #[.slice none 0 0] 35)).alloc (.chan 2 #[] false 0 0 false)) := rowVar_whole _ w.heap.size 40 40 x.cells.toArray (0, 0) _ HX2.out Tryd.underlying40 rfl (by kernel_rfl)
  obtain ⟨W2, hW2⟩ : ∃ y, y = (((w.alloc (.cells x.cells.toArray 40)).alloc (.cells #[.slice none 0 0] 35)).alloc (.chan 2 #[] false 0 0 false)) := ⟨_, rfl⟩
  rw [← hW2] at HB2 HR2 HC2 hld hW2z
  have HSZ : Hid (W2.heap.size = w.heap.size + 1 + 1 + 1) := hW2z
  have HP2 : Hid (PMem W2 p S m) := HP.out.below HB2.out
  clear HX2 hW2z
  obtain ⟨T, hT⟩ : ∃ y, y = m.takes x := ⟨_, rfl⟩
  rw [← hT] at HTK HPR HER
  obtain ⟨H, hH⟩ : ∃ y, y = m.handle x := ⟨_, rfl⟩
  rw [← hH] at HPR htl HER ⊢
  clear hT hH
  obtain ⟨xk, xf, xv, ⟨bv, ⟨jv, jb, j0, j1, j2, j3⟩, bc⟩, nu, ⟨cv, cb, k0, k1, k2, k3⟩, sl⟩ := x
  dsimp only [Msg.cells] at *
  go_enter_defers Tryd.func25, Tryd.ntmps25
  go_wp2_with (first
    | (go_at_call 33; refine (pnewOutbox _).mono ?_; rintro e w2 ⟨rfl, rfl⟩; rw [← hW2]; clear hW2)
    | (go_at_call 42; refine (HTK.out W2 (w.heap.size + 1 + 1) HP2.out HC2.out HNS.out.1 (by omega)).mono ?_; rintro e w3 ⟨rfl, S3, hm3, ho3, hg3, hf3⟩; have HM3 : Hid (PMem w3 p S3 T.1 ∧ OutB w3 (w.heap.size + 1 + 1) T.2.1 ∧ Grow S W2 S3 ∧ Fr (fun k => S k ∨ k = w.heap.size + 1 + 1) W2 w3) := ⟨hm3, ho3, hg3, hf3⟩; have HN3 : Hid (¬ S3 (w.heap.size + 1 + 1) ∧ ¬ S3 (w.heap.size + 1)) := ⟨fun hh => (hg3 _ hh).elim HNS.out.1 (fun h => by have := HSZ.out; omega), fun hh => (hg3 _ hh).elim HNS.out.2 (fun h => by have := HSZ.out; omega)⟩; clear hm3 ho3 hg3 hf3)
    | (go_at_call 36; refine (HPR.out w3 (w.heap.size + 1 + 1) S3 HM3.out.1 HM3.out.2.1 HN3.out.1 (by omega)).mono ?_; rintro e w4 ⟨rfl, hm4, ho4, hf4⟩; have HM4 : Hid (PMem w4 p S3 H.1 ∧ OutB w4 (w.heap.size + 1 + 1) H.2.1 ∧ Grow S W2 S3 ∧ Fr (fun k => S k ∨ k = w.heap.size + 1 + 1) W2 w4) := ⟨hm4, ho4, HM3.out.2.2.1, HM3.out.2.2.2.trans hf4 (fun i hi => hi.elim (fun h => (HM3.out.2.2.1 i h).elim (fun h => .inl (.inl h)) .inr) (fun e => .inl (.inr e)))⟩; have hr4 : w4.heap[w.heap.size + 1]? = some (.cells #[.slice none 0 0] 35 (0, 0)) := (HM4.out.2.2.2.block (w.heap.size + 1) (lt_at HR2.out) (fun h => h.elim HNS.out.2 (fun e => by omega))).trans HR2.out; have q4 : w4.cell? ⟨w.heap.size + 1, 0, none⟩ = some (.slice none 0 0) := cell_at hr4 0; have fz4 := free_at hr4; have HR4 : Hid (w4.heap[w.heap.size + 1]? = some (.cells #[.slice none 0 0] 35 (0, 0))) := hr4; clear hm4 ho4 hf4 HM3 hr4))
  have hst : (w4.setCell ⟨w.heap.size + 1, 0, none⟩ (.slice none 0 0)).heap[w.heap.size + 1]? = some (.cells #[.slice none 0 0] 35 (0, 0)) := by
    have := heap_store HR4.out (i := 0) (.slice none 0 0)
    simpa using this
  have hF5 := Fr.setCell (S := fun k => k = w.heap.size + 1) w4 (a := ⟨w.heap.size + 1, 0, none⟩) rfl (.slice none 0 0)
  have hM5 : PMem (w4.setCell ⟨w.heap.size + 1, 0, none⟩ (.slice none 0 0)) p S3 H.1 := HM4.out.1.fr hF5 (fun _ hk e => HN3.out.2 (e ▸ hk)) (fun e => by omega)
  have hT5 : Took (w4.setCell ⟨w.heap.size + 1, 0, none⟩ (.slice none 0 0)) (w.heap.size + 1 + 1) (w.heap.size + 1) [] H.2.1 (w4.setCell ⟨w.heap.size + 1, 0, none⟩ (.slice none 0 0)) := ⟨HM4.out.2.1.fr hF5 (by omega), ⟨none, 0, hst, Row.nil _ _ _ _⟩, Fr.refl _ _⟩
  have hFw : Fr S w (w4.setCell ⟨w.heap.size + 1, 0, none⟩ (.slice none 0 0)) := ((Fr.of_below (S := S) HB2.out).trans HM4.out.2.2.2 (fun i hi => hi.elim .inl (fun e => .inr (by omega)))).trans hF5 (fun i hi => .inr (by omega))
  refine leaves_cons (f := 34) (args := #[.chan (some (w.heap.size + 1 + 1)), .pointer (some ⟨w.heap.size + 1, 0, none⟩)]) (by simp) (by simp [go_sem]) ?_
  refine (ptakeAll _ (w.heap.size + 1 + 1) (w.heap.size + 1) H.2.1 htl (by omega) hT5.ob.lt (lt_at hst) hT5 .returning).mono ?_
  rintro e u' w6 ⟨rfl, rfl, hT⟩
  obtain ⟨a, cap, hR6, hrow6⟩ := hT.row
  have hsz : w.heap.size ≤ (w4.setCell ⟨w.heap.size + 1, 0, none⟩ (.slice none 0 0)).heap.size := hFw.size
  have q6 : w6.cell? ⟨w.heap.size + 1, 0, none⟩ = some (.slice a H.2.1.length cap) := cell_at hR6 0
  have hS3 : ∀ k, S3 k → k < (w4.setCell ⟨w.heap.size + 1, 0, none⟩ (.slice none 0 0)).heap.size := hM5.lt
  have hres : (results Tryd.f25 #[.pointer (some ⟨p, 0, none⟩), .agg #[.int .i64 xk, .int .i64 xf, .int .i64 xv, .int .i64 bv, .int .i64 jv, .int .u64 jb, .int .u64 j0, .int .u64 j1, .int .u64 j2, .int .u64 j3, .string bc, .int .u64 nu, .int .i64 cv, .int .u64 cb, .int .u64 k0, .int .u64 k1, .int .u64 k2, .int .u64 k3, .int .u64 sl], undef, .pointer (some ⟨w.heap.size, 0, none⟩), .pointer (some ⟨w.heap.size + 1, 0, none⟩), .int .i64 T.2.2, .chan (some (w.heap.size + 1 + 1)), .chan (some (w.heap.size + 1 + 1)), .chan (some (w.heap.size + 1 + 1)), .pointer (some ⟨p, 0, none⟩), .agg #[.int .i64 xk, .int .i64 xf, .int .i64 xv, .int .i64 bv, .int .i64 jv, .int .u64 jb, .int .u64 j0, .int .u64 j1, .int .u64 j2, .int .u64 j3, .string bc, .int .u64 nu, .int .i64 cv, .int .u64 cb, .int .u64 k0, .int .u64 k1, .int .u64 k2, .int .u64 k3, .int .u64 sl], .chan (some (w.heap.size + 1 + 1)), .int .i64 T.2.2, .pointer (some ⟨p, 0, none⟩), .chan (some (w.heap.size + 1 + 1)), .tuple #[], .int .i64 T.2.2]).run Tryd.prog w6 = .ok (.tuple #[.slice a H.2.1.length cap, .int .i64 T.2.2]) w6 := by
    simp [results, Tryd.results25, go_sem, q6]
  refine ⟨_, hres, a, cap, by rw [HER.out], ⟨S3, hM5.fr hT.fr (fun k hk e => ?_) (fun e => ?_), fun k hk => (HM4.out.2.2.1 k hk).elim .inl (fun h => .inr (Nat.le_trans HB2.out.size h)), hrow6.same (fun k hk _ => ⟨rfl, by omega, fun hh => by have := hS3 k hh; omega⟩)⟩, hFw.trans hT.fr (fun i hi => .inr (by omega))⟩
  · rcases e with rfl | rfl
    · exact HN3.out.1 hk
    · exact HN3.out.2 hk
  · omega
end Go.Proofs.YtkehpnobidendaaDoor

namespace Go.Proofs.YtkehpnobidendaaDoor
open Go.RowKit

/-- Who voted in which view, for which block. -/
structure Vt where
  fro : Int
  view : Int
  n : Nat
/-- What a member had. -/
structure Sta where
  view : Int
  high : Int
  locked : Int
  log : List ByteArray
def Sta.zero : Sta := ⟨0, 0, 0, []⟩
/-- The cluster. -/
structure Clu where
  mem : List (Option Mem)
  liar : Int
  letters : List Ltr
  certs : List Crt
  voted : List Vt
  w0 : Sta
  w1 : Sta
  w2 : Sta
  w3 : Sta
  count : Int
  blocks : List Blk
  over : Bool
def Clu.was (K : Clu) (k : Nat) : Sta := if k = 0 then K.w0 else if k = 1 then K.w1 else if k = 2 then K.w2 else K.w3
def Clu.setWas (K : Clu) (k : Nat) (s : Sta) : Clu := if k = 0 then { K with w0 := s } else if k = 1 then { K with w1 := s } else if k = 2 then { K with w2 := s } else { K with w3 := s }
/-- A block is proposed. -/
def Clu.meets (K : Clu) (b : Blk) : Clu :=
  match firstOf b.num K.blocks with
  | some o => { K with over := K.over || b.num == 0 || o.other b }
  | none => { K with over := K.over || b.num == 0, blocks := K.blocks ++ [b] }
/-- The certificate that the votes for a block in a view make, and how many there are. -/
def voteSum (view : Int) (n : Nat) : List Vt → Crt × Int → Crt × Int
  | [], a => a
  | t :: r, a => voteSum view n r (if t.view = view ∧ t.n = n then (a.1.put t.fro (sealOf t.fro 2 t.view t.n), a.2 + 1) else a)
/-- A letter is sent. -/
def Clu.send1 (K : Clu) (fro : Int) (l : Ltr) : Clu × Bool :=
  if l.msg.fro ≠ fro ∨ l.to < -1 ∨ 3 < l.to then (K, false) else
  let K1 : Clu := { K with letters := K.letters ++ [l] }
  let K2 := if l.msg.kind = 1 then K1.meets l.msg.block else K1
  if l.msg.kind ≠ 2 then (K2, true) else
  if K2.voted.any (fun t => t.fro == fro && t.view == l.msg.view) then (K2, false) else
  let K3 : Clu := { K2 with voted := K2.voted ++ [⟨fro, l.msg.view, l.msg.number⟩] }
  let cs := voteSum l.msg.view l.msg.number K3.voted ({ Crt.zero with view := l.msg.view, block := l.msg.number }, 0)
  let cs2 := if 0 ≤ K.liar then (cs.1.put K.liar (sealOf K.liar 2 l.msg.view l.msg.number), cs.2 + 1) else cs
  (if 3 ≤ cs2.2 then { K3 with certs := K3.certs ++ [cs2.1] } else K3, true)
def Clu.sends (K : Clu) (fro : Int) : List Ltr → Clu × Bool
  | [] => (K, true)
  | l :: r => if (K.send1 fro l).2 then (K.send1 fro l).1.sends fro r else K.send1 fro l
def isPrefix : List ByteArray → List ByteArray → Bool
  | [], _ => true
  | _ :: _, [] => false
  | a :: r, b :: s => (a.toList == b.toList) && isPrefix r s
/-- What a member has now. -/
def Mem.sta (m : Mem) : Sta := ⟨m.view, m.high.view, m.locked.view, m.commands⟩
def Sta.grows (old now : Sta) : Bool := isPrefix old.log now.log && (decide (old.view ≤ now.view) && (decide (old.high ≤ now.high) && (decide (old.locked ≤ now.locked) && decide (now.locked ≤ now.high))))

/-! In memory. -/
def mptr (o : Option Nat) : Value := .pointer (o.map fun p => ⟨p, 0, none⟩)
def mcells (o : Option Nat) : List Value := [mptr o]
def vtcells (t : Vt) : List Value := [.int .i64 t.fro, .int .i64 t.view, .int .u64 t.n]
def ccells (K : Clu) (vm vl vc vv l0 l1 l2 l3 vb : Value) : Array Value :=
  #[vm, .int .i64 K.liar, vl, vc, vv,
    .int .i64 K.w0.view, .int .i64 K.w0.high, .int .i64 K.w0.locked, l0,
    .int .i64 K.w1.view, .int .i64 K.w1.high, .int .i64 K.w1.locked, l1,
    .int .i64 K.w2.view, .int .i64 K.w2.high, .int .i64 K.w2.locked, l2,
    .int .i64 K.w3.view, .int .i64 K.w3.high, .int .i64 K.w3.locked, l3,
    .int .i64 K.count, vb, .bool K.over]
def kE : List (TypeId × Nat) := [(31, 1), (42, 20), (26, 6), (106, 3), (9, 1), (9, 1), (9, 1), (9, 1), (38, 8)]
def kX (ps : List (Option Nat)) (K : Clu) : List (Nat × List Value) :=
  [(ps.length, ps.flatMap mcells), (K.letters.length, K.letters.flatMap Ltr.cells), (K.certs.length, K.certs.flatMap Crt.cells), (K.voted.length, K.voted.flatMap vtcells), (K.w0.log.length, K.w0.log.flatMap scells), (K.w1.log.length, K.w1.log.flatMap scells), (K.w2.log.length, K.w2.log.flatMap scells), (K.w3.log.length, K.w3.log.flatMap scells), (K.blocks.length, K.blocks.flatMap Blk.cells)]
structure KMem (w : World) (p : Nat) (S : Nat → Prop) (ps : List (Option Nat)) (K : Clu) : Prop where
  ex : ∃ vm vl vc vv l0 l1 l2 l3 vb, Bun w p 62 S (ccells K vm vl vc vv l0 l1 l2 l3 vb) [vm, vl, vc, vv, l0, l1, l2, l3, vb] kE (kX ps K)
  tab : Tab w
  t0 : ¬ S 0
section
variable {w w' : World} {p : Nat} {S Z : Nat → Prop} {ps : List (Option Nat)} {K : Clu}
theorem KMem.below (h : KMem w p S ps K) (hf : Below w.heap.size w w') : KMem w' p S ps K := by
  obtain ⟨vm, vl, vc, vv, l0, l1, l2, l3, vb, h1⟩ := h.ex
  exact ⟨⟨vm, vl, vc, vv, l0, l1, l2, l3, vb, h1.below hf⟩, h.tab.below hf, h.t0⟩
theorem KMem.fr (h : KMem w p S ps K) (hf : Fr Z w w') (hz : ∀ k, S k → ¬ Z k) (hz0 : ¬ Z 0) : KMem w' p S ps K := by
  obtain ⟨vm, vl, vc, vv, l0, l1, l2, l3, vb, h1⟩ := h.ex
  exact ⟨⟨vm, vl, vc, vv, l0, l1, l2, l3, vb, h1.fr hf hz⟩, h.tab.fr hf hz0, h.t0⟩
theorem KMem.heap (h : KMem w p S ps K) (hf : w'.heap = w.heap) : KMem w' p S ps K := by
  obtain ⟨vm, vl, vc, vv, l0, l1, l2, l3, vb, h1⟩ := h.ex
  exact ⟨⟨vm, vl, vc, vv, l0, l1, l2, l3, vb, h1.same (by rw [hf]; exact Nat.le_refl _) (fun _ _ => by rw [hf])⟩, h.tab.same (by rw [hf]), h.t0⟩
theorem KMem.sp (h : KMem w p S ps K) : S p := by
  obtain ⟨vm, vl, vc, vv, l0, l1, l2, l3, vb, h⟩ := h.ex
  exact h.sp
theorem KMem.lt (h : KMem w p S ps K) : p < w.heap.size := by
  obtain ⟨vm, vl, vc, vv, l0, l1, l2, l3, vb, h⟩ := h.ex
  exact lt_at h.box
theorem KMem.fz (h : KMem w p S ps K) : ∀ i, w.frozen? ⟨p, i, none⟩ = false := by
  obtain ⟨vm, vl, vc, vv, l0, l1, l2, l3, vb, h⟩ := h.ex
  exact free_at h.box
theorem KMem.ov (h : KMem w p S ps K) : w.cell? ⟨p, 23, none⟩ = some (.bool K.over) := by
  obtain ⟨vm, vl, vc, vv, l0, l1, l2, l3, vb, h⟩ := h.ex
  exact cell_at h.box 23
theorem KMem.own (h : KMem w p S ps K) : ∀ k, S k → k < w.heap.size := by
  obtain ⟨vm, vl, vc, vv, l0, l1, l2, l3, vb, h⟩ := h.ex
  exact h.lt
theorem KMem.p0 (h : KMem w p S ps K) : 0 ≠ p := fun e => h.t0 (by rw [e]; exact h.sp)
/-- A store into the record (no slice). -/
theorem KMem.set (h : KMem w p S ps K) (K' : Clu) (o : Nat) (x : Value) (hC : ∀ vm vl vc vv l0 l1 l2 l3 vb, (ccells K vm vl vc vv l0 l1 l2 l3 vb).setIfInBounds o x = ccells K' vm vl vc vv l0 l1 l2 l3 vb) (hX : kX ps K = kX ps K') : KMem (w.setCell ⟨p, o, none⟩ x) p S ps K' := by
  obtain ⟨vm, vl, vc, vv, l0, l1, l2, l3, vb, h1⟩ := h.ex
  have b := h1.store o x (hC vm vl vc vv l0 l1 l2 l3 vb)
  rw [hX] at b
  exact ⟨⟨vm, vl, vc, vv, l0, l1, l2, l3, vb, b⟩, h.tab.same (heap_store_ne x h.p0), h.t0⟩
theorem KMem.over (h : KMem w p S ps K) (b : Bool) : KMem (w.setCell ⟨p, 23, none⟩ (.bool b)) p S ps { K with over := b } := h.set _ 23 _ (fun _ _ _ _ _ _ _ _ _ => rfl) rfl
end
theorem tab_put {w w1 : World} {p : Nat} {T : TypeId} {S : Nat → Prop} {C : Array Value} {V : List Value} {E : List (TypeId × Nat)} {X : List (Nat × List Value)} (h : Bun w p T S C V E X) (ht : Tab w) (h0 : ¬ S 0) (i : Nat) {v : Value} (hv : V[i]? = some v) (hf : Fr (fun k => v.ownBlock = some k) w w1) (o : Nat) (x : Value) : Tab (w1.setCell ⟨p, o, none⟩ x) :=
  (ht.fr hf (fun e => h0 (h.own hv e).1)).same (heap_store_ne _ (fun e => h0 (by rw [e]; exact h.sp)))
theorem t0_put {w w1 : World} {p : Nat} {T : TypeId} {S : Nat → Prop} {C : Array Value} {V : List Value} {E : List (TypeId × Nat)} {X : List (Nat × List Value)} (h : Bun w p T S C V E X) (h0 : ¬ S 0) (i : Nat) {v v' : Value} (hv : V[i]? = some v) {e : TypeId} {size n : Nat} {xs : List Value} (hr : Row w1 (fun k => v.ownBlock = some k ∨ k = w.heap.size) e size v' n xs) : ¬ (S 0 ∨ v'.ownBlock = some 0) := by
  rintro (h1 | h1)
  · exact h0 h1
  · have hp := h.lt p h.sp
    rcases (hr.ownS h1).1 with h2 | h2
    · exact h0 (h.own hv h2).1
    · omega
end Go.Proofs.YtkehpnobidendaaDoor

namespace Go.Proofs.YtkehpnobidendaaDoor
open Go.RowKit
attribute [local go_sem ↓] load_blk

set_option maxRecDepth 100000 in
set_option maxHeartbeats 2000000 in
theorem kmeets (w : World) (p : Nat) (S : Nat → Prop) (ps : List (Option Nat)) (L : Clu) (h : KMem w p S ps L) (b : Blk) (hb : b.Ok) (hall : ∀ o ∈ L.blocks, o.Ok) (hn : L.blocks.length ≤ 1900000000000) :
    Calls Tryd.prog 55 #[.pointer (some ⟨p, 0, none⟩), .agg b.cells.toArray] w fun e w' => e = .returned (.tuple #[]) ∧ ∃ S', KMem w' p S' ps (L.meets b) ∧ Grow S w S' ∧ Fr S w w' := by
  have HN : ∀ W, Tab W → Calls Tryd.prog 27 #[.agg b.cells.toArray] W fun e w' => e = .returned (.int .u64 b.num) ∧ Below W.heap.size W w' := fun W ht => pnum b hb hb.c1 W ht
  have HTB : Hid (Tab w) := h.tab
  have hlt := num_lt b
  obtain ⟨nb, hnb⟩ : ∃ x, x = b.num := ⟨_, rfl⟩
  rw [← hnb] at HN hlt
  have HNB : Hid (nb = b.num) := hnb
  have HALL : Hid (∀ o ∈ L.blocks, o.Ok) := hall
  have HM : Hid (KMem w p S ps L) := h
  clear hnb hall hb
  obtain ⟨bv, ⟨jv, jb, j0, j1, j2, j3⟩, bc⟩ := b
  dsimp only [Blk.cells] at HN ⊢
  obtain ⟨vm, vl, vc, vv, l0, l1, l2, l3, vb, h⟩ := h.ex
  have c3 : ∀ o, (w.alloc o).cell? ⟨p, 23, none⟩ = some (.bool L.over) := fun o => cell_at (h.alloc o).box 23
  clear h
  go_enter Tryd.func55, Tryd.ntmps55
  go_upto_region 1 with fail
  have HX0 : Hid ((w.alloc (.cells #[.int .i64 bv, .int .i64 jv, .int .u64 jb, .int .u64 j0, .int .u64 j1, .int .u64 j2, .int .u64 j3, .string bc] 38)).heap[w.heap.size]? = some (.cells #[.int .i64 bv, .int .i64 jv, .int .u64 jb, .int .u64 j0, .int .u64 j1, .int .u64 j2, .int .u64 j3, .string bc] 38)) := heap_alloc_new w _
  have hl0 : (rowVar 38 ⟨w.heap.size, 0, none⟩).run Tryd.prog (w.alloc (.cells #[.int .i64 bv, .int .i64 jv, .int .u64 jb, .int .u64 j0, .int .u64 j1, .int .u64 j2, .int .u64 j3, .string bc] 38)) = .ok (.agg #[.int .i64 bv, .int .i64 jv, .int .u64 jb, .int .u64 j0, .int .u64 j1, .int .u64 j2, .int .u64 j3, .string bc]) (w.alloc (.cells #[.int .i64 bv, .int .i64 jv, .int .u64 jb, .int .u64 j0, .int .u64 j1, .int .u64 j2, .int .u64 j3, .string bc] 38)) := blk_whole _ _ _ HX0.out rfl
  go_upto_region 2 with (go_at_call 27; refine (HN _ (HTB.out.below (below_alloc _ _))).mono ?_; rintro e w1 ⟨rfl, hb1⟩; have q3 : w1.cell? ⟨p, 23, none⟩ = some (.bool L.over) := (hb1.cell (p := ⟨p, 23, none⟩) (Nat.lt_of_lt_of_le HM.out.lt (by simp))).trans (c3 _); have fz1 : ∀ i, w1.frozen? ⟨p, i, none⟩ = false := ((HM.out.below ((Below.refl _ _).alloc (Nat.le_refl _) _)).below hb1).fz)
  go_cut [] (fun w' => w1.setCell ⟨p, 23, none⟩ (.bool (L.over || nb == 0)) = w')
  case first =>
    have HOV : Hid (L.over = L.over) := rfl
    revert HOV
    generalize hov : L.over = ov
    intro _
    rcases ov with _ | _
    · go_wp2
      go_meet
      case rel => rw [hov, nat_zero]; rfl
    · go_wp2
      go_meet
      case rel => rw [hov]; rfl
  case rest =>
    have HM1 : Hid (KMem wc p S ps { L with over := L.over || nb == 0 }) := by rw [← hcut]; exact ((HM.out.below ((Below.refl _ _).alloc (Nat.le_refl _) _)).below hb1).over _
    have HX1 : Hid (wc.heap[w.heap.size]? = some (.cells #[.int .i64 bv, .int .i64 jv, .int .u64 jb, .int .u64 j0, .int .u64 j1, .int .u64 j2, .int .u64 j3, .string bc] 38)) := by
      rw [← hcut]
      show (w1.setCell ⟨p, 23, none⟩ _).heap[w.heap.size]? = _
      rw [heap_store_ne _ (fun e => by have := HM.out.lt; omega)]
      exact box_below HX0.out hb1
    have HF1 : Hid (Fr S w wc) := by
      rw [← hcut]
      exact (Fr.of_below (S := S) (bnext ((Below.refl _ _).alloc (Nat.le_refl _) (.cells #[.int .i64 bv, .int .i64 jv, .int .u64 jb, .int .u64 j0, .int .u64 j1, .int .u64 j2, .int .u64 j3, .string bc] 38)) hb1)).trans (Fr.setCell w1 (S := S) HM.out.sp _) (fun _ h => .inl h)
    have HTC : Hid (Tab wc) := HM1.out.tab
    have HT0 : Hid (¬ S 0) := HM1.out.t0
    clear hcut q3 fz1 hb1 hl0 c3 HX0
    have HLT : Hid (w.heap.size < wc.heap.size) := lt_at HX1.out
    obtain ⟨um, ul, uc, uv, u0, u1, u2, u3, ub, h1⟩ := HM1.out.ex
    have c2 : wc.cell? ⟨p, 22, none⟩ = some ub := cell_at h1.box 22
    have hp : p < wc.heap.size := lt_at h1.box
    have hr : Row wc S 38 8 ub L.blocks.length (L.blocks.flatMap Blk.cells) := h1.row 8 _ _ _ rfl rfl rfl
    obtain ⟨a, cap, rfl⟩ := hr.isSlice
    have HR : Hid (Row wc S 38 8 (.slice a L.blocks.length cap) L.blocks.length (L.blocks.flatMap Blk.cells)) := hr
    have H1 : Hid (Bun wc p 62 S (ccells { L with over := L.over || nb == 0 } um ul uc uv u0 u1 u2 u3 (.slice a L.blocks.length cap)) [um, ul, uc, uv, u0, u1, u2, u3, (.slice a L.blocks.length cap)] kE (kX ps { L with over := L.over || nb == 0 })) := h1
    clear h1 hr
    go_wp2
    go_loopw [5] (fun i wr => ∃ k : Nat, k ≤ L.blocks.length ∧ i = .int .i64 k ∧ Hid (Below wc.heap.size wc wr) ∧ Hid (∀ (j : Nat) (hj : j < L.blocks.length), j < k → (L.blocks[j]).num ≠ nb)) (fun i _ => L.blocks.length - (intOf i).toNat)
    case atStart => exact ⟨0, by omega, rfl, Below.refl _ _, fun j hj h => by omega⟩
    case round =>
      obtain ⟨k, hk, rfl, hbw, hnot⟩ := hrel
      have d2 := (hbw.out.cell (p := ⟨p, 22, none⟩) hp).trans c2
      by_cases hlt2 : k < L.blocks.length
      · obtain ⟨g, off, rfl, hSg, hg, hcap⟩ := HR.out.place (by omega)
        have hrg : wr.rangeAt g (off + k * 8) L.blocks[k].cells := fun j v hv => (hbw.out.cell (p := ⟨g, off + k * 8 + j, none⟩) hg).trans (HR.out.elemAt bcells_len k hlt2 j v hv)
        have HNo : ∀ W, Tab W → Calls Tryd.prog 27 #[.agg L.blocks[k].cells.toArray] W fun e w' => e = .returned (.int .u64 L.blocks[k].num) ∧ Below W.heap.size W w' := fun W ht => pnum L.blocks[k] (HALL.out _ (List.getElem_mem _)) (HALL.out _ (List.getElem_mem _)).c1 W ht
        have hnk := num_lt L.blocks[k]
        have HHIT : Hid ((L.blocks[k]).num = nb → firstOf nb L.blocks = some L.blocks[k]) := fun h => firstOf_hit nb L.blocks k hlt2 hnot.out h
        have HNEXT : Hid ((L.blocks[k]).num ≠ nb → ∀ (j : Nat) (hj : j < L.blocks.length), j < k + 1 → (L.blocks[j]).num ≠ nb) := fun h j hj hjk => by
          by_cases hj' : j < k
          · exact hnot.out j hj hj'
          · have e : j = k := by omega
            subst e; exact h
        generalize L.blocks[k] = o at hrg HNo hnk HHIT HNEXT
        obtain ⟨no, hno⟩ : ∃ x, x = o.num := ⟨_, rfl⟩
        rw [← hno] at HNo hnk HHIT HNEXT
        clear hno
        obtain ⟨ov, ⟨pv, pb, p0, p1, p2, p3⟩, oc⟩ := o
        dsimp only [Blk.cells] at HNo hrg
        have hl1 : (rowVar 38 ⟨g, off + k * 8, none⟩).run Tryd.prog wr = .ok (.agg #[.int .i64 ov, .int .i64 pv, .int .u64 pb, .int .u64 p0, .int .u64 p1, .int .u64 p2, .int .u64 p3, .string oc]) wr := rowVar_mid wr g _ _ _ _ hrg Tryd.underlying38 rfl blk_size
        have hl2 : (rowVar 38 ⟨wr.heap.size, 0, none⟩).run Tryd.prog (wr.alloc (.cells #[.int .i64 ov, .int .i64 pv, .int .u64 pb, .int .u64 p0, .int .u64 p1, .int .u64 p2, .int .u64 p3, .string oc] 38)) = .ok (.agg #[.int .i64 ov, .int .i64 pv, .int .u64 pb, .int .u64 p0, .int .u64 p1, .int .u64 p2, .int .u64 p3, .string oc]) (wr.alloc (.cells #[.int .i64 ov, .int .i64 pv, .int .u64 pb, .int .u64 p0, .int .u64 p1, .int .u64 p2, .int .u64 p3, .string oc] 38)) := blk_whole _ _ _ (heap_alloc_new _ _) rfl
        clear hrg
        by_cases hnn : no = nb
        · have HH := HHIT.out hnn
          have HMT : Hid (L.meets ⟨bv, ⟨jv, jb, j0, j1, j2, j3⟩, bc⟩ = { L with over := L.over || nb == 0 || Blk.other ⟨ov, ⟨pv, pb, p0, p1, p2, p3⟩, oc⟩ ⟨bv, ⟨jv, jb, j0, j1, j2, j3⟩, bc⟩ }) := by
            show L.meets _ = _
            unfold Clu.meets; rw [← HNB.out, HH]
          subst hnn
          clear HHIT HNEXT HH
          rcases Bool.eq_false_or_eq_true (ov != bv) with e1 | e1
          rotate_left
          · rcases Bool.eq_false_or_eq_true ((pb : Int) != (jb : Int)) with e2 | e2
            rotate_left
            · rcases Bool.eq_false_or_eq_true (oc.toList == bc.toList) with e3 | e3
              · go_wp2_with (go_at_call 27; refine (HNo _ ((HTC.out.below hbw.out).below (below_alloc _ _))).mono ?_; rintro e w2 ⟨rfl, hb2⟩; have hA : ∀ j : Nat, w2.cell? ⟨wr.heap.size, j, none⟩ = (#[.int .i64 ov, .int .i64 pv, .int .u64 pb, .int .u64 p0, .int .u64 p1, .int .u64 p2, .int .u64 p3, .string oc] : Array Value)[j]? := fun j => cell_at (box_below (heap_alloc_new wr (.cells #[.int .i64 ov, .int .i64 pv, .int .u64 pb, .int .u64 p0, .int .u64 p1, .int .u64 p2, .int .u64 p3, .string oc] 38)) hb2) j; have hB : ∀ j : Nat, w2.cell? ⟨w.heap.size, j, none⟩ = (#[.int .i64 bv, .int .i64 jv, .int .u64 jb, .int .u64 j0, .int .u64 j1, .int .u64 j2, .int .u64 j3, .string bc] : Array Value)[j]? := fun j => cell_at (box_below (box_below (box_below HX1.out hbw.out) ((Below.refl _ _).alloc (Nat.le_refl _) (.cells #[.int .i64 ov, .int .i64 pv, .int .u64 pb, .int .u64 p0, .int .u64 p1, .int .u64 p2, .int .u64 p3, .string oc] 38))) hb2) j; have hM2 := ((HM1.out.below hbw.out).below ((Below.refl _ _).alloc (Nat.le_refl _) (.cells #[.int .i64 ov, .int .i64 pv, .int .u64 pb, .int .u64 p0, .int .u64 p1, .int .u64 p2, .int .u64 p3, .string oc] 38))).below hb2; have q3 := hM2.ov; have fz2 := hM2.fz; have HM2 : Hid _ := hM2; clear hM2)
                refine bodyPost_ret (results_none rfl _ _ _) rfl ?_
                rw [HMT.out]
                have eo : Blk.other ⟨ov, ⟨pv, pb, p0, p1, p2, p3⟩, oc⟩ ⟨bv, ⟨jv, jb, j0, j1, j2, j3⟩, bc⟩ = false := by simp only [Blk.other, e1, e2, e3]; rfl
                rw [eo, Bool.or_false]
                exact ⟨rfl, S, HM2.out, Grow.refl _ _, (HF1.out.trans (Fr.of_below (S := S) (bnext (bnext hbw.out ((Below.refl _ _).alloc (Nat.le_refl _) (.cells #[.int .i64 ov, .int .i64 pv, .int .u64 pb, .int .u64 p0, .int .u64 p1, .int .u64 p2, .int .u64 p3, .string oc] 38))) hb2)) (fun _ h => .inl h))⟩
              · go_wp2_with (go_at_call 27; refine (HNo _ ((HTC.out.below hbw.out).below (below_alloc _ _))).mono ?_; rintro e w2 ⟨rfl, hb2⟩; have hA : ∀ j : Nat, w2.cell? ⟨wr.heap.size, j, none⟩ = (#[.int .i64 ov, .int .i64 pv, .int .u64 pb, .int .u64 p0, .int .u64 p1, .int .u64 p2, .int .u64 p3, .string oc] : Array Value)[j]? := fun j => cell_at (box_below (heap_alloc_new wr (.cells #[.int .i64 ov, .int .i64 pv, .int .u64 pb, .int .u64 p0, .int .u64 p1, .int .u64 p2, .int .u64 p3, .string oc] 38)) hb2) j; have hB : ∀ j : Nat, w2.cell? ⟨w.heap.size, j, none⟩ = (#[.int .i64 bv, .int .i64 jv, .int .u64 jb, .int .u64 j0, .int .u64 j1, .int .u64 j2, .int .u64 j3, .string bc] : Array Value)[j]? := fun j => cell_at (box_below (box_below (box_below HX1.out hbw.out) ((Below.refl _ _).alloc (Nat.le_refl _) (.cells #[.int .i64 ov, .int .i64 pv, .int .u64 pb, .int .u64 p0, .int .u64 p1, .int .u64 p2, .int .u64 p3, .string oc] 38))) hb2) j; have hM2 := ((HM1.out.below hbw.out).below ((Below.refl _ _).alloc (Nat.le_refl _) (.cells #[.int .i64 ov, .int .i64 pv, .int .u64 pb, .int .u64 p0, .int .u64 p1, .int .u64 p2, .int .u64 p3, .string oc] 38))).below hb2; have q3 := hM2.ov; have fz2 := hM2.fz; have HM2 : Hid _ := hM2; clear hM2)
                refine bodyPost_ret (results_none rfl _ _ _) rfl ?_
                rw [HMT.out]
                have eo : Blk.other ⟨ov, ⟨pv, pb, p0, p1, p2, p3⟩, oc⟩ ⟨bv, ⟨jv, jb, j0, j1, j2, j3⟩, bc⟩ = true := by simp only [Blk.other, e1, e2, e3]; rfl
                rw [eo, Bool.or_true]
                exact ⟨rfl, S, HM2.out.over true, Grow.refl _ _, (HF1.out.trans (Fr.of_below (S := S) (bnext (bnext hbw.out ((Below.refl _ _).alloc (Nat.le_refl _) (.cells #[.int .i64 ov, .int .i64 pv, .int .u64 pb, .int .u64 p0, .int .u64 p1, .int .u64 p2, .int .u64 p3, .string oc] 38))) hb2)) (fun _ h => .inl h)).trans (Fr.setCell w2 (S := S) HM2.out.sp _) (fun _ h => .inl h)⟩
            · go_wp2_with (go_at_call 27; refine (HNo _ ((HTC.out.below hbw.out).below (below_alloc _ _))).mono ?_; rintro e w2 ⟨rfl, hb2⟩; have hA : ∀ j : Nat, w2.cell? ⟨wr.heap.size, j, none⟩ = (#[.int .i64 ov, .int .i64 pv, .int .u64 pb, .int .u64 p0, .int .u64 p1, .int .u64 p2, .int .u64 p3, .string oc] : Array Value)[j]? := fun j => cell_at (box_below (heap_alloc_new wr (.cells #[.int .i64 ov, .int .i64 pv, .int .u64 pb, .int .u64 p0, .int .u64 p1, .int .u64 p2, .int .u64 p3, .string oc] 38)) hb2) j; have hB : ∀ j : Nat, w2.cell? ⟨w.heap.size, j, none⟩ = (#[.int .i64 bv, .int .i64 jv, .int .u64 jb, .int .u64 j0, .int .u64 j1, .int .u64 j2, .int .u64 j3, .string bc] : Array Value)[j]? := fun j => cell_at (box_below (box_below (box_below HX1.out hbw.out) ((Below.refl _ _).alloc (Nat.le_refl _) (.cells #[.int .i64 ov, .int .i64 pv, .int .u64 pb, .int .u64 p0, .int .u64 p1, .int .u64 p2, .int .u64 p3, .string oc] 38))) hb2) j; have hM2 := ((HM1.out.below hbw.out).below ((Below.refl _ _).alloc (Nat.le_refl _) (.cells #[.int .i64 ov, .int .i64 pv, .int .u64 pb, .int .u64 p0, .int .u64 p1, .int .u64 p2, .int .u64 p3, .string oc] 38))).below hb2; have q3 := hM2.ov; have fz2 := hM2.fz; have HM2 : Hid _ := hM2; clear hM2)
              refine bodyPost_ret (results_none rfl _ _ _) rfl ?_
              rw [HMT.out]
              have eo : Blk.other ⟨ov, ⟨pv, pb, p0, p1, p2, p3⟩, oc⟩ ⟨bv, ⟨jv, jb, j0, j1, j2, j3⟩, bc⟩ = true := by simp only [Blk.other, e1, e2]; rfl
              rw [eo, Bool.or_true]
              exact ⟨rfl, S, HM2.out.over true, Grow.refl _ _, (HF1.out.trans (Fr.of_below (S := S) (bnext (bnext hbw.out ((Below.refl _ _).alloc (Nat.le_refl _) (.cells #[.int .i64 ov, .int .i64 pv, .int .u64 pb, .int .u64 p0, .int .u64 p1, .int .u64 p2, .int .u64 p3, .string oc] 38))) hb2)) (fun _ h => .inl h)).trans (Fr.setCell w2 (S := S) HM2.out.sp _) (fun _ h => .inl h)⟩
          · go_wp2_with (go_at_call 27; refine (HNo _ ((HTC.out.below hbw.out).below (below_alloc _ _))).mono ?_; rintro e w2 ⟨rfl, hb2⟩; have hA : ∀ j : Nat, w2.cell? ⟨wr.heap.size, j, none⟩ = (#[.int .i64 ov, .int .i64 pv, .int .u64 pb, .int .u64 p0, .int .u64 p1, .int .u64 p2, .int .u64 p3, .string oc] : Array Value)[j]? := fun j => cell_at (box_below (heap_alloc_new wr (.cells #[.int .i64 ov, .int .i64 pv, .int .u64 pb, .int .u64 p0, .int .u64 p1, .int .u64 p2, .int .u64 p3, .string oc] 38)) hb2) j; have hB : ∀ j : Nat, w2.cell? ⟨w.heap.size, j, none⟩ = (#[.int .i64 bv, .int .i64 jv, .int .u64 jb, .int .u64 j0, .int .u64 j1, .int .u64 j2, .int .u64 j3, .string bc] : Array Value)[j]? := fun j => cell_at (box_below (box_below (box_below HX1.out hbw.out) ((Below.refl _ _).alloc (Nat.le_refl _) (.cells #[.int .i64 ov, .int .i64 pv, .int .u64 pb, .int .u64 p0, .int .u64 p1, .int .u64 p2, .int .u64 p3, .string oc] 38))) hb2) j; have hM2 := ((HM1.out.below hbw.out).below ((Below.refl _ _).alloc (Nat.le_refl _) (.cells #[.int .i64 ov, .int .i64 pv, .int .u64 pb, .int .u64 p0, .int .u64 p1, .int .u64 p2, .int .u64 p3, .string oc] 38))).below hb2; have q3 := hM2.ov; have fz2 := hM2.fz; have HM2 : Hid _ := hM2; clear hM2)
            refine bodyPost_ret (results_none rfl _ _ _) rfl ?_
            rw [HMT.out]
            have eo : Blk.other ⟨ov, ⟨pv, pb, p0, p1, p2, p3⟩, oc⟩ ⟨bv, ⟨jv, jb, j0, j1, j2, j3⟩, bc⟩ = true := by simp only [Blk.other, e1]; rfl
            rw [eo, Bool.or_true]
            exact ⟨rfl, S, HM2.out.over true, Grow.refl _ _, (HF1.out.trans (Fr.of_below (S := S) (bnext (bnext hbw.out ((Below.refl _ _).alloc (Nat.le_refl _) (.cells #[.int .i64 ov, .int .i64 pv, .int .u64 pb, .int .u64 p0, .int .u64 p1, .int .u64 p2, .int .u64 p3, .string oc] 38))) hb2)) (fun _ h => .inl h)).trans (Fr.setCell w2 (S := S) HM2.out.sp _) (fun _ h => .inl h)⟩
        · go_wp2_with (go_at_call 27; refine (HNo _ ((HTC.out.below hbw.out).below (below_alloc _ _))).mono ?_; rintro e w2 ⟨rfl, hb2⟩)
          go_roundw
          case rel => exact ⟨k + 1, by omega, by go_num, bnext (bnext hbw.out ((Below.refl _ _).alloc (Nat.le_refl _) (.cells #[.int .i64 ov, .int .i64 pv, .int .u64 pb, .int .u64 p0, .int .u64 p1, .int .u64 p2, .int .u64 p3, .string oc] 38))) hb2, HNEXT.out hnn⟩
          case measure => simp [intOf]; omega
      · have hkl : k = L.blocks.length := by omega
        have HMT : Hid (L.meets ⟨bv, ⟨jv, jb, j0, j1, j2, j3⟩, bc⟩ = { L with over := L.over || nb == 0, blocks := L.blocks ++ [⟨bv, ⟨jv, jb, j0, j1, j2, j3⟩, bc⟩] }) := by
          show L.meets _ = _
          unfold Clu.meets; rw [← HNB.out, firstOf_miss nb L.blocks (fun j hj => hnot.out j hj (by omega))]
        have HW := H1.out.below hbw.out
        have hbx := box_below HX1.out hbw.out
        have HFw : Fr S w wr := HF1.out.trans (Fr.of_below (S := S) hbw.out) (fun _ h => .inl h)
        have c2a : ∀ o, (wr.alloc o).cell? ⟨p, 22, none⟩ = some (.slice a L.blocks.length cap) := fun o => cell_at (HW.alloc o).box 22
        have fz := free_at HW.box
        have hl : (rowVar 38 ⟨w.heap.size, 0, none⟩).run Tryd.prog wr.drew = .ok (.agg #[.int .i64 bv, .int .i64 jv, .int .u64 jb, .int .u64 j0, .int .u64 j1, .int .u64 j2, .int .u64 j3, .string bc]) wr.drew := blk_whole wr.drew _ _ hbx rfl
        have hla : ∀ o, (rowVar 38 ⟨w.heap.size, 0, none⟩).run Tryd.prog (wr.alloc o).drew = .ok (.agg #[.int .i64 bv, .int .i64 jv, .int .u64 jb, .int .u64 j0, .int .u64 j1, .int .u64 j2, .int .u64 j3, .string bc]) (wr.alloc o).drew := fun o => blk_whole (wr.alloc o).drew _ _ (by show (wr.alloc o).heap[w.heap.size]? = _; rw [Below.heap_alloc _ _ _ (lt_at hbx)]; exact hbx) rfl
        have HR2 : Hid (Row wr S 38 8 (.slice a L.blocks.length cap) L.blocks.length (L.blocks.flatMap Blk.cells)) := HR.out.below hbw.out
        have HH : Hid (Bun wr p 62 S (ccells { L with over := L.over || nb == 0 } um ul uc uv u0 u1 u2 u3 (.slice a L.blocks.length cap)) [um, ul, uc, uv, u0, u1, u2, u3, (.slice a L.blocks.length cap)] kE (kX ps { L with over := L.over || nb == 0 })) := HW
        have HFR : Hid (Fr S w wr) := HFw
        have HTC2 : Hid (Tab wr) := HTC.out.below hbw.out
        clear HW hbx HFw HR H1 HX1 HF1 hbw hnot HN
        go_wp2
        go_region_law (refine step_append_row rfl (.tmp 70) (.tmp 72) 60 rfl S 38 _ 8 72 Tryd.underlying60 info_block rfl (.slice a L.blocks.length cap) L.blocks.length (L.blocks.flatMap Blk.cells) (by simp [Act.eval]) ((HR2.out.alloc _).drew) ⟨wr.heap.size, 0, none⟩ 1 1 (Blk.cells ⟨bv, ⟨jv, jb, j0, j1, j2, j3⟩, bc⟩) (by simp [Act.eval]) rfl (new_cells _ _ _ rfl) (by simp [Blk.cells, Value.oneCell']) (by omega) (by unfold maxLen; omega) (by omega) ?_; intro v' w1 hr' hf; obtain ⟨a', cap', rfl⟩ := hr'.isSlice; have hb1 := ((HH.out.alloc _).drew).after 8 rfl hf; have d2' : w1.cell? ⟨p, 22, none⟩ = some (.slice a L.blocks.length cap) := cell_at hb1 22; have fz1 := free_at hb1; clear hb1; have HR' : Hid _ := hr'; have HF : Hid (Fr _ _ w1) := hf; clear hr' hf)
        all_goals (
          go_end0
          rw [HMT.out]
          refine ⟨rfl, _, ⟨⟨um, ul, uc, uv, u0, u1, u2, u3, .slice a' (L.blocks.length + 1) cap', ?_⟩, ?_, ?_⟩, grow_put HR'.out (by have := HFR.out.size; simp [World.drew]; omega) (fun k hk => (HR2.out.ownS hk).1), ?_⟩
          · exact (((HH.out.alloc _).drew).put 8 rfl rfl _ (L.blocks.length + 1, L.blocks.flatMap Blk.cells ++ Blk.cells ⟨bv, ⟨jv, jb, j0, j1, j2, j3⟩, bc⟩) HR'.out HF.out 22 rfl rfl (by simp [kX]))
          · exact tab_put ((HH.out.alloc _).drew) ((HTC2.out.below (below_alloc _ _)).same rfl) HT0.out 8 rfl HF.out 22 _
          · exact t0_put ((HH.out.alloc _).drew) HT0.out 8 rfl HR'.out
          · exact ((HH.out.alloc _).drew).frPut ((HFR.out.trans (Fr.alloc S wr _) (fun _ hi => .inl hi)).trans (Fr.drew S _) (fun _ hi => .inl hi)) 8 rfl HF.out 22 _)
end Go.Proofs.YtkehpnobidendaaDoor

namespace Go.Proofs.YtkehpnobidendaaDoor
open Go.RowKit

def Ltr.Ok (l : Ltr) : Prop := l.msg.Ok ∧ -9223372036854775808 ≤ l.msg.view ∧ l.msg.view ≤ 9223372036854775807
structure Vt.Ok (t : Vt) : Prop where
  f0 : 0 ≤ t.fro
  f1 : t.fro ≤ 3
  v0 : -9223372036854775808 ≤ t.view
  v1 : t.view ≤ 9223372036854775807
  n1 : t.n < 18446744073709551616
structure Clu.Ok (K : Clu) : Prop where
  bl : ∀ o ∈ K.blocks, o.Ok
  vt : ∀ t ∈ K.voted, t.Ok
  l0 : -1 ≤ K.liar
  l1 : K.liar ≤ 3
structure Clu.Len (K : Clu) (n : Nat) : Prop where
  lt : K.letters.length ≤ n
  ct : K.certs.length ≤ n
  vt : K.voted.length ≤ n
  bl : K.blocks.length ≤ n
theorem Clu.Len.mono {K : Clu} {n m : Nat} (h : K.Len n) (hm : n ≤ m) : K.Len m := ⟨Nat.le_trans h.lt hm, Nat.le_trans h.ct hm, Nat.le_trans h.vt hm, Nat.le_trans h.bl hm⟩
/-- The stages of a letter. -/
def Clu.addL (K : Clu) (l : Ltr) : Clu := { K with letters := K.letters ++ [l] }
def Clu.addV (K : Clu) (t : Vt) : Clu := { K with voted := K.voted ++ [t] }
def Clu.addC (K : Clu) (c : Crt) : Clu := { K with certs := K.certs ++ [c] }
def Clu.sum0 (K : Clu) (v : Int) (n : Nat) : Crt × Int := voteSum v n K.voted (⟨v, n, 0, 0, 0, 0⟩, 0)
def Clu.sum1 (K : Clu) (v : Int) (n : Nat) (cs : Crt × Int) : Crt × Int := if 0 ≤ K.liar then (cs.1.put K.liar (sealOf K.liar 2 v n), cs.2 + 1) else cs
theorem meets_keep (K : Clu) (b : Blk) : (K.meets b).letters = K.letters ∧ (K.meets b).certs = K.certs ∧ (K.meets b).voted = K.voted ∧ (K.meets b).liar = K.liar ∧ (K.meets b).mem = K.mem ∧ (K.meets b).blocks.length ≤ K.blocks.length + 1 := by
  unfold Clu.meets
  split
  · exact ⟨rfl, rfl, rfl, rfl, rfl, by simp⟩
  · exact ⟨rfl, rfl, rfl, rfl, rfl, by simp⟩
theorem kmeets_ok {K : Clu} (h : K.Ok) (b : Blk) (hb : b.Ok) : (K.meets b).Ok := by
  have hk := meets_keep K b
  refine ⟨?_, by rw [hk.2.2.1]; exact h.vt, by rw [hk.2.2.2.1]; exact h.l0, by rw [hk.2.2.2.1]; exact h.l1⟩
  unfold Clu.meets
  split
  · exact h.bl
  · intro o ho
    rcases List.mem_append.1 ho with h1 | h1
    · exact h.bl o h1
    · simp at h1; subst h1; exact hb
theorem kmeets_len {K : Clu} {n : Nat} (h : K.Len n) (b : Blk) : (K.meets b).Len (n + 1) := by
  have hk := meets_keep K b
  exact ⟨by rw [hk.1]; exact Nat.le_succ_of_le h.lt, by rw [hk.2.1]; exact Nat.le_succ_of_le h.ct, by rw [hk.2.2.1]; exact Nat.le_succ_of_le h.vt, by have := hk.2.2.2.2.2; have := h.bl; omega⟩
theorem addL_ok {K : Clu} (h : K.Ok) (l : Ltr) : (K.addL l).Ok := ⟨h.bl, h.vt, h.l0, h.l1⟩
theorem addC_ok {K : Clu} (h : K.Ok) (c : Crt) : (K.addC c).Ok := ⟨h.bl, h.vt, h.l0, h.l1⟩
theorem addV_ok {K : Clu} (h : K.Ok) {t : Vt} (ht : t.Ok) : (K.addV t).Ok := ⟨h.bl, fun o ho => by
  rcases List.mem_append.1 ho with h1 | h1
  · exact h.vt o h1
  · simp at h1; subst h1; exact ht, h.l0, h.l1⟩
theorem send1_bad {K : Clu} {f : Int} {l : Ltr} (h : l.msg.fro ≠ f ∨ l.to < -1 ∨ 3 < l.to) : K.send1 f l = (K, false) := if_pos h
theorem send1_prop {K : Clu} {f : Int} {l : Ltr} (h : ¬ (l.msg.fro ≠ f ∨ l.to < -1 ∨ 3 < l.to)) (hk : l.msg.kind = 1) : K.send1 f l = ((K.addL l).meets l.msg.block, true) := by
  unfold Clu.send1
  rw [if_neg h]
  simp only [hk, if_true]
  rw [if_pos (by decide)]
  rfl
theorem send1_other {K : Clu} {f : Int} {l : Ltr} (h : ¬ (l.msg.fro ≠ f ∨ l.to < -1 ∨ 3 < l.to)) (hk : l.msg.kind ≠ 1) (h2 : l.msg.kind ≠ 2) : K.send1 f l = (K.addL l, true) := by
  unfold Clu.send1
  rw [if_neg h]
  dsimp only
  rw [if_neg hk, if_pos h2]
  rfl
theorem send1_twice {K : Clu} {f : Int} {l : Ltr} (h : ¬ (l.msg.fro ≠ f ∨ l.to < -1 ∨ 3 < l.to)) (h2 : l.msg.kind = 2) (ha : K.voted.any (fun t => t.fro == f && t.view == l.msg.view) = true) : K.send1 f l = (K.addL l, false) := by
  unfold Clu.send1
  rw [if_neg h]
  have h1 : ¬ l.msg.kind = 1 := by rw [h2]; decide
  have h3 : ¬ l.msg.kind ≠ 2 := fun h => h h2
  simp only [if_neg h1, if_neg h3]
  rw [if_pos ha]
  rfl
theorem send1_vote {K : Clu} {f : Int} {l : Ltr} (h : ¬ (l.msg.fro ≠ f ∨ l.to < -1 ∨ 3 < l.to)) (h2 : l.msg.kind = 2) (ha : K.voted.any (fun t => t.fro == f && t.view == l.msg.view) = false) :
    K.send1 f l = (if 3 ≤ (((K.addL l).addV ⟨f, l.msg.view, l.msg.number⟩).sum1 l.msg.view l.msg.number (((K.addL l).addV ⟨f, l.msg.view, l.msg.number⟩).sum0 l.msg.view l.msg.number)).2 then ((K.addL l).addV ⟨f, l.msg.view, l.msg.number⟩).addC (((K.addL l).addV ⟨f, l.msg.view, l.msg.number⟩).sum1 l.msg.view l.msg.number (((K.addL l).addV ⟨f, l.msg.view, l.msg.number⟩).sum0 l.msg.view l.msg.number)).1 else (K.addL l).addV ⟨f, l.msg.view, l.msg.number⟩, true) := by
  unfold Clu.send1
  rw [if_neg h]
  have h1 : ¬ l.msg.kind = 1 := by rw [h2]; decide
  have h3 : ¬ l.msg.kind ≠ 2 := fun h => h h2
  have h4 : ¬ K.voted.any (fun t => t.fro == f && t.view == l.msg.view) = true := by rw [ha]; decide
  simp only [if_neg h1, if_neg h3, if_neg h4]
  rfl
theorem sends_good {K : Clu} {f : Int} {l : Ltr} {r : List Ltr} {K' : Clu} (h : K.send1 f l = (K', true)) : K.sends f (l :: r) = K'.sends f r := by
  rw [Clu.sends, h]; rfl
theorem sends_stop {K : Clu} {f : Int} {l : Ltr} {r : List Ltr} {K' : Clu} (h : K.send1 f l = (K', false)) : K.sends f (l :: r) = (K', false) := by
  rw [Clu.sends, h]; rfl
theorem drop_cons {ls : List Ltr} {k : Nat} (h : k < ls.length) : ls.drop k = ls[k] :: ls.drop (k + 1) := List.drop_eq_getElem_cons h
theorem sum_step {v : Int} {n : Nat} {ts : List Vt} {k : Nat} (h : k < ts.length) (a : Crt × Int) : voteSum v n (ts.drop k) a = voteSum v n (ts.drop (k + 1)) (if ts[k].view = v ∧ ts[k].n = n then (a.1.put ts[k].fro (sealOf ts[k].fro 2 ts[k].view ts[k].n), a.2 + 1) else a) := by
  rw [List.drop_eq_getElem_cons h]; rfl
theorem vt_len (t : Vt) : (vtcells t).length = 3 := rfl
theorem put_cells (c : Crt) (f : Nat) (hf : f < 4) (s : Nat) : (#[.int .i64 c.view, .int .u64 c.block, .int .u64 c.s0, .int .u64 c.s1, .int .u64 c.s2, .int .u64 c.s3] : Array Value).setIfInBounds (2 + f) (.int .u64 s) = (c.put f s).cells.toArray := by
  rcases (by omega : f = 0 ∨ f = 1 ∨ f = 2 ∨ f = 3) with rfl | rfl | rfl | rfl <;> rfl
theorem any_at {ts : List Vt} {P : Vt → Bool} {k : Nat} (h : k < ts.length) (hp : P ts[k] = true) : ts.any P = true := List.any_eq_true.2 ⟨_, List.getElem_mem h, hp⟩
theorem any_none {ts : List Vt} {P : Vt → Bool} (h : ∀ (j : Nat) (hj : j < ts.length), P ts[j] = false) : ts.any P = false := by
  rw [List.any_eq_false]
  intro x hx
  obtain ⟨j, hj, rfl⟩ := List.mem_iff_getElem.1 hx
  rw [h j hj]; decide
end Go.Proofs.YtkehpnobidendaaDoor
