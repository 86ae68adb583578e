/- The document's member: a block is known from now on (knows); a message goes out (sends). The document's member: a message goes out (sends). The document's member: Log. The document's member: what is counted, and taken of its queue, when a call ends. -/
import Derived.Test.YtkehpnobidendaaGreatDoorM10
import Derived.Deep.RegionLaw
namespace Go.Proofs.YtkehpnobidendaaGreatDoor
open Go.RowKit

/-- What the reading says of a certificate, a block: numbers within their kinds, a text of a length that Go takes. -/
structure Crt.Ok (c : Crt) : Prop where
  v0 : -9223372036854775808 ≤ c.view
  v1 : c.view ≤ 9223372036854775807
  b1 : c.block < 18446744073709551616
structure Blk.Ok (b : Blk) : Prop where
  v0 : -9223372036854775808 ≤ b.view
  v1 : b.view ≤ 9223372036854775807
  j : b.just.Ok
  c1 : b.cmd.size ≤ 140737488351232
theorem rnum (b : Blk) (h : b.Ok) (w : World) : Calls Tryz.prog 27 #[.agg b.cells.toArray] w fun e w' => e = .returned (.int .u64 b.num) ∧ Below w.heap.size w w' := by
  rw [num_cast]
  exact rnumber b.view b.just.view b.just.block _ _ _ _ b.cmd h.v0 h.v1 h.j.b1 h.c1 w
theorem box_below {w w1 : World} {C : Array Value} {T : TypeId} {p : Nat} (h : w.heap[p]? = some (.cells C T (0, 0))) (hb : Below w.heap.size w w1) : w1.heap[p]? = some (.cells C T (0, 0)) := (hb.block p (lt_at h)).trans h

/-- The cells of a new block, as a slice's. -/
theorem new_cells (w : World) (cs : List Value) (t : TypeId) {C : Array Value} (h : C = cs.toArray) : ∀ (j : Nat) u, cs[j]? = some u → (w.alloc (.cells C t)).cell? ((⟨w.heap.size, 0, none⟩ : Addr).add j) = some u := by
  intro j u hj
  subst h
  rw [Addr.add_lit, World.cell?_alloc_new]
  simpa using hj

set_option maxRecDepth 100000 in
set_option maxHeartbeats 1000000 in
theorem rknows (w : World) (p : Nat) (S : Nat → Prop) (m : Mem) (B : Nat) (out : List Ltr) (h : RMem w p S B m out) (b : Blk) (hb : b.Ok) (hn : m.blocks.length ≤ 1700000000000) :
    Calls Tryz.prog 64 #[.pointer (some ⟨p, 0, none⟩), .agg b.cells.toArray] w fun e w' => e = .returned (.tuple #[]) ∧ ∃ S', RMem w' p S' B (m.knows b) out ∧ Grow S w S' ∧ Fr S w w' := by
  have HN := rnum b hb
  have HB := fun w1 h1 => rblock w1 p S m B out h1 b.num
  have hlt := num_lt b
  have HK : Hid (m.knows b = if (m.block b.num).isSome = true then m else { m with blocks := m.blocks ++ [(b.num, b)] }) := rfl
  have HE : Hid (b.num = b.num) := rfl
  obtain ⟨nb, hnb⟩ : ∃ x, x = b.num := ⟨_, rfl⟩
  obtain ⟨q, hq⟩ : ∃ x, x = m.block b.num := ⟨_, rfl⟩
  rw [← hnb] at HN HB hlt HK hq
  rw [← hq] at HK
  have HB : ∀ w1, RMem w1 p S B m out → Calls Tryz.prog 56 #[.pointer (some ⟨p, 0, none⟩), .int .u64 nb] w1 fun e w' => e = .returned (.tuple #[.agg (q.getD Blk.zero).cells.toArray, .bool q.isSome]) ∧ Below w1.heap.size w1 w' := by rw [hq]; exact HB
  clear hq HE hnb hb
  obtain ⟨bv, ⟨jv, jb, j0, j1, j2, j3⟩, bc⟩ := b
  dsimp only [Blk.cells] at HN ⊢
  obtain ⟨vb, vv, ve, vp, vl, vq, vo, h, hB⟩ := h
  have HO : Hid (∀ k, vo.ownBlock = some k → B ≤ k) := hB
  clear hB
  have H : Hid (Bun w p 59 S (rcells m vb vv ve vp vl vq vo) [vb, vv, ve, vp, vl, vq, vo] rE (rX m out)) := h
  obtain ⟨a, cap, rfl⟩ := (h.row 0 _ _ _ rfl rfl rfl : Row w S 105 9 vb m.blocks.length (m.blocks.flatMap kcells)).isSlice
  clear h
  obtain ⟨⟨qv, ⟨qjv, qjb, q0, q1, q2, q3⟩, qc⟩, hqb⟩ : ∃ x, x = q.getD Blk.zero := ⟨_, rfl⟩
  rw [← hqb] at HB
  dsimp only [Blk.cells] at HB
  clear hqb
  rcases q with _ | qq
  · go_enter Tryz.func64, Tryz.ntmps64
    go_wp2_with (first
      | (go_at_call 27; refine (HN _).mono ?_; rintro e w1 ⟨rfl, hb1⟩)
      | (go_at_call 56; refine (HB _ ⟨_, vv, ve, vp, vl, vq, vo, (H.out.alloc _).below hb1, HO.out⟩).mono ?_; rintro e w2 ⟨rfl, hb2⟩))
    have HW : Bun w2 p 59 S (rcells m (.slice a m.blocks.length cap) vv ve vp vl vq vo) [.slice a m.blocks.length cap, vv, ve, vp, vl, vq, vo] rE (rX m out) := ((H.out.alloc _).below hb1).below hb2
    have hbx : w2.heap[w.heap.size]? = some (.cells #[.int .i64 bv, .int .i64 jv, .int .u64 jb, .int .u64 j0, .int .u64 j1, .int .u64 j2, .int .u64 j3, .string bc] 41 (0, 0)) := box_below (box_below (heap_alloc_new w _) hb1) hb2
    have HFr : Fr S w w2 := Fr.of_below (bnext (bnext ((Below.refl _ _).alloc (Nat.le_refl _) _) hb1) hb2)
    clear hb1 hb2 HN HB
    have HW' := HW.alloc (.cells #[.int .i64 qv, .int .i64 qjv, .int .u64 qjb, .int .u64 q0, .int .u64 q1, .int .u64 q2, .int .u64 q3, .string qc] 41)
    have hbx' := (Below.heap_alloc w2 (.cells #[.int .i64 qv, .int .i64 qjv, .int .u64 qjb, .int .u64 q0, .int .u64 q1, .int .u64 q2, .int .u64 q3, .string qc] 41) _ (lt_at hbx)).trans hbx
    have HFr' := HFr.trans (Fr.alloc S w2 (.cells #[.int .i64 qv, .int .i64 qjv, .int .u64 qjb, .int .u64 q0, .int .u64 q1, .int .u64 q2, .int .u64 q3, .string qc] 41)) (fun _ hi => .inl hi)
    clear HW hbx HFr
    generalize w2.alloc (.cells #[.int .i64 qv, .int .i64 qjv, .int .u64 qjb, .int .u64 q0, .int .u64 q1, .int .u64 q2, .int .u64 q3, .string qc] 41) = W at *
    have c17 : W.cell? ⟨p, 17, none⟩ = some (.slice a m.blocks.length cap) := cell_at HW'.box 17
    have c17a : ∀ o, (W.alloc o).cell? ⟨p, 17, none⟩ = some (.slice a m.blocks.length cap) := fun o => cell_at (HW'.alloc o).box 17
    have fz := free_at HW'.box
    have e0 : W.cell? ⟨w.heap.size, 0, none⟩ = some (.int .i64 bv) := cell_at hbx' 0
    have e1 : W.cell? ⟨w.heap.size, 1, none⟩ = some (.int .i64 jv) := cell_at hbx' 1
    have e2 : W.cell? ⟨w.heap.size, 2, none⟩ = some (.int .u64 jb) := cell_at hbx' 2
    have e3 : W.cell? ⟨w.heap.size, 3, none⟩ = some (.int .u64 j0) := cell_at hbx' 3
    have e4 : W.cell? ⟨w.heap.size, 4, none⟩ = some (.int .u64 j1) := cell_at hbx' 4
    have e5 : W.cell? ⟨w.heap.size, 5, none⟩ = some (.int .u64 j2) := cell_at hbx' 5
    have e6 : W.cell? ⟨w.heap.size, 6, none⟩ = some (.int .u64 j3) := cell_at hbx' 6
    have e7 : W.cell? ⟨w.heap.size, 7, none⟩ = some (.string bc) := cell_at hbx' 7
    have HR : Hid (Row W S 105 9 (.slice a m.blocks.length cap) m.blocks.length (m.blocks.flatMap kcells)) := HW'.row 0 _ _ _ rfl rfl rfl
    have HH : Hid (Bun W p 59 S (rcells m (.slice a m.blocks.length cap) vv ve vp vl vq vo) [.slice a m.blocks.length cap, vv, ve, vp, vl, vq, vo] rE (rX m out)) := HW'
    clear hbx' HW'
    go_region_law (refine step_append_row rfl (.tmp 21) (.tmp 25) 55 rfl S 105 _ 9 80 Tryz.underlying55 info_known rfl (.slice a m.blocks.length cap) m.blocks.length (m.blocks.flatMap kcells) (by simp [Act.eval]) ((HR.out.alloc _).drew) ⟨W.heap.size, 0, none⟩ 1 1 (kcells (nb, ⟨bv, ⟨jv, jb, j0, j1, j2, j3⟩, bc⟩)) (by simp [Act.eval]) rfl (new_cells _ _ _ rfl) (by simp [kcells, Blk.cells, Value.oneCell']) (by omega) (by unfold maxLen; omega) (by omega) ?_; intro v' w1 hr' hf; obtain ⟨a', cap', rfl⟩ := hr'.isSlice; have hb1 := ((HH.out.alloc _).drew).after 0 rfl hf; have d17 : w1.cell? ⟨p, 17, none⟩ = some (.slice a m.blocks.length cap) := cell_at hb1 17; have fz1 := free_at hb1; clear hb1; have HR' : Hid _ := hr'; have HF : Hid (Fr _ _ w1) := hf; clear hr' hf)
    all_goals (
      go_end0
      rw [HK.out]
      refine ⟨rfl, _, ⟨.slice a' (m.blocks.length + 1) cap', vv, ve, vp, vl, vq, vo, ?_, HO.out⟩, grow_put HR'.out (by have := HFr'.size; simp [World.drew]; omega) (fun k hk => (HR.out.ownS hk).1), ?_⟩
      · exact (((HH.out.alloc _).drew).put 0 rfl rfl _ (m.blocks.length + 1, m.blocks.flatMap kcells ++ kcells (nb, ⟨bv, ⟨jv, jb, j0, j1, j2, j3⟩, bc⟩)) HR'.out HF.out 17 rfl rfl (by simp [rX]))
      · exact ((HH.out.alloc _).drew).frPut ((HFr'.trans (Fr.alloc S W _) (fun _ hi => .inl hi)).trans (Fr.drew S _) (fun _ hi => .inl hi)) 0 rfl HF.out 17 _)
  · go_enter Tryz.func64, Tryz.ntmps64
    go_wp2_with (first
      | (go_at_call 27; refine (HN _).mono ?_; rintro e w1 ⟨rfl, hb1⟩)
      | (go_at_call 56; refine (HB _ ⟨_, vv, ve, vp, vl, vq, vo, (H.out.alloc _).below hb1, HO.out⟩).mono ?_; rintro e w2 ⟨rfl, hb2⟩))
    go_end0
    rw [HK.out]
    exact ⟨rfl, S, ⟨_, vv, ve, vp, vl, vq, vo, ((((H.out.alloc _).below hb1).below hb2).alloc _), HO.out⟩, Grow.refl _ _, (Fr.of_below (bnext (bnext (bnext ((Below.refl _ _).alloc (Nat.le_refl _) _) hb1) hb2) ((Below.refl _ _).alloc (Nat.le_refl _) _)))⟩
end Go.Proofs.YtkehpnobidendaaGreatDoor

namespace Go.Proofs.YtkehpnobidendaaGreatDoor
open Go.RowKit

theorem load_msg (a : Addr) : loadVar 43 a = rowVar 43 a := rfl
theorem msg_size : (Tryz.prog.info? 43).map (·.size) = some 19 := by kernel_rfl
attribute [local go_sem ↓] load_msg

set_option maxRecDepth 100000 in
set_option maxHeartbeats 1000000 in
theorem rsends (w : World) (p : Nat) (S : Nat → Prop) (m : Mem) (B : Nat) (hBw : B ≤ w.heap.size) (out : List Ltr) (h : RMem w p S B m out) (to : Int) (x : Msg) (hn : out.length ≤ 1000) :
    Calls Tryz.prog 41 #[.pointer (some ⟨p, 0, none⟩), .int .i64 to, .agg x.cells.toArray] w fun e w' => e = .returned (.tuple #[]) ∧ ∃ S', RMem w' p S' B m (out ++ [⟨to, { x with fro := m.id }⟩]) ∧ Grow S w S' ∧ Fr S w w' := by
  obtain ⟨xk, xf, xv, ⟨bv, ⟨jv, jb, j0, j1, j2, j3⟩, bc⟩, nu, ⟨cv, cb, k0, k1, k2, k3⟩, sl⟩ := x
  dsimp only [Msg.cells]
  obtain ⟨vb, vv, ve, vp, vl, vq, vo, h, hB⟩ := h
  obtain ⟨a, cap, rfl⟩ := (h.row 6 _ _ _ rfl rfl rfl : Row w S 67 20 vo out.length (out.flatMap Ltr.cells)).isSlice
  have HO : Hid (∀ k, (Value.slice a out.length cap).ownBlock = some k → B ≤ k) := hB
  clear hB
  have H : Hid (Bun w p 59 S (rcells m vb vv ve vp vl vq (.slice a out.length cap)) [vb, vv, ve, vp, vl, vq, .slice a out.length cap] rE (rX m out)) := h
  have c0 : ∀ o, (w.alloc o).cell? ⟨p, 0, none⟩ = some (.int .i64 m.id) := fun o => cell_at (h.alloc o).box 0
  clear h
  go_enter Tryz.func41, Tryz.ntmps41
  go_wp2
  have HW := H.out.alloc (.cells #[.int .i64 xk, .int .i64 m.id, .int .i64 xv, .int .i64 bv, .int .i64 jv, .int .u64 jb, .int .u64 j0, .int .u64 j1, .int .u64 j2, .int .u64 j3, .string bc, .int .u64 nu, .int .i64 cv, .int .u64 cb, .int .u64 k0, .int .u64 k1, .int .u64 k2, .int .u64 k3, .int .u64 sl] 43)
  have hbx := heap_alloc_new w (.cells #[.int .i64 xk, .int .i64 m.id, .int .i64 xv, .int .i64 bv, .int .i64 jv, .int .u64 jb, .int .u64 j0, .int .u64 j1, .int .u64 j2, .int .u64 j3, .string bc, .int .u64 nu, .int .i64 cv, .int .u64 cb, .int .u64 k0, .int .u64 k1, .int .u64 k2, .int .u64 k3, .int .u64 sl] 43)
  have HFr : Fr S w (w.alloc (.cells #[.int .i64 xk, .int .i64 m.id, .int .i64 xv, .int .i64 bv, .int .i64 jv, .int .u64 jb, .int .u64 j0, .int .u64 j1, .int .u64 j2, .int .u64 j3, .string bc, .int .u64 nu, .int .i64 cv, .int .u64 cb, .int .u64 k0, .int .u64 k1, .int .u64 k2, .int .u64 k3, .int .u64 sl] 43)) := Fr.alloc _ _ _
  clear c0 H
  generalize w.alloc (.cells #[.int .i64 xk, .int .i64 m.id, .int .i64 xv, .int .i64 bv, .int .i64 jv, .int .u64 jb, .int .u64 j0, .int .u64 j1, .int .u64 j2, .int .u64 j3, .string bc, .int .u64 nu, .int .i64 cv, .int .u64 cb, .int .u64 k0, .int .u64 k1, .int .u64 k2, .int .u64 k3, .int .u64 sl] 43) = W at *
  have c23 : W.cell? ⟨p, 23, none⟩ = some (.slice a out.length cap) := cell_at HW.box 23
  have c23a : ∀ o, (W.alloc o).cell? ⟨p, 23, none⟩ = some (.slice a out.length cap) := fun o => cell_at (HW.alloc o).box 23
  have fz := free_at HW.box
  have hl : (rowVar 43 ⟨w.heap.size, 0, none⟩).run Tryz.prog W.drew = .ok (.agg #[.int .i64 xk, .int .i64 m.id, .int .i64 xv, .int .i64 bv, .int .i64 jv, .int .u64 jb, .int .u64 j0, .int .u64 j1, .int .u64 j2, .int .u64 j3, .string bc, .int .u64 nu, .int .i64 cv, .int .u64 cb, .int .u64 k0, .int .u64 k1, .int .u64 k2, .int .u64 k3, .int .u64 sl]) W.drew := rowVar_whole W.drew _ _ _ _ _ _ hbx Tryz.underlying43 rfl msg_size
  have HR : Hid (Row W S 67 20 (.slice a out.length cap) out.length (out.flatMap Ltr.cells)) := HW.row 6 _ _ _ rfl rfl rfl
  have HH : Hid (Bun W p 59 S (rcells m vb vv ve vp vl vq (.slice a out.length cap)) [vb, vv, ve, vp, vl, vq, .slice a out.length cap] rE (rX m out)) := HW
  clear hbx HW
  go_region_law (refine step_append_row rfl (.tmp 15) (.tmp 19) 27 rfl S 67 _ 20 168 Tryz.underlying27 info_letter rfl (.slice a out.length cap) out.length (out.flatMap Ltr.cells) (by simp [Act.eval]) ((HR.out.alloc _).drew) ⟨W.heap.size, 0, none⟩ 1 1 (Ltr.cells ⟨to, ⟨xk, m.id, xv, ⟨bv, ⟨jv, jb, j0, j1, j2, j3⟩, bc⟩, nu, ⟨cv, cb, k0, k1, k2, k3⟩, sl⟩⟩) (by simp [Act.eval]) rfl (new_cells _ _ _ rfl) (by simp [Ltr.cells, Msg.cells, Value.oneCell']) (by omega) (by unfold maxLen; omega) (by omega) ?_; intro v' w1 hr' hf; obtain ⟨a', cap', rfl⟩ := hr'.isSlice; have hb1 := ((HH.out.alloc _).drew).after 6 rfl hf; have d23 : w1.cell? ⟨p, 23, none⟩ = some (.slice a out.length cap) := cell_at hb1 23; have fz1 := free_at hb1; clear hb1; have HR' : Hid _ := hr'; have HF : Hid (Fr _ _ w1) := hf; clear hr' hf)
  all_goals (
    go_end0
    refine ⟨rfl, _, ⟨vb, vv, ve, vp, vl, vq, .slice a' (out.length + 1) cap', ?_, ?_⟩, grow_put HR'.out (by have := HFr.size; simp [World.drew]; omega) (fun k hk => (HR.out.ownS hk).1), ?_⟩
    · exact (((HH.out.alloc _).drew).put 6 rfl rfl _ (out.length + 1, out.flatMap Ltr.cells ++ Ltr.cells ⟨to, ⟨xk, m.id, xv, ⟨bv, ⟨jv, jb, j0, j1, j2, j3⟩, bc⟩, nu, ⟨cv, cb, k0, k1, k2, k3⟩, sl⟩⟩) HR'.out HF.out 23 rfl rfl (by simp [rX]))
    · intro k hk
      rcases (HR'.out.ownS hk).1 with h | h
      · exact HO.out k h
      · have := HFr.size; simp [World.drew] at h; omega
    · exact ((HH.out.alloc _).drew).frPut ((HFr.trans (Fr.alloc S W _) (fun _ hi => .inl hi)).trans (Fr.drew S _) (fun _ hi => .inl hi)) 6 rfl HF.out 23 _)
end Go.Proofs.YtkehpnobidendaaGreatDoor

namespace Go.Proofs.YtkehpnobidendaaGreatDoor
open Go.RowKit

theorem scells_len (s : ByteArray) : (scells s).length = 1 := rfl
theorem ncells_len (s : Nat) : (ncells s).length = 1 := rfl
theorem icells_len (s : Int) : (icells s).length = 1 := rfl
theorem take_flat {α β : Type} (f : α → List β) (l : List α) (k : Nat) (h : k < l.length) : (l.take (k + 1)).flatMap f = (l.take k).flatMap f ++ f l[k] := by
  rw [List.take_succ_eq_append_getElem h, List.flatMap_append]; simp

theorem one_cell2 {w : World} {o : Obj} {x : Value} {t : TypeId} : ∀ (j : Nat) u, [x][j]? = some u → ((w.alloc o).alloc (.cells #[x] t)).cell? ((⟨w.heap.size + 1, 0, none⟩ : Addr).add j) = some u := by
  have h : (w.alloc o).heap.size = w.heap.size + 1 := by simp
  rw [← h]
  exact one_cell

set_option maxRecDepth 100000 in
set_option maxHeartbeats 1000000 in
theorem rlog (w : World) (p : Nat) (S : Nat → Prop) (m : Mem) (B : Nat) (out : List Ltr) (h : RMem w p S B m out) (hn : m.log.length ≤ 1700000000000) :
    Calls Tryz.prog 34 #[.pointer (some ⟨p, 0, none⟩)] w fun e w' => ∃ v, e = .returned v ∧ Row w' (fun k => w.heap.size ≤ k) 9 1 v m.commands.length (m.commands.flatMap scells) ∧ Below w.heap.size w w' := by
  have hcl : m.commands.length = m.log.length := by simp [Mem.commands]
  have HB : Hid (∀ w1, Below w.heap.size w w1 → ∀ n, Calls Tryz.prog 56 #[.pointer (some ⟨p, 0, none⟩), .int .u64 (n : Nat)] w1 fun e w' => e = .returned (.tuple #[.agg ((m.block n).getD Blk.zero).cells.toArray, .bool (m.block n).isSome]) ∧ Below w1.heap.size w1 w') := fun w1 hb n => rblock w1 p S m B out (h.below hb) n
  obtain ⟨vb, vv, ve, vp, vl, vq, vo, h, _⟩ := h
  have hr : Row w S 36 1 vl m.log.length (m.log.flatMap ncells) := h.row 4 _ _ _ rfl rfl rfl
  have c21 : w.cell? ⟨p, 21, none⟩ = some vl := cell_at h.box 21
  have hp : p < w.heap.size := lt_at h.box
  clear h
  obtain ⟨a, cap, rfl⟩ := hr.isSlice
  have HR : Hid (Row w S 36 1 (.slice a m.log.length cap) m.log.length (m.log.flatMap ncells)) := hr
  clear hr
  go_enter Tryz.func34, Tryz.ntmps34
  go_wp2
  go_loopw [3, 4] (fun v i wr => ∃ k : Nat, k ≤ m.log.length ∧ i = .int .i64 k ∧ Row wr (fun k => w.heap.size ≤ k) 9 1 v k ((m.commands.take k).flatMap scells) ∧ Hid (Below w.heap.size w wr)) (fun _ i _ => m.log.length - (intOf i).toNat)
  case atStart => exact ⟨0, by omega, rfl, Row.nil _ _ _ _, Below.refl _ _⟩
  case round =>
    obtain ⟨k, hk, rfl, hv, hb⟩ := hrel
    have d21 := (hb.out.cell (p := ⟨p, 21, none⟩) hp).trans c21
    by_cases hlt : k < m.log.length
    · obtain ⟨g, off, rfl, hSg, hg, hcap⟩ := HR.out.place (by omega)
      have q : _ = some (Value.int IntKind.u64 (m.log[k] : Nat)) := (hb.out.cell (p := ⟨g, off + k, none⟩) hg).trans (by have := HR.out.elem ncells_len k 0 hlt (by omega); simpa [ncells] using this)
      obtain ⟨a', cap', rfl⟩ := hv.isSlice
      obtain ⟨⟨qv, ⟨qjv, qjb, q0, q1, q2, q3⟩, qc⟩, hq⟩ : ∃ x, x = (m.block m.log[k]).getD Blk.zero := ⟨_, rfl⟩
      have HB' := fun w1 hb1 => HB.out w1 hb1 m.log[k]
      rw [← hq] at HB'
      dsimp only [Blk.cells] at HB'
      have hQ : (m.commands.take (k + 1)).flatMap scells = (m.commands.take k).flatMap scells ++ [.string qc] := by
        rw [take_flat scells _ k (by omega)]
        simp [Mem.commands, ← hq, scells]
      have HQ : Hid ((m.commands.take (k + 1)).flatMap scells = (m.commands.take k).flatMap scells ++ [.string qc]) := hQ
      clear hQ
      clear hq
      generalize (m.block m.log[k]).isSome = qs at HB'
      generalize m.log[k] = n at q HB'
      go_wp2_with (first
        | (go_at_call 56; refine (HB' _ hb.out).mono ?_; rintro e w2 ⟨rfl, hb2⟩)
        | (at_builtin; refine wpList_append_row rfl (.tmp 28) (.tmp 31) 30 rfl (fun k => w.heap.size ≤ k) 9 (.string ⟨#[]⟩) 1 16 Tryz.underlying30 info_string rfl (.slice a' k cap') k ((m.commands.take k).flatMap scells) rfl (((hv.below hb2).alloc _).alloc _) ⟨w2.heap.size + 1, 0, none⟩ 1 1 [.string qc] rfl rfl one_cell2 (by simp [Value.oneCell']) (by omega) (by unfold maxLen; omega) (by omega) ?_; intro v' w1 hr' hf; obtain ⟨a2, cap2, rfl⟩ := hr'.isSlice; have HR' : Hid _ := hr'; have HF : Hid (Fr _ _ w1) := hf; clear hr' hf))
      go_roundw
      case rel =>
        have hbb := bnext (bnext (bnext hb.out hb2) ((Below.refl _ _).alloc (Nat.le_refl _) (.cells #[.int .i64 qv, .int .i64 qjv, .int .u64 qjb, .int .u64 q0, .int .u64 q1, .int .u64 q2, .int .u64 q3, .string qc] 41))) ((Below.refl _ _).alloc (Nat.le_refl _) (.cells #[.string qc] 9))
        refine ⟨k + 1, by omega, by go_num, ?_, ?_⟩
        · rw [HQ.out]
          refine HR'.out.same (fun j hj _ => ⟨rfl, ?_⟩)
          rcases hj with hj | hj
          · exact (hv.ownS hj).1
          · have := hbb.size; omega
        · exact ⟨HF.out.os.trans hbb.os, HF.out.tape.trans hbb.tape, HF.out.output.trans hbb.output, Nat.le_trans hbb.size HF.out.size, fun j hj => (HF.out.block j (Nat.lt_of_lt_of_le hj hbb.size) (fun e => by have := (hv.ownS e).1; omega)).trans (hbb.block j hj)⟩
      case measure => simp [intOf]; omega
    · go_wp2
      go_ret
      have hkl : k = m.log.length := by omega
      subst hkl
      rw [List.take_of_length_le (by omega), ← hcl] at hv
      exact ⟨_, rfl, hv, hb.out⟩
end Go.Proofs.YtkehpnobidendaaGreatDoor

namespace Go.Proofs.YtkehpnobidendaaGreatDoor
open Go.RowKit

theorem tkcells_len (t : Tk) : (Tk.cells t).length = 4 := rfl
/-- May it, as far as k proposals say? -/
def mayUp (m : Mem) (k : Nat) : Bool := (m.view % 4 == m.id) && !(m.proposed.take k).contains m.view
/-- How many of the first k Enters are for its view. -/
def entUp (m : Mem) (k : Nat) : Nat := ((m.enters.take k).filter (fun t => t.view == m.view)).length
theorem mayUp_succ (m : Mem) (k : Nat) (h : k < m.proposed.length) : mayUp m (k + 1) = (mayUp m k && (m.proposed[k] != m.view)) := by
  unfold mayUp
  rw [List.take_succ_eq_append_getElem h, List.contains_eq_any_beq, List.contains_eq_any_beq, List.any_append]
  simp only [List.any_cons, List.any_nil, Bool.or_false, Bool.not_or, Bool.and_assoc]
  congr 2
  rw [bne, Bool.beq_comm]
theorem entUp_succ (m : Mem) (k : Nat) (h : k < m.enters.length) : entUp m (k + 1) = entUp m k + (if m.enters[k].view == m.view then 1 else 0) := by
  unfold entUp
  rw [List.take_succ_eq_append_getElem h, List.filter_append, List.length_append]
  congr 1
  by_cases hv : (m.enters[k].view == m.view) = true <;> simp [hv]
theorem entUp_le (m : Mem) (k : Nat) : entUp m k ≤ k := Nat.le_trans (List.length_filter_le _ _) (by simp; omega)
theorem may_is (m : Mem) : m.may = (mayUp m m.proposed.length && (m.high.view == m.view - 1 || decide (3 ≤ entUp m m.enters.length))) := by
  unfold Mem.may mayUp entUp
  rw [List.take_length, List.take_length]

/-- A slice without its first element. -/
theorem Row.tail {w : World} {S : Nat → Prop} {e : TypeId} {g off n cap : Nat} {xs : List Value} (h : Row w S e 1 (.slice (some ⟨g, off, none⟩) n cap) n xs) (h0 : 0 < n) : Row w (fun k => k = g) e 1 (.slice (some ⟨g, off + 1, none⟩) (n - 1) (cap - 1)) (n - 1) xs.tail := by
  have hl := h.len
  rcases h.val with ⟨h1, _⟩ | ⟨g', off', cap', cur, hv, hS, hg, hnc, hm, hs, hx⟩
  · cases h1
  · cases hv
    refine ⟨by simp; omega, .inr ⟨g, off + 1, cap - 1, cur, rfl, rfl, hg, by omega, by simp only [maxLen] at *; omega, by omega, ?_⟩⟩
    rw [← hx, ← List.drop_one, ← List.drop_drop, List.drop_take]
    congr 1; omega
theorem Row.tail1 {w : World} {S : Nat → Prop} {e : TypeId} {g off n : Nat} {xs : List Value} (h : Row w S e 1 (.slice (some ⟨g, off, none⟩) n 1) n xs) (h0 : 0 < n) : Row w (fun k => k = g) e 1 (.slice (some ⟨g, off, none⟩) (n - 1) 0) (n - 1) xs.tail := by
  have hl := h.len
  rcases h.val with ⟨h1, _⟩ | ⟨g', off', cap', cur, hv, hS, hg, hnc, hm, hs, hx⟩
  · cases h1
  · cases hv
    have hn : n = 1 := by omega
    subst hn
    refine ⟨by simp; omega, .inr ⟨g, off, 0, cur, rfl, rfl, hg, by omega, by simp only [maxLen]; omega, by omega, ?_⟩⟩
    have : xs.tail = [] := List.eq_nil_of_length_eq_zero (by simp; omega)
    rw [this]; simp
theorem flat_tail (l : List ByteArray) : (l.flatMap scells).tail = l.tail.flatMap scells := by cases l <;> simp [scells]
/-- The member without the first command of its queue. -/
def Mem.deq (m : Mem) : Mem := { m with queue := m.queue.tail }
/-- The cells of the block that it proposes. -/
def nextCells (m : Mem) : Array Value := #[.int .i64 m.view, .int .i64 m.high.view, .int .u64 m.high.block, .int .u64 m.high.s0, .int .u64 m.high.s1, .int .u64 m.high.s2, .int .u64 m.high.s3, .string (m.queue.headD ⟨#[]⟩)]
theorem nextCells_is (m : Mem) : nextCells m = m.next.cells.toArray := rfl

/-- What the member's queue is behind the taking of its first command: three ways. -/
def Deq (w w' : World) (p : Nat) (S : Nat → Prop) (m : Mem) (out : List Ltr) (vb vv ve vp vl vo : Value) : Prop :=
  (∃ vq', Bun w' p 59 S (rcells m.deq vb vv ve vp vl vq' vo) [vb, vv, ve, vp, vl, vq', vo] rE (rX m.deq out)) ∧ w'.heap[w.heap.size]? = some (.cells (nextCells m) 41 (0, 0)) ∧ Fr S w w' ∧ w.heap.size < w'.heap.size
theorem deq_nil {w : World} {p : Nat} {S : Nat → Prop} {m : Mem} {out : List Ltr} {vb vv ve vp vl vq vo : Value} (H : Bun w p 59 S (rcells m vb vv ve vp vl vq vo) [vb, vv, ve, vp, vl, vq, vo] rE (rX m out)) (hq : m.queue = []) :
    Deq w (w.alloc (.cells #[.int .i64 m.view, .int .i64 m.high.view, .int .u64 m.high.block, .int .u64 m.high.s0, .int .u64 m.high.s1, .int .u64 m.high.s2, .int .u64 m.high.s3, .string ⟨#[]⟩] 41)) p S m out vb vv ve vp vl vo := by
  refine ⟨⟨vq, ?_⟩, ?_, Fr.alloc _ _ _, by simp⟩
  · have e : rX m.deq out = rX m out := by simp [rX, Mem.deq, hq]
    rw [e]
    exact H.alloc _
  · rw [heap_alloc_new]; simp [nextCells, hq]
theorem deq_put {w : World} {p : Nat} {S : Nat → Prop} {m : Mem} {out : List Ltr} {vb vv ve vp vl vq vo vq' : Value} (H : Bun w p 59 S (rcells m vb vv ve vp vl vq vo) [vb, vv, ve, vp, vl, vq, vo] rE (rX m out)) {c : ByteArray} {qr : List ByteArray} (hq : m.queue = c :: qr)
    (ht : Row w (fun k => vq.ownBlock = some k) 9 1 vq' (m.queue.length - 1) (m.queue.tail.flatMap scells)) :
    Deq w ((w.setCell ⟨p, 22, none⟩ vq').alloc (.cells #[.int .i64 m.view, .int .i64 m.high.view, .int .u64 m.high.block, .int .u64 m.high.s0, .int .u64 m.high.s1, .int .u64 m.high.s2, .int .u64 m.high.s3, .string c] 41)) p S m out vb vv ve vp vl vo := by
  have hb := H.put 5 rfl rfl vq' (m.queue.length - 1, m.queue.tail.flatMap scells) (ht.same (S' := fun k => vq.ownBlock = some k ∨ k = w.heap.size) (fun k hk _ => ⟨rfl, .inl hk⟩)) (Fr.refl _ _) 22 rfl rfl rfl
  refine ⟨⟨vq', ?_⟩, ?_, (Fr.setCell w (S := S) H.sp _).trans (Fr.alloc S _ _) (fun _ h => .inl h), by simp⟩
  · have hb2 := (hb.mono (S' := S) (fun k hk => hk.elim id (fun h => (H.own (i := 5) rfl (ht.ownS h).1).1)) (fun k hk => by rw [World.size_setCell]; exact H.lt k hk)).alloc (.cells #[.int .i64 m.view, .int .i64 m.high.view, .int .u64 m.high.block, .int .u64 m.high.s0, .int .u64 m.high.s1, .int .u64 m.high.s2, .int .u64 m.high.s3, .string c] 41)
    have e2 : rX m.deq out = (rX m out).set 5 (m.queue.length - 1, m.queue.tail.flatMap scells) := by simp [rX, Mem.deq]
    rw [e2]
    exact hb2
  · have := heap_alloc_new (w.setCell ⟨p, 22, none⟩ vq') (.cells #[.int .i64 m.view, .int .i64 m.high.view, .int .u64 m.high.block, .int .u64 m.high.s0, .int .u64 m.high.s1, .int .u64 m.high.s2, .int .u64 m.high.s3, .string c] 41)
    rw [World.size_setCell] at this
    rw [this]; simp [nextCells, hq]

/-- What it was about to send is handed out: it is the caller's. -/
structure Gave (w w' : World) (p : Nat) (S : Nat → Prop) (B : Nat) (m : Mem) (v : Value) (l : List Ltr) : Prop where
  ex : ∃ S', RMem w' p S' w'.heap.size m [] ∧ Grow S w S' ∧ Fr S w w' ∧ Row w' (fun k => B ≤ k ∧ ¬ S' k) 67 20 v l.length (l.flatMap Ltr.cells)
theorem rgive {w : World} {p : Nat} {S : Nat → Prop} {B : Nat} {m : Mem} {out : List Ltr} {vb vv ve vp vl vq vo : Value} (H : Bun w p 59 S (rcells m vb vv ve vp vl vq vo) [vb, vv, ve, vp, vl, vq, vo] rE (rX m out)) (hB : ∀ k, vo.ownBlock = some k → B ≤ k) :
    Gave w (w.setCell ⟨p, 23, none⟩ (.slice none 0 0)) p S B m vo out := by
  have hr : Row w S 67 20 vo out.length (out.flatMap Ltr.cells) := H.row 6 _ _ _ rfl rfl rfl
  have h1 := H.put 6 rfl rfl (.slice none 0 0) (0, []) (Row.nil w _ _ _) (Fr.refl _ _) 23 rfl rfl rfl
  refine ⟨fun k => S k ∧ vo.ownBlock ≠ some k, ⟨vb, vv, ve, vp, vl, vq, .slice none 0 0, ?_, fun k hk => by cases hk⟩, fun k hk => .inl hk.1, Fr.setCell w H.sp _, ?_⟩
  · refine h1.shrink ⟨H.sp, H.off 6 _ rfl⟩ (fun i v k hv hk => ?_) (fun k hk => .inl hk.1)
    rw [List.getElem?_set] at hv
    by_cases hi : 6 = i
    · rw [if_pos hi] at hv
      split at hv
      · cases hv; cases hk
      · cases hv
    · rw [if_neg hi] at hv
      exact ⟨(H.own hv hk).1, fun h => H.apart 6 i _ _ k rfl hv hi h hk⟩
  · refine ⟨hr.1, ?_⟩
    rcases hr.2 with hn | ⟨g, off, cap, cur, rfl, hS, hg, rest⟩
    · exact .inl hn
    · exact .inr ⟨g, off, cap, cur, rfl, ⟨hB g rfl, fun h => h.2 rfl⟩, by rw [heap_store_ne _ (fun e => H.off 6 _ rfl (by rw [← e]; rfl))]; exact hg, rest⟩
end Go.Proofs.YtkehpnobidendaaGreatDoor
