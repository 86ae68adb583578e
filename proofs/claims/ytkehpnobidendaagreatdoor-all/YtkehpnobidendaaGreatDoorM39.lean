/- The law's steps on a member: the walk up to which of them it is. The document's Submit once more: at rest it stays at rest. The law's steps on a member: High, Locked, Submit, and what is no step. The law's steps on a member: Log and Tick. The law's steps: pure parts: what a Tick makes of the lists; what the law's record keeps. The law's step, of every kind up to Tick: it answers true, and the situation goes on. The law meets a block: the situation goes on. -/
import Derived.Test.YtkehpnobidendaaGreatDoorM38
namespace Go.Proofs.YtkehpnobidendaaGreatDoor
open Go.RowKit

/-- What the head of a step reads. -/
structure SeeL (w : World) (q : Nat) (L : Law) (i : Nat) (x : Nat × Nat) : Prop where
  ex : ∃ g off cm, w.cell? ⟨q, 0, none⟩ = some (.slice (some ⟨g, off, none⟩) L.members.length cm) ∧ w.cell? ⟨g, off + i * 2, none⟩ = some (.pointer (some ⟨x.1, 0, none⟩)) ∧ w.cell? ⟨g, off + i * 2 + 1, none⟩ = some (.pointer (some ⟨x.2, 0, none⟩)) ∧ g < w.heap.size ∧ q < w.heap.size ∧ L.members.length ≤ cm
theorem pcells_len (x : Nat × Nat) : (pcells x).length = 2 := rfl
theorem LMem.seeL {w : World} {q : Nat} {S : Nat → Prop} {L : Law} (h : LMem w q S L) {i : Nat} {x : Nat × Nat} (hx : L.members[i]? = some x) : SeeL w q L i x := by
  obtain ⟨hi, rfl⟩ := List.getElem?_eq_some_iff.1 hx
  obtain ⟨vm, vl, vb, vt, vs, vo, vn, hb⟩ := h.ex
  have q0 : w.cell? ⟨q, 0, none⟩ = some vm := cell_at hb.box 0
  have hrow : Row w S 50 2 vm L.members.length (L.members.flatMap pcells) := hb.row 0 _ _ _ rfl rfl rfl
  obtain ⟨am, cm, rfl⟩ := hrow.isSlice
  obtain ⟨g, off, rfl, _, hg, hcap⟩ := hrow.place (by omega)
  exact ⟨g, off, cm, q0, by have := hrow.elem pcells_len i 0 hi (by omega); simpa [pcells] using this, by have := hrow.elem pcells_len i 1 hi (by omega); simpa [pcells, Nat.add_assoc] using this, hg, lt_at hb.box, hcap⟩
set_option maxRecDepth 100000 in
set_option maxHeartbeats 1000000 in
theorem step6 (o : OpD) (ho : o.Ok) (hk : o.k = 6) {w : World} {q : Nat} {L : Law} {x : Nat × Nat} (hs : SeeL w q L (pickN o.on L.members.length) x) (hl : 0 < L.members.length) (hl8 : L.members.length ≤ 8) (m : Mem) {P R : Nat → Prop} (hp : PMem w x.1 P m) (hr : RMem w x.2 R w.heap.size m []) :
    Calls Tryz.prog 7 #[.pointer (some ⟨q, 0, none⟩), .agg o.cells] w fun e w' => e = .returned (.bool true) ∧ Below w.heap.size w w' := by
  have HV : Hid (∀ W, Below w.heap.size w W → Calls Tryz.prog 13 #[.pointer (some ⟨x.1, 0, none⟩)] W fun e w' => e = .returned (.int .i64 m.view) ∧ w' = W) := fun W hW => pview W x.1 P m (hp.below hW)
  have HR : Hid (∀ W, Below w.heap.size w W → W.cell? ⟨x.2, 2, none⟩ = some (.int .i64 m.view)) := fun W hW => (hr.below hW).see.c2
  clear hp hr
  obtain ⟨g, off, cm, q0, p0, p1, hg, hq, hcm⟩ := hs.ex
  have h0 := ho.on0
  have h1 := ho.on1
  clear hs
  obtain ⟨k, on, a, b, s, n, m0, m1, m2, bv, jv, jb, j0, j1, j2, j3, c, nu, cv, cb, c0, c1, c2, c3, sl⟩ := o
  dsimp only [OpD.cells] at *
  subst hk
  clear ho
  have hpl := pickN_lt on L.members.length hl
  have LP : Hid (∀ W, Calls Tryz.prog 10 #[.int .i64 on, .int .i64 L.members.length] W fun e w' => e = .returned (.int .i64 (pickN on L.members.length)) ∧ w' = W) := fun W => lpick on L.members.length h0 h1 hl (by omega) W
  generalize pickN on L.members.length = i at *
  obtain ⟨C, hC⟩ : ∃ C : Array Value, C = #[.int .i64 6, .int .i64 on, .int .i64 a, .int .i64 b, .string s, .int .u64 n, .int .i64 m0, .int .i64 m1, .int .i64 m2, .int .i64 bv, .int .i64 jv, .int .u64 jb, .int .u64 j0, .int .u64 j1, .int .u64 j2, .int .u64 j3, .string c, .int .u64 nu, .int .i64 cv, .int .u64 cb, .int .u64 c0, .int .u64 c1, .int .u64 c2, .int .u64 c3, .int .u64 sl] := ⟨_, rfl⟩
  have i0 : (0 : Int) ≤ (i : Int) := by omega
  have i1 : (i : Int) < (L.members.length : Int) := by omega
  have hX1 : (w.alloc (.cells C 45)).heap[w.heap.size]? = some (.cells C 45 (0, 0)) := heap_alloc_new w _
  have hB1 : Below w.heap.size w (w.alloc (.cells C 45)) := below_alloc w _
  have hZ1 : (w.alloc (.cells C 45)).heap.size = w.heap.size + 1 := by simp
  obtain ⟨W1, hW1⟩ : ∃ W, W = w.alloc (.cells C 45) := ⟨_, rfl⟩
  rw [← hW1] at hX1 hB1 hZ1
  rw [hC] at hW1
  go_enter Tryz.func7, Tryz.ntmps7
  go_upto_region 5 with fail
  rw [← hW1]
  have qa : W1.cell? ⟨q, 0, none⟩ = some (.slice (some ⟨g, off, none⟩) L.members.length cm) := (hB1.cell (p := ⟨q, 0, none⟩) hq).trans q0
  have qb : W1.cell? ⟨g, off + i * 2, none⟩ = some (.pointer (some ⟨x.1, 0, none⟩)) := (hB1.cell (p := ⟨g, _, none⟩) hg).trans p0
  have qc : W1.cell? ⟨g, off + i * 2 + 1, none⟩ = some (.pointer (some ⟨x.2, 0, none⟩)) := (hB1.cell (p := ⟨g, _, none⟩) hg).trans p1
  have qd : W1.cell? ⟨w.heap.size, 1, none⟩ = some (.int .i64 on) := (cell_at hX1 1).trans (by rw [hC]; rfl)
  have hqw : q < W1.heap.size := by omega
  have hgw : g < W1.heap.size := by omega
  have hww : w.heap.size < W1.heap.size := by omega
  have HS : Hid (∀ w', Below W1.heap.size W1 w' → Below W1.heap.size W1 w' ∧ w'.cell? ⟨q, 0, none⟩ = some (.slice (some ⟨g, off, none⟩) L.members.length cm) ∧ w'.cell? ⟨g, off + i * 2, none⟩ = some (.pointer (some ⟨x.1, 0, none⟩)) ∧ w'.cell? ⟨g, off + i * 2 + 1, none⟩ = some (.pointer (some ⟨x.2, 0, none⟩)) ∧ w'.cell? ⟨w.heap.size, 1, none⟩ = some (.int .i64 on)) := fun w' hb => ⟨hb, (hb.cell (p := ⟨q, 0, none⟩) hqw).trans qa, (hb.cell (p := ⟨g, _, none⟩) hgw).trans qb, (hb.cell (p := ⟨g, _, none⟩) hgw).trans qc, (hb.cell (p := ⟨w.heap.size, 1, none⟩) hww).trans qd⟩
  have hB2 : Below W1.heap.size W1 (W1.alloc (.cells #[.pointer (some ⟨x.1, 0, none⟩), .pointer (some ⟨x.2, 0, none⟩)] 50)).drew := (below_alloc W1 _).drew
  have hx2 : (W1.alloc (.cells #[.pointer (some ⟨x.1, 0, none⟩), .pointer (some ⟨x.2, 0, none⟩)] 50)).drew.heap[w.heap.size + 1]? = some (.cells #[.pointer (some ⟨x.1, 0, none⟩), .pointer (some ⟨x.2, 0, none⟩)] 50 (0, 0)) := by rw [← hZ1]; exact heap_alloc_new W1 _
  obtain ⟨W2, hW2⟩ : ∃ W, W = (W1.alloc (.cells #[.pointer (some ⟨x.1, 0, none⟩), .pointer (some ⟨x.2, 0, none⟩)] 50)).drew := ⟨_, rfl⟩
  rw [← hW2] at hB2 hx2
  have HX : Hid (∀ W, Below W2.heap.size W2 W → (W.cell? ⟨w.heap.size + 1, 0, none⟩ = some (.pointer (some ⟨x.1, 0, none⟩)) ∧ W.cell? ⟨w.heap.size + 1, 1, none⟩ = some (.pointer (some ⟨x.2, 0, none⟩)) ∧ W.cell? ⟨w.heap.size, 0, none⟩ = some (.int .i64 6) ∧ W.cell? ⟨w.heap.size, 4, none⟩ = some (.string s))) := fun W hW => by
    have e1 := (hW.block _ (lt_at hx2)).trans hx2
    have e2 := (hW.block w.heap.size (Nat.lt_of_lt_of_le hww hB2.size)).trans ((hB2.block w.heap.size hww).trans hX1)
    exact ⟨cell_at e1 0, cell_at e1 1, (cell_at e2 0).trans (by rw [hC]; rfl), (cell_at e2 4).trans (by rw [hC]; rfl)⟩
  have HB2 : Hid (Below w.heap.size w W2) := bnext hB1 hB2
  have HX2 : Hid (W2.heap[w.heap.size + 1]? = some (.cells #[.pointer (some ⟨x.1, 0, none⟩), .pointer (some ⟨x.2, 0, none⟩)] 50 (0, 0))) := hx2
  have HW1 : Hid (w.heap.size < W1.heap.size ∧ W1.heap[w.heap.size]? = some (.cells C 45 (0, 0)) ∧ Below W1.heap.size W1 W2) := ⟨hww, hX1, hB2⟩
  have HC : Hid (C = #[.int .i64 6, .int .i64 on, .int .i64 a, .int .i64 b, .string s, .int .u64 n, .int .i64 m0, .int .i64 m1, .int .i64 m2, .int .i64 bv, .int .i64 jv, .int .u64 jb, .int .u64 j0, .int .u64 j1, .int .u64 j2, .int .u64 j3, .string c, .int .u64 nu, .int .i64 cv, .int .u64 cb, .int .u64 c0, .int .u64 c1, .int .u64 c2, .int .u64 c3, .int .u64 sl]) := hC
  clear q0 p0 p1 hX1 hB1 hW1 hx2 hB2 hC qa qb qc qd
  go_region_held3 (fun w' => Below W1.heap.size W1 w' ∧ w'.cell? ⟨q, 0, none⟩ = some (.slice (some ⟨g, off, none⟩) L.members.length cm) ∧ w'.cell? ⟨g, off + i * 2, none⟩ = some (.pointer (some ⟨x.1, 0, none⟩)) ∧ w'.cell? ⟨g, off + i * 2 + 1, none⟩ = some (.pointer (some ⟨x.2, 0, none⟩)) ∧ w'.cell? ⟨w.heap.size, 1, none⟩ = some (.int .i64 on))
    (first | (exact HS.out _ (Below.refl _ _).drew) | (exact HS.out _ (bnext (And.left ‹Below W1.heap.size W1 _ ∧ _›) (below_alloc _ _))) | (exact HS.out _ (bnext (Below.refl _ _).drew (below_alloc _ _))))
    ((go_at_call 10; refine (LP.out _).mono ?_; rintro e w3 ⟨rfl, rfl⟩))
  all_goals (
    rw [← hW2]
    clear ‹_ ∧ _›
    clear hW2 HS LP
    have xs := HX.out W2 (Below.refl _ _)
    obtain ⟨x0, x1, k0, x4⟩ := xs
    have r2 := HR.out W2 HB2.out
    go_wp2_with (go_at_call 13; refine (HV.out _ HB2.out).mono ?_; rintro e w3 ⟨rfl, rfl⟩)
    go_ret
    exact ⟨by simp, HB2.out⟩)
end Go.Proofs.YtkehpnobidendaaGreatDoor

namespace Go.Proofs.YtkehpnobidendaaGreatDoor
open Go.RowKit

set_option maxHeartbeats 1000000 in
theorem rsubmit2 (w : World) (p : Nat) (S : Nat → Prop) (m : Mem) (out : List Ltr) (h : RMem w p S w.heap.size m out) (c : ByteArray) (hc : c.size ≤ 140737488351232) (hq : m.queue.length ≤ 8) :
    Calls Tryz.prog 12 #[.pointer (some ⟨p, 0, none⟩), .string c] w fun e w' => e = .returned (.int .i64 (m.submit c).2) ∧ ∃ S', RMem w' p S' w'.heap.size (m.submit c).1 out ∧ Grow S w S' ∧ Fr S w w' := by
  obtain ⟨vb, vv, ve, vp, vl, vq, vo, h, hB⟩ := h
  have HB : Hid (∀ (B k : Nat), vo.ownBlock = some k → B ≤ k) := fun B k hk => by have h1 := hB k hk; have h2 := (h.own (i := 6) rfl hk).2; omega
  clear hB
  have hr : Row w S 9 1 vq m.queue.length (m.queue.flatMap scells) := h.row 5 _ _ _ rfl rfl rfl
  have c22 : w.cell? ⟨p, 22, none⟩ = some vq := cell_at h.box 22
  have fz := free_at h.box
  have H : Hid (Bun w p 59 S (rcells m vb vv ve vp vl vq vo) [vb, vv, ve, vp, vl, vq, vo] rE (rX m out)) := h
  clear h
  obtain ⟨a, cap, rfl⟩ := hr.isSlice
  have HR : Hid (Row w S 9 1 (.slice a m.queue.length cap) m.queue.length (m.queue.flatMap scells)) := hr
  clear hr
  have K1 : Hid (16 < c.size → m.submit c = (m, 1)) := fun h => by unfold Mem.submit; rw [if_pos h]
  have K2 : Hid (¬ 16 < c.size → 8 ≤ m.queue.length → m.submit c = (m, 6)) := fun h g => by unfold Mem.submit; rw [if_neg h, if_pos g]
  have K3 : Hid (¬ 16 < c.size → ¬ 8 ≤ m.queue.length → m.submit c = ({ m with queue := m.queue ++ [c] }, 0)) := fun h g => by unfold Mem.submit; rw [if_neg h, if_neg g]
  by_cases h16 : 16 < c.size
  · have k := K1.out h16
    have K : Hid (m.submit c = (m, 1)) := k
    clear k K1 K2 K3
    go_enter Tryz.func12, Tryz.ntmps12
    go_wp2
    go_ret
    rw [K.out]
    exact ⟨rfl, S, ⟨vb, vv, ve, vp, vl, _, vo, H.out, HB.out _⟩, Grow.refl _ _, Fr.refl _ _⟩
  · by_cases h8 : 8 ≤ m.queue.length
    · have K : Hid (m.submit c = (m, 6)) := K2.out h16 h8
      clear K1 K2 K3
      go_enter Tryz.func12, Tryz.ntmps12
      go_wp2
      go_ret
      rw [K.out]
      exact ⟨rfl, S, ⟨vb, vv, ve, vp, vl, _, vo, H.out, HB.out _⟩, Grow.refl _ _, Fr.refl _ _⟩
    · have K : Hid (m.submit c = ({ m with queue := m.queue ++ [c] }, 0)) := K3.out h16 h8
      clear K1 K2 K3
      go_enter Tryz.func12, Tryz.ntmps12
      go_wp2_with (at_builtin; refine wpList_append_row rfl (.tmp 18) (.tmp 20) 30 rfl S 9 (.string ⟨#[]⟩) 1 16 Tryz.underlying30 info_string rfl (.slice a m.queue.length cap) m.queue.length (m.queue.flatMap scells) rfl (HR.out.alloc _) ⟨w.heap.size, 0, none⟩ 1 1 [.string c] rfl rfl one_cell (by simp [Value.oneCell']) (by omega) (by unfold maxLen; omega) (by omega) ?_; intro v' w1 hr' hf; obtain ⟨a', cap', rfl⟩ := hr'.isSlice; have hb1 := (H.out.alloc _).after 5 rfl hf; have d22 : w1.cell? ⟨p, 22, none⟩ = some (.slice a m.queue.length cap) := cell_at hb1 22; have fz1 := free_at hb1; clear hb1; have HR' : Hid _ := hr'; have HF : Hid (Fr _ _ w1) := hf; clear hr' hf)
      go_ret
      rw [K.out]
      refine ⟨rfl, _, ⟨vb, vv, ve, vp, vl, .slice a' (m.queue.length + 1) cap', vo, ?_, HB.out _⟩, grow_put HR'.out (by simp) (fun k hk => (HR.out.ownS hk).1), ?_⟩
      · exact ((H.out.alloc _).put 5 rfl rfl _ (m.queue.length + 1, m.queue.flatMap scells ++ [.string c]) HR'.out HF.out 22 rfl rfl (by simp [rX, scells]))
      · exact (H.out.alloc _).frPut (Fr.alloc _ _ _) 5 rfl HF.out 22 _
end Go.Proofs.YtkehpnobidendaaGreatDoor

namespace Go.Proofs.YtkehpnobidendaaGreatDoor
open Go.RowKit

theorem RMem.lock {w : World} {p : Nat} {S : Nat → Prop} {B : Nat} {m : Mem} {out : List Ltr} (h : RMem w p S B m out) : w.cell? ⟨p, 11, none⟩ = some (.int .i64 m.locked.view) ∧ w.cell? ⟨p, 12, none⟩ = some (.int .u64 m.locked.block) ∧ w.cell? ⟨p, 13, none⟩ = some (.int .u64 m.locked.s0) ∧ w.cell? ⟨p, 14, none⟩ = some (.int .u64 m.locked.s1) ∧ w.cell? ⟨p, 15, none⟩ = some (.int .u64 m.locked.s2) ∧ w.cell? ⟨p, 16, none⟩ = some (.int .u64 m.locked.s3) := by
  obtain ⟨vb, vv, ve, vp, vl, vq, vo, h, _⟩ := h
  exact ⟨cell_at h.box 11, cell_at h.box 12, cell_at h.box 13, cell_at h.box 14, cell_at h.box 15, cell_at h.box 16⟩
/-- Both sides' members have turned, all else below is as it was. -/
structure Two (w w' : World) (x : Nat × Nat) (P R : Nat → Prop) (m' : Mem) : Prop where
  ex : ∃ P' R', PMem w' x.1 P' m' ∧ RMem w' x.2 R' w'.heap.size m' [] ∧ Grow P w P' ∧ Grow R w R' ∧ Fr (fun k => P k ∨ R k) w w' ∧ ∀ k, P' k → ¬ R' k
theorem two_of {w W w3 w4 : World} {x : Nat × Nat} {P R P' R' : Nat → Prop} {m' : Mem} (hR : ∀ k, R k → k < w.heap.size) (hPR : ∀ k, P k → ¬ R k) (hb : Below w.heap.size w W) (hp : PMem w3 x.1 P' m') (hr : RMem w4 x.2 R' w4.heap.size m' []) (gp : Grow P W P') (gr : Grow R w3 R') (f3 : Fr P W w3) (f4 : Fr R w3 w4) (h0 : ¬ R 0) : Two w w4 x P R m' := by
  have s1 := hb.size
  have s3 := f3.size
  have s4 := f4.size
  have hlt := hp.lt
  have pr : ∀ k, P' k → ¬ R k := fun k hk hr => (gp k hk).elim (fun h => hPR k h hr) (fun h => by have := hR k hr; omega)
  refine ⟨P', R', hp.fr f4 pr h0, hr, fun k hk => (gp k hk).imp id (fun h => by omega), fun k hk => (gr k hk).imp id (fun h => by omega), ((Fr.of_below hb).trans (f3.mono (fun _ h => .inl h)) (fun _ h => .inl h)).trans (f4.mono (fun _ h => .inr h)) (fun _ h => .inl h), fun k h1 h2 => ?_⟩
  rcases gr k h2 with h | h
  · exact pr k h1 h
  · have := hlt k h1; omega
set_option maxRecDepth 100000 in
set_option maxHeartbeats 1000000 in
theorem step7 (o : OpD) (ho : o.Ok) (hk : o.k = 7) {w : World} {q : Nat} {L : Law} {x : Nat × Nat} (hs : SeeL w q L (pickN o.on L.members.length) x) (hl : 0 < L.members.length) (hl8 : L.members.length ≤ 8) (m : Mem) {P R : Nat → Prop} (hp : PMem w x.1 P m) (hr : RMem w x.2 R w.heap.size m []) :
    Calls Tryz.prog 7 #[.pointer (some ⟨q, 0, none⟩), .agg o.cells] w fun e w' => e = .returned (.bool true) ∧ Below w.heap.size w w' := by
  have HV : Hid (∀ W, Below w.heap.size w W → Calls Tryz.prog 14 #[.pointer (some ⟨x.1, 0, none⟩)] W fun e w' => e = .returned (.agg #[.int .i64 m.high.view, .int .u64 m.high.block, .int .u64 m.high.s0, .int .u64 m.high.s1, .int .u64 m.high.s2, .int .u64 m.high.s3]) ∧ Below W.heap.size W w') := fun W hW => phigh W x.1 P m (hp.below hW)
  have HR : Hid (∀ W, Below w.heap.size w W → W.cell? ⟨x.2, 5, none⟩ = some (.int .i64 m.high.view) ∧ W.cell? ⟨x.2, 6, none⟩ = some (.int .u64 m.high.block) ∧ W.cell? ⟨x.2, 7, none⟩ = some (.int .u64 m.high.s0) ∧ W.cell? ⟨x.2, 8, none⟩ = some (.int .u64 m.high.s1) ∧ W.cell? ⟨x.2, 9, none⟩ = some (.int .u64 m.high.s2) ∧ W.cell? ⟨x.2, 10, none⟩ = some (.int .u64 m.high.s3)) := (fun W hW => by have h := (hr.below hW).see; exact ⟨h.c5, h.c6, h.c7, h.c8, h.c9, h.c10⟩)
  have HSC : Hid (∀ W, Calls Tryz.prog 15 #[.agg #[.int .i64 m.high.view, .int .u64 m.high.block, .int .u64 m.high.s0, .int .u64 m.high.s1, .int .u64 m.high.s2, .int .u64 m.high.s3], .agg #[.int .i64 m.high.view, .int .u64 m.high.block, .int .u64 m.high.s0, .int .u64 m.high.s1, .int .u64 m.high.s2, .int .u64 m.high.s3]] W fun e w' => e = .returned (.bool true) ∧ Below W.heap.size W w') := fun W => lsameCert _ _ _ _ _ _ W
  clear hp hr
  generalize m.high = d at HV HR HSC
  obtain ⟨d0, d1, d2, d3, d4, d5⟩ := d
  dsimp only at HV HR HSC
  obtain ⟨g, off, cm, q0, p0, p1, hg, hq, hcm⟩ := hs.ex
  have h0 := ho.on0
  have h1 := ho.on1
  clear hs
  obtain ⟨k, on, a, b, s, n, m0, m1, m2, bv, jv, jb, j0, j1, j2, j3, c, nu, cv, cb, c0, c1, c2, c3, sl⟩ := o
  dsimp only [OpD.cells] at *
  subst hk
  clear ho
  have hpl := pickN_lt on L.members.length hl
  have LP : Hid (∀ W, Calls Tryz.prog 10 #[.int .i64 on, .int .i64 L.members.length] W fun e w' => e = .returned (.int .i64 (pickN on L.members.length)) ∧ w' = W) := fun W => lpick on L.members.length h0 h1 hl (by omega) W
  generalize pickN on L.members.length = i at *
  obtain ⟨C, hC⟩ : ∃ C : Array Value, C = #[.int .i64 7, .int .i64 on, .int .i64 a, .int .i64 b, .string s, .int .u64 n, .int .i64 m0, .int .i64 m1, .int .i64 m2, .int .i64 bv, .int .i64 jv, .int .u64 jb, .int .u64 j0, .int .u64 j1, .int .u64 j2, .int .u64 j3, .string c, .int .u64 nu, .int .i64 cv, .int .u64 cb, .int .u64 c0, .int .u64 c1, .int .u64 c2, .int .u64 c3, .int .u64 sl] := ⟨_, rfl⟩
  have i0 : (0 : Int) ≤ (i : Int) := by omega
  have i1 : (i : Int) < (L.members.length : Int) := by omega
  have hX1 : (w.alloc (.cells C 45)).heap[w.heap.size]? = some (.cells C 45 (0, 0)) := heap_alloc_new w _
  have hB1 : Below w.heap.size w (w.alloc (.cells C 45)) := below_alloc w _
  have hZ1 : (w.alloc (.cells C 45)).heap.size = w.heap.size + 1 := by simp
  obtain ⟨W1, hW1⟩ : ∃ W, W = w.alloc (.cells C 45) := ⟨_, rfl⟩
  rw [← hW1] at hX1 hB1 hZ1
  rw [hC] at hW1
  go_enter Tryz.func7, Tryz.ntmps7
  go_upto_region 5 with fail
  rw [← hW1]
  have qa : W1.cell? ⟨q, 0, none⟩ = some (.slice (some ⟨g, off, none⟩) L.members.length cm) := (hB1.cell (p := ⟨q, 0, none⟩) hq).trans q0
  have qb : W1.cell? ⟨g, off + i * 2, none⟩ = some (.pointer (some ⟨x.1, 0, none⟩)) := (hB1.cell (p := ⟨g, _, none⟩) hg).trans p0
  have qc : W1.cell? ⟨g, off + i * 2 + 1, none⟩ = some (.pointer (some ⟨x.2, 0, none⟩)) := (hB1.cell (p := ⟨g, _, none⟩) hg).trans p1
  have qd : W1.cell? ⟨w.heap.size, 1, none⟩ = some (.int .i64 on) := (cell_at hX1 1).trans (by rw [hC]; rfl)
  have hqw : q < W1.heap.size := by omega
  have hgw : g < W1.heap.size := by omega
  have hww : w.heap.size < W1.heap.size := by omega
  have HS : Hid (∀ w', Below W1.heap.size W1 w' → Below W1.heap.size W1 w' ∧ w'.cell? ⟨q, 0, none⟩ = some (.slice (some ⟨g, off, none⟩) L.members.length cm) ∧ w'.cell? ⟨g, off + i * 2, none⟩ = some (.pointer (some ⟨x.1, 0, none⟩)) ∧ w'.cell? ⟨g, off + i * 2 + 1, none⟩ = some (.pointer (some ⟨x.2, 0, none⟩)) ∧ w'.cell? ⟨w.heap.size, 1, none⟩ = some (.int .i64 on)) := fun w' hb => ⟨hb, (hb.cell (p := ⟨q, 0, none⟩) hqw).trans qa, (hb.cell (p := ⟨g, _, none⟩) hgw).trans qb, (hb.cell (p := ⟨g, _, none⟩) hgw).trans qc, (hb.cell (p := ⟨w.heap.size, 1, none⟩) hww).trans qd⟩
  have hB2 : Below W1.heap.size W1 (W1.alloc (.cells #[.pointer (some ⟨x.1, 0, none⟩), .pointer (some ⟨x.2, 0, none⟩)] 50)).drew := (below_alloc W1 _).drew
  have hx2 : (W1.alloc (.cells #[.pointer (some ⟨x.1, 0, none⟩), .pointer (some ⟨x.2, 0, none⟩)] 50)).drew.heap[w.heap.size + 1]? = some (.cells #[.pointer (some ⟨x.1, 0, none⟩), .pointer (some ⟨x.2, 0, none⟩)] 50 (0, 0)) := by rw [← hZ1]; exact heap_alloc_new W1 _
  obtain ⟨W2, hW2⟩ : ∃ W, W = (W1.alloc (.cells #[.pointer (some ⟨x.1, 0, none⟩), .pointer (some ⟨x.2, 0, none⟩)] 50)).drew := ⟨_, rfl⟩
  rw [← hW2] at hB2 hx2
  have HX : Hid (∀ W, Below W2.heap.size W2 W → (W.cell? ⟨w.heap.size + 1, 0, none⟩ = some (.pointer (some ⟨x.1, 0, none⟩)) ∧ W.cell? ⟨w.heap.size + 1, 1, none⟩ = some (.pointer (some ⟨x.2, 0, none⟩)) ∧ W.cell? ⟨w.heap.size, 0, none⟩ = some (.int .i64 7) ∧ W.cell? ⟨w.heap.size, 4, none⟩ = some (.string s))) := fun W hW => by
    have e1 := (hW.block _ (lt_at hx2)).trans hx2
    have e2 := (hW.block w.heap.size (Nat.lt_of_lt_of_le hww hB2.size)).trans ((hB2.block w.heap.size hww).trans hX1)
    exact ⟨cell_at e1 0, cell_at e1 1, (cell_at e2 0).trans (by rw [hC]; rfl), (cell_at e2 4).trans (by rw [hC]; rfl)⟩
  have HB2 : Hid (Below w.heap.size w W2) := bnext hB1 hB2
  have HX2 : Hid (W2.heap[w.heap.size + 1]? = some (.cells #[.pointer (some ⟨x.1, 0, none⟩), .pointer (some ⟨x.2, 0, none⟩)] 50 (0, 0))) := hx2
  have HW1 : Hid (w.heap.size < W1.heap.size ∧ W1.heap[w.heap.size]? = some (.cells C 45 (0, 0)) ∧ Below W1.heap.size W1 W2) := ⟨hww, hX1, hB2⟩
  have HC : Hid (C = #[.int .i64 7, .int .i64 on, .int .i64 a, .int .i64 b, .string s, .int .u64 n, .int .i64 m0, .int .i64 m1, .int .i64 m2, .int .i64 bv, .int .i64 jv, .int .u64 jb, .int .u64 j0, .int .u64 j1, .int .u64 j2, .int .u64 j3, .string c, .int .u64 nu, .int .i64 cv, .int .u64 cb, .int .u64 c0, .int .u64 c1, .int .u64 c2, .int .u64 c3, .int .u64 sl]) := hC
  clear q0 p0 p1 hX1 hB1 hW1 hx2 hB2 hC qa qb qc qd
  go_region_held3 (fun w' => Below W1.heap.size W1 w' ∧ w'.cell? ⟨q, 0, none⟩ = some (.slice (some ⟨g, off, none⟩) L.members.length cm) ∧ w'.cell? ⟨g, off + i * 2, none⟩ = some (.pointer (some ⟨x.1, 0, none⟩)) ∧ w'.cell? ⟨g, off + i * 2 + 1, none⟩ = some (.pointer (some ⟨x.2, 0, none⟩)) ∧ w'.cell? ⟨w.heap.size, 1, none⟩ = some (.int .i64 on))
    (first | (exact HS.out _ (Below.refl _ _).drew) | (exact HS.out _ (bnext (And.left ‹Below W1.heap.size W1 _ ∧ _›) (below_alloc _ _))) | (exact HS.out _ (bnext (Below.refl _ _).drew (below_alloc _ _))))
    ((go_at_call 10; refine (LP.out _).mono ?_; rintro e w3 ⟨rfl, rfl⟩))
  all_goals (
    rw [← hW2]
    clear ‹_ ∧ _›
    clear hW2 HS LP
    have xs := HX.out W2 (Below.refl _ _)
    obtain ⟨x0, x1, k0, x4⟩ := xs
    go_wp2_with (first
      | (go_at_call 14; refine (HV.out _ HB2.out).mono ?_; rintro e w3 ⟨rfl, b3⟩; obtain ⟨x0', x1', _, _⟩ := HX.out w3 b3; obtain ⟨r5, r6, r7, r8, r9, r10⟩ := HR.out w3 (bnext HB2.out b3))
      | fail)
    have b5 := bnext b3 (below_alloc w3 (.cells #[.int .i64 d0, .int .u64 d1, .int .u64 d2, .int .u64 d3, .int .u64 d4, .int .u64 d5] 39))
    have y5 := heap_alloc_new w3 (.cells #[.int .i64 d0, .int .u64 d1, .int .u64 d2, .int .u64 d3, .int .u64 d4, .int .u64 d5] 39)
    generalize (w3.alloc (.cells #[.int .i64 d0, .int .u64 d1, .int .u64 d2, .int .u64 d3, .int .u64 d4, .int .u64 d5] 39)) = W5 at b5 y5 ⊢
    have HS5 : Hid (∀ w', Below W5.heap.size W5 w' → Below W5.heap.size W5 w' ∧ w'.cell? ⟨w.heap.size + 1, 1, none⟩ = some (.pointer (some ⟨x.2, 0, none⟩)) ∧ w'.cell? ⟨x.2, 5, none⟩ = some (.int .i64 d0) ∧ w'.cell? ⟨x.2, 6, none⟩ = some (.int .u64 d1) ∧ w'.cell? ⟨x.2, 7, none⟩ = some (.int .u64 d2) ∧ w'.cell? ⟨x.2, 8, none⟩ = some (.int .u64 d3) ∧ w'.cell? ⟨x.2, 9, none⟩ = some (.int .u64 d4) ∧ w'.cell? ⟨x.2, 10, none⟩ = some (.int .u64 d5) ∧ w'.cell? ⟨w3.heap.size, 0, none⟩ = some (.int .i64 d0) ∧ w'.cell? ⟨w3.heap.size, 1, none⟩ = some (.int .u64 d1) ∧ w'.cell? ⟨w3.heap.size, 2, none⟩ = some (.int .u64 d2) ∧ w'.cell? ⟨w3.heap.size, 3, none⟩ = some (.int .u64 d3) ∧ w'.cell? ⟨w3.heap.size, 4, none⟩ = some (.int .u64 d4) ∧ w'.cell? ⟨w3.heap.size, 5, none⟩ = some (.int .u64 d5)) := fun w' hb => by
      have hb6 := bnext b5 hb
      have e1 := (HX.out w' hb6).2.1
      have e2 := HR.out w' (bnext HB2.out hb6)
      have e3 := (hb.block _ (lt_at y5)).trans y5
      exact ⟨hb, e1, e2.1, e2.2.1, e2.2.2.1, e2.2.2.2.1, e2.2.2.2.2.1, e2.2.2.2.2.2, cell_at e3 0, cell_at e3 1, cell_at e3 2, cell_at e3 3, cell_at e3 4, cell_at e3 5⟩
    have HB5 : Hid (Below W2.heap.size W2 W5) := b5
    clear x0' x1' r5 r6 r7 r8 r9 r10 b3 y5 b5
    go_region_held3 (fun w' => Below W5.heap.size W5 w' ∧ w'.cell? ⟨w.heap.size + 1, 1, none⟩ = some (.pointer (some ⟨x.2, 0, none⟩)) ∧ w'.cell? ⟨x.2, 5, none⟩ = some (.int .i64 d0) ∧ w'.cell? ⟨x.2, 6, none⟩ = some (.int .u64 d1) ∧ w'.cell? ⟨x.2, 7, none⟩ = some (.int .u64 d2) ∧ w'.cell? ⟨x.2, 8, none⟩ = some (.int .u64 d3) ∧ w'.cell? ⟨x.2, 9, none⟩ = some (.int .u64 d4) ∧ w'.cell? ⟨x.2, 10, none⟩ = some (.int .u64 d5) ∧ w'.cell? ⟨w3.heap.size, 0, none⟩ = some (.int .i64 d0) ∧ w'.cell? ⟨w3.heap.size, 1, none⟩ = some (.int .u64 d1) ∧ w'.cell? ⟨w3.heap.size, 2, none⟩ = some (.int .u64 d2) ∧ w'.cell? ⟨w3.heap.size, 3, none⟩ = some (.int .u64 d3) ∧ w'.cell? ⟨w3.heap.size, 4, none⟩ = some (.int .u64 d4) ∧ w'.cell? ⟨w3.heap.size, 5, none⟩ = some (.int .u64 d5))
      (first | (exact HS5.out _ (Below.refl _ _).drew) | (exact HS5.out _ (bnext (And.left ‹Below W5.heap.size W5 _ ∧ _›) (by assumption))) | (exact HS5.out _ (bnext (Below.refl _ _).drew (by assumption))))
      ((go_at_call 15; refine (HSC.out _).mono ?_; rintro e w4 ⟨rfl, b4⟩))
    have hh := And.left ‹Below W5.heap.size W5 _ ∧ _›
    go_wp2
    go_ret
    exact ⟨rfl, bnext (bnext HB2.out HB5.out) hh⟩)
set_option maxRecDepth 100000 in
set_option maxHeartbeats 1000000 in
theorem step8 (o : OpD) (ho : o.Ok) (hk : o.k = 8) {w : World} {q : Nat} {L : Law} {x : Nat × Nat} (hs : SeeL w q L (pickN o.on L.members.length) x) (hl : 0 < L.members.length) (hl8 : L.members.length ≤ 8) (m : Mem) {P R : Nat → Prop} (hp : PMem w x.1 P m) (hr : RMem w x.2 R w.heap.size m []) :
    Calls Tryz.prog 7 #[.pointer (some ⟨q, 0, none⟩), .agg o.cells] w fun e w' => e = .returned (.bool true) ∧ Below w.heap.size w w' := by
  have HV : Hid (∀ W, Below w.heap.size w W → Calls Tryz.prog 16 #[.pointer (some ⟨x.1, 0, none⟩)] W fun e w' => e = .returned (.agg #[.int .i64 m.locked.view, .int .u64 m.locked.block, .int .u64 m.locked.s0, .int .u64 m.locked.s1, .int .u64 m.locked.s2, .int .u64 m.locked.s3]) ∧ Below W.heap.size W w') := fun W hW => plocked W x.1 P m (hp.below hW)
  have HR : Hid (∀ W, Below w.heap.size w W → W.cell? ⟨x.2, 11, none⟩ = some (.int .i64 m.locked.view) ∧ W.cell? ⟨x.2, 12, none⟩ = some (.int .u64 m.locked.block) ∧ W.cell? ⟨x.2, 13, none⟩ = some (.int .u64 m.locked.s0) ∧ W.cell? ⟨x.2, 14, none⟩ = some (.int .u64 m.locked.s1) ∧ W.cell? ⟨x.2, 15, none⟩ = some (.int .u64 m.locked.s2) ∧ W.cell? ⟨x.2, 16, none⟩ = some (.int .u64 m.locked.s3)) := (fun W hW => (hr.below hW).lock)
  have HSC : Hid (∀ W, Calls Tryz.prog 15 #[.agg #[.int .i64 m.locked.view, .int .u64 m.locked.block, .int .u64 m.locked.s0, .int .u64 m.locked.s1, .int .u64 m.locked.s2, .int .u64 m.locked.s3], .agg #[.int .i64 m.locked.view, .int .u64 m.locked.block, .int .u64 m.locked.s0, .int .u64 m.locked.s1, .int .u64 m.locked.s2, .int .u64 m.locked.s3]] W fun e w' => e = .returned (.bool true) ∧ Below W.heap.size W w') := fun W => lsameCert _ _ _ _ _ _ W
  clear hp hr
  generalize m.locked = d at HV HR HSC
  obtain ⟨d0, d1, d2, d3, d4, d5⟩ := d
  dsimp only at HV HR HSC
  obtain ⟨g, off, cm, q0, p0, p1, hg, hq, hcm⟩ := hs.ex
  have h0 := ho.on0
  have h1 := ho.on1
  clear hs
  obtain ⟨k, on, a, b, s, n, m0, m1, m2, bv, jv, jb, j0, j1, j2, j3, c, nu, cv, cb, c0, c1, c2, c3, sl⟩ := o
  dsimp only [OpD.cells] at *
  subst hk
  clear ho
  have hpl := pickN_lt on L.members.length hl
  have LP : Hid (∀ W, Calls Tryz.prog 10 #[.int .i64 on, .int .i64 L.members.length] W fun e w' => e = .returned (.int .i64 (pickN on L.members.length)) ∧ w' = W) := fun W => lpick on L.members.length h0 h1 hl (by omega) W
  generalize pickN on L.members.length = i at *
  obtain ⟨C, hC⟩ : ∃ C : Array Value, C = #[.int .i64 8, .int .i64 on, .int .i64 a, .int .i64 b, .string s, .int .u64 n, .int .i64 m0, .int .i64 m1, .int .i64 m2, .int .i64 bv, .int .i64 jv, .int .u64 jb, .int .u64 j0, .int .u64 j1, .int .u64 j2, .int .u64 j3, .string c, .int .u64 nu, .int .i64 cv, .int .u64 cb, .int .u64 c0, .int .u64 c1, .int .u64 c2, .int .u64 c3, .int .u64 sl] := ⟨_, rfl⟩
  have i0 : (0 : Int) ≤ (i : Int) := by omega
  have i1 : (i : Int) < (L.members.length : Int) := by omega
  have hX1 : (w.alloc (.cells C 45)).heap[w.heap.size]? = some (.cells C 45 (0, 0)) := heap_alloc_new w _
  have hB1 : Below w.heap.size w (w.alloc (.cells C 45)) := below_alloc w _
  have hZ1 : (w.alloc (.cells C 45)).heap.size = w.heap.size + 1 := by simp
  obtain ⟨W1, hW1⟩ : ∃ W, W = w.alloc (.cells C 45) := ⟨_, rfl⟩
  rw [← hW1] at hX1 hB1 hZ1
  rw [hC] at hW1
  go_enter Tryz.func7, Tryz.ntmps7
  go_upto_region 5 with fail
  rw [← hW1]
  have qa : W1.cell? ⟨q, 0, none⟩ = some (.slice (some ⟨g, off, none⟩) L.members.length cm) := (hB1.cell (p := ⟨q, 0, none⟩) hq).trans q0
  have qb : W1.cell? ⟨g, off + i * 2, none⟩ = some (.pointer (some ⟨x.1, 0, none⟩)) := (hB1.cell (p := ⟨g, _, none⟩) hg).trans p0
  have qc : W1.cell? ⟨g, off + i * 2 + 1, none⟩ = some (.pointer (some ⟨x.2, 0, none⟩)) := (hB1.cell (p := ⟨g, _, none⟩) hg).trans p1
  have qd : W1.cell? ⟨w.heap.size, 1, none⟩ = some (.int .i64 on) := (cell_at hX1 1).trans (by rw [hC]; rfl)
  have hqw : q < W1.heap.size := by omega
  have hgw : g < W1.heap.size := by omega
  have hww : w.heap.size < W1.heap.size := by omega
  have HS : Hid (∀ w', Below W1.heap.size W1 w' → Below W1.heap.size W1 w' ∧ w'.cell? ⟨q, 0, none⟩ = some (.slice (some ⟨g, off, none⟩) L.members.length cm) ∧ w'.cell? ⟨g, off + i * 2, none⟩ = some (.pointer (some ⟨x.1, 0, none⟩)) ∧ w'.cell? ⟨g, off + i * 2 + 1, none⟩ = some (.pointer (some ⟨x.2, 0, none⟩)) ∧ w'.cell? ⟨w.heap.size, 1, none⟩ = some (.int .i64 on)) := fun w' hb => ⟨hb, (hb.cell (p := ⟨q, 0, none⟩) hqw).trans qa, (hb.cell (p := ⟨g, _, none⟩) hgw).trans qb, (hb.cell (p := ⟨g, _, none⟩) hgw).trans qc, (hb.cell (p := ⟨w.heap.size, 1, none⟩) hww).trans qd⟩
  have hB2 : Below W1.heap.size W1 (W1.alloc (.cells #[.pointer (some ⟨x.1, 0, none⟩), .pointer (some ⟨x.2, 0, none⟩)] 50)).drew := (below_alloc W1 _).drew
  have hx2 : (W1.alloc (.cells #[.pointer (some ⟨x.1, 0, none⟩), .pointer (some ⟨x.2, 0, none⟩)] 50)).drew.heap[w.heap.size + 1]? = some (.cells #[.pointer (some ⟨x.1, 0, none⟩), .pointer (some ⟨x.2, 0, none⟩)] 50 (0, 0)) := by rw [← hZ1]; exact heap_alloc_new W1 _
  obtain ⟨W2, hW2⟩ : ∃ W, W = (W1.alloc (.cells #[.pointer (some ⟨x.1, 0, none⟩), .pointer (some ⟨x.2, 0, none⟩)] 50)).drew := ⟨_, rfl⟩
  rw [← hW2] at hB2 hx2
  have HX : Hid (∀ W, Below W2.heap.size W2 W → (W.cell? ⟨w.heap.size + 1, 0, none⟩ = some (.pointer (some ⟨x.1, 0, none⟩)) ∧ W.cell? ⟨w.heap.size + 1, 1, none⟩ = some (.pointer (some ⟨x.2, 0, none⟩)) ∧ W.cell? ⟨w.heap.size, 0, none⟩ = some (.int .i64 8) ∧ W.cell? ⟨w.heap.size, 4, none⟩ = some (.string s))) := fun W hW => by
    have e1 := (hW.block _ (lt_at hx2)).trans hx2
    have e2 := (hW.block w.heap.size (Nat.lt_of_lt_of_le hww hB2.size)).trans ((hB2.block w.heap.size hww).trans hX1)
    exact ⟨cell_at e1 0, cell_at e1 1, (cell_at e2 0).trans (by rw [hC]; rfl), (cell_at e2 4).trans (by rw [hC]; rfl)⟩
  have HB2 : Hid (Below w.heap.size w W2) := bnext hB1 hB2
  have HX2 : Hid (W2.heap[w.heap.size + 1]? = some (.cells #[.pointer (some ⟨x.1, 0, none⟩), .pointer (some ⟨x.2, 0, none⟩)] 50 (0, 0))) := hx2
  have HW1 : Hid (w.heap.size < W1.heap.size ∧ W1.heap[w.heap.size]? = some (.cells C 45 (0, 0)) ∧ Below W1.heap.size W1 W2) := ⟨hww, hX1, hB2⟩
  have HC : Hid (C = #[.int .i64 8, .int .i64 on, .int .i64 a, .int .i64 b, .string s, .int .u64 n, .int .i64 m0, .int .i64 m1, .int .i64 m2, .int .i64 bv, .int .i64 jv, .int .u64 jb, .int .u64 j0, .int .u64 j1, .int .u64 j2, .int .u64 j3, .string c, .int .u64 nu, .int .i64 cv, .int .u64 cb, .int .u64 c0, .int .u64 c1, .int .u64 c2, .int .u64 c3, .int .u64 sl]) := hC
  clear q0 p0 p1 hX1 hB1 hW1 hx2 hB2 hC qa qb qc qd
  go_region_held3 (fun w' => Below W1.heap.size W1 w' ∧ w'.cell? ⟨q, 0, none⟩ = some (.slice (some ⟨g, off, none⟩) L.members.length cm) ∧ w'.cell? ⟨g, off + i * 2, none⟩ = some (.pointer (some ⟨x.1, 0, none⟩)) ∧ w'.cell? ⟨g, off + i * 2 + 1, none⟩ = some (.pointer (some ⟨x.2, 0, none⟩)) ∧ w'.cell? ⟨w.heap.size, 1, none⟩ = some (.int .i64 on))
    (first | (exact HS.out _ (Below.refl _ _).drew) | (exact HS.out _ (bnext (And.left ‹Below W1.heap.size W1 _ ∧ _›) (below_alloc _ _))) | (exact HS.out _ (bnext (Below.refl _ _).drew (below_alloc _ _))))
    ((go_at_call 10; refine (LP.out _).mono ?_; rintro e w3 ⟨rfl, rfl⟩))
  all_goals (
    rw [← hW2]
    clear ‹_ ∧ _›
    clear hW2 HS LP
    have xs := HX.out W2 (Below.refl _ _)
    obtain ⟨x0, x1, k0, x4⟩ := xs
    go_wp2_with (first
      | (go_at_call 16; refine (HV.out _ HB2.out).mono ?_; rintro e w3 ⟨rfl, b3⟩; obtain ⟨x0', x1', _, _⟩ := HX.out w3 b3; obtain ⟨r5, r6, r7, r8, r9, r10⟩ := HR.out w3 (bnext HB2.out b3))
      | fail)
    have b5 := bnext b3 (below_alloc w3 (.cells #[.int .i64 d0, .int .u64 d1, .int .u64 d2, .int .u64 d3, .int .u64 d4, .int .u64 d5] 39))
    have y5 := heap_alloc_new w3 (.cells #[.int .i64 d0, .int .u64 d1, .int .u64 d2, .int .u64 d3, .int .u64 d4, .int .u64 d5] 39)
    generalize (w3.alloc (.cells #[.int .i64 d0, .int .u64 d1, .int .u64 d2, .int .u64 d3, .int .u64 d4, .int .u64 d5] 39)) = W5 at b5 y5 ⊢
    have HS5 : Hid (∀ w', Below W5.heap.size W5 w' → Below W5.heap.size W5 w' ∧ w'.cell? ⟨w.heap.size + 1, 1, none⟩ = some (.pointer (some ⟨x.2, 0, none⟩)) ∧ w'.cell? ⟨x.2, 11, none⟩ = some (.int .i64 d0) ∧ w'.cell? ⟨x.2, 12, none⟩ = some (.int .u64 d1) ∧ w'.cell? ⟨x.2, 13, none⟩ = some (.int .u64 d2) ∧ w'.cell? ⟨x.2, 14, none⟩ = some (.int .u64 d3) ∧ w'.cell? ⟨x.2, 15, none⟩ = some (.int .u64 d4) ∧ w'.cell? ⟨x.2, 16, none⟩ = some (.int .u64 d5) ∧ w'.cell? ⟨w3.heap.size, 0, none⟩ = some (.int .i64 d0) ∧ w'.cell? ⟨w3.heap.size, 1, none⟩ = some (.int .u64 d1) ∧ w'.cell? ⟨w3.heap.size, 2, none⟩ = some (.int .u64 d2) ∧ w'.cell? ⟨w3.heap.size, 3, none⟩ = some (.int .u64 d3) ∧ w'.cell? ⟨w3.heap.size, 4, none⟩ = some (.int .u64 d4) ∧ w'.cell? ⟨w3.heap.size, 5, none⟩ = some (.int .u64 d5)) := fun w' hb => by
      have hb6 := bnext b5 hb
      have e1 := (HX.out w' hb6).2.1
      have e2 := HR.out w' (bnext HB2.out hb6)
      have e3 := (hb.block _ (lt_at y5)).trans y5
      exact ⟨hb, e1, e2.1, e2.2.1, e2.2.2.1, e2.2.2.2.1, e2.2.2.2.2.1, e2.2.2.2.2.2, cell_at e3 0, cell_at e3 1, cell_at e3 2, cell_at e3 3, cell_at e3 4, cell_at e3 5⟩
    have HB5 : Hid (Below W2.heap.size W2 W5) := b5
    clear x0' x1' r5 r6 r7 r8 r9 r10 b3 y5 b5
    go_region_held3 (fun w' => Below W5.heap.size W5 w' ∧ w'.cell? ⟨w.heap.size + 1, 1, none⟩ = some (.pointer (some ⟨x.2, 0, none⟩)) ∧ w'.cell? ⟨x.2, 11, none⟩ = some (.int .i64 d0) ∧ w'.cell? ⟨x.2, 12, none⟩ = some (.int .u64 d1) ∧ w'.cell? ⟨x.2, 13, none⟩ = some (.int .u64 d2) ∧ w'.cell? ⟨x.2, 14, none⟩ = some (.int .u64 d3) ∧ w'.cell? ⟨x.2, 15, none⟩ = some (.int .u64 d4) ∧ w'.cell? ⟨x.2, 16, none⟩ = some (.int .u64 d5) ∧ w'.cell? ⟨w3.heap.size, 0, none⟩ = some (.int .i64 d0) ∧ w'.cell? ⟨w3.heap.size, 1, none⟩ = some (.int .u64 d1) ∧ w'.cell? ⟨w3.heap.size, 2, none⟩ = some (.int .u64 d2) ∧ w'.cell? ⟨w3.heap.size, 3, none⟩ = some (.int .u64 d3) ∧ w'.cell? ⟨w3.heap.size, 4, none⟩ = some (.int .u64 d4) ∧ w'.cell? ⟨w3.heap.size, 5, none⟩ = some (.int .u64 d5))
      (first | (exact HS5.out _ (Below.refl _ _).drew) | (exact HS5.out _ (bnext (And.left ‹Below W5.heap.size W5 _ ∧ _›) (by assumption))) | (exact HS5.out _ (bnext (Below.refl _ _).drew (by assumption))))
      ((go_at_call 15; refine (HSC.out _).mono ?_; rintro e w4 ⟨rfl, b4⟩))
    have hh := And.left ‹Below W5.heap.size W5 _ ∧ _›
    go_wp2
    go_ret
    exact ⟨rfl, bnext (bnext HB2.out HB5.out) hh⟩)
set_option maxRecDepth 100000 in
set_option maxHeartbeats 1000000 in
theorem stepNo (o : OpD) (ho : o.Ok) (hk : o.k < 1) {w : World} {q : Nat} {L : Law} {x : Nat × Nat} (hs : SeeL w q L (pickN o.on L.members.length) x) (hl : 0 < L.members.length) (hl8 : L.members.length ≤ 8) :
    Calls Tryz.prog 7 #[.pointer (some ⟨q, 0, none⟩), .agg o.cells] w fun e w' => e = .returned (.bool true) ∧ Below w.heap.size w w' := by
  have z5 : (o.k == 5) = false := by simp; omega
  have z6 : (o.k == 6) = false := by simp; omega
  have z7 : (o.k == 7) = false := by simp; omega
  have z8 : (o.k == 8) = false := by simp; omega
  have z9 : (o.k == 9) = false := by simp; omega
  have z10 : (o.k == 10) = false := by simp; omega
  have z11 : (o.k == 11) = false := by simp; omega
  have z12 : (o.k == 12) = false := by simp; omega
  obtain ⟨g, off, cm, q0, p0, p1, hg, hq, hcm⟩ := hs.ex
  have h0 := ho.on0
  have h1 := ho.on1
  clear hs
  obtain ⟨k, on, a, b, s, n, m0, m1, m2, bv, jv, jb, j0, j1, j2, j3, c, nu, cv, cb, c0, c1, c2, c3, sl⟩ := o
  dsimp only [OpD.cells] at *
  clear ho
  have hpl := pickN_lt on L.members.length hl
  have LP : Hid (∀ W, Calls Tryz.prog 10 #[.int .i64 on, .int .i64 L.members.length] W fun e w' => e = .returned (.int .i64 (pickN on L.members.length)) ∧ w' = W) := fun W => lpick on L.members.length h0 h1 hl (by omega) W
  generalize pickN on L.members.length = i at *
  obtain ⟨C, hC⟩ : ∃ C : Array Value, C = #[.int .i64 k, .int .i64 on, .int .i64 a, .int .i64 b, .string s, .int .u64 n, .int .i64 m0, .int .i64 m1, .int .i64 m2, .int .i64 bv, .int .i64 jv, .int .u64 jb, .int .u64 j0, .int .u64 j1, .int .u64 j2, .int .u64 j3, .string c, .int .u64 nu, .int .i64 cv, .int .u64 cb, .int .u64 c0, .int .u64 c1, .int .u64 c2, .int .u64 c3, .int .u64 sl] := ⟨_, rfl⟩
  have i0 : (0 : Int) ≤ (i : Int) := by omega
  have i1 : (i : Int) < (L.members.length : Int) := by omega
  have hX1 : (w.alloc (.cells C 45)).heap[w.heap.size]? = some (.cells C 45 (0, 0)) := heap_alloc_new w _
  have hB1 : Below w.heap.size w (w.alloc (.cells C 45)) := below_alloc w _
  have hZ1 : (w.alloc (.cells C 45)).heap.size = w.heap.size + 1 := by simp
  obtain ⟨W1, hW1⟩ : ∃ W, W = w.alloc (.cells C 45) := ⟨_, rfl⟩
  rw [← hW1] at hX1 hB1 hZ1
  rw [hC] at hW1
  go_enter Tryz.func7, Tryz.ntmps7
  go_upto_region 5 with fail
  rw [← hW1]
  have qa : W1.cell? ⟨q, 0, none⟩ = some (.slice (some ⟨g, off, none⟩) L.members.length cm) := (hB1.cell (p := ⟨q, 0, none⟩) hq).trans q0
  have qb : W1.cell? ⟨g, off + i * 2, none⟩ = some (.pointer (some ⟨x.1, 0, none⟩)) := (hB1.cell (p := ⟨g, _, none⟩) hg).trans p0
  have qc : W1.cell? ⟨g, off + i * 2 + 1, none⟩ = some (.pointer (some ⟨x.2, 0, none⟩)) := (hB1.cell (p := ⟨g, _, none⟩) hg).trans p1
  have qd : W1.cell? ⟨w.heap.size, 1, none⟩ = some (.int .i64 on) := (cell_at hX1 1).trans (by rw [hC]; rfl)
  have hqw : q < W1.heap.size := by omega
  have hgw : g < W1.heap.size := by omega
  have hww : w.heap.size < W1.heap.size := by omega
  have HS : Hid (∀ w', Below W1.heap.size W1 w' → Below W1.heap.size W1 w' ∧ w'.cell? ⟨q, 0, none⟩ = some (.slice (some ⟨g, off, none⟩) L.members.length cm) ∧ w'.cell? ⟨g, off + i * 2, none⟩ = some (.pointer (some ⟨x.1, 0, none⟩)) ∧ w'.cell? ⟨g, off + i * 2 + 1, none⟩ = some (.pointer (some ⟨x.2, 0, none⟩)) ∧ w'.cell? ⟨w.heap.size, 1, none⟩ = some (.int .i64 on)) := fun w' hb => ⟨hb, (hb.cell (p := ⟨q, 0, none⟩) hqw).trans qa, (hb.cell (p := ⟨g, _, none⟩) hgw).trans qb, (hb.cell (p := ⟨g, _, none⟩) hgw).trans qc, (hb.cell (p := ⟨w.heap.size, 1, none⟩) hww).trans qd⟩
  have hB2 : Below W1.heap.size W1 (W1.alloc (.cells #[.pointer (some ⟨x.1, 0, none⟩), .pointer (some ⟨x.2, 0, none⟩)] 50)).drew := (below_alloc W1 _).drew
  have hx2 : (W1.alloc (.cells #[.pointer (some ⟨x.1, 0, none⟩), .pointer (some ⟨x.2, 0, none⟩)] 50)).drew.heap[w.heap.size + 1]? = some (.cells #[.pointer (some ⟨x.1, 0, none⟩), .pointer (some ⟨x.2, 0, none⟩)] 50 (0, 0)) := by rw [← hZ1]; exact heap_alloc_new W1 _
  obtain ⟨W2, hW2⟩ : ∃ W, W = (W1.alloc (.cells #[.pointer (some ⟨x.1, 0, none⟩), .pointer (some ⟨x.2, 0, none⟩)] 50)).drew := ⟨_, rfl⟩
  rw [← hW2] at hB2 hx2
  have HX : Hid (∀ W, Below W2.heap.size W2 W → (W.cell? ⟨w.heap.size + 1, 0, none⟩ = some (.pointer (some ⟨x.1, 0, none⟩)) ∧ W.cell? ⟨w.heap.size + 1, 1, none⟩ = some (.pointer (some ⟨x.2, 0, none⟩)) ∧ W.cell? ⟨w.heap.size, 0, none⟩ = some (.int .i64 k) ∧ W.cell? ⟨w.heap.size, 4, none⟩ = some (.string s))) := fun W hW => by
    have e1 := (hW.block _ (lt_at hx2)).trans hx2
    have e2 := (hW.block w.heap.size (Nat.lt_of_lt_of_le hww hB2.size)).trans ((hB2.block w.heap.size hww).trans hX1)
    exact ⟨cell_at e1 0, cell_at e1 1, (cell_at e2 0).trans (by rw [hC]; rfl), (cell_at e2 4).trans (by rw [hC]; rfl)⟩
  have HB2 : Hid (Below w.heap.size w W2) := bnext hB1 hB2
  have HX2 : Hid (W2.heap[w.heap.size + 1]? = some (.cells #[.pointer (some ⟨x.1, 0, none⟩), .pointer (some ⟨x.2, 0, none⟩)] 50 (0, 0))) := hx2
  have HW1 : Hid (w.heap.size < W1.heap.size ∧ W1.heap[w.heap.size]? = some (.cells C 45 (0, 0)) ∧ Below W1.heap.size W1 W2) := ⟨hww, hX1, hB2⟩
  have HC : Hid (C = #[.int .i64 k, .int .i64 on, .int .i64 a, .int .i64 b, .string s, .int .u64 n, .int .i64 m0, .int .i64 m1, .int .i64 m2, .int .i64 bv, .int .i64 jv, .int .u64 jb, .int .u64 j0, .int .u64 j1, .int .u64 j2, .int .u64 j3, .string c, .int .u64 nu, .int .i64 cv, .int .u64 cb, .int .u64 c0, .int .u64 c1, .int .u64 c2, .int .u64 c3, .int .u64 sl]) := hC
  clear q0 p0 p1 hX1 hB1 hW1 hx2 hB2 hC qa qb qc qd
  go_region_held3 (fun w' => Below W1.heap.size W1 w' ∧ w'.cell? ⟨q, 0, none⟩ = some (.slice (some ⟨g, off, none⟩) L.members.length cm) ∧ w'.cell? ⟨g, off + i * 2, none⟩ = some (.pointer (some ⟨x.1, 0, none⟩)) ∧ w'.cell? ⟨g, off + i * 2 + 1, none⟩ = some (.pointer (some ⟨x.2, 0, none⟩)) ∧ w'.cell? ⟨w.heap.size, 1, none⟩ = some (.int .i64 on))
    (first | (exact HS.out _ (Below.refl _ _).drew) | (exact HS.out _ (bnext (And.left ‹Below W1.heap.size W1 _ ∧ _›) (below_alloc _ _))) | (exact HS.out _ (bnext (Below.refl _ _).drew (below_alloc _ _))))
    ((go_at_call 10; refine (LP.out _).mono ?_; rintro e w3 ⟨rfl, rfl⟩))
  all_goals (
    rw [← hW2]
    clear ‹_ ∧ _›
    clear hW2 HS LP
    have xs := HX.out W2 (Below.refl _ _)
    obtain ⟨x0, x1, k0, x4⟩ := xs
    go_wp2
    go_ret
    exact ⟨rfl, HB2.out⟩)
set_option maxRecDepth 100000 in
set_option maxHeartbeats 1000000 in
theorem step5 (o : OpD) (ho : o.Ok) (hk : o.k = 5) {w : World} {q : Nat} {L : Law} {x : Nat × Nat} (hs : SeeL w q L (pickN o.on L.members.length) x) (hl : 0 < L.members.length) (hl8 : L.members.length ≤ 8) (m : Mem) {P R : Nat → Prop} (hp : PMem w x.1 P m) (hr : RMem w x.2 R w.heap.size m []) (hq8 : m.queue.length ≤ 8) (hPR : ∀ k, P k → ¬ R k) (h00 : ¬ R 0) :
    Calls Tryz.prog 7 #[.pointer (some ⟨q, 0, none⟩), .agg o.cells] w fun e w' => e = .returned (.bool true) ∧ Two w w' x P R (m.submit o.s).1 := by
  have HP : Hid (PMem w x.1 P m) := hp
  have HR : Hid (RMem w x.2 R w.heap.size m []) := hr
  have hs1 := ho.s1
  have HPS : Hid (∀ W, Below w.heap.size w W → Calls Tryz.prog 11 #[.pointer (some ⟨x.1, 0, none⟩), .string o.s] W fun e w' => e = .returned (.int .i64 (m.submit o.s).2) ∧ ∃ S', PMem w' x.1 S' (m.submit o.s).1 ∧ Grow P W S' ∧ Fr P W w') := fun W hW => psubmit W x.1 P m (hp.below hW) o.s hs1 hq8
  have HRS : Hid (∀ W, RMem W x.2 R W.heap.size m [] → Calls Tryz.prog 12 #[.pointer (some ⟨x.2, 0, none⟩), .string o.s] W fun e w' => e = .returned (.int .i64 (m.submit o.s).2) ∧ ∃ S', RMem w' x.2 S' w'.heap.size (m.submit o.s).1 [] ∧ Grow R W S' ∧ Fr R W w') := fun W hW => rsubmit2 W x.2 R m [] hW o.s hs1 hq8
  have HPR : Hid ((∀ k, P k → ¬ R k) ∧ (∀ k, P k → k < w.heap.size) ∧ (∀ k, R k → k < w.heap.size) ∧ ¬ R 0) := ⟨hPR, hp.lt, hr.own, h00⟩
  clear hp hr hPR h00 hs1
  generalize m.submit o.s = mm at *
  obtain ⟨g, off, cm, q0, p0, p1, hg, hq, hcm⟩ := hs.ex
  have h0 := ho.on0
  have h1 := ho.on1
  clear hs
  obtain ⟨k, on, a, b, s, n, m0, m1, m2, bv, jv, jb, j0, j1, j2, j3, c, nu, cv, cb, c0, c1, c2, c3, sl⟩ := o
  dsimp only [OpD.cells] at *
  subst hk
  clear ho
  have hpl := pickN_lt on L.members.length hl
  have LP : Hid (∀ W, Calls Tryz.prog 10 #[.int .i64 on, .int .i64 L.members.length] W fun e w' => e = .returned (.int .i64 (pickN on L.members.length)) ∧ w' = W) := fun W => lpick on L.members.length h0 h1 hl (by omega) W
  generalize pickN on L.members.length = i at *
  obtain ⟨C, hC⟩ : ∃ C : Array Value, C = #[.int .i64 5, .int .i64 on, .int .i64 a, .int .i64 b, .string s, .int .u64 n, .int .i64 m0, .int .i64 m1, .int .i64 m2, .int .i64 bv, .int .i64 jv, .int .u64 jb, .int .u64 j0, .int .u64 j1, .int .u64 j2, .int .u64 j3, .string c, .int .u64 nu, .int .i64 cv, .int .u64 cb, .int .u64 c0, .int .u64 c1, .int .u64 c2, .int .u64 c3, .int .u64 sl] := ⟨_, rfl⟩
  have i0 : (0 : Int) ≤ (i : Int) := by omega
  have i1 : (i : Int) < (L.members.length : Int) := by omega
  have hX1 : (w.alloc (.cells C 45)).heap[w.heap.size]? = some (.cells C 45 (0, 0)) := heap_alloc_new w _
  have hB1 : Below w.heap.size w (w.alloc (.cells C 45)) := below_alloc w _
  have hZ1 : (w.alloc (.cells C 45)).heap.size = w.heap.size + 1 := by simp
  obtain ⟨W1, hW1⟩ : ∃ W, W = w.alloc (.cells C 45) := ⟨_, rfl⟩
  rw [← hW1] at hX1 hB1 hZ1
  rw [hC] at hW1
  go_enter Tryz.func7, Tryz.ntmps7
  go_upto_region 5 with fail
  rw [← hW1]
  have qa : W1.cell? ⟨q, 0, none⟩ = some (.slice (some ⟨g, off, none⟩) L.members.length cm) := (hB1.cell (p := ⟨q, 0, none⟩) hq).trans q0
  have qb : W1.cell? ⟨g, off + i * 2, none⟩ = some (.pointer (some ⟨x.1, 0, none⟩)) := (hB1.cell (p := ⟨g, _, none⟩) hg).trans p0
  have qc : W1.cell? ⟨g, off + i * 2 + 1, none⟩ = some (.pointer (some ⟨x.2, 0, none⟩)) := (hB1.cell (p := ⟨g, _, none⟩) hg).trans p1
  have qd : W1.cell? ⟨w.heap.size, 1, none⟩ = some (.int .i64 on) := (cell_at hX1 1).trans (by rw [hC]; rfl)
  have hqw : q < W1.heap.size := by omega
  have hgw : g < W1.heap.size := by omega
  have hww : w.heap.size < W1.heap.size := by omega
  have HS : Hid (∀ w', Below W1.heap.size W1 w' → Below W1.heap.size W1 w' ∧ w'.cell? ⟨q, 0, none⟩ = some (.slice (some ⟨g, off, none⟩) L.members.length cm) ∧ w'.cell? ⟨g, off + i * 2, none⟩ = some (.pointer (some ⟨x.1, 0, none⟩)) ∧ w'.cell? ⟨g, off + i * 2 + 1, none⟩ = some (.pointer (some ⟨x.2, 0, none⟩)) ∧ w'.cell? ⟨w.heap.size, 1, none⟩ = some (.int .i64 on)) := fun w' hb => ⟨hb, (hb.cell (p := ⟨q, 0, none⟩) hqw).trans qa, (hb.cell (p := ⟨g, _, none⟩) hgw).trans qb, (hb.cell (p := ⟨g, _, none⟩) hgw).trans qc, (hb.cell (p := ⟨w.heap.size, 1, none⟩) hww).trans qd⟩
  have hB2 : Below W1.heap.size W1 (W1.alloc (.cells #[.pointer (some ⟨x.1, 0, none⟩), .pointer (some ⟨x.2, 0, none⟩)] 50)).drew := (below_alloc W1 _).drew
  have hx2 : (W1.alloc (.cells #[.pointer (some ⟨x.1, 0, none⟩), .pointer (some ⟨x.2, 0, none⟩)] 50)).drew.heap[w.heap.size + 1]? = some (.cells #[.pointer (some ⟨x.1, 0, none⟩), .pointer (some ⟨x.2, 0, none⟩)] 50 (0, 0)) := by rw [← hZ1]; exact heap_alloc_new W1 _
  obtain ⟨W2, hW2⟩ : ∃ W, W = (W1.alloc (.cells #[.pointer (some ⟨x.1, 0, none⟩), .pointer (some ⟨x.2, 0, none⟩)] 50)).drew := ⟨_, rfl⟩
  rw [← hW2] at hB2 hx2
  have HX : Hid (∀ W, Below W2.heap.size W2 W → (W.cell? ⟨w.heap.size + 1, 0, none⟩ = some (.pointer (some ⟨x.1, 0, none⟩)) ∧ W.cell? ⟨w.heap.size + 1, 1, none⟩ = some (.pointer (some ⟨x.2, 0, none⟩)) ∧ W.cell? ⟨w.heap.size, 0, none⟩ = some (.int .i64 5) ∧ W.cell? ⟨w.heap.size, 4, none⟩ = some (.string s))) := fun W hW => by
    have e1 := (hW.block _ (lt_at hx2)).trans hx2
    have e2 := (hW.block w.heap.size (Nat.lt_of_lt_of_le hww hB2.size)).trans ((hB2.block w.heap.size hww).trans hX1)
    exact ⟨cell_at e1 0, cell_at e1 1, (cell_at e2 0).trans (by rw [hC]; rfl), (cell_at e2 4).trans (by rw [hC]; rfl)⟩
  have HB2 : Hid (Below w.heap.size w W2) := bnext hB1 hB2
  have HX2 : Hid (W2.heap[w.heap.size + 1]? = some (.cells #[.pointer (some ⟨x.1, 0, none⟩), .pointer (some ⟨x.2, 0, none⟩)] 50 (0, 0))) := hx2
  have HW1 : Hid (w.heap.size < W1.heap.size ∧ W1.heap[w.heap.size]? = some (.cells C 45 (0, 0)) ∧ Below W1.heap.size W1 W2) := ⟨hww, hX1, hB2⟩
  have HC : Hid (C = #[.int .i64 5, .int .i64 on, .int .i64 a, .int .i64 b, .string s, .int .u64 n, .int .i64 m0, .int .i64 m1, .int .i64 m2, .int .i64 bv, .int .i64 jv, .int .u64 jb, .int .u64 j0, .int .u64 j1, .int .u64 j2, .int .u64 j3, .string c, .int .u64 nu, .int .i64 cv, .int .u64 cb, .int .u64 c0, .int .u64 c1, .int .u64 c2, .int .u64 c3, .int .u64 sl]) := hC
  clear q0 p0 p1 hX1 hB1 hW1 hx2 hB2 hC qa qb qc qd
  go_region_held3 (fun w' => Below W1.heap.size W1 w' ∧ w'.cell? ⟨q, 0, none⟩ = some (.slice (some ⟨g, off, none⟩) L.members.length cm) ∧ w'.cell? ⟨g, off + i * 2, none⟩ = some (.pointer (some ⟨x.1, 0, none⟩)) ∧ w'.cell? ⟨g, off + i * 2 + 1, none⟩ = some (.pointer (some ⟨x.2, 0, none⟩)) ∧ w'.cell? ⟨w.heap.size, 1, none⟩ = some (.int .i64 on))
    (first | (exact HS.out _ (Below.refl _ _).drew) | (exact HS.out _ (bnext (And.left ‹Below W1.heap.size W1 _ ∧ _›) (below_alloc _ _))) | (exact HS.out _ (bnext (Below.refl _ _).drew (below_alloc _ _))))
    ((go_at_call 10; refine (LP.out _).mono ?_; rintro e w3 ⟨rfl, rfl⟩))
  all_goals (
    rw [← hW2]
    clear ‹_ ∧ _›
    clear hW2 HS LP
    have xs := HX.out W2 (Below.refl _ _)
    obtain ⟨x0, x1, k0, x4⟩ := xs
    go_wp2_with (first
      | (go_at_call 11; refine (HPS.out _ HB2.out).mono ?_; rintro e w3 ⟨rfl, S1, hm3, hg3, hf3⟩; have hz := HPR.out.2.1; have x1' : w3.cell? ⟨w.heap.size + 1, 1, none⟩ = some (.pointer (some ⟨x.2, 0, none⟩)) := (cell_at ((hf3.block (w.heap.size + 1) (lt_at HX2.out) (fun h => by have := hz _ h; omega)).trans HX2.out) 1); have x4' : w3.cell? ⟨w.heap.size, 4, none⟩ = some (.string s) := (cell_at ((hf3.block w.heap.size (Nat.lt_of_lt_of_le HW1.out.1 HW1.out.2.2.size) (fun h => by have := hz _ h; omega)).trans ((HW1.out.2.2.block w.heap.size HW1.out.1).trans HW1.out.2.1)) 4).trans (by rw [HC.out]; rfl); have HR3 : Hid (RMem w3 x.2 R w3.heap.size m []) := ((((HR.out.rest _).below HB2.out).fr hf3 (fun k hk hp => HPR.out.1 k hp hk))); have H3 : Hid (PMem w3 x.1 S1 mm.1 ∧ Grow P W2 S1 ∧ Fr P W2 w3) := ⟨hm3, hg3, hf3⟩; clear hm3 hg3 hf3 hz)
      | (go_at_call 12; refine (HRS.out _ HR3.out).mono ?_; rintro e w4 ⟨rfl, S2, hm4, hg4, hf4⟩))
    go_ret
    exact ⟨by simp, two_of HPR.out.2.2.1 HPR.out.1 HB2.out H3.out.1 hm4 H3.out.2.1 hg4 H3.out.2.2 hf4 HPR.out.2.2.2⟩)
end Go.Proofs.YtkehpnobidendaaGreatDoor

namespace Go.Proofs.YtkehpnobidendaaGreatDoor
open Go.RowKit

/-- What a call of both sides leaves, and what the law heard of it. -/
structure Went (w w' : World) (x : Nat × Nat) (q : Nat) (P R S : Nat → Prop) (L : Law) (m' : Mem) (ls : List Ltr) : Prop where
  ex : ∃ w4 v P' R', PMem w4 x.1 P' m' ∧ RMem w4 x.2 R' w4.heap.size m' [] ∧ Grow P w P' ∧ Grow R w R' ∧ Fr (fun k => P k ∨ R k) w w4 ∧ (∀ k, P' k → ¬ R' k) ∧ (∀ k, v.ownBlock = some k → w.heap.size ≤ k ∧ k < w4.heap.size ∧ ¬ P' k ∧ ¬ R' k) ∧ Heard w4 w' q S L v ls
set_option maxRecDepth 100000 in
set_option maxHeartbeats 1000000 in
theorem step9 (o : OpD) (ho : o.Ok) (hk : o.k = 9) {w : World} {q : Nat} {L : Law} {x : Nat × Nat} (hs : SeeL w q L (pickN o.on L.members.length) x) (hl : 0 < L.members.length) (hl8 : L.members.length ≤ 8) (m : Mem) {S P R : Nat → Prop} (hL : LMem w q S L) (hp : PMem w x.1 P m) (hr : RMem w x.2 R w.heap.size m []) (hn : m.log.length ≤ 1700000000000) (hlu : ∀ n ∈ m.log, n < 18446744073709551616) (hc0 : 0 ≤ L.count) (hc1 : L.count ≤ 9000000000000) (ht : L.texts.length ≤ 5700000000000) (hm : L.tm.length ≤ 5700000000000) :
    Calls Tryz.prog 7 #[.pointer (some ⟨q, 0, none⟩), .agg o.cells] w fun e w' => e = .returned (.bool true) ∧ ∃ W, Below w.heap.size w W ∧ Looked W w' q S L := by
  have HV : Hid (∀ W, Below w.heap.size w W → Calls Tryz.prog 17 #[.pointer (some ⟨q, 0, none⟩), .agg #[.pointer (some ⟨x.1, 0, none⟩), .pointer (some ⟨x.2, 0, none⟩)]] W fun e w' => e = .returned (.bool true) ∧ Looked W w' q S L) := fun W hW => llogs W q x.1 x.2 S P R L m _ (hL.below hW) (hp.below hW) (hr.below hW) hn hlu hc0 hc1 ht hm
  clear hp hr hL hn hlu hc0 hc1 ht hm
  obtain ⟨g, off, cm, q0, p0, p1, hg, hq, hcm⟩ := hs.ex
  have h0 := ho.on0
  have h1 := ho.on1
  clear hs
  obtain ⟨k, on, a, b, s, n, m0, m1, m2, bv, jv, jb, j0, j1, j2, j3, c, nu, cv, cb, c0, c1, c2, c3, sl⟩ := o
  dsimp only [OpD.cells] at *
  subst hk
  clear ho
  have hpl := pickN_lt on L.members.length hl
  have LP : Hid (∀ W, Calls Tryz.prog 10 #[.int .i64 on, .int .i64 L.members.length] W fun e w' => e = .returned (.int .i64 (pickN on L.members.length)) ∧ w' = W) := fun W => lpick on L.members.length h0 h1 hl (by omega) W
  generalize pickN on L.members.length = i at *
  obtain ⟨C, hC⟩ : ∃ C : Array Value, C = #[.int .i64 9, .int .i64 on, .int .i64 a, .int .i64 b, .string s, .int .u64 n, .int .i64 m0, .int .i64 m1, .int .i64 m2, .int .i64 bv, .int .i64 jv, .int .u64 jb, .int .u64 j0, .int .u64 j1, .int .u64 j2, .int .u64 j3, .string c, .int .u64 nu, .int .i64 cv, .int .u64 cb, .int .u64 c0, .int .u64 c1, .int .u64 c2, .int .u64 c3, .int .u64 sl] := ⟨_, rfl⟩
  have i0 : (0 : Int) ≤ (i : Int) := by omega
  have i1 : (i : Int) < (L.members.length : Int) := by omega
  have hX1 : (w.alloc (.cells C 45)).heap[w.heap.size]? = some (.cells C 45 (0, 0)) := heap_alloc_new w _
  have hB1 : Below w.heap.size w (w.alloc (.cells C 45)) := below_alloc w _
  have hZ1 : (w.alloc (.cells C 45)).heap.size = w.heap.size + 1 := by simp
  obtain ⟨W1, hW1⟩ : ∃ W, W = w.alloc (.cells C 45) := ⟨_, rfl⟩
  rw [← hW1] at hX1 hB1 hZ1
  rw [hC] at hW1
  go_enter Tryz.func7, Tryz.ntmps7
  go_upto_region 5 with fail
  rw [← hW1]
  have qa : W1.cell? ⟨q, 0, none⟩ = some (.slice (some ⟨g, off, none⟩) L.members.length cm) := (hB1.cell (p := ⟨q, 0, none⟩) hq).trans q0
  have qb : W1.cell? ⟨g, off + i * 2, none⟩ = some (.pointer (some ⟨x.1, 0, none⟩)) := (hB1.cell (p := ⟨g, _, none⟩) hg).trans p0
  have qc : W1.cell? ⟨g, off + i * 2 + 1, none⟩ = some (.pointer (some ⟨x.2, 0, none⟩)) := (hB1.cell (p := ⟨g, _, none⟩) hg).trans p1
  have qd : W1.cell? ⟨w.heap.size, 1, none⟩ = some (.int .i64 on) := (cell_at hX1 1).trans (by rw [hC]; rfl)
  have hqw : q < W1.heap.size := by omega
  have hgw : g < W1.heap.size := by omega
  have hww : w.heap.size < W1.heap.size := by omega
  have HS : Hid (∀ w', Below W1.heap.size W1 w' → Below W1.heap.size W1 w' ∧ w'.cell? ⟨q, 0, none⟩ = some (.slice (some ⟨g, off, none⟩) L.members.length cm) ∧ w'.cell? ⟨g, off + i * 2, none⟩ = some (.pointer (some ⟨x.1, 0, none⟩)) ∧ w'.cell? ⟨g, off + i * 2 + 1, none⟩ = some (.pointer (some ⟨x.2, 0, none⟩)) ∧ w'.cell? ⟨w.heap.size, 1, none⟩ = some (.int .i64 on)) := fun w' hb => ⟨hb, (hb.cell (p := ⟨q, 0, none⟩) hqw).trans qa, (hb.cell (p := ⟨g, _, none⟩) hgw).trans qb, (hb.cell (p := ⟨g, _, none⟩) hgw).trans qc, (hb.cell (p := ⟨w.heap.size, 1, none⟩) hww).trans qd⟩
  have hB2 : Below W1.heap.size W1 (W1.alloc (.cells #[.pointer (some ⟨x.1, 0, none⟩), .pointer (some ⟨x.2, 0, none⟩)] 50)).drew := (below_alloc W1 _).drew
  have hx2 : (W1.alloc (.cells #[.pointer (some ⟨x.1, 0, none⟩), .pointer (some ⟨x.2, 0, none⟩)] 50)).drew.heap[w.heap.size + 1]? = some (.cells #[.pointer (some ⟨x.1, 0, none⟩), .pointer (some ⟨x.2, 0, none⟩)] 50 (0, 0)) := by rw [← hZ1]; exact heap_alloc_new W1 _
  obtain ⟨W2, hW2⟩ : ∃ W, W = (W1.alloc (.cells #[.pointer (some ⟨x.1, 0, none⟩), .pointer (some ⟨x.2, 0, none⟩)] 50)).drew := ⟨_, rfl⟩
  rw [← hW2] at hB2 hx2
  have HX : Hid (∀ W, Below W2.heap.size W2 W → (W.cell? ⟨w.heap.size + 1, 0, none⟩ = some (.pointer (some ⟨x.1, 0, none⟩)) ∧ W.cell? ⟨w.heap.size + 1, 1, none⟩ = some (.pointer (some ⟨x.2, 0, none⟩)) ∧ W.cell? ⟨w.heap.size, 0, none⟩ = some (.int .i64 9) ∧ W.cell? ⟨w.heap.size, 4, none⟩ = some (.string s))) := fun W hW => by
    have e1 := (hW.block _ (lt_at hx2)).trans hx2
    have e2 := (hW.block w.heap.size (Nat.lt_of_lt_of_le hww hB2.size)).trans ((hB2.block w.heap.size hww).trans hX1)
    exact ⟨cell_at e1 0, cell_at e1 1, (cell_at e2 0).trans (by rw [hC]; rfl), (cell_at e2 4).trans (by rw [hC]; rfl)⟩
  have HB2 : Hid (Below w.heap.size w W2) := bnext hB1 hB2
  have HX2 : Hid (W2.heap[w.heap.size + 1]? = some (.cells #[.pointer (some ⟨x.1, 0, none⟩), .pointer (some ⟨x.2, 0, none⟩)] 50 (0, 0))) := hx2
  have HW1 : Hid (w.heap.size < W1.heap.size ∧ W1.heap[w.heap.size]? = some (.cells C 45 (0, 0)) ∧ Below W1.heap.size W1 W2) := ⟨hww, hX1, hB2⟩
  have HC : Hid (C = #[.int .i64 9, .int .i64 on, .int .i64 a, .int .i64 b, .string s, .int .u64 n, .int .i64 m0, .int .i64 m1, .int .i64 m2, .int .i64 bv, .int .i64 jv, .int .u64 jb, .int .u64 j0, .int .u64 j1, .int .u64 j2, .int .u64 j3, .string c, .int .u64 nu, .int .i64 cv, .int .u64 cb, .int .u64 c0, .int .u64 c1, .int .u64 c2, .int .u64 c3, .int .u64 sl]) := hC
  clear q0 p0 p1 hX1 hB1 hW1 hx2 hB2 hC qa qb qc qd
  go_region_held3 (fun w' => Below W1.heap.size W1 w' ∧ w'.cell? ⟨q, 0, none⟩ = some (.slice (some ⟨g, off, none⟩) L.members.length cm) ∧ w'.cell? ⟨g, off + i * 2, none⟩ = some (.pointer (some ⟨x.1, 0, none⟩)) ∧ w'.cell? ⟨g, off + i * 2 + 1, none⟩ = some (.pointer (some ⟨x.2, 0, none⟩)) ∧ w'.cell? ⟨w.heap.size, 1, none⟩ = some (.int .i64 on))
    (first | (exact HS.out _ (Below.refl _ _).drew) | (exact HS.out _ (bnext (And.left ‹Below W1.heap.size W1 _ ∧ _›) (below_alloc _ _))) | (exact HS.out _ (bnext (Below.refl _ _).drew (below_alloc _ _))))
    ((go_at_call 10; refine (LP.out _).mono ?_; rintro e w3 ⟨rfl, rfl⟩))
  all_goals (
    rw [← hW2]
    clear ‹_ ∧ _›
    clear hW2 HS LP
    have xs := HX.out W2 (Below.refl _ _)
    obtain ⟨x0, x1, k0, x4⟩ := xs
    go_wp2_with (go_at_call 17; refine (HV.out _ HB2.out).mono ?_; rintro e w3 ⟨rfl, hlk⟩)
    go_ret
    exact ⟨rfl, W2, HB2.out, hlk⟩)
set_option maxRecDepth 100000 in
set_option maxHeartbeats 1000000 in
theorem step10 (o : OpD) (ho : o.Ok) (hk : o.k = 10) {w : World} {q : Nat} {L : Law} {x : Nat × Nat} (hs : SeeL w q L (pickN o.on L.members.length) x) (hl : 0 < L.members.length) (hl8 : L.members.length ≤ 8) (m : Mem) {S P R : Nat → Prop} (hL : LMem w q S L) (hp : PMem w x.1 P m) (hr : RMem w x.2 R w.heap.size m []) (hPR : ∀ k, P k → ¬ R k) (hSP : ∀ k, S k → ¬ P k ∧ ¬ R k) (h00 : ¬ R 0)
    (hi : Inv m) (hE : Once m) (w1 : m.waited ≤ 100000000000000) (hle : m.enters.length + m.proposed.length ≤ 1700000000000) (hbl : m.blocks.length ≤ 1700000000000)
    (hlb : ∀ l ∈ m.tick.2, l.msg.kind = 1 → l.msg.block.Ok) (hll : m.tick.2.length ≤ 2) (hok : L.Ok) (hle2 : L.letters.length ≤ 2000) (hbl2 : L.blocks.length ≤ 1800000000000) (hc0 : 0 ≤ L.count) (hc1 : L.count ≤ 10000000000000) (ht : L.outs.length ≤ 5800000000000) (hm : L.om.length ≤ 5800000000000) :
    Calls Tryz.prog 7 #[.pointer (some ⟨q, 0, none⟩), .agg o.cells] w fun e w' => e = .returned (.bool true) ∧ Went w w' x q P R S L m.tick.1 m.tick.2 := by
  have HL : Hid (LMem w q S L) := hL
  have HR : Hid (RMem w x.2 R w.heap.size m []) := hr
  have HPT : Hid (∀ W, Below w.heap.size w W → Calls Tryz.prog 18 #[.pointer (some ⟨x.1, 0, none⟩)] W fun e w' => ∃ v, e = .returned v ∧ PGave W w' x.1 P m.tick.1 v m.tick.2) := fun W hW => ptick W x.1 P m (hp.below hW) hi hE w1 hle hbl
  have HRT : Hid (∀ W, RMem W x.2 R W.heap.size m [] → Calls Tryz.prog 19 #[.pointer (some ⟨x.2, 0, none⟩)] W fun e w' => ∃ v, e = .returned v ∧ Gave W w' x.2 R W.heap.size m.tick.1 v m.tick.2) := fun W hW => rtick W x.2 R m hW hi.i0 hi.i1 (by have := hi.v0; omega) hi.v1 hi.w0 w1 hbl (by omega) hi.hi.ok hi.qc
  have HLL : Hid (∀ W v1 v2 R1 R2, LMem W q S L → Row W R1 67 20 v1 m.tick.2.length (m.tick.2.flatMap Ltr.cells) → Row W R2 67 20 v2 m.tick.2.length (m.tick.2.flatMap Ltr.cells) → (∀ k, R1 k → ¬ S k) → (∀ k, R2 k → ¬ S k ∧ ¬ R1 k) → Calls Tryz.prog 20 #[.pointer (some ⟨q, 0, none⟩), v1, v2] W fun e w' => e = .returned (.bool true) ∧ Heard W w' q S L v1 m.tick.2) := fun W v1 v2 R1 R2 a1 a2 a3 a4 a5 => lletters W q S R1 R2 L a1 v1 v2 m.tick.2 a2 a3 a4 a5 (by omega) hlb hok hle2 hbl2 hc0 hc1 ht hm
  have HPR : Hid ((∀ k, P k → ¬ R k) ∧ (∀ k, P k → k < w.heap.size) ∧ (∀ k, R k → k < w.heap.size) ∧ ¬ R 0 ∧ (∀ k, S k → ¬ P k ∧ ¬ R k) ∧ (∀ k, S k → k < w.heap.size)) := ⟨hPR, hp.lt, hr.own, h00, hSP, hL.own⟩
  clear hp hr hPR h00 hL hSP hi hE w1 hle hbl hlb hok hle2 hbl2 hc0 hc1 ht hm
  obtain ⟨g, off, cm, q0, p0, p1, hg, hq, hcm⟩ := hs.ex
  have h0 := ho.on0
  have h1 := ho.on1
  clear hs
  obtain ⟨k, on, a, b, s, n, m0, m1, m2, bv, jv, jb, j0, j1, j2, j3, c, nu, cv, cb, c0, c1, c2, c3, sl⟩ := o
  dsimp only [OpD.cells] at *
  subst hk
  clear ho
  have hpl := pickN_lt on L.members.length hl
  have LP : Hid (∀ W, Calls Tryz.prog 10 #[.int .i64 on, .int .i64 L.members.length] W fun e w' => e = .returned (.int .i64 (pickN on L.members.length)) ∧ w' = W) := fun W => lpick on L.members.length h0 h1 hl (by omega) W
  generalize pickN on L.members.length = i at *
  obtain ⟨C, hC⟩ : ∃ C : Array Value, C = #[.int .i64 10, .int .i64 on, .int .i64 a, .int .i64 b, .string s, .int .u64 n, .int .i64 m0, .int .i64 m1, .int .i64 m2, .int .i64 bv, .int .i64 jv, .int .u64 jb, .int .u64 j0, .int .u64 j1, .int .u64 j2, .int .u64 j3, .string c, .int .u64 nu, .int .i64 cv, .int .u64 cb, .int .u64 c0, .int .u64 c1, .int .u64 c2, .int .u64 c3, .int .u64 sl] := ⟨_, rfl⟩
  have i0 : (0 : Int) ≤ (i : Int) := by omega
  have i1 : (i : Int) < (L.members.length : Int) := by omega
  have hX1 : (w.alloc (.cells C 45)).heap[w.heap.size]? = some (.cells C 45 (0, 0)) := heap_alloc_new w _
  have hB1 : Below w.heap.size w (w.alloc (.cells C 45)) := below_alloc w _
  have hZ1 : (w.alloc (.cells C 45)).heap.size = w.heap.size + 1 := by simp
  obtain ⟨W1, hW1⟩ : ∃ W, W = w.alloc (.cells C 45) := ⟨_, rfl⟩
  rw [← hW1] at hX1 hB1 hZ1
  rw [hC] at hW1
  go_enter Tryz.func7, Tryz.ntmps7
  go_upto_region 5 with fail
  rw [← hW1]
  have qa : W1.cell? ⟨q, 0, none⟩ = some (.slice (some ⟨g, off, none⟩) L.members.length cm) := (hB1.cell (p := ⟨q, 0, none⟩) hq).trans q0
  have qb : W1.cell? ⟨g, off + i * 2, none⟩ = some (.pointer (some ⟨x.1, 0, none⟩)) := (hB1.cell (p := ⟨g, _, none⟩) hg).trans p0
  have qc : W1.cell? ⟨g, off + i * 2 + 1, none⟩ = some (.pointer (some ⟨x.2, 0, none⟩)) := (hB1.cell (p := ⟨g, _, none⟩) hg).trans p1
  have qd : W1.cell? ⟨w.heap.size, 1, none⟩ = some (.int .i64 on) := (cell_at hX1 1).trans (by rw [hC]; rfl)
  have hqw : q < W1.heap.size := by omega
  have hgw : g < W1.heap.size := by omega
  have hww : w.heap.size < W1.heap.size := by omega
  have HS : Hid (∀ w', Below W1.heap.size W1 w' → Below W1.heap.size W1 w' ∧ w'.cell? ⟨q, 0, none⟩ = some (.slice (some ⟨g, off, none⟩) L.members.length cm) ∧ w'.cell? ⟨g, off + i * 2, none⟩ = some (.pointer (some ⟨x.1, 0, none⟩)) ∧ w'.cell? ⟨g, off + i * 2 + 1, none⟩ = some (.pointer (some ⟨x.2, 0, none⟩)) ∧ w'.cell? ⟨w.heap.size, 1, none⟩ = some (.int .i64 on)) := fun w' hb => ⟨hb, (hb.cell (p := ⟨q, 0, none⟩) hqw).trans qa, (hb.cell (p := ⟨g, _, none⟩) hgw).trans qb, (hb.cell (p := ⟨g, _, none⟩) hgw).trans qc, (hb.cell (p := ⟨w.heap.size, 1, none⟩) hww).trans qd⟩
  have hB2 : Below W1.heap.size W1 (W1.alloc (.cells #[.pointer (some ⟨x.1, 0, none⟩), .pointer (some ⟨x.2, 0, none⟩)] 50)).drew := (below_alloc W1 _).drew
  have hx2 : (W1.alloc (.cells #[.pointer (some ⟨x.1, 0, none⟩), .pointer (some ⟨x.2, 0, none⟩)] 50)).drew.heap[w.heap.size + 1]? = some (.cells #[.pointer (some ⟨x.1, 0, none⟩), .pointer (some ⟨x.2, 0, none⟩)] 50 (0, 0)) := by rw [← hZ1]; exact heap_alloc_new W1 _
  obtain ⟨W2, hW2⟩ : ∃ W, W = (W1.alloc (.cells #[.pointer (some ⟨x.1, 0, none⟩), .pointer (some ⟨x.2, 0, none⟩)] 50)).drew := ⟨_, rfl⟩
  rw [← hW2] at hB2 hx2
  have HX : Hid (∀ W, Below W2.heap.size W2 W → (W.cell? ⟨w.heap.size + 1, 0, none⟩ = some (.pointer (some ⟨x.1, 0, none⟩)) ∧ W.cell? ⟨w.heap.size + 1, 1, none⟩ = some (.pointer (some ⟨x.2, 0, none⟩)) ∧ W.cell? ⟨w.heap.size, 0, none⟩ = some (.int .i64 10) ∧ W.cell? ⟨w.heap.size, 4, none⟩ = some (.string s))) := fun W hW => by
    have e1 := (hW.block _ (lt_at hx2)).trans hx2
    have e2 := (hW.block w.heap.size (Nat.lt_of_lt_of_le hww hB2.size)).trans ((hB2.block w.heap.size hww).trans hX1)
    exact ⟨cell_at e1 0, cell_at e1 1, (cell_at e2 0).trans (by rw [hC]; rfl), (cell_at e2 4).trans (by rw [hC]; rfl)⟩
  have HB2 : Hid (Below w.heap.size w W2) := bnext hB1 hB2
  have HX2 : Hid (W2.heap[w.heap.size + 1]? = some (.cells #[.pointer (some ⟨x.1, 0, none⟩), .pointer (some ⟨x.2, 0, none⟩)] 50 (0, 0))) := hx2
  have HW1 : Hid (w.heap.size < W1.heap.size ∧ W1.heap[w.heap.size]? = some (.cells C 45 (0, 0)) ∧ Below W1.heap.size W1 W2) := ⟨hww, hX1, hB2⟩
  have HC : Hid (C = #[.int .i64 10, .int .i64 on, .int .i64 a, .int .i64 b, .string s, .int .u64 n, .int .i64 m0, .int .i64 m1, .int .i64 m2, .int .i64 bv, .int .i64 jv, .int .u64 jb, .int .u64 j0, .int .u64 j1, .int .u64 j2, .int .u64 j3, .string c, .int .u64 nu, .int .i64 cv, .int .u64 cb, .int .u64 c0, .int .u64 c1, .int .u64 c2, .int .u64 c3, .int .u64 sl]) := hC
  clear q0 p0 p1 hX1 hB1 hW1 hx2 hB2 hC qa qb qc qd
  go_region_held3 (fun w' => Below W1.heap.size W1 w' ∧ w'.cell? ⟨q, 0, none⟩ = some (.slice (some ⟨g, off, none⟩) L.members.length cm) ∧ w'.cell? ⟨g, off + i * 2, none⟩ = some (.pointer (some ⟨x.1, 0, none⟩)) ∧ w'.cell? ⟨g, off + i * 2 + 1, none⟩ = some (.pointer (some ⟨x.2, 0, none⟩)) ∧ w'.cell? ⟨w.heap.size, 1, none⟩ = some (.int .i64 on))
    (first | (exact HS.out _ (Below.refl _ _).drew) | (exact HS.out _ (bnext (And.left ‹Below W1.heap.size W1 _ ∧ _›) (below_alloc _ _))) | (exact HS.out _ (bnext (Below.refl _ _).drew (below_alloc _ _))))
    ((go_at_call 10; refine (LP.out _).mono ?_; rintro e w3 ⟨rfl, rfl⟩))
  all_goals (
    rw [← hW2]
    clear ‹_ ∧ _›
    clear hW2 HS LP
    have xs := HX.out W2 (Below.refl _ _)
    obtain ⟨x0, x1, k0, x4⟩ := xs
    go_wp2_with (first
      | (go_at_call 18; refine (HPT.out _ HB2.out).mono ?_; rintro e w3 ⟨v, rfl, hm3, ⟨a1, c1, rfl, hrow3⟩, hf3⟩; have hz := HPR.out.2.1; have x1' : w3.cell? ⟨w.heap.size + 1, 1, none⟩ = some (.pointer (some ⟨x.2, 0, none⟩)) := (cell_at ((hf3.block (w.heap.size + 1) (lt_at HX2.out) (fun h => by have := hz _ h; omega)).trans HX2.out) 1); have HR3 : Hid (RMem w3 x.2 R w3.heap.size m []) := ((((HR.out.rest _).below HB2.out).fr hf3 (fun k hk hp => HPR.out.1 k hp hk))); have H3 : Hid (PMem w3 x.1 P m.tick.1 ∧ Row w3 (fun k => W2.heap.size ≤ k) 67 20 (.slice a1 m.tick.2.length c1) m.tick.2.length (m.tick.2.flatMap Ltr.cells) ∧ Fr P W2 w3) := ⟨hm3, hrow3, hf3⟩; clear hm3 hrow3 hf3 hz)
      | (go_at_call 19; refine (HRT.out _ HR3.out).mono ?_; rintro e w4 ⟨v2, rfl, S2, hm4, hg4, hf4, hrow4⟩; obtain ⟨a2, c2, rfl⟩ := hrow4.isSlice; have H4 : Hid (RMem w4 x.2 S2 w4.heap.size m.tick.1 [] ∧ Grow R w3 S2 ∧ Fr R w3 w4 ∧ Row w4 (fun k => w3.heap.size ≤ k ∧ ¬ S2 k) 67 20 (.slice a2 m.tick.2.length c2) m.tick.2.length (m.tick.2.flatMap Ltr.cells)) := ⟨hm4, hg4, hf4, hrow4⟩; clear hm4 hg4 hf4 hrow4)
      | (go_at_call 20; refine (HLL.out w4 (.slice a1 m.tick.2.length c1) (.slice a2 m.tick.2.length c2) (fun k => W2.heap.size ≤ k ∧ k < w3.heap.size) (fun k => w3.heap.size ≤ k ∧ ¬ S2 k) (((HL.out.below HB2.out).fr H3.out.2.2 (fun k hk => (HPR.out.2.2.2.2.1 k hk).1)).fr H4.out.2.2.1 (fun k hk => (HPR.out.2.2.2.2.1 k hk).2)) ((H3.out.2.1.reown (fun k hk => H3.out.2.1.ownS hk)).same (fun k hk hl => ⟨H4.out.2.2.1.block k hl (fun h => by have h1 := HPR.out.2.2.1 k h; have h2 := HB2.out.size; omega), hk⟩)) H4.out.2.2.2 (fun k hk hS => by have h1 := HPR.out.2.2.2.2.2 k hS; have h2 := HB2.out.size; omega) (fun k hk => ⟨fun hS => by have h1 := HPR.out.2.2.2.2.2 k hS; have h2 := HB2.out.size; have h3 := H3.out.2.2.size; omega, fun h => by omega⟩)).mono ?_; rintro e w5 ⟨rfl, hhd⟩))
    go_ret
    obtain ⟨hPR, hP, hR, h00, hSP, hS⟩ := HPR.out
    obtain ⟨p3, r3, f3⟩ := H3.out
    obtain ⟨m4, g4, f4, r4⟩ := H4.out
    have s2 := HB2.out.size
    have s3 := f3.size
    have s4 := f4.size
    refine ⟨rfl, w4, (.slice a1 m.tick.2.length c1), P, S2, p3.fr f4 hPR h00, m4, Grow.refl _ _, fun k hk => (g4 k hk).imp id (fun h => by omega), ((Fr.of_below HB2.out).trans (f3.mono (fun _ h => .inl h)) (fun _ h => .inl h)).trans (f4.mono (fun _ h => .inr h)) (fun _ h => .inl h), fun k h1 h2 => (g4 k h2).elim (hPR k h1) (fun h => by have := hP k h1; omega), fun k hk => ?_, hhd⟩
    have hb := r3.ownS hk
    have h1 := hb.1
    have h2 := hb.2
    exact ⟨by omega, by omega, fun h => by have := hP k h; omega, fun h => (g4 k h).elim (fun h => by have := hR k h; omega) (fun h => by omega)⟩)
end Go.Proofs.YtkehpnobidendaaGreatDoor

namespace Go.Proofs.YtkehpnobidendaaGreatDoor
open Go.RowKit

theorem tick_ok1 {m : Mem} (h : Inv m) : ∀ l ∈ m.tick.2, l.msg.kind = 1 → l.msg.block.Ok := fun l hl _ => (tick_lok h l hl).1.b
theorem tick_two {m : Mem} : m.tick.2.length ≤ 2 := by
  have h1 := ends_one m.wait.1
  have h2 := (wait_lists m).2.2.2
  show (m.wait.2 ++ m.wait.1.ends.2).length ≤ 2
  rw [List.length_append]; omega
theorem hears_props (L : Law) (l : Ltr) : (L.hears l).blocks.length ≤ L.blocks.length + props [l] := by
  have h1 : ((L.met1 l).keepL l).blocks = (L.met1 l).blocks := by unfold Law.keepL; split <;> rfl
  show ((L.met1 l).keepL l).blocks.length ≤ _
  rw [h1]
  unfold Law.met1
  split
  · rename_i hk
    have := (meets_len L l.msg.block).1
    have e : props [l] = 1 := by unfold props; simp [hk]
    rw [e]; exact this
  · exact Nat.le_add_right _ _
theorem fold_props : ∀ (ls : List Ltr) (L : Law), (ls.foldl Law.hears L).blocks.length ≤ L.blocks.length + props ls
  | [], L => Nat.le_refl _
  | l :: r, L => by
    have h1 := hears_props L l
    have h2 := fold_props r (L.hears l)
    have e : props (l :: r) = props [l] + props r := props_append [l] r
    rw [e]
    show (r.foldl Law.hears (L.hears l)).blocks.length ≤ _
    omega
theorem fold_lok : ∀ (ls : List Ltr) (L : Law), (∀ l ∈ ls, LOk l) → (∀ l ∈ L.letters, LOk l) → ∀ l ∈ (ls.foldl Law.hears L).letters, LOk l
  | [], _, _, h => h
  | a :: r, L, hl, h => fold_lok r (L.hears a) (fun l hr => hl l (by simp [hr])) (fun l hm => by
      have e : (L.met1 a).letters = L.letters := (met1_len L a).2
      have hm' : l ∈ ((L.met1 a).keepL a).letters := hm
      unfold Law.keepL at hm'
      split at hm'
      · rcases List.mem_append.1 hm' with h1 | h1
        · rw [e] at h1; exact h l h1
        · rw [List.mem_singleton.1 h1]; exact hl a (by simp)
      · rw [e] at hm'; exact h l hm')
/-- What hearing leaves of the law's record. -/
structure LKeep (L L' : Law) : Prop where
  me : L'.members = L.members
  te : L'.texts = L.texts
  tm : L'.tm = L.tm
  ou : L'.outs = L.outs
  om : L'.om = L.om
  co : L'.count = L.count
theorem hears_keep (L : Law) (l : Ltr) : LKeep L (L.hears l) := by
  have h1 : ∀ M : Law, LKeep M (M.keepL l) := fun M => by
    unfold Law.keepL; split <;> exact ⟨rfl, rfl, rfl, rfl, rfl, rfl⟩
  have h2 : LKeep L (L.met1 l) := by
    unfold Law.met1 Law.meets; split
    · split <;> exact ⟨rfl, rfl, rfl, rfl, rfl, rfl⟩
    · exact ⟨rfl, rfl, rfl, rfl, rfl, rfl⟩
  have h3 := h1 (L.met1 l)
  exact ⟨h3.me.trans h2.me, h3.te.trans h2.te, h3.tm.trans h2.tm, h3.ou.trans h2.ou, h3.om.trans h2.om, h3.co.trans h2.co⟩
theorem fold_keep (ls : List Ltr) : ∀ L : Law, LKeep L (ls.foldl Law.hears L) := by
  induction ls with
  | nil => exact fun L => ⟨rfl, rfl, rfl, rfl, rfl, rfl⟩
  | cons a r ih =>
    intro L
    have h1 := hears_keep L a
    have h2 := ih (L.hears a)
    exact ⟨h2.me.trans h1.me, h2.te.trans h1.te, h2.tm.trans h1.tm, h2.ou.trans h1.ou, h2.om.trans h1.om, h2.co.trans h1.co⟩
theorem log_lt {m : Mem} (h : Inv m) (hk : ∀ x ∈ m.blocks, x.1 < 18446744073709551616) : ∀ n ∈ m.log, n < 18446744073709551616 := fun n hn => by
  obtain ⟨x, hx, rfl⟩ := List.mem_map.1 (mem_num (h.lg n hn).2)
  exact hk x hx
theorem SitA.mono {w0 w : World} {q : Nat} {L : Law} {ms : List Mem} {n n' : Nat} {A : Nat → Nat → Prop} (h : SitA w0 w q L ms n A) (hn : n ≤ n') : SitA w0 w q L ms n' A :=
  ⟨h.own, h.bnd, h.law, h.kept, h.len, fun i x m hx hm => (h.mem i x m hx hm).mono hn, h.below, h.tab, h.lim.mono hn⟩
end Go.Proofs.YtkehpnobidendaaGreatDoor

namespace Go.Proofs.YtkehpnobidendaaGreatDoor
open Go.RowKit

set_option maxRecDepth 100000 in
set_option maxHeartbeats 1000000 in
theorem stepE (o : OpD) (h4 : ¬ (1 ≤ o.k ∧ o.k ≤ 4)) (q : Nat) (w : World) (a : Option Addr) (cm : Nat) (hm : w.cell? ⟨q, 0, none⟩ = some (.slice a 0 cm)) (hq : q < w.heap.size) :
    Calls Tryz.prog 7 #[.pointer (some ⟨q, 0, none⟩), .agg o.cells] w fun e w' => e = .returned (.bool true) ∧ Below w.heap.size w w' := by
  obtain ⟨k, on, a, b, s, n, m0, m1, m2, bv, jv, jb, j0, j1, j2, j3, c, nu, cv, cb, c0, c1, c2, c3, sl⟩ := o
  dsimp only [OpD.cells] at *
  by_cases h1 : 1 ≤ k
  · have h5 : ¬ k ≤ 4 := fun h => h4 ⟨h1, h⟩
    clear h4
    go_enter Tryz.func7, Tryz.ntmps7
    go_wp2
    go_ret
    exact ⟨rfl, below_alloc _ _⟩
  · clear h4
    go_enter Tryz.func7, Tryz.ntmps7
    go_wp2
    go_ret
    exact ⟨rfl, below_alloc _ _⟩
set_option maxRecDepth 100000 in
set_option maxHeartbeats 1000000 in
theorem stepP (o : OpD) (h1 : 1 ≤ o.k) (h4 : o.k ≤ 4) (q : Nat) (w : World) (R : World → Prop) (hp : Calls Tryz.prog 9 #[.pointer (some ⟨q, 0, none⟩), .agg o.cells] (w.alloc (.cells o.cells 45)) fun e w' => e = .returned (.bool true) ∧ R w') :
    Calls Tryz.prog 7 #[.pointer (some ⟨q, 0, none⟩), .agg o.cells] w fun e w' => e = .returned (.bool true) ∧ R w' := by
  obtain ⟨k, on, a, b, s, n, m0, m1, m2, bv, jv, jb, j0, j1, j2, j3, c, nu, cv, cb, c0, c1, c2, c3, sl⟩ := o
  dsimp only [OpD.cells] at *
  go_enter Tryz.func7, Tryz.ntmps7
  go_wp2_with (first
    | (go_at_call 9; refine hp.mono ?_; rintro e w1 ⟨rfl, hb⟩)
    | (refine wpList_load_row rfl 45 _ rfl w.heap.size rfl 45 _ (0, 0) _ (heap_alloc_new _ _) Tryz.underlying45 rfl (by kernel_rfl) ?_))
  go_ret
  exact ⟨rfl, hb⟩
/-- It goes on. -/
def Goes (w0 w' : World) (q : Nat) (n : Nat) : Prop := ∃ L ms A, SitA w0 w' q L ms n A
theorem SitA.log {w0 w w' : World} {q : Nat} {L : Law} {ms : List Mem} {n : Nat} {A : Nat → Nat → Prop} (h : SitA w0 w q L ms n A) (hl : Looked w w' q (A 0) L) : Goes w0 w' q (n + 1) := by
  obtain ⟨S', T, rs, xs, hm, hr, hg, hf, hlaid, hT⟩ := hl
  have hk := h.kept
  have hx : xs.length = 8 := by rw [← hlaid.len]; exact hr
  have hap : ∀ k, A 1 k → ¬ A 0 k := fun k h1 h0 => by have := h.own _ _ _ h1 h0; omega
  have hk1 : Kept w' (fun k => A 1 k ∨ T k) L := hk.same (fun k h1 hl => ⟨hf.block k hl (hap k h1), .inl h1⟩)
  have hl1 : Laid w' (fun k => A 1 k ∨ T k) rs xs := hlaid.same (fun k h1 _ => ⟨rfl, .inr h1⟩)
  have ht : Laid w' (fun k => A 1 k ∨ T k) (L.texts ++ rs) (L.tm ++ xs) := Laid.both ⟨hk1.lt, hk1.t⟩ hl1
  obtain ⟨A', hA⟩ := h.laws (V := fun _ => False) (T := T) (L' := L.addLog rs xs) (n' := n + 1) (fun _ h => h.elim) (fun _ h => h.elim) (hf.mono (fun _ h => .inl h)) hm hg (fun k hk => ⟨.inr (hT k hk).1, (hT k hk).2⟩) ⟨ht.len, hk1.lo, ht.row, hk1.o⟩ rfl ⟨h.lim.me, h.lim.le, (by have := h.lim.bl; show L.blocks.length ≤ _; omega), h.lim.ok, h.lim.lt, (by have := h.lim.c0; show 0 ≤ L.count + 2; omega), (by have := h.lim.c1; show L.count + 2 ≤ _; omega), (by have := h.lim.tx; show (L.texts ++ rs).length ≤ _; rw [List.length_append]; omega), (by have := h.lim.tm; show (L.tm ++ xs).length ≤ _; rw [List.length_append]; omega), (by have := h.lim.ou; show L.outs.length ≤ _; omega), (by have := h.lim.om; show L.om.length ≤ _; omega)⟩ (by omega)
  exact ⟨_, _, A', hA⟩
theorem SitA.two {w0 w w' : World} {q : Nat} {L : Law} {ms : List Mem} {n : Nat} {A : Nat → Nat → Prop} (h : SitA w0 w q L ms n A) {i : Nat} {x : Nat × Nat} {m' : Mem} (hx : L.members[i]? = some x) (ht : Two w w' x (A (2 * i + 2)) (A (2 * i + 3)) m') (hl : MLim m' (n + 1)) : Goes w0 w' q (n + 1) := by
  obtain ⟨P', R', h1, h2, h3, h4, h5, h6⟩ := ht.ex
  exact ⟨_, _, _, h.member hx h5 h1 h2 h3 h4 h1.lt h2.own h6 (by omega) hl⟩
theorem SitA.went {w0 w w' : World} {q : Nat} {L : Law} {ms : List Mem} {n : Nat} {A : Nat → Nat → Prop} (h : SitA w0 w q L ms n A) {i : Nat} {x : Nat × Nat} {m' : Mem} {ls : List Ltr} (hx : L.members[i]? = some x) (ht : Went w w' x q (A (2 * i + 2)) (A (2 * i + 3)) (A 0) L m' ls) {n' : Nat} (hn : n ≤ n') (ml : MLim m' n') (hlo : ∀ l ∈ ls, LOk l) (hco : L.count + 1 ≤ 2 * n') (hou : L.outs.length + 4 ≤ 4 * n') (_hmo : L.om.length + 4 ≤ 4 * n') (hpb : L.blocks.length + props ls ≤ 2 * n') : Goes w0 w' q n' := by
  obtain ⟨w4, v, P', R', h1, h2, h3, h4, h5, h6, h7, S', T, rs, hl, hrs, hg, hf, hrow, hT⟩ := ht
  have hA : SitA w0 w4 q L (ms.set i m') n' (upd2 A (2 * i + 2) P' (2 * i + 3) R') := h.member hx h5 h1 h2 h3 h4 h1.lt h2.own h6 hn ml
  have e0 : upd2 A (2 * i + 2) P' (2 * i + 3) R' 0 = A 0 := upd2_not (by omega) (by omega)
  have e1 : upd2 A (2 * i + 2) P' (2 * i + 3) R' 1 = A 1 := upd2_not (by omega) (by omega)
  obtain ⟨B, hB⟩ : ∃ B, B = upd2 A (2 * i + 2) P' (2 * i + 3) R' := ⟨_, rfl⟩
  have hVB : ∀ k, v.ownBlock = some k → ∀ b, ¬ B b k := fun k hk b hb => by
    have hz := h7 k hk
    rw [hB] at hb
    unfold upd2 at hb
    split at hb
    · exact hz.2.2.1 hb
    · split at hb
      · exact hz.2.2.2 hb
      · have := (h.bnd _ _ hb).2; omega
  rw [← hB] at hA e0 e1
  have hk := hA.kept
  have hap : ∀ k, B 1 k → ¬ (A 0 k ∨ v.ownBlock = some k) := fun k a1 a0 => by
    rcases a0 with a0 | a0
    · rw [← e0] at a0; have := hA.own _ _ _ a1 a0; omega
    · exact hVB k a0 1 a1
  have hk1 : Kept w' (fun k => B 1 k ∨ T k) L := hk.same (fun k a1 hl => ⟨hf.block k hl (hap k a1), .inl a1⟩)
  have kp := fold_keep ls (Law.addO { L with count := L.count + 1 } rs (-(L.count + 1)))
  have fh := fold_hears ls (fun l hl _ => (hlo l hl).1.b) (Law.addO { L with count := L.count + 1 } rs (-(L.count + 1))) h.lim.ok h.lim.le
  have fp := fold_props ls (Law.addO { L with count := L.count + 1 } rs (-(L.count + 1)))
  have fl := fold_lok ls (Law.addO { L with count := L.count + 1 } rs (-(L.count + 1))) hlo h.lim.lt
  obtain ⟨L', hL'⟩ : ∃ L', L' = ls.foldl Law.hears (Law.addO { L with count := L.count + 1 } rs (-(L.count + 1))) := ⟨_, rfl⟩
  rw [← hL'] at kp fh hl fp fl
  have ho : L'.outs = L.outs ++ rs := kp.ou
  have hom : L'.om = L.om ++ List.replicate rs.length (-(L.count + 1)) := kp.om
  have htx : L'.texts = L.texts := kp.te
  have htm : L'.tm = L.tm := kp.tm
  have hlo := hk1.lo
  have kk : Kept w' (fun k => B 1 k ∨ T k) L' := by
    refine ⟨by rw [htx, htm]; exact hk1.lt, by rw [ho, hom]; simp [hlo], fun j a1 a2 => ?_, fun j a1 a2 => ?_⟩
    · have b1 : j < L.texts.length := by rw [← htx]; exact a1
      have b2 : j < L.tm.length := by rw [← htm]; exact a2
      obtain ⟨c, hr⟩ := hk1.t j b1 b2
      refine ⟨c, ?_⟩
      simp only [htx, htm]
      exact hr
    · by_cases hj : j < L.outs.length
      · obtain ⟨c, hr⟩ := hk1.o j hj (by omega)
        refine ⟨c, ?_⟩
        simp only [ho, hom]
        rw [List.getElem_append_left hj, List.getElem_append_left (by omega)]
        exact hr
      · have hj2 : j - L.outs.length < rs.length := by rw [ho] at a1; simp at a1; omega
        obtain ⟨c, hr⟩ := hrow rs[j - L.outs.length] (List.getElem_mem _)
        refine ⟨c, ?_⟩
        simp only [ho, hom]
        rw [List.getElem_append_right (by omega), List.getElem_append_right (by omega), List.getElem_replicate]
        exact hr.same (fun k hk _ => ⟨rfl, .inr hk⟩)
  have hbl : L'.blocks.length ≤ L.blocks.length + props ls := fp
  have hs4 := h5.size
  obtain ⟨A', hA'⟩ := hA.laws (V := fun k => v.ownBlock = some k) (T := T) (L' := L') (S := S') (n' := n') hVB (fun k hk => Nat.le_trans h.below.size (h7 k hk).1) (by rw [e0]; exact hf) hl (by rw [e0]; exact hg) hT kk kp.me ⟨by rw [kp.me]; exact h.lim.me, fh.2.2, by omega, fh.1, fl, by rw [kp.co]; have := h.lim.c0; show 0 ≤ L.count + 1; omega, by rw [kp.co]; show L.count + 1 ≤ _; omega, by rw [htx]; have := h.lim.tx; omega, by rw [htm]; have := h.lim.tm; omega, by rw [ho, List.length_append]; omega, by rw [hom, List.length_append, List.length_replicate]; omega⟩ (Nat.le_refl _)
  exact ⟨_, _, A', hA'⟩
theorem Goes.of_below {w0 w w' : World} {q : Nat} {L : Law} {ms : List Mem} {n : Nat} {A : Nat → Nat → Prop} (h : SitA w0 w q L ms n A) (hb : Below w.heap.size w w') : Goes w0 w' q (n + 1) := ⟨_, _, _, (h.quiet hb).mono (by omega)⟩
theorem lstep (o : OpD) (ho : o.Ok) (hk : o.k ≤ 10) {w0 w : World} {q : Nat} {n : Nat} (hg : Goes w0 w q n) (hn : n ≤ 660000000000) :
    Calls Tryz.prog 7 #[.pointer (some ⟨q, 0, none⟩), .agg o.cells] w fun e w' => e = .returned (.bool true) ∧ Goes w0 w' q (n + 1) := by
  obtain ⟨L, ms, A, h⟩ := hg
  have htab : Tab w := h.tab.below h.below
  by_cases h4 : 1 ≤ o.k ∧ o.k ≤ 4
  · refine stepP o h4.1 h4.2 q w _ ?_
    have hb := below_alloc w (.cells o.cells 45)
    have h1 := h.quiet hb
    by_cases h3 : o.k ≤ 3
    · refine (plain o ho h4.1 h3 _ _ (htab.below hb).is).mono ?_
      rintro e w' ⟨rfl, hb'⟩
      exact ⟨rfl, Goes.of_below h1 hb'⟩
    · have hk4 : o.k = 4 := by omega
      cases hok : newOk o.a o.b with
      | false =>
        refine (plain4_no o hk4 _ q hok).mono ?_
        rintro e w' ⟨rfl, hb'⟩
        exact ⟨rfl, Goes.of_below h1 hb'⟩
      | true =>
        refine (plain4_ok o hk4 hok h1).mono ?_
        rintro e w' ⟨rfl, L', ms', A', h', _⟩
        exact ⟨rfl, L', ms', A', h'.mono (by omega)⟩
  · by_cases hl : 0 < L.members.length
    · have hpl := pickN_lt o.on L.members.length hl
      obtain ⟨i, hi⟩ : ∃ i, i = pickN o.on L.members.length := ⟨_, rfl⟩
      rw [← hi] at hpl
      have hx : L.members[i]? = some L.members[i] := List.getElem?_eq_getElem hpl
      obtain ⟨x, hxx⟩ : ∃ x, x = L.members[i] := ⟨_, rfl⟩
      rw [← hxx] at hx
      have hm : ms[i]? = some (ms[i]'(by rw [← h.len]; exact hpl)) := List.getElem?_eq_getElem _
      obtain ⟨m, hmm⟩ : ∃ m, m = ms[i]'(by rw [← h.len]; exact hpl) := ⟨_, rfl⟩
      rw [← hmm] at hm
      have hs := h.law.seeL hx
      rw [hi] at hs
      have M := h.mem i x m hx hm
      have l8 := h.lim.me
      have apart : ∀ k, A (2 * i + 2) k → ¬ A (2 * i + 3) k := fun k h1 h2 => by have := h.own _ _ _ h1 h2; omega
      have z0 : ¬ A (2 * i + 3) 0 := fun h0 => by have := (h.bnd _ _ h0).1; have := h.tab.pos; omega
      have lapart : ∀ k, A 0 k → ¬ A (2 * i + 2) k ∧ ¬ A (2 * i + 3) k := fun k h0 => ⟨fun h1 => by have := h.own _ _ _ h0 h1; omega, fun h1 => by have := h.own _ _ _ h0 h1; omega⟩
      have tl := tick_lok M.ml.inv
      have c1 := h.lim.c1
      have b1 := M.ml.bl
      have b2 := M.ml.en
      have b3 := M.ml.wt
      have b0 := M.ml.pd.len
      have b4 := log_len M.ml.inv
      have b5 := h.lim.tx
      have b6 := h.lim.tm
      have b7 := h.lim.ou
      have b8 := h.lim.om
      have b9 := h.lim.bl
      rcases (by omega : o.k < 1 ∨ o.k = 5 ∨ o.k = 6 ∨ o.k = 7 ∨ o.k = 8 ∨ o.k = 9 ∨ o.k = 10) with hk | hk | hk | hk | hk | hk | hk
      · refine (stepNo o ho hk hs hl l8).mono ?_
        rintro e w' ⟨rfl, hb'⟩
        exact ⟨rfl, Goes.of_below h hb'⟩
      · refine (step5 o ho hk hs hl l8 m M.pm M.rm M.ml.inv.ql apart z0).mono ?_
        rintro e w' ⟨rfl, ht⟩
        exact ⟨rfl, h.two hx ht ((mlim_submit M.ml o.s).mono (by omega))⟩
      · refine (step6 o ho hk hs hl l8 m M.pm M.rm).mono ?_
        rintro e w' ⟨rfl, hb'⟩
        exact ⟨rfl, Goes.of_below h hb'⟩
      · refine (step7 o ho hk hs hl l8 m M.pm M.rm).mono ?_
        rintro e w' ⟨rfl, hb'⟩
        exact ⟨rfl, Goes.of_below h hb'⟩
      · refine (step8 o ho hk hs hl l8 m M.pm M.rm).mono ?_
        rintro e w' ⟨rfl, hb'⟩
        exact ⟨rfl, Goes.of_below h hb'⟩
      · refine (step9 o ho hk hs hl l8 m h.law M.pm M.rm (by omega) (log_lt M.ml.inv M.ml.kb) h.lim.c0 (by omega) (by omega) (by omega)).mono ?_
        rintro e w' ⟨rfl, W, hb, hl⟩
        exact ⟨rfl, (h.quiet hb).log hl⟩
      · refine (step10 o ho hk hs hl l8 m h.law M.pm M.rm apart lapart z0 M.ml.inv M.ml.i2.eo (by omega) (by omega) (by omega) (tick_ok1 M.ml.inv) tick_two h.lim.ok h.lim.le (by omega) h.lim.c0 (by omega) (by omega) (by omega)).mono ?_
        rintro e w' ⟨rfl, ht⟩
        exact ⟨rfl, h.went hx ht (by omega) (mlim_tick M.ml) (tick_lok M.ml.inv) (by omega) (by omega) (by omega) (by have := tick_props m; omega)⟩
    · have hl0 : L.members.length = 0 := by omega
      obtain ⟨vm, vl, vb, vt, vs, vo, vn, hb⟩ := h.law.ex
      have q0 : w.cell? ⟨q, 0, none⟩ = some vm := cell_at hb.box 0
      have hrow : Row w (A 0) 50 2 vm L.members.length (L.members.flatMap pcells) := hb.row 0 _ _ _ rfl rfl rfl
      obtain ⟨am, cm, rfl⟩ := hrow.isSlice
      rw [hl0] at q0
      refine (stepE o h4 q w am cm q0 (lt_at hb.box)).mono ?_
      rintro e w' ⟨rfl, hb'⟩
      exact ⟨rfl, Goes.of_below h hb'⟩
end Go.Proofs.YtkehpnobidendaaGreatDoor

namespace Go.Proofs.YtkehpnobidendaaGreatDoor
open Go.RowKit

theorem meets_keep (L : Law) (b : Blk) : LKeep L (L.meets b) := by
  unfold Law.meets; split <;> exact ⟨rfl, rfl, rfl, rfl, rfl, rfl⟩
theorem Kept.meets {w : World} {T : Nat → Prop} {L : Law} (h : Kept w T L) (b : Blk) : Kept w T (L.meets b) := by
  unfold Law.meets
  split
  · exact ⟨h.lt, h.lo, h.t, h.o⟩
  · exact ⟨h.lt, h.lo, h.t, h.o⟩
/-- The law's record has turned, and more lists are kept. -/
theorem SitA.laws2 {w0 w w' : World} {q : Nat} {L L' : Law} {ms : List Mem} {n n' : Nat} {A : Nat → Nat → Prop} (h : SitA w0 w q L ms n A) {S T V : Nat → Prop} (hV : ∀ k, V k → ∀ b, ¬ A b k) (hV0 : ∀ k, V k → w0.heap.size ≤ k) (hf : Fr (fun k => A 0 k ∨ V k) w w') (hl : LMem w' q S L') (hS : Grow (A 0) w S) (hT : ∀ k, T k → (V k ∨ w.heap.size ≤ k) ∧ ¬ S k ∧ k < w'.heap.size) (hk : Kept w' (fun k => A 1 k ∨ T k) L') (hmm : L'.members = L.members) (lim : Lim L' n') (hn : n ≤ n') :
    ∃ A', SitA w0 w' q L' ms n' A' ∧ ∀ c k, A' c k → A c k ∨ T k ∨ w.heap.size ≤ k := by
  have hs := hf.size
  have hs' : ∀ k, S k → k < w'.heap.size := hl.own
  have hz0 : ¬ (A 0 0 ∨ V 0) := fun h0 => by
    have := h.tab.pos
    rcases h0 with h0 | h0
    · have := (h.bnd _ _ h0).1; omega
    · have := hV0 _ h0; omega
  have apart : ∀ c k, c ≠ 0 → A c k → ¬ (A 0 k ∨ V k) := fun c k h1 hk hh => by
    rcases hh with hh | hh
    · exact h1 (h.own _ _ _ hk hh)
    · exact hV k hh c hk
  have nS : ∀ c k, c ≠ 0 → A c k → ¬ S k := fun c k h1 hk hh => by
    rcases hS k hh with h2 | h2
    · exact h1 (h.own _ _ _ hk h2)
    · have := (h.bnd _ _ hk).2; omega
  refine ⟨fun c => if c = 0 then S else if c = 1 then (fun k => A 1 k ∨ T k) else A c, ⟨fun c d k hc hd => ?_, fun c k hc => ?_, hl, hk, by rw [hmm]; exact h.len, fun i x m hx hm => ?_, ?_, h.tab, lim⟩, fun c k hc => ?_⟩
  · have key : ∀ c, (if c = 0 then S else if c = 1 then (fun k => A 1 k ∨ T k) else A c) k → (c = 0 ∧ S k) ∨ (c ≠ 0 ∧ A c k) ∨ (c = 1 ∧ T k) := by
      intro c hc
      by_cases h1 : c = 0
      · subst h1; rw [if_pos rfl] at hc; exact .inl ⟨rfl, hc⟩
      · rw [if_neg h1] at hc
        by_cases h2 : c = 1
        · subst h2; rw [if_pos rfl] at hc
          exact hc.elim (fun h => .inr (.inl ⟨h1, h⟩)) (fun h => .inr (.inr ⟨rfl, h⟩))
        · rw [if_neg h2] at hc; exact .inr (.inl ⟨h1, hc⟩)
    have tA : ∀ c, A c k → ¬ T k := fun c hA hT' => by
      rcases (hT k hT').1 with h1 | h1
      · exact hV k h1 c hA
      · have := (h.bnd _ _ hA).2; omega
    rcases key c hc with ⟨rfl, h1⟩ | ⟨h0, h1⟩ | ⟨rfl, h1⟩ <;> rcases key d hd with ⟨rfl, h2⟩ | ⟨h0', h2⟩ | ⟨rfl, h2⟩
    · rfl
    · exact absurd h1 (nS d k h0' h2)
    · exact absurd h1 (hT k h2).2.1
    · exact absurd h2 (nS c k h0 h1)
    · exact h.own _ _ _ h1 h2
    · exact absurd h2 (tA c h1)
    · exact absurd h2 (hT k h1).2.1
    · exact absurd h1 (tA d h2)
    · rfl
  · by_cases h1 : c = 0
    · subst h1; rw [if_pos rfl] at hc
      exact ⟨(hS k hc).elim (fun h2 => (h.bnd _ _ h2).1) (fun h2 => by have := h.below.size; omega), hs' k hc⟩
    · rw [if_neg h1] at hc
      by_cases h2 : c = 1
      · subst h2; rw [if_pos rfl] at hc
        rcases hc with hc | hc
        · exact ⟨(h.bnd _ _ hc).1, by have := (h.bnd _ _ hc).2; omega⟩
        · have h3 := hT k hc
          exact ⟨h3.1.elim (hV0 k) (fun h4 => by have := h.below.size; omega), h3.2.2⟩
      · rw [if_neg h2] at hc
        exact ⟨(h.bnd _ _ hc).1, by have := (h.bnd _ _ hc).2; omega⟩
  · rw [hmm] at hx
    refine ((h.mem i x m hx hm).fr hf hz0 (fun k hk => ?_) (by simp) (by simp)).mono hn
    rcases hk with hk | hk
    · exact apart _ k (by omega) hk
    · exact apart _ k (by omega) hk
  · exact ⟨hf.os.trans h.below.os, hf.tape.trans h.below.tape, hf.output.trans h.below.output, Nat.le_trans h.below.size hs, fun k hk => (hf.block k (Nat.lt_of_lt_of_le hk h.below.size) (fun hh => by
      rcases hh with hh | hh
      · have := (h.bnd _ _ hh).1; omega
      · have := hV0 _ hh; omega)).trans (h.below.block k hk)⟩
  · dsimp only at hc
    by_cases h1 : c = 0
    · subst h1; rw [if_pos rfl] at hc
      exact (hS k hc).imp id .inr
    · rw [if_neg h1] at hc
      by_cases h2 : c = 1
      · subst h2; rw [if_pos rfl] at hc
        exact hc.imp id .inl
      · rw [if_neg h2] at hc; exact .inl hc
theorem SitA.met {w0 w w' : World} {q : Nat} {L : Law} {ms : List Mem} {n : Nat} {A : Nat → Nat → Prop} (h : SitA w0 w q L ms n A) {b : Blk} (hb : b.Ok) {S : Nat → Prop} (hl : LMem w' q S (L.meets b)) (hS : Grow (A 0) w S) (hf : Fr (A 0) w w') : ∃ A', SitA w0 w' q (L.meets b) ms (n + 1) A' ∧ ∀ c k, A' c k → A c k ∨ w.heap.size ≤ k := by
  have k := meets_keep L b
  have ml := meets_len L b
  have hap : ∀ k, A 1 k → ¬ A 0 k := fun k h1 h0 => by have := h.own _ _ _ h1 h0; omega
  have hk1 : Kept w' (fun k => A 1 k ∨ False) (L.meets b) := (h.kept.same (fun k h1 hl => ⟨hf.block k hl (hap k h1), .inl h1⟩)).meets b
  have lm := h.lim
  obtain ⟨A', hA, hB⟩ := h.laws2 (V := fun _ => False) (T := fun _ => False) (fun _ h => h.elim) (fun _ h => h.elim) (hf.mono (fun _ h => .inl h)) hl hS (fun _ h => h.elim) hk1 k.me ⟨by rw [k.me]; exact lm.me, by rw [ml.2]; exact lm.le, by have := lm.bl; have := ml.1; omega, meets_ok lm.ok hb, by rw [ml.2]; exact lm.lt, by rw [k.co]; exact lm.c0, by rw [k.co]; have := lm.c1; omega, by rw [k.te]; have := lm.tx; omega, by rw [k.tm]; have := lm.tm; omega, by rw [k.ou]; have := lm.ou; omega, by rw [k.om]; have := lm.om; omega⟩ (Nat.le_succ n)
  exact ⟨A', hA, fun c k hc => (hB c k hc).imp id (fun h => h.elim (fun h => h.elim) id)⟩
end Go.Proofs.YtkehpnobidendaaGreatDoor
