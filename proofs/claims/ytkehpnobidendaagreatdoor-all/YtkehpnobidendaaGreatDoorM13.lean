/- The document's Tick. -/
import Derived.Test.YtkehpnobidendaaGreatDoorM12
import Derived.Deep.RegionHeld3
import Derived.Deep.DrawnRows
import Derived.Deep.QuietTactic
import Derived.BigQuiet
namespace Go.Proofs.YtkehpnobidendaaGreatDoor
open Go.RowKit
attribute [local go_sem ↓] Go.wp_at_zero Go.wp_at_succ

theorem kp2 {W w1 : World} {p : Nat} {a b : Value} (hb : Below W.heap.size W w1) (h : p < W.heap.size ∧ W.cell? ⟨p, 0, none⟩ = some a ∧ W.cell? ⟨p, 2, none⟩ = some b) : p < w1.heap.size ∧ w1.cell? ⟨p, 0, none⟩ = some a ∧ w1.cell? ⟨p, 2, none⟩ = some b :=
  ⟨Nat.lt_of_lt_of_le h.1 hb.size, by rw [hb.cell h.1]; exact h.2.1, by rw [hb.cell h.1]; exact h.2.2⟩
/-- What the walk reads of the member. -/
structure RSee (w : World) (p : Nat) (m : Mem) : Prop where
  lt : p < w.heap.size
  c0 : w.cell? ⟨p, 0, none⟩ = some (.int .i64 m.id)
  c1 : w.cell? ⟨p, 1, none⟩ = some (.int .i64 m.patience)
  c2 : w.cell? ⟨p, 2, none⟩ = some (.int .i64 m.view)
  c3 : w.cell? ⟨p, 3, none⟩ = some (.int .i64 m.voted)
  c4 : w.cell? ⟨p, 4, none⟩ = some (.int .i64 m.waited)
  c5 : w.cell? ⟨p, 5, none⟩ = some (.int .i64 m.high.view)
  c6 : w.cell? ⟨p, 6, none⟩ = some (.int .u64 m.high.block)
  c7 : w.cell? ⟨p, 7, none⟩ = some (.int .u64 m.high.s0)
  c8 : w.cell? ⟨p, 8, none⟩ = some (.int .u64 m.high.s1)
  c9 : w.cell? ⟨p, 9, none⟩ = some (.int .u64 m.high.s2)
  c10 : w.cell? ⟨p, 10, none⟩ = some (.int .u64 m.high.s3)
  fz : ∀ i, w.frozen? ⟨p, i, none⟩ = false
theorem RMem.see {w : World} {p : Nat} {S : Nat → Prop} {B : Nat} {m : Mem} {out : List Ltr} (h : RMem w p S B m out) : RSee w p m := by
  obtain ⟨vb, vv, ve, vp, vl, vq, vo, h, _⟩ := h
  exact ⟨lt_at h.box, cell_at h.box 0, cell_at h.box 1, cell_at h.box 2, cell_at h.box 3, cell_at h.box 4, cell_at h.box 5, cell_at h.box 6, cell_at h.box 7, cell_at h.box 8, cell_at h.box 9, cell_at h.box 10, free_at h.box⟩
theorem RMem.sp {w : World} {p : Nat} {S : Nat → Prop} {B : Nat} {m : Mem} {out : List Ltr} (h : RMem w p S B m out) : S p := by
  obtain ⟨vb, vv, ve, vp, vl, vq, vo, h, _⟩ := h
  exact h.sp
/-- A tick more has been waited. -/
theorem RMem.waits {w : World} {p : Nat} {S : Nat → Prop} {B : Nat} {m : Mem} {out : List Ltr} (h : RMem w p S B m out) (n : Int) : RMem (w.setCell ⟨p, 4, none⟩ (.int .i64 n)) p S B { m with waited := n } out := by
  obtain ⟨vb, vv, ve, vp, vl, vq, vo, h, hB⟩ := h
  exact ⟨vb, vv, ve, vp, vl, vq, vo, RMem.set h { m with waited := n } 4 _ rfl rfl, hB⟩

/-- The Enter that it sends. -/
def entMsg (v : Int) (c : Crt) (fro sl : Int) : Msg := ⟨3, fro, v, ⟨0, ⟨0, 0, 0, 0, 0, 0⟩, ⟨#[]⟩⟩, 0, c, sl⟩
theorem rsendsE (w : World) (p : Nat) (S : Nat → Prop) (m : Mem) (B : Nat) (hBw : B ≤ w.heap.size) (out : List Ltr) (h : RMem w p S B m out) (t0 v cv : Int) (cb : Nat) (c0 c1 c2 c3 : Int) (sl : Int) (hn : out.length ≤ 1000) :
    Calls Tryz.prog 41 #[.pointer (some ⟨p, 0, none⟩), .int .i64 t0, .agg #[.int .i64 3, .int .i64 0, .int .i64 v, .int .i64 0, .int .i64 0, .int .u64 0, .int .u64 0, .int .u64 0, .int .u64 0, .int .u64 0, .string ⟨#[]⟩, .int .u64 0, .int .i64 cv, .int .u64 cb, .int .u64 c0, .int .u64 c1, .int .u64 c2, .int .u64 c3, .int .u64 sl]] w fun e w' => e = .returned (.tuple #[]) ∧ ∃ S', RMem w' p S' B m (out ++ [⟨t0, entMsg v ⟨cv, cb, c0, c1, c2, c3⟩ m.id sl⟩]) ∧ Grow S w S' ∧ Fr S w w' :=
  rsends w p S m B hBw out h t0 (entMsg v ⟨cv, cb, c0, c1, c2, c3⟩ 0 sl) hn
theorem enterLtr_is (m : Mem) (v : Int) : (({ m with waited := m.waited + 1 } : Mem).enter v).enterLtr = ⟨v % 4, entMsg v m.high m.id (sealOf m.id 3 v 0)⟩ := rfl
theorem tick_yes {m : Mem} (h : m.patience ≤ m.waited + 1) (hv : m.view < 1000) : m.tick = ((({ m with waited := m.waited + 1 } : Mem).enter (m.view + 1)).ends.1, [(({ m with waited := m.waited + 1 } : Mem).enter (m.view + 1)).enterLtr] ++ (({ m with waited := m.waited + 1 } : Mem).enter (m.view + 1)).ends.2) := by
  have e : m.wait = (({ m with waited := m.waited + 1 } : Mem).enter (m.view + 1), [(({ m with waited := m.waited + 1 } : Mem).enter (m.view + 1)).enterLtr]) := by
    unfold Mem.wait; exact if_pos ⟨h, hv⟩
  unfold Mem.tick; rw [e]
theorem tick_no {m : Mem} (h : ¬ (m.patience ≤ m.waited + 1 ∧ m.view < 1000)) : m.tick = (({ m with waited := m.waited + 1 } : Mem).ends.1, [] ++ ({ m with waited := m.waited + 1 } : Mem).ends.2) := by
  have e : m.wait = ({ m with waited := m.waited + 1 }, []) := by
    unfold Mem.wait; exact if_neg h
  unfold Mem.tick; rw [e]
theorem RMem.heap {w w' : World} {p : Nat} {S : Nat → Prop} {B : Nat} {m : Mem} {out : List Ltr} (h : RMem w p S B m out) (e : w'.heap = w.heap) : RMem w' p S B m out := by
  obtain ⟨vb, vv, ve, vp, vl, vq, vo, h, hB⟩ := h
  exact ⟨vb, vv, ve, vp, vl, vq, vo, h.same (by rw [e]; exact Nat.le_refl _) (fun k _ => by rw [e]), hB⟩
theorem Fr.drewN (S : Nat → Prop) (w : World) (n : Nat) : Fr S w (w.drewN n) := ⟨rfl, rfl, rfl, Nat.le_refl _, fun _ _ _ => rfl⟩

set_option maxRecDepth 100000 in
set_option maxHeartbeats 2000000 in
theorem rtick (w : World) (p : Nat) (S : Nat → Prop) (m : Mem) (h : RMem w p S w.heap.size m []) (i0 : 0 ≤ m.id) (i1 : m.id ≤ 3) (v0 : 0 ≤ m.view) (v1 : m.view ≤ 1000) (w0 : 0 ≤ m.waited) (w1 : m.waited ≤ 100000000000000) (hn : m.blocks.length ≤ 1700000000000) (hp1 : m.proposed.length ≤ 1700000000000) (hh : m.high.Ok) (hq : ∀ c ∈ m.queue, c.size ≤ 16) :
    Calls Tryz.prog 19 #[.pointer (some ⟨p, 0, none⟩)] w fun e w' => ∃ v, e = .returned v ∧ Gave w w' p S w.heap.size m.tick.1 v m.tick.2 := by
  have H : Hid (RMem w p S w.heap.size m []) := h
  have HQ : Hid (∀ c ∈ m.queue, c.size ≤ 16) := hq
  have hs := h.see
  have c4 := hs.c4
  have fz := hs.fz
  clear h hq hs
  go_enter Tryz.func19, Tryz.ntmps19
  go_upto_region 2 with fail
  have HM := H.out.waits (m.waited + 1)
  have HF : Fr S w (w.setCell ⟨p, 4, none⟩ (.int .i64 (m.waited + 1))) := Fr.setCell w H.out.sp _
  have HBw : w.heap.size ≤ (w.setCell ⟨p, 4, none⟩ (.int .i64 (m.waited + 1))).heap.size := HF.size
  have hs := HM.see
  have c1 := hs.c1
  have c2 := hs.c2
  have c4' := hs.c4
  dsimp only at c1 c2 c4'
  clear hs c4 fz
  have H1 : Hid (RMem (w.setCell ⟨p, 4, none⟩ (.int .i64 (m.waited + 1))) p S w.heap.size { m with waited := m.waited + 1 } []) := HM
  have HF1 : Hid (Fr S w (w.setCell ⟨p, 4, none⟩ (.int .i64 (m.waited + 1)))) := HF
  clear HM HF H HBw
  generalize w.setCell ⟨p, 4, none⟩ (.int .i64 (m.waited + 1)) = W at *
  have HE : Hid (∀ (W' : World) (m' : Mem) (S' : Nat → Prop) (out : List Ltr), RMem W' p S' w.heap.size m' out → w.heap.size ≤ W'.heap.size → m'.id = m.id → 0 ≤ m'.view → m'.view ≤ 1000 → m'.blocks = m.blocks → m'.proposed = m.proposed → m'.high = m.high → m'.queue = m.queue → out.length ≤ 900 →
      Calls Tryz.prog 42 #[.pointer (some ⟨p, 0, none⟩)] W' fun e w' => ∃ v, e = .returned v ∧ Gave W' w' p S' w.heap.size m'.ends.1 v (out ++ m'.ends.2)) := fun W' m' S' out a1 a2 a3 a4 a5 a6 a7 a8 a9 a10 => rends W' p S' m' w.heap.size a2 out a1 (by omega) (by omega) a4 a5 (by rw [a6]; omega) (by rw [a7]; omega) a10 (by rw [a8]; exact hh) (by rw [a9]; exact HQ.out)
  by_cases hwp : m.patience ≤ m.waited + 1
  · by_cases hv : m.view < 1000
    · have HT : Hid (m.tick = ((({ m with waited := m.waited + 1 } : Mem).enter (m.view + 1)).ends.1, [(({ m with waited := m.waited + 1 } : Mem).enter (m.view + 1)).enterLtr] ++ (({ m with waited := m.waited + 1 } : Mem).enter (m.view + 1)).ends.2)) := tick_yes hwp hv
      go_quiet (fail)
      go_wp2_with (go_at_call 40; refine (renter (W.drewN nq) p S _ _ [] (H1.out.heap rfl) _).mono ?_; rintro e w2 ⟨rfl, hm2, hf2⟩; have H2 : Hid _ := hm2; clear hm2)
      have hs2 := H2.out.see
      have a2 := hs2.lt
      have a0 := hs2.c0
      have av := hs2.c2
      clear hs2
      dsimp only [Mem.enter] at a0 av
      go_region_held3 (fun w' => p < w'.heap.size ∧ w'.cell? ⟨p, 0, none⟩ = some (.int .i64 m.id) ∧ w'.cell? ⟨p, 2, none⟩ = some (.int .i64 (m.view + 1)))
        (first | (refine kp2 (by assumption) ?_; refine ⟨?_, ?_, ?_⟩ <;> first | assumption | go_keep) | (refine ⟨?_, ?_, ?_⟩ <;> first | assumption | go_keep))
        ((go_at_call 25; refine (rseal m.id 3 (m.view + 1) 0 (by omega) (by omega) (by omega) (by omega) (by omega) (by omega) (by omega) _).mono ?_; rintro e w3 ⟨rfl, hb3⟩))
      have H3 : Hid (RMem w3 p S w.heap.size (({ m with waited := m.waited + 1 } : Mem).enter (m.view + 1)) []) := (H2.out.heap (w' := w2.drew) rfl).below hb3
      have HF3 : Hid (Fr S w w3) := (((HF1.out.trans (Fr.drewN S W nq) (fun _ h => .inl h)).trans hf2 (fun _ h => .inl h)).trans (Fr.drew S w2) (fun _ h => .inl h)).trans (Fr.of_below (S := S) hb3) (fun _ h => .inl h)
      have hs3 := H3.out.see
      have b2 := hs3.c2
      have b5 := hs3.c5
      have b6 := hs3.c6
      have b7 := hs3.c7
      have b8 := hs3.c8
      have b9 := hs3.c9
      have b10 := hs3.c10
      dsimp only [Mem.enter] at b2 b5 b6 b7 b8 b9 b10
      clear hs3 a0 a2 av hb3 hf2 H2 H1 c1 c2 c4'
      go_wp2
      go_region_held3 (fun w' => w'.cell? ⟨p, 2, none⟩ = some (.int .i64 (m.view + 1)) ∧ w'.cell? ⟨p, 5, none⟩ = some (.int .i64 m.high.view) ∧ w'.cell? ⟨p, 6, none⟩ = some (.int .u64 m.high.block) ∧ w'.cell? ⟨p, 7, none⟩ = some (.int .u64 m.high.s0) ∧ w'.cell? ⟨p, 8, none⟩ = some (.int .u64 m.high.s1) ∧ w'.cell? ⟨p, 9, none⟩ = some (.int .u64 m.high.s2) ∧ w'.cell? ⟨p, 10, none⟩ = some (.int .u64 m.high.s3))
        (first | (exact ⟨hs4.c2, hs4.c5, hs4.c6, hs4.c7, hs4.c8, hs4.c9, hs4.c10⟩) | (refine ⟨?_, ?_, ?_, ?_, ?_, ?_, ?_⟩ <;> first | assumption | go_keep))
        ((go_at_call 41; refine (rsendsE w3.drew p S _ w.heap.size HF3.out.size [] (H3.out.heap rfl) _ _ _ _ _ _ _ _ _ (by simp)).mono ?_; rintro e w4 ⟨rfl, S4, hm4, hg4, hf4⟩; have hs4 := hm4.see))
      rw [Int.tmod_eq_emod_of_nonneg (by omega)] at hm4
      have HM4 : Hid (RMem w4 p S4 w.heap.size (({ m with waited := m.waited + 1 } : Mem).enter (m.view + 1)) [(({ m with waited := m.waited + 1 } : Mem).enter (m.view + 1)).enterLtr]) := hm4
      have HG4 : Hid (Grow S w S4 ∧ Fr S w w4) := ⟨(fun k hk => (hg4 k hk).imp id (fun h => Nat.le_trans HF3.out.size h)), (HF3.out.trans (Fr.drew S w3) (fun _ h => .inl h)).trans hf4 (fun _ h => .inl h)⟩
      clear hm4 hg4 hf4 hs4 b2 b5 b6 b7 b8 b9 b10
      go_wp2_with (go_at_call 42; refine (HE.out _ _ S4 _ HM4.out HG4.out.2.size rfl (by dsimp only [Mem.enter]; omega) (by dsimp only [Mem.enter]; omega) rfl rfl rfl rfl (by simp)).mono ?_; rintro e w5 ⟨v, rfl, hG⟩)
      go_ret
      refine ⟨_, rfl, ?_⟩
      rw [HT.out]
      exact hG.since HG4.out.1 HG4.out.2
    · have HT : Hid (m.tick = (({ m with waited := m.waited + 1 } : Mem).ends.1, [] ++ ({ m with waited := m.waited + 1 } : Mem).ends.2)) := tick_no (fun h => hv h.2)
      have hv2 : decide (m.view < 1000) = false := by simp; omega
      go_quiet (fail)
      go_wp2_with (go_at_call 42; refine (HE.out (W.drewN nq) _ S [] (H1.out.heap rfl) HF1.out.size rfl (by dsimp only; omega) (by dsimp only; omega) rfl rfl rfl rfl (by simp)).mono ?_; rintro e w5 ⟨v, rfl, hG⟩)
      go_ret
      refine ⟨_, rfl, ?_⟩
      rw [HT.out]
      exact hG.since (Grow.refl _ _) (HF1.out.trans (Fr.drewN S W nq) (fun _ h => .inl h))
  · have HT : Hid (m.tick = (({ m with waited := m.waited + 1 } : Mem).ends.1, [] ++ ({ m with waited := m.waited + 1 } : Mem).ends.2)) := tick_no (fun h => hwp h.1)
    have hw2 : decide (m.patience ≤ m.waited + 1) = false := by simp; omega
    go_quiet (fail)
    go_wp2_with (go_at_call 42; refine (HE.out (W.drewN nq) _ S [] (H1.out.heap rfl) HF1.out.size rfl (by dsimp only; omega) (by dsimp only; omega) rfl rfl rfl rfl (by simp)).mono ?_; rintro e w5 ⟨v, rfl, hG⟩)
    go_ret
    refine ⟨_, rfl, ?_⟩
    rw [HT.out]
    exact hG.since (Grow.refl _ _) (HF1.out.trans (Fr.drewN S W nq) (fun _ h => .inl h))
end Go.Proofs.YtkehpnobidendaaGreatDoor
