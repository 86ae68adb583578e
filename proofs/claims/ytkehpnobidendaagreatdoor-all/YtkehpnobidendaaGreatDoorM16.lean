/- The document's member: is a block in its log (logged)? is it ahead of another (above)? The document's member: it learns of a certificate (learn). The model: what holds of every member (Inv): its blocks' parents are known and come earlier; so the way up ends. No program in it. -/
import Derived.Test.YtkehpnobidendaaGreatDoorM14
import Derived.Deep.LoopGhost
import Derived.Deep.DeepCutAuto
import Derived.Deep.RegionLaw
import Derived.Deep.RegionHeld3
import Derived.Deep.DrawnRows
import Derived.Deep.QuietTactic
import Derived.BigQuiet
namespace Go.Proofs.YtkehpnobidendaaGreatDoor
open Go.RowKit

theorem contains_take (l : List Nat) (n k : Nat) (hk : k < l.length) (h : (l.take k).contains n = false) : (l.take (k + 1)).contains n = (l[k] == n) := by
  rw [List.take_succ_eq_append_getElem hk]
  simp only [List.contains_eq_any_beq, List.any_append] at h ⊢
  rw [h]
  simp [Bool.beq_comm]

set_option maxRecDepth 100000 in
set_option maxHeartbeats 1000000 in
theorem rlogged (w : World) (p : Nat) (S : Nat → Prop) (m : Mem) (B : Nat) (out : List Ltr) (h : RMem w p S B m out) (n : Nat) :
    Calls Tryz.prog 102 #[.pointer (some ⟨p, 0, none⟩), .int .u64 n] w fun e w' => e = .returned (.bool (m.logged n)) ∧ w' = w := by
  obtain ⟨vb, vv, ve, vp, vl, vq, vo, h, _⟩ := h
  have hr : Row w S 36 1 vl m.log.length (m.log.flatMap ncells) := h.row 4 _ _ _ rfl rfl rfl
  have c21 : w.cell? ⟨p, 21, none⟩ = some vl := cell_at h.box 21
  have hle := hr.le
  clear h
  obtain ⟨a, cap, rfl⟩ := hr.isSlice
  have HR : Hid (Row w S 36 1 (.slice a m.log.length cap) m.log.length (m.log.flatMap ncells)) := hr
  clear hr
  go_enter Tryz.func102, Tryz.ntmps102
  go_wp2
  go_loop [5] (fun i => ∃ k : Nat, k ≤ m.log.length ∧ i = .int .i64 k ∧ Hid ((m.log.take k).contains n = false)) (fun i => m.log.length - (intOf i).toNat)
  case atStart => exact ⟨0, by omega, rfl, (by simp : (m.log.take 0).contains n = false)⟩
  case round =>
    obtain ⟨k, hk, rfl, hnot⟩ := hrel
    by_cases hlt : k < m.log.length
    · obtain ⟨g, off, rfl, hSg, hg, hcap⟩ := HR.out.place (by omega)
      have q : w.cell? ⟨g, off + k, none⟩ = some (.int .u64 (m.log[k] : Nat)) := by have := HR.out.elem ncells_len k 0 hlt (by omega); simpa [ncells] using this
      have HC : Hid ((m.log.take (k + 1)).contains n = (m.log[k] == n)) := contains_take m.log n k hlt hnot.out
      have HT : Hid (m.log[k] = n → m.logged n = true) := fun h => by
        show (m.log.contains n || n == 0) = true
        have : n ∈ m.log := by rw [← h]; exact List.getElem_mem _
        simp [this]
      generalize m.log[k] = u at q HC HT
      by_cases hu : u = n
      · have HT' : Hid (m.logged n = true) := HT.out hu
        clear HT HC
        subst hu
        go_wp2
        go_ret
        rw [HT'.out]
        exact ⟨rfl, rfl⟩
      · go_wp2
        go_round
        case rel => exact ⟨k + 1, by omega, by go_num, (by show _ = false; rw [HC.out]; simp [hu] : (m.log.take (k + 1)).contains n = false)⟩
        case measure => simp [intOf]; omega
    · have HL : Hid (m.logged n = (n == 0)) := by
        show (m.log.contains n || n == 0) = (n == 0)
        have := hnot.out
        rw [List.take_of_length_le (by omega)] at this
        rw [this]; rfl
      go_wp2
      go_ret
      rw [HL.out]
      exact ⟨by rw [nat_zero]; rfl, rfl⟩

/-- The way up from a block comes to 'old', or to the first block, within so many steps. -/
def Mem.halts (m : Mem) (old : Nat) : Nat → Nat → Prop
  | 0, _ => False
  | f + 1, n => n = old ∨ n = 0 ∨ m.halts old f (m.up n)
theorem up_lt {m : Mem} (h : ∀ x ∈ m.blocks, x.2.just.block < 18446744073709551616) (n : Nat) : m.up n < 18446744073709551616 := by
  unfold Mem.up Mem.block
  have : ∀ l : List (Nat × Blk), (∀ x ∈ l, x.2.just.block < 18446744073709551616) → ((find n l).getD Blk.zero).just.block < 18446744073709551616 := by
    intro l
    induction l with
    | nil => intro _; show (0 : Nat) < 18446744073709551616; omega
    | cons a r ih =>
      intro hl
      obtain ⟨k, b⟩ := a
      simp only [find]
      split
      · exact hl (k, b) (by simp)
      · exact ih (fun x hx => hl x (by simp [hx]))
  exact this _ h

set_option maxRecDepth 100000 in
set_option maxHeartbeats 1000000 in
theorem rabove (w : World) (p : Nat) (S : Nat → Prop) (m : Mem) (B : Nat) (out : List Ltr) (h : RMem w p S B m out) (old n f : Nat) (hf : m.halts old f n) :
    Calls Tryz.prog 81 #[.pointer (some ⟨p, 0, none⟩), .int .u64 old, .int .u64 n] w fun e w' => e = .returned (.bool (m.above old f n)) ∧ Below w.heap.size w w' := by
  have HB : Hid (∀ w1, Below w.heap.size w w1 → ∀ n, Calls Tryz.prog 56 #[.pointer (some ⟨p, 0, none⟩), .int .u64 (n : Nat)] w1 fun e w' => e = .returned (.tuple #[.agg ((m.block n).getD Blk.zero).cells.toArray, .bool (m.block n).isSome]) ∧ Below w1.heap.size w1 w') := fun w1 hb n => rblock w1 p S m B out (h.below hb) n
  have HF : Hid (m.halts old f n) := hf
  obtain ⟨R, hR⟩ : ∃ r, r = m.above old f n := ⟨_, rfl⟩
  have HR : Hid (R = m.above old f n) := hR
  rw [← hR]
  clear h hf hR
  go_enter Tryz.func81, Tryz.ntmps81
  go_wp2
  go_loopg [2] f (fun g s wr => ∃ n' : Nat, s = .int .u64 n' ∧ Hid (m.halts old g n') ∧ Hid (R = m.above old g n') ∧ Hid (Below w.heap.size w wr))
  case atStart => exact ⟨n, rfl, HF, HR, Below.refl _ _⟩
  case round =>
    obtain ⟨n', rfl, hh, hr, hb⟩ := hrel
    rcases gk with _ | g
    · exact hh.out.elim
    · by_cases h1 : n' = old
      · have HT : Hid (R = true) := by
          show R = true
          rw [hr.out]; unfold Mem.above; rw [if_pos h1]
        subst h1
        go_wp2
        go_ret
        rw [HT.out]
        exact ⟨rfl, hb.out⟩
      · by_cases h0 : n' = 0
        · have HT : Hid (R = false) := by
            show R = false
            rw [hr.out]; unfold Mem.above; rw [if_neg h1, if_pos h0]
          subst h0
          go_wp2
          go_ret
          rw [HT.out]
          exact ⟨rfl, hb.out⟩
        · have HT : Hid (m.halts old g (m.up n')) := by
            have := hh.out
            rcases this with h | h | h
            · exact absurd h h1
            · exact absurd h h0
            · exact h
          have HV : Hid (R = m.above old g (m.up n')) := by
            show R = _
            rw [hr.out]
            show (if n' = old then true else if n' = 0 then false else m.above old g (m.up n')) = _
            rw [if_neg h1, if_neg h0]
          have HBB := HB.out wr hb.out n'
          obtain ⟨⟨qv, ⟨qjv, qjb, q0, q1, q2, q3⟩, qc⟩, hq⟩ : ∃ x, x = (m.block n').getD Blk.zero := ⟨_, rfl⟩
          have hup : m.up n' = qjb := by unfold Mem.up; rw [← hq]
          rw [← hq] at HBB
          have HUP : Hid (m.up n' = qjb) := hup
          dsimp only [Blk.cells] at HBB
          clear hq hup
          generalize (m.block n').isSome = qs at HBB
          have hz : ((n' : Int) == 0) = false := by simp; exact h0
          go_wp2_with (go_at_call 56; refine HBB.mono ?_; rintro e w2 ⟨rfl, hb2⟩)
          go_roundg g
          case measure => omega
          case rel => exact ⟨qjb, rfl, by rw [← HUP.out]; exact HT, by rw [← HUP.out]; exact HV, bnext (bnext hb.out hb2) ((Below.refl _ _).alloc (Nat.le_refl _) _)⟩
end Go.Proofs.YtkehpnobidendaaGreatDoor

namespace Go.Proofs.YtkehpnobidendaaGreatDoor
open Go.RowKit
attribute [local go_sem ↓] load_blk Go.wp_at_zero Go.wp_at_succ

/-- What a certificate makes of High. -/
def Mem.high1 (m : Mem) (c : Crt) : Mem := if m.high.view < c.view then { m with high := c } else m
/-- What a block's Just makes of Locked. -/
def Mem.lock1 (m : Mem) (b : Blk) : Mem := if m.locked.view < b.just.view then { m with locked := b.just } else m
theorem learn_is (m : Mem) (c : Crt) : m.learn c = if c.block = 0 then m.high1 c else
    let b := ((m.high1 c).block c.block).getD Blk.zero
    if b.just.block = 0 then (m.high1 c).lock1 b else ((m.high1 c).lock1 b).commit b := rfl
theorem halts_blocks {m m' : Mem} (h : m'.blocks = m.blocks) (old : Nat) : ∀ f n, m'.halts old f n = m.halts old f n := by
  intro f
  induction f with
  | zero => intro n; rfl
  | succ f ih =>
    intro n
    show (n = old ∨ n = 0 ∨ m'.halts old f (m'.up n)) = (n = old ∨ n = 0 ∨ m.halts old f (m.up n))
    have e3 : m'.up n = m.up n := by unfold Mem.up Mem.block; rw [h]
    rw [e3, ih]
theorem lock1_blocks (m : Mem) (b : Blk) : (m.lock1 b).blocks = m.blocks ∧ (m.lock1 b).log = m.log := by unfold Mem.lock1; split <;> exact ⟨rfl, rfl⟩
/-- What commit asks first. -/
def Mem.shuns (m : Mem) (b p o : Blk) : Bool := m.logged p.just.block || b.view != p.view + 1 || p.view != o.view + 1
theorem commit_is (m : Mem) (b p o : Blk) (hp : p = (m.block b.just.block).getD Blk.zero) (ho : o = (m.block p.just.block).getD Blk.zero) : m.commit b = if m.shuns b p o = true then m else if (!m.log.isEmpty && !m.above (m.log.getLastD 0) (m.blocks.length + 1) p.just.block) = true then m else { m with log := m.log ++ (m.more (m.blocks.length + 1) p.just.block).reverse } := by
  subst hp ho; rfl
/-- From a block on, the way up comes to one in the log within so many steps. -/
def Mem.haltsL (m : Mem) : Nat → Nat → Prop
  | 0, _ => False
  | f + 1, n => m.logged (m.up n) = true ∨ m.haltsL f (m.up n)
theorem haltsL_of {m : Mem} : ∀ f n, n ≠ 0 → m.halts 0 (f + 1) n → m.haltsL (f + 1) n
  | 0, n, hn, h => by
    rcases h with h | h | h
    · exact absurd h hn
    · exact absurd h hn
    · exact h.elim
  | f + 1, n, hn, h => by
    rcases h with h | h | h
    · exact absurd h hn
    · exact absurd h hn
    · by_cases h0 : m.up n = 0
      · left; rw [h0]; simp [Mem.logged]
      · right; exact haltsL_of f (m.up n) h0 h
theorem last_get {l : List Nat} {q : Nat} (h : l.length = q + 1) : l.getLastD 0 = l[q]'(by omega) := by
  rw [List.getLastD_eq_getLast?, List.getLast?_eq_getElem?, List.getElem?_eq_getElem (by omega)]
  simp only [Option.getD_some]
  congr 1
  omega
theorem own_below {wc wr w7 : World} {e : TypeId} {size n : Nat} {v : Value} {xs : List Value} {o : Obj} (hb : Below wc.heap.size wc wr) (hv : Row wr (fun k => wc.heap.size ≤ k) e size v n xs) (hf : Fr (fun k => v.ownBlock = some k) (wr.alloc o) w7) : Below wc.heap.size wc w7 := by
  have hbb := bnext hb ((Below.refl _ _).alloc (Nat.le_refl _) o)
  exact ⟨hf.os.trans hbb.os, hf.tape.trans hbb.tape, hf.output.trans hbb.output, Nat.le_trans hbb.size hf.size, fun j hj => (hf.block j (Nat.lt_of_lt_of_le hj hbb.size) (fun e => by have := (hv.ownS e).1; omega)).trans (hbb.block j hj)⟩
theorem rev_take (l : List Nat) (j : Nat) (h : j < l.length) : l.reverse.take (l.length - j) = l.reverse.take (l.length - (j + 1)) ++ [l[j]] := by
  have e : l.length - j = (l.length - (j + 1)) + 1 := by omega
  rw [e, List.take_succ_eq_append_getElem (by simp; omega)]
  congr 2
  rw [List.getElem_reverse]
  congr 1
  omega
theorem high1_block (m : Mem) (c : Crt) (n : Nat) : (m.high1 c).block n = m.block n := by unfold Mem.high1; split <;> rfl
theorem lock1_block (m : Mem) (b : Blk) (n : Nat) : (m.lock1 b).block n = m.block n := by unfold Mem.lock1; split <;> rfl
/-- A store of High, of Locked. -/
theorem RMem.highs {w : World} {p : Nat} {S : Nat → Prop} {B : Nat} {m : Mem} {out : List Ltr} (h : RMem w p S B m out) (c : Crt) : RMem ((((((w.setCell ⟨p, 5, none⟩ (.int .i64 c.view)).setCell ⟨p, 6, none⟩ (.int .u64 c.block)).setCell ⟨p, 7, none⟩ (.int .u64 c.s0)).setCell ⟨p, 8, none⟩ (.int .u64 c.s1)).setCell ⟨p, 9, none⟩ (.int .u64 c.s2)).setCell ⟨p, 10, none⟩ (.int .u64 c.s3)) p S B { m with high := c } out := by
  obtain ⟨vb, vv, ve, vp, vl, vq, vo, h, hB⟩ := h
  exact ⟨vb, vv, ve, vp, vl, vq, vo, (((((h.store 5 _ rfl).store 6 _ rfl).store 7 _ rfl).store 8 _ rfl).store 9 _ rfl).store 10 _ rfl, hB⟩
theorem RMem.locks {w : World} {p : Nat} {S : Nat → Prop} {B : Nat} {m : Mem} {out : List Ltr} (h : RMem w p S B m out) (c : Crt) : RMem ((((((w.setCell ⟨p, 11, none⟩ (.int .i64 c.view)).setCell ⟨p, 12, none⟩ (.int .u64 c.block)).setCell ⟨p, 13, none⟩ (.int .u64 c.s0)).setCell ⟨p, 14, none⟩ (.int .u64 c.s1)).setCell ⟨p, 15, none⟩ (.int .u64 c.s2)).setCell ⟨p, 16, none⟩ (.int .u64 c.s3)) p S B { m with locked := c } out := by
  obtain ⟨vb, vv, ve, vp, vl, vq, vo, h, hB⟩ := h
  exact ⟨vb, vv, ve, vp, vl, vq, vo, (((((h.store 11 _ rfl).store 12 _ rfl).store 13 _ rfl).store 14 _ rfl).store 15 _ rfl).store 16 _ rfl, hB⟩
theorem RMem.see2 {w : World} {p : Nat} {S : Nat → Prop} {B : Nat} {m : Mem} {out : List Ltr} (h : RMem w p S B m out) : w.cell? ⟨p, 11, none⟩ = some (.int .i64 m.locked.view) ∧ w.cell? ⟨p, 12, none⟩ = some (.int .u64 m.locked.block) ∧ w.cell? ⟨p, 13, none⟩ = some (.int .u64 m.locked.s0) ∧ w.cell? ⟨p, 14, none⟩ = some (.int .u64 m.locked.s1) ∧ w.cell? ⟨p, 15, none⟩ = some (.int .u64 m.locked.s2) ∧ w.cell? ⟨p, 16, none⟩ = some (.int .u64 m.locked.s3) ∧ ∀ i, w.frozen? ⟨p, i, none⟩ = false := by
  obtain ⟨vb, vv, ve, vp, vl, vq, vo, h, _⟩ := h
  exact ⟨cell_at h.box 11, cell_at h.box 12, cell_at h.box 13, cell_at h.box 14, cell_at h.box 15, cell_at h.box 16, free_at h.box⟩
theorem fr_set6 {S : Nat → Prop} {w : World} {p : Nat} (hs : S p) (o : Nat) (a b c d e f : Value) : Fr S w ((((((w.setCell ⟨p, o, none⟩ a).setCell ⟨p, o + 1, none⟩ b).setCell ⟨p, o + 2, none⟩ c).setCell ⟨p, o + 3, none⟩ d).setCell ⟨p, o + 4, none⟩ e).setCell ⟨p, o + 5, none⟩ f) :=
  (((((Fr.setCell w hs _).trans (Fr.setCell _ (S := S) hs _) (fun _ h => .inl h)).trans (Fr.setCell _ (S := S) hs _) (fun _ h => .inl h)).trans (Fr.setCell _ (S := S) hs _) (fun _ h => .inl h)).trans (Fr.setCell _ (S := S) hs _) (fun _ h => .inl h)).trans (Fr.setCell _ (S := S) hs _) (fun _ h => .inl h)
theorem Fr.box {S : Nat → Prop} {w w' : World} {k : Nat} {o : Obj} (h : Fr S w w') (hk : w.heap[k]? = some o) (hS : ¬ S k) : w'.heap[k]? = some o := (h.block k (lt_at hk) hS).trans hk

set_option maxRecDepth 100000 in
set_option maxHeartbeats 4000000 in
theorem rlearn (w : World) (p : Nat) (S : Nat → Prop) (m : Mem) (B : Nat) (out : List Ltr) (h : RMem w p S B m out) (c : Crt) (hview : ∀ n, 0 ≤ ((m.block n).getD Blk.zero).view ∧ ((m.block n).getD Blk.zero).view ≤ 1000) (hwf : ∀ old n, m.halts old (m.blocks.length + 1) n) (hlog : m.log.length + m.blocks.length + 2 ≤ 1700000000000) :
    Calls Tryz.prog 80 #[.pointer (some ⟨p, 0, none⟩), .agg c.cells.toArray] w fun e w' => e = .returned (.tuple #[]) ∧ ∃ S', RMem w' p S' B (m.learn c) out ∧ Grow S w S' ∧ Fr S w w' := by
  have HM : Hid (RMem w p S B m out) := h
  obtain ⟨cv, cb, k0, k1, k2, k3⟩ := c
  dsimp only [Crt.cells]
  have HLT : Hid (∀ k, S k → k < w.heap.size) := by obtain ⟨_, _, _, _, _, _, _, h1, _⟩ := h; exact h1.lt
  clear h
  have HL := learn_is m ⟨cv, cb, k0, k1, k2, k3⟩
  dsimp only at HL
  obtain ⟨Rm, hRm⟩ : ∃ r, r = m.learn ⟨cv, cb, k0, k1, k2, k3⟩ := ⟨_, rfl⟩
  rw [← hRm] at HL ⊢
  clear hRm
  have HRm : Hid (Rm = if cb = 0 then m.high1 ⟨cv, cb, k0, k1, k2, k3⟩ else if (((m.high1 ⟨cv, cb, k0, k1, k2, k3⟩).block cb).getD Blk.zero).just.block = 0 then (m.high1 ⟨cv, cb, k0, k1, k2, k3⟩).lock1 (((m.high1 ⟨cv, cb, k0, k1, k2, k3⟩).block cb).getD Blk.zero) else ((m.high1 ⟨cv, cb, k0, k1, k2, k3⟩).lock1 (((m.high1 ⟨cv, cb, k0, k1, k2, k3⟩).block cb).getD Blk.zero)).commit (((m.high1 ⟨cv, cb, k0, k1, k2, k3⟩).block cb).getD Blk.zero)) := HL
  clear HL
  go_enter Tryz.func80, Tryz.ntmps80
  go_upto_region 1 with fail
  have HX : Hid ((w.alloc (.cells #[.int .i64 cv, .int .u64 cb, .int .u64 k0, .int .u64 k1, .int .u64 k2, .int .u64 k3] 39)).heap[w.heap.size]? = some (.cells #[.int .i64 cv, .int .u64 cb, .int .u64 k0, .int .u64 k1, .int .u64 k2, .int .u64 k3] 39 (0, 0))) := heap_alloc_new w _
  have HM0 : Hid (RMem (w.alloc (.cells #[.int .i64 cv, .int .u64 cb, .int .u64 k0, .int .u64 k1, .int .u64 k2, .int .u64 k3] 39)) p S B m out) := HM.out.below ((Below.refl _ _).alloc (Nat.le_refl _) _)
  have HF0 : Hid (Fr S w (w.alloc (.cells #[.int .i64 cv, .int .u64 cb, .int .u64 k0, .int .u64 k1, .int .u64 k2, .int .u64 k3] 39))) := Fr.alloc _ _ _
  have HNS : Hid (¬ S w.heap.size) := fun h => by have := HLT.out _ h; omega
  generalize w.alloc (.cells #[.int .i64 cv, .int .u64 cb, .int .u64 k0, .int .u64 k1, .int .u64 k2, .int .u64 k3] 39) = W0 at *
  have hA : ∀ j : Nat, W0.cell? ⟨w.heap.size, j, none⟩ = (#[.int .i64 cv, .int .u64 cb, .int .u64 k0, .int .u64 k1, .int .u64 k2, .int .u64 k3] : Array Value)[j]? := fun j => cell_at HX.out j
  have hs := HM0.out.see
  have c5 := hs.c5
  have c6 := hs.c6
  have c7 := hs.c7
  have c8 := hs.c8
  have c9 := hs.c9
  have c10 := hs.c10
  have fz := hs.fz
  clear hs
  go_quiet (fail)
  go_upto_if 25 with fail
  go_cut [] (fun w' => Hid (RMem w' p S B (m.high1 ⟨cv, cb, k0, k1, k2, k3⟩) out) ∧ Hid (w'.heap[w.heap.size]? = some (.cells #[.int .i64 cv, .int .u64 cb, .int .u64 k0, .int .u64 k1, .int .u64 k2, .int .u64 k3] 39 (0, 0))) ∧ Hid (Fr S w w'))
  case first =>
    by_cases hv : m.high.view < cv
    · go_wp2
      go_meet
      case rel =>
        have e : m.high1 ⟨cv, cb, k0, k1, k2, k3⟩ = { m with high := ⟨cv, cb, k0, k1, k2, k3⟩ } := by unfold Mem.high1; rw [if_pos hv]
        have hf := (HF0.out.trans (Fr.drewN S W0 nq) (fun _ h => .inl h)).trans (fr_set6 (S := S) HM.out.sp 5 (.int .i64 cv) (.int .u64 cb) (.int .u64 k0) (.int .u64 k1) (.int .u64 k2) (.int .u64 k3)) (fun _ h => .inl h)
        have hf0 : Fr S W0 _ := (Fr.drewN S W0 nq).trans (fr_set6 (S := S) HM.out.sp 5 (.int .i64 cv) (.int .u64 cb) (.int .u64 k0) (.int .u64 k1) (.int .u64 k2) (.int .u64 k3)) (fun _ h => .inl h)
        rw [e]
        exact ⟨(HM0.out.heap (w' := W0.drewN nq) rfl).highs ⟨cv, cb, k0, k1, k2, k3⟩, hf0.box HX.out HNS.out, hf⟩
    · go_wp2
      go_meet
      case rel =>
        have e : m.high1 ⟨cv, cb, k0, k1, k2, k3⟩ = m := by unfold Mem.high1; rw [if_neg (by show ¬ m.high.view < cv; omega)]
        rw [e]
        exact ⟨HM0.out.heap rfl, HX.out, HF0.out.trans (Fr.drewN S W0 nq) (fun _ h => .inl h)⟩
  case rest =>
    obtain ⟨hM1, hX1, hF1⟩ := hcut
    clear hA c5 c6 c7 c8 c9 c10 fz HX HM0 HF0 HM
    have HVW : Hid (∀ n, 0 ≤ (((m.high1 ⟨cv, cb, k0, k1, k2, k3⟩).block n).getD Blk.zero).view ∧ (((m.high1 ⟨cv, cb, k0, k1, k2, k3⟩).block n).getD Blk.zero).view ≤ 1000) := fun n => by rw [high1_block]; exact hview n
    have HWF : Hid (∀ old n, (m.high1 ⟨cv, cb, k0, k1, k2, k3⟩).halts old ((m.high1 ⟨cv, cb, k0, k1, k2, k3⟩).blocks.length + 1) n) := fun old n => by
      have e : (m.high1 ⟨cv, cb, k0, k1, k2, k3⟩).blocks = m.blocks := by unfold Mem.high1; split <;> rfl
      have e2 : ∀ f n, (m.high1 ⟨cv, cb, k0, k1, k2, k3⟩).halts old f n = m.halts old f n := by
        intro f
        induction f with
        | zero => intro n; rfl
        | succ f ih =>
          intro n
          show (n = old ∨ n = 0 ∨ (m.high1 ⟨cv, cb, k0, k1, k2, k3⟩).halts old f ((m.high1 ⟨cv, cb, k0, k1, k2, k3⟩).up n)) = (n = old ∨ n = 0 ∨ m.halts old f (m.up n))
          have e3 : (m.high1 ⟨cv, cb, k0, k1, k2, k3⟩).up n = m.up n := by unfold Mem.up; rw [high1_block]
          rw [e3, ih]
      rw [e, e2]; exact hwf old n
    have hlog1 : (m.high1 ⟨cv, cb, k0, k1, k2, k3⟩).log.length + (m.high1 ⟨cv, cb, k0, k1, k2, k3⟩).blocks.length + 2 ≤ 1700000000000 := by unfold Mem.high1; split <;> exact hlog
    clear hview hwf hlog
    generalize m.high1 ⟨cv, cb, k0, k1, k2, k3⟩ = m1 at *
    have hA : ∀ j : Nat, wc.cell? ⟨w.heap.size, j, none⟩ = (#[.int .i64 cv, .int .u64 cb, .int .u64 k0, .int .u64 k1, .int .u64 k2, .int .u64 k3] : Array Value)[j]? := fun j => cell_at hX1.out j
    by_cases hcb : cb = 0
    · have hcz : ((cb : Int) == 0) = true := by simp; exact hcb
      have HE : Hid (Rm = m1) := by show Rm = m1; rw [HRm.out, if_pos hcb]
      clear hcb
      go_wp2
      refine bodyPost_ret (results_none rfl _ _ _) rfl ?_
      rw [HE.out]
      exact ⟨rfl, S, hM1.out, Grow.refl _ _, hF1.out⟩
    · have hcz : ((cb : Int) == 0) = false := by simp; exact hcb
      have HBB := rblock wc p S m1 B out hM1.out cb
      have hvb := HVW.out cb
      have HE := HRm.out
      rw [if_neg hcb] at HE
      clear hcb HRm
      obtain ⟨⟨qv, ⟨qjv, qjb, q0, q1, q2, q3⟩, qc⟩, hq⟩ : ∃ x, x = (m1.block cb).getD Blk.zero := ⟨_, rfl⟩
      rw [← hq] at HBB hvb HE
      dsimp only [Blk.cells] at HBB hvb HE
      have HRm : Hid (Rm = if qjb = 0 then m1.lock1 ⟨qv, ⟨qjv, qjb, q0, q1, q2, q3⟩, qc⟩ else (m1.lock1 ⟨qv, ⟨qjv, qjb, q0, q1, q2, q3⟩, qc⟩).commit ⟨qv, ⟨qjv, qjb, q0, q1, q2, q3⟩, qc⟩) := HE
      clear hq HE
      generalize (m1.block cb).isSome = qs at HBB
      have HFW := hF1.out
      go_upto_region 5 with (go_at_call 56; refine HBB.mono ?_; rintro e w2 ⟨rfl, hb2⟩)
      have hMb := (hM1.out.below hb2).below ((Below.refl _ _).alloc (Nat.le_refl _) (.cells #[.int .i64 qv, .int .i64 qjv, .int .u64 qjb, .int .u64 q0, .int .u64 q1, .int .u64 q2, .int .u64 q3, .string qc] 41))
      have hXb := heap_alloc_new w2 (.cells #[.int .i64 qv, .int .i64 qjv, .int .u64 qjb, .int .u64 q0, .int .u64 q1, .int .u64 q2, .int .u64 q3, .string qc] 41)
      have hFb : Fr S w (w2.alloc (.cells #[.int .i64 qv, .int .i64 qjv, .int .u64 qjb, .int .u64 q0, .int .u64 q1, .int .u64 q2, .int .u64 q3, .string qc] 41)) := (hF1.out.trans (Fr.of_below (S := S) hb2) (fun _ h => .inl h)).trans (Fr.alloc S w2 _) (fun _ h => .inl h)
      have hNb : ¬ S w2.heap.size := fun h => by have := HLT.out _ h; have := hF1.out.size; have := hb2.size; omega
      have HMb : Hid (RMem (w2.alloc (.cells #[.int .i64 qv, .int .i64 qjv, .int .u64 qjb, .int .u64 q0, .int .u64 q1, .int .u64 q2, .int .u64 q3, .string qc] 41)) p S B m1 out) := hMb
      have HXb : Hid ((w2.alloc (.cells #[.int .i64 qv, .int .i64 qjv, .int .u64 qjb, .int .u64 q0, .int .u64 q1, .int .u64 q2, .int .u64 q3, .string qc] 41)).heap[w2.heap.size]? = some (.cells #[.int .i64 qv, .int .i64 qjv, .int .u64 qjb, .int .u64 q0, .int .u64 q1, .int .u64 q2, .int .u64 q3, .string qc] 41 (0, 0))) := hXb
      have HFb : Hid (Fr S w (w2.alloc (.cells #[.int .i64 qv, .int .i64 qjv, .int .u64 qjb, .int .u64 q0, .int .u64 q1, .int .u64 q2, .int .u64 q3, .string qc] 41))) := hFb
      have HNb : Hid (¬ S w2.heap.size) := hNb
      clear hMb hXb hFb hNb hM1 hX1 hF1 hA hb2 HFW HBB hcz
      generalize w2.alloc (.cells #[.int .i64 qv, .int .i64 qjv, .int .u64 qjb, .int .u64 q0, .int .u64 q1, .int .u64 q2, .int .u64 q3, .string qc] 41) = W2 at *
      generalize w2.heap.size = B2 at *
      have hA : ∀ j : Nat, W2.cell? ⟨B2, j, none⟩ = (#[.int .i64 qv, .int .i64 qjv, .int .u64 qjb, .int .u64 q0, .int .u64 q1, .int .u64 q2, .int .u64 q3, .string qc] : Array Value)[j]? := fun j => cell_at HXb.out j
      have hs := RMem.see2 HMb.out
      have c11 := hs.1
      have c12 := hs.2.1
      have c13 := hs.2.2.1
      have c14 := hs.2.2.2.1
      have c15 := hs.2.2.2.2.1
      have c16 := hs.2.2.2.2.2.1
      have fz := hs.2.2.2.2.2.2
      clear hs
      go_quiet (fail)
      go_upto_if 48 with fail
      go_cut [] (fun w' => Hid (RMem w' p S B (m1.lock1 ⟨qv, ⟨qjv, qjb, q0, q1, q2, q3⟩, qc⟩) out) ∧ Hid (w'.heap[B2]? = some (.cells #[.int .i64 qv, .int .i64 qjv, .int .u64 qjb, .int .u64 q0, .int .u64 q1, .int .u64 q2, .int .u64 q3, .string qc] 41 (0, 0))) ∧ Hid (Fr S w w'))
      case first =>
        by_cases hv : m1.locked.view < qjv
        · go_wp2
          go_meet
          case rel =>
            have e : m1.lock1 ⟨qv, ⟨qjv, qjb, q0, q1, q2, q3⟩, qc⟩ = { m1 with locked := ⟨qjv, qjb, q0, q1, q2, q3⟩ } := by unfold Mem.lock1; rw [if_pos hv]
            have hf0 : Fr S W2 _ := (Fr.drewN S W2 nq).trans (fr_set6 (S := S) HMb.out.sp 11 (.int .i64 qjv) (.int .u64 qjb) (.int .u64 q0) (.int .u64 q1) (.int .u64 q2) (.int .u64 q3)) (fun _ h => .inl h)
            rw [e]
            exact ⟨(HMb.out.heap (w' := W2.drewN nq) rfl).locks ⟨qjv, qjb, q0, q1, q2, q3⟩, hf0.box HXb.out HNb.out, HFb.out.trans hf0 (fun _ h => .inl h)⟩
        · go_wp2
          go_meet
          case rel =>
            have e : m1.lock1 ⟨qv, ⟨qjv, qjb, q0, q1, q2, q3⟩, qc⟩ = m1 := by unfold Mem.lock1; rw [if_neg (by show ¬ m1.locked.view < qjv; omega)]
            rw [e]
            exact ⟨HMb.out.heap rfl, HXb.out, HFb.out.trans (Fr.drewN S W2 nq) (fun _ h => .inl h)⟩
      case rest =>
        obtain ⟨hM2, hX2, hF2⟩ := hcut
        clear hA c11 c12 c13 c14 c15 c16 fz HXb HMb HFb
        have HVW2 : Hid (∀ n, 0 ≤ (((m1.lock1 ⟨qv, ⟨qjv, qjb, q0, q1, q2, q3⟩, qc⟩).block n).getD Blk.zero).view ∧ (((m1.lock1 ⟨qv, ⟨qjv, qjb, q0, q1, q2, q3⟩, qc⟩).block n).getD Blk.zero).view ≤ 1000) := fun n => by rw [lock1_block]; exact HVW.out n
        have HWF2 : Hid (∀ old n, (m1.lock1 ⟨qv, ⟨qjv, qjb, q0, q1, q2, q3⟩, qc⟩).halts old ((m1.lock1 ⟨qv, ⟨qjv, qjb, q0, q1, q2, q3⟩, qc⟩).blocks.length + 1) n) := fun old n => by rw [halts_blocks (lock1_blocks m1 ⟨qv, ⟨qjv, qjb, q0, q1, q2, q3⟩, qc⟩).1, (lock1_blocks m1 ⟨qv, ⟨qjv, qjb, q0, q1, q2, q3⟩, qc⟩).1]; exact HWF.out old n
        have hlog2 : (m1.lock1 ⟨qv, ⟨qjv, qjb, q0, q1, q2, q3⟩, qc⟩).log.length + (m1.lock1 ⟨qv, ⟨qjv, qjb, q0, q1, q2, q3⟩, qc⟩).blocks.length + 2 ≤ 1700000000000 := by rw [(lock1_blocks m1 ⟨qv, ⟨qjv, qjb, q0, q1, q2, q3⟩, qc⟩).1, (lock1_blocks m1 ⟨qv, ⟨qjv, qjb, q0, q1, q2, q3⟩, qc⟩).2]; exact hlog1
        clear HVW HWF hlog1
        generalize m1.lock1 ⟨qv, ⟨qjv, qjb, q0, q1, q2, q3⟩, qc⟩ = m2 at *
        have hA : ∀ j : Nat, wc.cell? ⟨B2, j, none⟩ = (#[.int .i64 qv, .int .i64 qjv, .int .u64 qjb, .int .u64 q0, .int .u64 q1, .int .u64 q2, .int .u64 q3, .string qc] : Array Value)[j]? := fun j => cell_at hX2.out j
        by_cases hqj : qjb = 0
        · have hqz : ((qjb : Int) == 0) = true := by simp; exact hqj
          have HE : Hid (Rm = m2) := by show Rm = m2; rw [HRm.out, if_pos hqj]
          clear hqj
          go_wp2
          refine bodyPost_ret (results_none rfl _ _ _) rfl ?_
          rw [HE.out]
          exact ⟨rfl, S, hM2.out, Grow.refl _ _, hF2.out⟩
        · have hqz : ((qjb : Int) == 0) = false := by simp; exact hqj
          have HE := HRm.out
          rw [if_neg hqj] at HE
          clear hqj HRm
          obtain ⟨⟨pv, ⟨pjv, pd, p0, p1, p2, p3⟩, pc⟩, hp⟩ : ∃ x, x = (m2.block qjb).getD Blk.zero := ⟨_, rfl⟩
          obtain ⟨⟨ov, ⟨ojv, ojb, o0, o1, o2, o3⟩, oc⟩, ho⟩ : ∃ x, x = (m2.block pd).getD Blk.zero := ⟨_, rfl⟩
          rw [commit_is m2 ⟨qv, ⟨qjv, qjb, q0, q1, q2, q3⟩, qc⟩ ⟨pv, ⟨pjv, pd, p0, p1, p2, p3⟩, pc⟩ ⟨ov, ⟨ojv, ojb, o0, o1, o2, o3⟩, oc⟩ hp ho] at HE
          dsimp only at HE
          have hvp := HVW2.out qjb
          have hvo := HVW2.out pd
          have HB1 := rblock wc p S m2 B out hM2.out qjb
          rw [← hp] at HB1 hvp
          rw [← ho] at hvo
          dsimp only [Blk.cells] at HB1 hvp hvo
          have HRm : Hid (Rm = if m2.shuns ⟨qv, ⟨qjv, qjb, q0, q1, q2, q3⟩, qc⟩ ⟨pv, ⟨pjv, pd, p0, p1, p2, p3⟩, pc⟩ ⟨ov, ⟨ojv, ojb, o0, o1, o2, o3⟩, oc⟩ = true then m2 else if (!m2.log.isEmpty && !m2.above (m2.log.getLastD 0) (m2.blocks.length + 1) pd) = true then m2 else { m2 with log := m2.log ++ (m2.more (m2.blocks.length + 1) pd).reverse }) := HE
          have HB2 : Hid (∀ W, RMem W p S B m2 out → Calls Tryz.prog 56 #[.pointer (some ⟨p, 0, none⟩), .int .u64 pd] W fun e w' => e = .returned (.tuple #[.agg #[.int .i64 ov, .int .i64 ojv, .int .u64 ojb, .int .u64 o0, .int .u64 o1, .int .u64 o2, .int .u64 o3, .string oc], .bool (m2.block pd).isSome]) ∧ Below W.heap.size W w') := fun W hW => by
            have := rblock W p S m2 B out hW pd
            rw [← ho] at this
            exact this
          clear hp ho HE
          generalize (m2.block qjb).isSome = qs1 at HB1
          generalize (m2.block pd).isSome = qs2 at HB2
          go_upto_region 10 with (go_at_call 56; refine HB1.mono ?_; rintro e w3 ⟨rfl, hb3⟩)
          have HM3 : Hid (RMem (w3.alloc (.cells #[.int .i64 pv, .int .i64 pjv, .int .u64 pd, .int .u64 p0, .int .u64 p1, .int .u64 p2, .int .u64 p3, .string pc] 41)) p S B m2 out) := (hM2.out.below hb3).below ((Below.refl _ _).alloc (Nat.le_refl _) _)
          have HXq : Hid ((w3.alloc (.cells #[.int .i64 pv, .int .i64 pjv, .int .u64 pd, .int .u64 p0, .int .u64 p1, .int .u64 p2, .int .u64 p3, .string pc] 41)).heap[B2]? = some (.cells #[.int .i64 qv, .int .i64 qjv, .int .u64 qjb, .int .u64 q0, .int .u64 q1, .int .u64 q2, .int .u64 q3, .string qc] 41 (0, 0))) := box_below (box_below hX2.out hb3) ((Below.refl _ _).alloc (Nat.le_refl _) _)
          have HXp : Hid ((w3.alloc (.cells #[.int .i64 pv, .int .i64 pjv, .int .u64 pd, .int .u64 p0, .int .u64 p1, .int .u64 p2, .int .u64 p3, .string pc] 41)).heap[w3.heap.size]? = some (.cells #[.int .i64 pv, .int .i64 pjv, .int .u64 pd, .int .u64 p0, .int .u64 p1, .int .u64 p2, .int .u64 p3, .string pc] 41 (0, 0))) := heap_alloc_new _ _
          have HF3 : Hid (Fr S w (w3.alloc (.cells #[.int .i64 pv, .int .i64 pjv, .int .u64 pd, .int .u64 p0, .int .u64 p1, .int .u64 p2, .int .u64 p3, .string pc] 41))) := (hF2.out.trans (Fr.of_below (S := S) hb3) (fun _ h => .inl h)).trans (Fr.alloc S w3 _) (fun _ h => .inl h)
          clear hM2 hX2 hF2 hb3 hA HB1 hqz
          generalize w3.alloc (.cells #[.int .i64 pv, .int .i64 pjv, .int .u64 pd, .int .u64 p0, .int .u64 p1, .int .u64 p2, .int .u64 p3, .string pc] 41) = W3 at *
          generalize w3.heap.size = B3 at *
          go_upto_region 11 with (go_at_call 56; refine (HB2.out W3 HM3.out).mono ?_; rintro e w4 ⟨rfl, hb4⟩)
          have HM4 : Hid (RMem (w4.alloc (.cells #[.int .i64 ov, .int .i64 ojv, .int .u64 ojb, .int .u64 o0, .int .u64 o1, .int .u64 o2, .int .u64 o3, .string oc] 41)) p S B m2 out) := (HM3.out.below hb4).below ((Below.refl _ _).alloc (Nat.le_refl _) _)
          have HYq : Hid ((w4.alloc (.cells #[.int .i64 ov, .int .i64 ojv, .int .u64 ojb, .int .u64 o0, .int .u64 o1, .int .u64 o2, .int .u64 o3, .string oc] 41)).heap[B2]? = some (.cells #[.int .i64 qv, .int .i64 qjv, .int .u64 qjb, .int .u64 q0, .int .u64 q1, .int .u64 q2, .int .u64 q3, .string qc] 41 (0, 0))) := box_below (box_below HXq.out hb4) ((Below.refl _ _).alloc (Nat.le_refl _) _)
          have HYp : Hid ((w4.alloc (.cells #[.int .i64 ov, .int .i64 ojv, .int .u64 ojb, .int .u64 o0, .int .u64 o1, .int .u64 o2, .int .u64 o3, .string oc] 41)).heap[B3]? = some (.cells #[.int .i64 pv, .int .i64 pjv, .int .u64 pd, .int .u64 p0, .int .u64 p1, .int .u64 p2, .int .u64 p3, .string pc] 41 (0, 0))) := box_below (box_below HXp.out hb4) ((Below.refl _ _).alloc (Nat.le_refl _) _)
          have HYo : Hid ((w4.alloc (.cells #[.int .i64 ov, .int .i64 ojv, .int .u64 ojb, .int .u64 o0, .int .u64 o1, .int .u64 o2, .int .u64 o3, .string oc] 41)).heap[w4.heap.size]? = some (.cells #[.int .i64 ov, .int .i64 ojv, .int .u64 ojb, .int .u64 o0, .int .u64 o1, .int .u64 o2, .int .u64 o3, .string oc] 41 (0, 0))) := heap_alloc_new _ _
          have HF4 : Hid (Fr S w (w4.alloc (.cells #[.int .i64 ov, .int .i64 ojv, .int .u64 ojb, .int .u64 o0, .int .u64 o1, .int .u64 o2, .int .u64 o3, .string oc] 41))) := (HF3.out.trans (Fr.of_below (S := S) hb4) (fun _ h => .inl h)).trans (Fr.alloc S w4 _) (fun _ h => .inl h)
          clear HM3 HXq HXp HF3 hb4 HB2
          generalize w4.alloc (.cells #[.int .i64 ov, .int .i64 ojv, .int .u64 ojb, .int .u64 o0, .int .u64 o1, .int .u64 o2, .int .u64 o3, .string oc] 41) = W4 at *
          generalize w4.heap.size = B4 at *
          have HLG := rlogged W4 p S m2 B out HM4.out pd
          have HSH : Hid (m2.shuns ⟨qv, ⟨qjv, qjb, q0, q1, q2, q3⟩, qc⟩ ⟨pv, ⟨pjv, pd, p0, p1, p2, p3⟩, pc⟩ ⟨ov, ⟨ojv, ojb, o0, o1, o2, o3⟩, oc⟩ = (m2.logged pd || qv != pv + 1 || pv != ov + 1)) := rfl
          generalize m2.shuns ⟨qv, ⟨qjv, qjb, q0, q1, q2, q3⟩, qc⟩ ⟨pv, ⟨pjv, pd, p0, p1, p2, p3⟩, pc⟩ ⟨ov, ⟨ojv, ojb, o0, o1, o2, o3⟩, oc⟩ = sh at *
          have HNL : Hid (sh = false → m2.logged pd = false) := fun h => by have := HSH.out; rw [h] at this; cases hl : m2.logged pd with | false => rfl | true => rw [hl] at this; simp at this
          have HN0 : Hid (m2.logged pd = false → pd ≠ 0) := fun h h0 => by rw [h0] at h; simp [Mem.logged] at h
          generalize m2.logged pd = lg at *
          go_upto_region 12 with (go_at_call 102; refine HLG.mono ?_; rintro e w5 ⟨rfl, rfl⟩)
          have hA : ∀ j : Nat, w5.cell? ⟨B2, j, none⟩ = (#[.int .i64 qv, .int .i64 qjv, .int .u64 qjb, .int .u64 q0, .int .u64 q1, .int .u64 q2, .int .u64 q3, .string qc] : Array Value)[j]? := fun j => cell_at HYq.out j
          have hP : ∀ j : Nat, w5.cell? ⟨B3, j, none⟩ = (#[.int .i64 pv, .int .i64 pjv, .int .u64 pd, .int .u64 p0, .int .u64 p1, .int .u64 p2, .int .u64 p3, .string pc] : Array Value)[j]? := fun j => cell_at HYp.out j
          have hO : ∀ j : Nat, w5.cell? ⟨B4, j, none⟩ = (#[.int .i64 ov, .int .i64 ojv, .int .u64 ojb, .int .u64 o0, .int .u64 o1, .int .u64 o2, .int .u64 o3, .string oc] : Array Value)[j]? := fun j => cell_at HYo.out j
          clear HLG
          go_cut [94] (fun s w' => s = .bool sh ∧ w5 = w')
          case first =>
            rcases lg with _ | _
            · rcases Bool.eq_false_or_eq_true (qv != pv + 1) with e1 | e1
              · go_wp2
                go_meet
                case rel => exact ⟨by rw [HSH.out, e1]; rfl, rfl⟩
              · rcases Bool.eq_false_or_eq_true (pv != ov + 1) with e2 | e2
                · go_wp2
                  go_meet
                  case rel => exact ⟨by rw [HSH.out, e1, e2]; rfl, rfl⟩
                · go_wp2
                  go_meet
                  case rel => exact ⟨by rw [HSH.out, e1, e2]; rfl, rfl⟩
            · go_wp2
              go_meet
              case rel => exact ⟨by rw [HSH.out]; rfl, rfl⟩
          case rest =>
            obtain ⟨rfl, rfl⟩ := hcut
            clear hA hP hO HYq HYp HYo HSH
            rcases sh with _ | _
            · have HE := HRm.out
              rw [if_neg (by decide)] at HE
              have HPD : Hid (pd ≠ 0) := HN0.out (HNL.out rfl)
              have HRm' : Hid (Rm = if (!m2.log.isEmpty && !m2.above (m2.log.getLastD 0) (m2.blocks.length + 1) pd) = true then m2 else { m2 with log := m2.log ++ (m2.more (m2.blocks.length + 1) pd).reverse }) := HE
              clear HE HRm
              obtain ⟨vb, vv, ve, vp, vl, vq, vo, h4, hO4⟩ := HM4.out
              have hrl : Row w5 S 36 1 vl m2.log.length (m2.log.flatMap ncells) := h4.row 4 _ _ _ rfl rfl rfl
              obtain ⟨al, cl, rfl⟩ := hrl.isSlice
              have hc21 : w5.cell? ⟨p, 21, none⟩ = some (.slice al m2.log.length cl) := cell_at h4.box 21
              have HRL : Hid (Row w5 S 36 1 (.slice al m2.log.length cl) m2.log.length (m2.log.flatMap ncells)) := hrl
              have H4 : Hid (Bun w5 p 59 S (rcells m2 vb vv ve vp (.slice al m2.log.length cl) vq vo) [vb, vv, ve, vp, (.slice al m2.log.length cl), vq, vo] rE (rX m2 out)) := h4
              have HO4 : Hid (∀ k, vo.ownBlock = some k → B ≤ k) := hO4
              clear h4 hrl hO4
              have hup : ∃ q, q = m2.log.length := ⟨_, rfl⟩
              obtain ⟨ql, hql⟩ := hup
              rw [← hql] at hc21
              have HQL : Hid (ql = m2.log.length) := hql
              have hqb : ql ≤ 1700000000000 := by omega
              clear hql
              go_upto_if 100 with fail
              go_cut [] (fun w' => Hid (Below w5.heap.size w5 w') ∧ Hid (Rm = { m2 with log := m2.log ++ (m2.more (m2.blocks.length + 1) pd).reverse }))
              case first =>
                rcases ql with _ | q
                · have HE : Hid (Rm = { m2 with log := m2.log ++ (m2.more (m2.blocks.length + 1) pd).reverse }) := by
                    show Rm = _
                    have e : m2.log = [] := List.eq_nil_of_length_eq_zero HQL.out.symm
                    rw [HRm'.out, if_neg (by rw [e]; simp)]
                  go_wp2
                  go_meet
                  case rel => exact ⟨Below.refl _ _, HE⟩
                · obtain ⟨gl, ol, rfl, hSl, hgl, hcl⟩ := HRL.out.place (by have := HQL.out; omega)
                  have hlast : w5.cell? ⟨gl, ol + q, none⟩ = some (.int .u64 (m2.log.getLastD 0 : Nat)) := by
                    rw [last_get HQL.out.symm]
                    have := HRL.out.elem ncells_len q 0 (by have := HQL.out; omega) (by omega)
                    simpa [ncells] using this
                  have hpw : p < w5.heap.size := HM4.out.see.lt
                  generalize hla : m2.log.getLastD 0 = la at *
                  have HAB : Hid (∀ W, RMem W p S B m2 out → Calls Tryz.prog 81 #[.pointer (some ⟨p, 0, none⟩), .int .u64 la, .int .u64 pd] W fun e w' => e = .returned (.bool (m2.above la (m2.blocks.length + 1) pd)) ∧ Below W.heap.size W w') := fun W hW => rabove W p S m2 B out hW la pd _ (HWF2.out la pd)
                  generalize hab : m2.above la (m2.blocks.length + 1) pd = ab at *
                  have HRm2 : Hid (Rm = if (!m2.log.isEmpty && !ab) = true then m2 else { m2 with log := m2.log ++ (m2.more (m2.blocks.length + 1) pd).reverse }) := HRm'
                  clear HRm' hla hab
                  have HS : Hid (∀ w', Below w5.heap.size w5 w' → Below w5.heap.size w5 w' ∧ w'.cell? ⟨p, 21, none⟩ = some (.slice (some ⟨gl, ol, none⟩) (q + 1) cl) ∧ w'.cell? ⟨gl, ol + q, none⟩ = some (.int .u64 la)) := fun w' hb' => ⟨hb', (hb'.cell (p := ⟨p, 21, none⟩) hpw).trans hc21, (hb'.cell (p := ⟨gl, ol + q, none⟩) hgl).trans hlast⟩
                  have i1 : (0 : Int) ≤ (q : Int) := by omega
                  have i2 : (q : Int) < ((q + 1 : Nat) : Int) := by omega
                  have i3 : IntKind.i64.wrap (((q + 1 : Nat) : Int) - 1) = (q : Int) := by rw [IntKind.wrap_i64]; omega
                  have i4 : (0 : Int) < ((q + 1 : Nat) : Int) := by omega
                  have i5 : IntKind.i64.wrap (q : Int) = (q : Int) := by rw [IntKind.wrap_i64]; omega
                  have i6 : IntKind.i64.wrap ((q : Int) + 1 - 1) = (q : Int) := by rw [IntKind.wrap_i64]; omega
                  have i7 : (q : Int) < (q : Int) + 1 := by omega
                  have i8 : (0 : Int) < (q : Int) + 1 := by omega
                  go_wp2
                  go_region_held3 (fun w' => Below w5.heap.size w5 w' ∧ w'.cell? ⟨p, 21, none⟩ = some (.slice (some ⟨gl, ol, none⟩) (q + 1) cl) ∧ w'.cell? ⟨gl, ol + q, none⟩ = some (.int .u64 la))
                    (first | (exact HS.out _ (bnext (And.left ‹Below w5.heap.size w5 _ ∧ _›) (by assumption))) | (exact HS.out _ (Below.refl _ _).drew))
                    ((go_at_call 81; refine (HAB.out w5.drew (HM4.out.heap rfl)).mono ?_; rintro e w6 ⟨rfl, hb6⟩))
                  have hh := And.left ‹Below w5.heap.size w5 _ ∧ _›
                  have hne : m2.log.isEmpty = false := by
                    have := HQL.out
                    rcases hl : m2.log with _ | ⟨a, r⟩
                    · rw [hl] at this; simp at this
                    · rfl
                  rcases ab with _ | _
                  · have HE : Hid (Rm = m2) := by show Rm = m2; rw [HRm2.out, if_pos (by rw [hne]; rfl)]
                    go_wp2
                    refine bodyPost_ret (results_none rfl _ _ _) rfl ?_
                    rw [HE.out]
                    exact ⟨rfl, S, HM4.out.below hh, Grow.refl _ _, HF4.out.trans (Fr.of_below (S := S) hh) (fun _ h => .inl h)⟩
                  · have HE : Hid (Rm = { m2 with log := m2.log ++ (m2.more (m2.blocks.length + 1) pd).reverse }) := by show Rm = _; rw [HRm2.out, if_neg (by simp)]
                    go_wp2
                    go_meet
                    case rel => exact ⟨hh, HE⟩
              case rest =>
                obtain ⟨hbw, hE⟩ := hcut
                have HM5 : Hid (RMem wc p S B m2 out) := HM4.out.below hbw.out
                have HF5 : Hid (Fr S w wc) := HF4.out.trans (Fr.of_below (S := S) hbw.out) (fun _ h => .inl h)
                have HHL : Hid (m2.haltsL (m2.blocks.length + 1) pd) := haltsL_of _ pd HPD.out (HWF2.out 0 pd)
                obtain ⟨MM, hMM⟩ : ∃ x, x = m2.more (m2.blocks.length + 1) pd := ⟨_, rfl⟩
                have HMM : Hid (MM = m2.more (m2.blocks.length + 1) pd) := hMM
                have hE' : Hid (Rm = { m2 with log := m2.log ++ MM.reverse }) := by rw [hMM]; exact hE
                have hFb : m2.blocks.length + 1 ≤ 1700000000000 := by omega
                have HBK : Hid (∀ W, Below wc.heap.size wc W → ∀ n, Calls Tryz.prog 56 #[.pointer (some ⟨p, 0, none⟩), .int .u64 (n : Nat)] W fun e w' => e = .returned (.tuple #[.agg ((m2.block n).getD Blk.zero).cells.toArray, .bool (m2.block n).isSome]) ∧ Below W.heap.size W w') := fun W hW n => rblock W p S m2 B out (HM5.out.below hW) n
                have HLK : Hid (∀ W, Below wc.heap.size wc W → ∀ n, Calls Tryz.prog 102 #[.pointer (some ⟨p, 0, none⟩), .int .u64 (n : Nat)] W fun e w' => e = .returned (.bool (m2.logged n)) ∧ w' = W) := fun W hW n => rlogged W p S m2 B out (HM5.out.below hW) n
                clear hMM hE hbw HM4 HF4 HRm' H4 HRL hc21 HQL hqb HO4
                go_wp2
                go_loopg [11, 13, 14] (m2.blocks.length + 1) (fun g s11 s13 s14 wr => ∃ (i : Bool) (acc : List Nat) (n' : Nat), s11 = .bool i ∧ s14 = .int .u64 n' ∧ Row wr (fun k => wc.heap.size ≤ k) 36 1 s13 acc.length (acc.flatMap ncells) ∧ Hid (Below wc.heap.size wc wr) ∧ Hid ((i = false → MM = acc ++ m2.more g n' ∧ m2.haltsL g n') ∧ (i = true → MM = acc)) ∧ acc.length + g ≤ m2.blocks.length + 1)
                case atStart => exact ⟨false, [], pd, rfl, rfl, Row.nil _ _ _ _, Below.refl _ _, ⟨fun _ => ⟨by rw [HMM.out]; rfl, HHL.out⟩, fun h => by cases h⟩, by simp⟩
                case round =>
                  obtain ⟨i, acc, n', rfl, rfl, hv, hb, hI, hlen⟩ := hrel
                  obtain ⟨aa, ca, rfl⟩ := hv.isSlice
                  have HV : Hid (Row wr (fun k => wc.heap.size ≤ k) 36 1 (.slice aa acc.length ca) acc.length (acc.flatMap ncells)) := hv
                  clear hv
                  rcases i with _ | _
                  · rcases gk with _ | g
                    · exact (hI.out.1 rfl).2.elim
                    · have hbk := HBK.out
                      obtain ⟨⟨xv, ⟨xjv, xjb, x0, x1, x2, x3⟩, xc⟩, hx⟩ : ∃ x, x = (m2.block n').getD Blk.zero := ⟨_, rfl⟩
                      have hup : m2.up n' = xjb := by unfold Mem.up; rw [← hx]
                      have HBN : Hid (∀ W, Below wc.heap.size wc W → Calls Tryz.prog 56 #[.pointer (some ⟨p, 0, none⟩), .int .u64 n'] W fun e w' => e = .returned (.tuple #[.agg #[.int .i64 xv, .int .i64 xjv, .int .u64 xjb, .int .u64 x0, .int .u64 x1, .int .u64 x2, .int .u64 x3, .string xc], .bool (m2.block n').isSome]) ∧ Below W.heap.size W w') := fun W hW => by have := hbk W hW n'; rw [← hx] at this; exact this
                      have HNX : Hid ((m2.logged xjb = false → MM = (acc ++ [n']) ++ m2.more g xjb ∧ m2.haltsL g xjb) ∧ (m2.logged xjb = true → MM = acc ++ [n'])) := by
                        have h0 := hI.out.1 rfl
                        have e : m2.more (g + 1) n' = n' :: (if m2.logged (m2.up n') then [] else m2.more g (m2.up n')) := rfl
                        rw [e, hup] at h0
                        refine ⟨fun hl => ?_, fun hl => ?_⟩
                        · rw [hl] at h0
                          refine ⟨by rw [h0.1]; simp, ?_⟩
                          rcases h0.2 with h | h
                          · rw [hup, hl] at h; cases h
                          · rw [hup] at h; exact h
                        · rw [hl] at h0
                          rw [h0.1]; simp
                      clear hx hup hbk
                      generalize (m2.block n').isSome = xs at HBN
                      have HLX := fun W hW => HLK.out W hW xjb
                      generalize m2.logged xjb = lx at HNX HLX
                      have HLX' : Hid (∀ W, Below wc.heap.size wc W → Calls Tryz.prog 102 #[.pointer (some ⟨p, 0, none⟩), .int .u64 xjb] W fun e w' => e = .returned (.bool lx) ∧ w' = W) := HLX
                      clear HLX
                      go_wp2_with (first
                        | (at_builtin; refine wpList_append_row rfl (.tmp 124) (.tmp 126) 57 rfl (fun k => wc.heap.size ≤ k) 36 (.int .u64 0) 1 8 Tryz.underlying57 info_u64 rfl (.slice aa acc.length ca) acc.length (acc.flatMap ncells) rfl (HV.out.alloc _) ⟨wr.heap.size, 0, none⟩ 1 1 [.int .u64 n'] rfl rfl one_cell (by simp [Value.oneCell']) (by omega) (by unfold maxLen; omega) (by omega) ?_; intro v1 w7 r7 f7; obtain ⟨a7, c7, rfl⟩ := r7.isSlice; have b7 : Hid (Below wc.heap.size wc w7) := own_below hb.out HV.out f7; have R7 : Hid _ := r7; clear r7 f7)
                        | (go_at_call 56; refine (HBN.out _ b7.out).mono ?_; rintro e w8 ⟨rfl, hb8⟩; have b8 : Hid (Below wc.heap.size wc (w8.alloc (.cells #[.int .i64 xv, .int .i64 xjv, .int .u64 xjb, .int .u64 x0, .int .u64 x1, .int .u64 x2, .int .u64 x3, .string xc] 41))) := bnext (bnext b7.out hb8) ((Below.refl _ _).alloc (Nat.le_refl _) _))
                        | (go_at_call 102; refine (HLX'.out _ b8.out).mono ?_; rintro e w9 ⟨rfl, hw9⟩; subst hw9))
                      go_roundg g
                      case measure => omega
                      case rel =>
                        refine ⟨lx, acc ++ [n'], xjb, rfl, rfl, ?_, b8, HNX, by simp; omega⟩
                        have hr9 : Row w8 (fun k => wc.heap.size ≤ k) 36 1 (.slice a7 (acc.length + 1) c7) (acc.length + 1) (acc.flatMap ncells ++ [.int .u64 n']) := (R7.out.reown (fun k hk => by
                          rcases (R7.out.ownS hk).1 with h | h
                          · exact (HV.out.ownS h).1
                          · have := hb.out.size; simp at h; omega)).below hb8
                        have := hr9.alloc (.cells #[.int .i64 xv, .int .i64 xjv, .int .u64 xjb, .int .u64 x0, .int .u64 x1, .int .u64 x2, .int .u64 x3, .string xc] 41)
                        simpa [ncells] using this
                  · have HAC : Hid (MM = acc) := hI.out.2 rfl
                    have hal : acc.length ≤ m2.blocks.length + 1 := by omega
                    have HM6 : Hid (RMem wr p S B m2 out) := HM5.out.below hb.out
                    have HF6 : Hid (Fr S w wr) := HF5.out.trans (Fr.of_below (S := S) hb.out) (fun _ h => .inl h)
                    have HV6 : Hid (Row wr (fun i => ¬ S i) 36 1 (.slice aa acc.length ca) acc.length (acc.flatMap ncells)) := HV.out.reown (fun i hi hS => by
                      have h1 := (HV.out.ownS hi).1
                      have h2 := HLT.out i hS
                      have h3 := HF5.out.size
                      omega)
                    clear HV hb hI hlen HBK HLK HHL HM5 HF5 HWF2 HVW2
                    go_wp2
                    go_loopw [17] (fun s wr => ∃ (r : Nat) (S' : Nat → Prop), r ≤ acc.length ∧ s = .int .i64 ((r : Int) - 1) ∧ Hid (RMem wr p S' B { m2 with log := m2.log ++ acc.reverse.take (acc.length - r) } out) ∧ Hid (Grow S w S' ∧ Fr S w wr) ∧ Hid (Row wr (fun i => ¬ S' i) 36 1 (.slice aa acc.length ca) acc.length (acc.flatMap ncells))) (fun s _ => (intOf s + 1).toNat)
                    case atStart => exact ⟨acc.length, S, Nat.le_refl _, by go_num, by rw [Nat.sub_self, List.take_zero, List.append_nil]; exact HM6, ⟨Grow.refl _ _, HF6.out⟩, HV6⟩
                    case round =>
                      clear HM6 HF6 HV6
                      obtain ⟨r, S', hr, rfl, hM, hG, hV⟩ := hrel
                      rcases r with _ | j
                      · go_wp2
                        go_end0
                        rw [hE'.out, HAC.out]
                        have := hM.out
                        rw [Nat.sub_zero, List.take_of_length_le (by simp)] at this
                        exact ⟨rfl, S', this, hG.out.1, hG.out.2⟩
                      · have HTK : Hid (acc.reverse.take (acc.length - j) = acc.reverse.take (acc.length - (j + 1)) ++ [acc[j]'(by omega)]) := rev_take acc j (by omega)
                        obtain ⟨ga, oa, rfl, hga0, hga, hca⟩ := hV.out.place (by omega)
                        have qa : wr.cell? ⟨ga, oa + j, none⟩ = some (.int .u64 (acc[j]'(by omega) : Nat)) := by have := hV.out.elem ncells_len j 0 (by omega) (by omega); simpa [ncells] using this
                        obtain ⟨LL, hLL⟩ : ∃ l, l = m2.log ++ acc.reverse.take (acc.length - (j + 1)) := ⟨_, rfl⟩
                        have hll : LL.length ≤ 1700000000000 := by rw [hLL, List.length_append, List.length_take]; omega
                        have HNX : Hid (m2.log ++ acc.reverse.take (acc.length - j) = LL ++ [acc[j]'(by omega)]) := by
                          show _ = _
                          rw [HTK.out, hLL, List.append_assoc]
                        have hM' := hM.out
                        rw [← hLL] at hM'
                        generalize acc[j]'(by omega) = aj at *
                        obtain ⟨vb, vv, ve, vp, vl, vq, vo, h4, hO4⟩ := hM'
                        have hrl : Row wr S' 36 1 vl LL.length (LL.flatMap ncells) := h4.row 4 _ _ _ rfl rfl rfl
                        obtain ⟨al, cl, rfl⟩ := hrl.isSlice
                        have d21 : wr.cell? ⟨p, 21, none⟩ = some (.slice al LL.length cl) := cell_at h4.box 21
                        have d21a : ∀ o, (wr.alloc o).cell? ⟨p, 21, none⟩ = some (.slice al LL.length cl) := fun o => cell_at (h4.alloc o).box 21
                        have qaa : ∀ o, (wr.alloc o).cell? ⟨ga, oa + j, none⟩ = some (.int .u64 aj) := fun o => by rw [World.cell?_of_block (Below.heap_alloc wr o ga hga)]; exact qa
                        have fz := free_at h4.box
                        have HRL : Hid (Row wr S' 36 1 (.slice al LL.length cl) LL.length (LL.flatMap ncells)) := hrl
                        have H4 : Hid (Bun wr p 59 S' (rcells { m2 with log := LL } vb vv ve vp (.slice al LL.length cl) vq vo) [vb, vv, ve, vp, (.slice al LL.length cl), vq, vo] rE (rX { m2 with log := LL } out)) := h4
                        have HO4 : Hid (∀ k, vo.ownBlock = some k → B ≤ k) := hO4
                        have i1 : (0 : Int) ≤ (j : Int) := by omega
                        have i2 : (j : Int) < (acc.length : Int) := by omega
                        have i3 : ((j + 1 : Nat) : Int) - 1 = (j : Int) := by omega
                        clear h4 hrl hO4 hM hLL HTK
                        go_wp2
                        rw [i3]
                        go_region_law (refine step_append_row rfl (.tmp 148) (.tmp 153) 57 rfl S' 36 (.int .u64 0) 1 8 Tryz.underlying57 info_u64 rfl (.slice al LL.length cl) LL.length (LL.flatMap ncells) (by simp [Act.eval]) ((HRL.out.alloc _).drew) ⟨wr.heap.size, 0, none⟩ 1 1 [.int .u64 aj] (by simp [Act.eval]) rfl (new_cells _ _ _ rfl) (by simp [Value.oneCell']) (by omega) (by unfold maxLen; omega) (by omega) ?_; intro v' w7 hr' hf; obtain ⟨a7, cp7, rfl⟩ := hr'.isSlice; have hb7 := ((H4.out.alloc _).drew).after 4 rfl hf; have q7 : w7.cell? ⟨p, 21, none⟩ = some (.slice al LL.length cl) := cell_at hb7 21; have fz7 := free_at hb7; clear hb7; have R7 : Hid _ := hr'; have F7 : Hid (Fr _ _ w7) := hf; clear hr' hf)
                        all_goals (
                          have hB7 := ((H4.out.alloc _).drew).put (C' := rcells { m2 with log := LL ++ [aj] } vb vv ve vp (.slice a7 (LL.length + 1) cp7) vq vo) (V' := [vb, vv, ve, vp, (.slice a7 (LL.length + 1) cp7), vq, vo]) (X' := rX { m2 with log := LL ++ [aj] } out) 4 rfl rfl _ (LL.length + 1, LL.flatMap ncells ++ [.int .u64 aj]) R7.out F7.out 21 rfl rfl (by simp [rX, ncells])
                          have hG7 : Grow S' wr (fun k => S' k ∨ (Value.slice a7 (LL.length + 1) cp7).ownBlock = some k) := grow_put R7.out (by simp [World.drew]) (fun k hk => (HRL.out.ownS hk).1)
                          have hF7 := ((H4.out.alloc _).drew).frPut (S := S') (w := wr) ((Fr.alloc S' wr _).trans (Fr.drew S' _) (fun _ hi => .inl hi)) 4 rfl F7.out 21 (.slice a7 (LL.length + 1) cp7)
                          have HB7 : Hid _ := hB7
                          have HG7 : Hid _ := hG7
                          have HF7 : Hid _ := hF7
                          clear hB7 hG7 hF7 R7 F7 q7 fz7 d21a qaa
                          go_wp2
                          go_roundw
                          case rel =>
                            refine ⟨j, _, by omega, by go_num, ?_, ⟨hG.out.1.trans hG.out.2.size HG7.out, hG.out.2.grow hG.out.1 HF7.out⟩, ?_⟩
                            · rw [HNX.out]
                              exact ⟨vb, vv, ve, vp, _, vq, vo, HB7.out, HO4.out⟩
                            · refine hV.out.move (fun i hi => ⟨HF7.out.block i (hV.out.ownS hi).2 (hV.out.ownS hi).1, fun h => ?_⟩)
                              rcases HG7.out i h with h1 | h1
                              · exact (hV.out.ownS hi).1 h1
                              · have := (hV.out.ownS hi).2; omega
                          case measure => simp [intOf])
            · have HE : Hid (Rm = m2) := by show Rm = m2; rw [HRm.out, if_pos rfl]
              go_wp2
              refine bodyPost_ret (results_none rfl _ _ _) rfl ?_
              rw [HE.out]
              exact ⟨rfl, S, HM4.out, Grow.refl _ _, HF4.out⟩
end Go.Proofs.YtkehpnobidendaaGreatDoor

namespace Go.Proofs.YtkehpnobidendaaGreatDoor

/-- Where a number stands first (the length, where it does not). -/
def idx (n : Nat) : List (Nat × Blk) → Nat
  | [] => 0
  | (k, _) :: r => if k = n then 0 else idx n r + 1
theorem find_idx {n : Nat} {b : Blk} : ∀ {l : List (Nat × Blk)}, find n l = some b → ∃ h : idx n l < l.length, l[idx n l] = (n, b)
  | [], h => by cases h
  | (k, c) :: r, h => by
    by_cases hk : k = n
    · have e : idx n ((k, c) :: r) = 0 := by simp [idx, hk]
      have e2 : c = b := by simpa [find, hk] using h
      subst e2
      exact ⟨by rw [e]; simp, by simp only [e]; simp [hk]⟩
    · have e : idx n ((k, c) :: r) = idx n r + 1 := by simp [idx, hk]
      have h' : find n r = some b := by simpa [find, hk] using h
      obtain ⟨h1, h2⟩ := find_idx h'
      exact ⟨by rw [e]; simp; omega, by simp only [e]; simpa using h2⟩
theorem idx_mem {n : Nat} : ∀ {l : List (Nat × Blk)} {i : Nat}, n ∈ (l.take i).map (·.1) → idx n l < i ∧ (find n l).isSome = true
  | [], i, h => by simp at h
  | (k, c) :: r, 0, h => by simp at h
  | (k, c) :: r, i + 1, h => by
    by_cases hk : k = n
    · exact ⟨by simp [idx, hk], by simp [find, hk]⟩
    · have h' : n ∈ (r.take i).map (·.1) := by
        simp only [List.take_succ_cons, List.map_cons, List.mem_cons] at h
        rcases h with h | h
        · exact absurd h.symm hk
        · exact h
      have := idx_mem h'
      exact ⟨by simp [idx, hk]; omega, by simp [find, hk]; exact this.2⟩
theorem find_mem {n : Nat} {b : Blk} {l : List (Nat × Blk)} (h : find n l = some b) : (n, b) ∈ l := by
  obtain ⟨h1, h2⟩ := find_idx h
  rw [← h2]; exact List.getElem_mem _
theorem find_append {n : Nat} (l r : List (Nat × Blk)) : find n (l ++ r) = (find n l).or (find n r) := by
  induction l with
  | nil => rfl
  | cons a s ih =>
    obtain ⟨k, b⟩ := a
    simp only [List.cons_append, find]
    split
    · rfl
    · exact ih
theorem mem_num {n : Nat} {l : List (Nat × Blk)} (h : (find n l).isSome = true) : n ∈ l.map (·.1) := by
  obtain ⟨b, hb⟩ := Option.isSome_iff_exists.1 h
  exact List.mem_map.2 ⟨(n, b), find_mem hb, rfl⟩

/-- What holds of a member's blocks. -/
structure Chain (l : List (Nat × Blk)) : Prop where
  head : ∃ r, l = (0, Blk.zero) :: r
  par : ∀ (i : Nat) (h : i < l.length), 0 < i → (l[i]).2.just.block ∈ (l.take i).map (·.1)
  vw : ∀ x ∈ l, 0 ≤ x.2.view ∧ x.2.view ≤ 1000 ∧ x.2.Ok ∧ x.2.cmd.size ≤ 16
  js : ∀ x ∈ l, 0 ≤ x.2.just.view ∧ ∃ p, find x.2.just.block l = some p ∧ p.view = x.2.just.view
theorem chain_start : Chain [(0, Blk.zero)] :=
  ⟨⟨[], rfl⟩, fun i h h0 => by simp at h; omega, fun x hx => by
    simp at hx; subst hx
    exact ⟨by decide, by decide, ⟨by decide, by decide, ⟨by decide, by decide, by decide⟩, by decide⟩, by decide⟩, fun x hx => by
    simp at hx; subst hx
    exact ⟨by decide, Blk.zero, rfl, rfl⟩⟩
theorem Chain.snoc {l : List (Nat × Blk)} (h : Chain l) (n : Nat) (b : Blk) (hj : 0 ≤ b.just.view ∧ ∃ p, find b.just.block l = some p ∧ p.view = b.just.view) (hv : 0 ≤ b.view ∧ b.view ≤ 1000 ∧ b.Ok ∧ b.cmd.size ≤ 16) : Chain (l ++ [(n, b)]) := by
  have hk : (find b.just.block l).isSome = true := by obtain ⟨_, p, h1, _⟩ := hj; rw [h1]; rfl
  obtain ⟨r, rfl⟩ := h.head
  refine ⟨⟨r ++ [(n, b)], rfl⟩, fun i hi h0 => ?_, fun x hx => ?_, fun x hx => ?_⟩
  · by_cases hl : i < ((0, Blk.zero) :: r).length
    · have := h.par i hl h0
      rw [List.getElem_append_left hl, List.take_append_of_le_length (by omega)]
      exact this
    · have e : i = ((0, Blk.zero) :: r).length := by simp at hi hl ⊢; omega
      subst e
      rw [List.take_left, List.getElem_append_right (Nat.le_refl _)]
      simp only [Nat.sub_self, List.getElem_cons_zero]
      exact mem_num hk
  · rcases List.mem_append.1 hx with h1 | h1
    · exact h.vw x h1
    · simp at h1; subst h1; exact hv
  · have up1 : ∀ k p, find k ((0, Blk.zero) :: r) = some p → find k ((0, Blk.zero) :: r ++ [(n, b)]) = some p := fun k p hp => by rw [find_append, hp]; rfl
    rcases List.mem_append.1 hx with h1 | h1
    · obtain ⟨h2, p, h3, h4⟩ := h.js x h1
      exact ⟨h2, p, up1 _ _ h3, h4⟩
    · simp at h1; subst h1
      obtain ⟨h2, p, h3, h4⟩ := hj
      exact ⟨h2, p, up1 _ _ h3, h4⟩
/-- The way up from a known block ends within as many steps as its place says. -/
theorem halts_mono {m : Mem} {old : Nat} : ∀ {f g n : Nat}, f ≤ g → m.halts old f n → m.halts old g n
  | 0, _, _, _, h => h.elim
  | f + 1, 0, _, hfg, _ => by omega
  | f + 1, g + 1, n, hfg, h => by
    rcases h with h | h | h
    · exact .inl h
    · exact .inr (.inl h)
    · exact .inr (.inr (halts_mono (by omega) h))
theorem halts_at {m : Mem} (hc : Chain m.blocks) (old : Nat) : ∀ (i n : Nat) (b : Blk), m.block n = some b → idx n m.blocks = i → m.halts old (i + 1) n := by
  intro i
  induction i using Nat.strongRecOn with
  | _ i ih =>
    intro n b hb hi
    obtain ⟨h1, h2⟩ := find_idx hb
    by_cases h0 : i = 0
    · subst h0
      obtain ⟨r, hr⟩ := hc.head
      right; left
      have : m.blocks[idx n m.blocks].1 = n := by rw [h2]
      have e : m.blocks[idx n m.blocks] = m.blocks[0]'(by omega) := by congr 1
      rw [e] at this
      simp only [hr, List.getElem_cons_zero] at this
      exact this.symm
    · right; right
      have hp := hc.par (idx n m.blocks) h1 (by omega)
      rw [h2] at hp
      have hu : m.up n = b.just.block := by unfold Mem.up; rw [hb]; rfl
      have h3 : idx b.just.block m.blocks < idx n m.blocks ∧ (find b.just.block m.blocks).isSome = true := idx_mem hp
      obtain ⟨c, hcb⟩ := Option.isSome_iff_exists.1 h3.2
      have h4 := ih (idx b.just.block m.blocks) (by omega) b.just.block c hcb rfl
      rw [hu]
      exact halts_mono (by omega) h4
theorem halts_all {m : Mem} (hc : Chain m.blocks) (old n : Nat) : m.halts old (m.blocks.length + 1) n := by
  cases hb : m.block n with
  | none =>
    have hu : m.up n = 0 := by unfold Mem.up; rw [hb]; rfl
    obtain ⟨r, hr⟩ := hc.head
    right; right
    rw [hu, hr]
    exact .inr (.inl rfl)
  | some b =>
    have h1 := (find_idx hb).1
    exact halts_mono (by omega) (halts_at hc old _ n b hb rfl)
theorem view_all {m : Mem} (hc : Chain m.blocks) (n : Nat) : 0 ≤ ((m.block n).getD Blk.zero).view ∧ ((m.block n).getD Blk.zero).view ≤ 1000 := by
  cases hb : m.block n with
  | none => exact ⟨by decide, by decide⟩
  | some b => have := hc.vw _ (find_mem hb); exact ⟨this.1, this.2.1⟩

/-- A certificate of a member: its block is known, of its view. -/
structure Held (m : Mem) (c : Crt) : Prop where
  v0 : 0 ≤ c.view
  ok : c.Ok
  known : ∃ b, m.block c.block = some b ∧ b.view = c.view
/-- What holds of every member. -/
structure Inv (m : Mem) : Prop where
  i0 : 0 ≤ m.id
  i1 : m.id ≤ 3
  p0 : 1 ≤ m.patience
  p1 : m.patience ≤ 100
  v0 : 1 ≤ m.view
  v1 : m.view ≤ 1000
  t0 : 0 ≤ m.voted
  t1 : m.voted ≤ 1000
  w0 : 0 ≤ m.waited
  ch : Chain m.blocks
  hi : Held m m.high
  lk : Held m m.locked
  qc : ∀ c ∈ m.queue, c.size ≤ 16
  ql : m.queue.length ≤ 8
  nd : m.log.Nodup
  lg : ∀ n ∈ m.log, n ≠ 0 ∧ (m.block n).isSome = true
  vt : ∀ t ∈ m.votes, 0 ≤ t.fro ∧ t.fro ≤ 3
theorem zero_known {m : Mem} (hc : Chain m.blocks) : m.block 0 = some Blk.zero := by
  obtain ⟨r, hr⟩ := hc.head
  unfold Mem.block; rw [hr]; rfl
theorem held_zero {m : Mem} (hc : Chain m.blocks) : Held m Crt.zero := ⟨by decide, ⟨by decide, by decide, by decide⟩, ⟨Blk.zero, zero_known hc, rfl⟩⟩
theorem inv_new (id patience : Int) (h : 0 ≤ id ∧ id ≤ 3 ∧ 1 ≤ patience ∧ patience ≤ 100) : Inv (Mem.new id patience) :=
  ⟨h.1, h.2.1, h.2.2.1, h.2.2.2, (by decide : (1 : Int) ≤ 1), (by decide : (1 : Int) ≤ 1000), (by decide : (0 : Int) ≤ 0), (by decide : (0 : Int) ≤ 1000), (by decide : (0 : Int) ≤ 0), chain_start, held_zero (m := Mem.new id patience) chain_start, held_zero (m := Mem.new id patience) chain_start, (fun c hc => by cases hc), (by decide : (0 : Nat) ≤ 8), List.nodup_nil, (fun n hn => by cases hn), (fun t ht => by cases ht)⟩
theorem Held.of_blocks {m m' : Mem} {c : Crt} (h : Held m c) (hb : ∀ n b, m.block n = some b → m'.block n = some b) : Held m' c := by
  obtain ⟨b, h1, h2⟩ := h.known
  exact ⟨h.v0, h.ok, b, hb _ _ h1, h2⟩
/-- A step that turns neither blocks nor log. -/
theorem Inv.same {m m' : Mem} (h : Inv m) (hb : m'.blocks = m.blocks) (hl : m'.log = m.log) (hi : m'.id = m.id) (hp : m'.patience = m.patience) (hv : 1 ≤ m'.view ∧ m'.view ≤ 1000) (ht : 0 ≤ m'.voted ∧ m'.voted ≤ 1000) (hw : 0 ≤ m'.waited) (hh : Held m m'.high) (hk : Held m m'.locked) (hq : ∀ c ∈ m'.queue, c.size ≤ 16) (hq2 : m'.queue.length ≤ 8) (hvt : ∀ t ∈ m'.votes, 0 ≤ t.fro ∧ t.fro ≤ 3) : Inv m' := by
  have hbb : ∀ n b, m.block n = some b → m'.block n = some b := fun n b h1 => by unfold Mem.block at *; rw [hb]; exact h1
  exact ⟨by rw [hi]; exact h.i0, by rw [hi]; exact h.i1, by rw [hp]; exact h.p0, by rw [hp]; exact h.p1, hv.1, hv.2, ht.1, ht.2, hw, by rw [hb]; exact h.ch, hh.of_blocks hbb, hk.of_blocks hbb, hq, hq2, by rw [hl]; exact h.nd, fun n hn => by
    rw [hl] at hn
    have := h.lg n hn
    exact ⟨this.1, by unfold Mem.block at *; rw [hb]; exact this.2⟩, hvt⟩
theorem inv_submit {m : Mem} (h : Inv m) (c : ByteArray) : Inv (m.submit c).1 := by
  unfold Mem.submit
  split
  · exact h
  · split
    · exact h
    · rename_i h1 h2
      exact h.same rfl rfl rfl rfl ⟨h.v0, h.v1⟩ ⟨h.t0, h.t1⟩ h.w0 h.hi h.lk (fun x hx => by
        rcases List.mem_append.1 hx with h3 | h3
        · exact h.qc x h3
        · simp at h3; subst h3; omega) (by simp; omega) h.vt
theorem inv_enter {m : Mem} (h : Inv m) (v : Int) (hv : 1 ≤ v ∧ v ≤ 1000) : Inv (m.enter v) :=
  h.same rfl rfl rfl rfl hv ⟨h.t0, h.t1⟩ (Int.le_refl 0) h.hi h.lk h.qc h.ql h.vt
theorem knows_keeps {m : Mem} {b : Blk} {n : Nat} {x : Blk} (h : m.block n = some x) : (m.knows b).block n = some x := by
  unfold Mem.knows
  split
  · exact h
  · unfold Mem.block at *
    show find n (m.blocks ++ [(b.num, b)]) = some x
    rw [find_append, h]; rfl
theorem inv_knows {m : Mem} (h : Inv m) (b : Blk) (hk : Held m b.just) (hv : 0 ≤ b.view ∧ b.view ≤ 1000 ∧ b.Ok ∧ b.cmd.size ≤ 16) : Inv (m.knows b) := by
  have hkeep : ∀ n x, m.block n = some x → (m.knows b).block n = some x := fun n x hx => knows_keeps hx
  by_cases hs : (m.block b.num).isSome = true
  · have e : m.knows b = m := by unfold Mem.knows; rw [if_pos hs]
    rw [e]; exact h
  · have e : m.knows b = { m with blocks := m.blocks ++ [(b.num, b)] } := by unfold Mem.knows; rw [if_neg hs]
    have hh := h.hi.of_blocks hkeep
    have hl := h.lk.of_blocks hkeep
    have hg : ∀ n ∈ m.log, n ≠ 0 ∧ ((m.knows b).block n).isSome = true := fun n hn => by
      have := h.lg n hn
      obtain ⟨x, hx⟩ := Option.isSome_iff_exists.1 this.2
      exact ⟨this.1, by rw [hkeep n x hx]; rfl⟩
    rw [e] at hh hl hg ⊢
    exact ⟨h.i0, h.i1, h.p0, h.p1, h.v0, h.v1, h.t0, h.t1, h.w0, h.ch.snoc _ b ⟨hk.v0, hk.known⟩ hv, hh, hl, h.qc, h.ql, h.nd, hg, h.vt⟩
theorem inv_ends {m : Mem} (h : Inv m) : Inv m.ends.1 := by
  cases hm : m.may with
  | false => rw [ends_no hm]; exact h
  | true =>
    rw [ends_yes hm]
    have hn : Inv m.noted := h.same rfl rfl rfl rfl ⟨h.v0, h.v1⟩ ⟨h.t0, h.t1⟩ h.w0 h.hi h.lk (fun c hc => h.qc c (List.mem_of_mem_tail hc)) (by show m.queue.tail.length ≤ 8; have := h.ql; rw [List.length_tail]; omega) h.vt
    refine inv_knows hn m.next (h.hi.of_blocks (m' := m.noted) (fun _ _ h => h)) ⟨?_, h.v1, ⟨?_, ?_, h.hi.ok, headD_le h.qc⟩, ?_⟩
    · show 0 ≤ m.view; have := h.v0; omega
    · show -9223372036854775808 ≤ m.view; have := h.v0; omega
    · show m.view ≤ 9223372036854775807; have := h.v1; omega
    · show (m.queue.headD ⟨#[]⟩).size ≤ 16
      cases hq : m.queue with
      | nil => exact Nat.zero_le _
      | cons a r => exact h.qc a (by rw [hq]; simp)
/-- A known block's Just is held. -/
theorem just_held {m : Mem} (hc : Chain m.blocks) {n : Nat} {b : Blk} (hb : m.block n = some b) : Held m b.just := by
  have h1 := hc.js _ (find_mem hb)
  have h2 := hc.vw _ (find_mem hb)
  exact ⟨h1.1, h2.2.2.1.j, h1.2⟩
/-- The parent of a known block is known, and stands earlier. -/
theorem up_known {m : Mem} (hc : Chain m.blocks) {n : Nat} {b : Blk} (hb : m.block n = some b) (hn : n ≠ 0) : (m.block (m.up n)).isSome = true ∧ idx (m.up n) m.blocks < idx n m.blocks := by
  obtain ⟨h1, h2⟩ := find_idx hb
  have hu : m.up n = b.just.block := by unfold Mem.up; rw [hb]; rfl
  by_cases h0 : idx n m.blocks = 0
  · obtain ⟨r, hr⟩ := hc.head
    have h3 : m.blocks[idx n m.blocks].1 = n := by rw [h2]
    have e : m.blocks[idx n m.blocks] = m.blocks[0]'(by omega) := by congr 1
    rw [e] at h3
    simp only [hr, List.getElem_cons_zero] at h3
    exact absurd h3.symm hn
  · have hp := hc.par (idx n m.blocks) h1 (by omega)
    rw [h2] at hp
    have h3 : idx b.just.block m.blocks < idx n m.blocks ∧ (find b.just.block m.blocks).isSome = true := idx_mem hp
    rw [hu]
    exact ⟨h3.2, h3.1⟩
theorem logged_ne {m : Mem} {n : Nat} (h : m.logged n = false) : n ≠ 0 ∧ n ∉ m.log := by
  unfold Mem.logged at h
  simp only [Bool.or_eq_false_iff, List.contains_eq_mem, decide_eq_false_iff_not, beq_eq_false_iff_ne] at h
  exact ⟨h.2, h.1⟩
/-- What is gathered: known blocks that are not in the log, each once, each no later than the first. -/
theorem more_props {m : Mem} (hc : Chain m.blocks) : ∀ (f n : Nat), (m.block n).isSome = true → m.logged n = false → (∀ x ∈ m.more f n, (m.block x).isSome = true ∧ m.logged x = false ∧ idx x m.blocks ≤ idx n m.blocks) ∧ (m.more f n).Nodup
  | 0, n, _, _ => ⟨(fun x hx => by cases hx), List.nodup_nil⟩
  | f + 1, n, hk, hl => by
    obtain ⟨b, hb⟩ := Option.isSome_iff_exists.1 hk
    have hu := up_known hc hb (logged_ne hl).1
    have e : m.more (f + 1) n = n :: (if m.logged (m.up n) then [] else m.more f (m.up n)) := rfl
    rw [e]
    cases hlu : m.logged (m.up n) with
    | true =>
      simp only [if_true]
      exact ⟨fun x hx => by simp at hx; subst hx; exact ⟨hk, hl, Nat.le_refl _⟩, by simp⟩
    | false =>
      have ih := more_props hc f (m.up n) hu.1 hlu
      simp only [Bool.false_eq_true, if_false]
      refine ⟨fun x hx => ?_, List.nodup_cons.2 ⟨fun hx => ?_, ih.2⟩⟩
      · rcases List.mem_cons.1 hx with h1 | h1
        · subst h1; exact ⟨hk, hl, Nat.le_refl _⟩
        · have := ih.1 x h1; exact ⟨this.1, this.2.1, by have := hu.2; omega⟩
      · have := (ih.1 n hx).2.2
        have := hu.2
        omega
theorem inv_commit {m : Mem} (h : Inv m) (b : Blk) (hb : (m.block b.just.block).isSome = true) : Inv (m.commit b) := by
  obtain ⟨p, hp⟩ := Option.isSome_iff_exists.1 hb
  rw [commit_is m b p ((m.block p.just.block).getD Blk.zero) (by rw [hp]; rfl) rfl]
  split
  · exact h
  · split
    · exact h
    · rename_i h1 h2
      have hl : m.logged p.just.block = false := by
        unfold Mem.shuns at h1
        cases hx : m.logged p.just.block with
        | false => rfl
        | true => rw [hx] at h1; simp at h1
      obtain ⟨d, hd, _⟩ := (just_held h.ch hp).known
      have hm := more_props h.ch (m.blocks.length + 1) p.just.block (by rw [hd]; rfl) hl
      refine ⟨h.i0, h.i1, h.p0, h.p1, h.v0, h.v1, h.t0, h.t1, h.w0, h.ch, h.hi.of_blocks (fun _ _ h => h), h.lk.of_blocks (fun _ _ h => h), h.qc, h.ql, ?_, fun n hn => ?_, h.vt⟩
      · show (m.log ++ (m.more (m.blocks.length + 1) p.just.block).reverse).Nodup
        rw [List.nodup_append]
        refine ⟨h.nd, (List.reverse_perm _).nodup_iff.2 hm.2, fun a ha c hc e => ?_⟩
        subst e
        exact (logged_ne (hm.1 a (List.mem_reverse.1 hc)).2.1).2 ha
      · rcases List.mem_append.1 hn with h3 | h3
        · exact h.lg n h3
        · have := hm.1 n (List.mem_reverse.1 h3)
          exact ⟨(logged_ne this.2.1).1, this.1⟩
theorem inv_learn {m : Mem} (h : Inv m) (c : Crt) (hc : Held m c) : Inv (m.learn c) := by
  have h1 : Inv (m.high1 c) := by
    unfold Mem.high1
    split
    · exact h.same rfl rfl rfl rfl ⟨h.v0, h.v1⟩ ⟨h.t0, h.t1⟩ h.w0 hc h.lk h.qc h.ql h.vt
    · exact h
  rw [learn_is]
  split
  · exact h1
  · obtain ⟨b, hb, _⟩ := hc.known
    have hb1 : (m.high1 c).block c.block = some b := by rw [high1_block]; exact hb
    dsimp only
    rw [hb1]
    simp only [Option.getD_some]
    have hj := just_held h1.ch hb1
    have h2 : Inv ((m.high1 c).lock1 b) := by
      unfold Mem.lock1
      split
      · exact h1.same rfl rfl rfl rfl ⟨h1.v0, h1.v1⟩ ⟨h1.t0, h1.t1⟩ h1.w0 h1.hi hj h1.qc h1.ql h1.vt
      · exact h1
    split
    · exact h2
    · obtain ⟨p, hp, _⟩ := hj.known
      exact inv_commit h2 b (by rw [lock1_block, hp]; rfl)
theorem inv_tick {m : Mem} (h : Inv m) : Inv m.tick.1 := by
  have hw : Inv ({ m with waited := m.waited + 1 } : Mem) := h.same rfl rfl rfl rfl ⟨h.v0, h.v1⟩ ⟨h.t0, h.t1⟩ (by show 0 ≤ m.waited + 1; have := h.w0; omega) h.hi h.lk h.qc h.ql h.vt
  by_cases hc : m.patience ≤ m.waited + 1 ∧ m.view < 1000
  · rw [tick_yes hc.1 hc.2]
    exact inv_ends (inv_enter hw _ ⟨by have := h.v0; omega, by have := hc.2; omega⟩)
  · rw [tick_no hc]
    exact inv_ends hw
/-- What learning leaves as it was. -/
structure Keeps (m m' : Mem) : Prop where
  i : m'.id = m.id
  p : m'.patience = m.patience
  v : m'.view = m.view
  t : m'.voted = m.voted
  w : m'.waited = m.waited
  b : m'.blocks = m.blocks
  vs : m'.votes = m.votes
  es : m'.enters = m.enters
  pr : m'.proposed = m.proposed
  q : m'.queue = m.queue
theorem Keeps.refl (m : Mem) : Keeps m m := ⟨rfl, rfl, rfl, rfl, rfl, rfl, rfl, rfl, rfl, rfl⟩
theorem Keeps.trans {a b c : Mem} (h : Keeps a b) (g : Keeps b c) : Keeps a c := ⟨g.i.trans h.i, g.p.trans h.p, g.v.trans h.v, g.t.trans h.t, g.w.trans h.w, g.b.trans h.b, g.vs.trans h.vs, g.es.trans h.es, g.pr.trans h.pr, g.q.trans h.q⟩
theorem high1_keeps (m : Mem) (c : Crt) : Keeps m (m.high1 c) := by unfold Mem.high1; split <;> exact ⟨rfl, rfl, rfl, rfl, rfl, rfl, rfl, rfl, rfl, rfl⟩
theorem lock1_keeps (m : Mem) (b : Blk) : Keeps m (m.lock1 b) := by unfold Mem.lock1; split <;> exact ⟨rfl, rfl, rfl, rfl, rfl, rfl, rfl, rfl, rfl, rfl⟩
theorem commit_keeps (m : Mem) (b : Blk) : Keeps m (m.commit b) := by
  rw [commit_is m b _ _ rfl rfl]
  split
  · exact .refl m
  · split
    · exact .refl m
    · exact ⟨rfl, rfl, rfl, rfl, rfl, rfl, rfl, rfl, rfl, rfl⟩
theorem learn_keeps (m : Mem) (c : Crt) : Keeps m (m.learn c) := by
  rw [learn_is]
  split
  · exact high1_keeps m c
  · dsimp only
    split
    · exact (high1_keeps m c).trans (lock1_keeps _ _)
    · exact ((high1_keeps m c).trans (lock1_keeps _ _)).trans (commit_keeps _ _)
theorem put_same (c : Crt) (i s : Int) : (c.put i s).view = c.view ∧ (c.put i s).block = c.block := by
  unfold Crt.put
  split
  · exact ⟨rfl, rfl⟩
  · split
    · exact ⟨rfl, rfl⟩
    · split <;> exact ⟨rfl, rfl⟩
theorem puts_same : ∀ (l : List Tk) (c : Crt), (l.foldl (fun (c : Crt) t => c.put t.fro t.sl) c).view = c.view ∧ (l.foldl (fun (c : Crt) t => c.put t.fro t.sl) c).block = c.block
  | [], _ => ⟨rfl, rfl⟩
  | t :: r, c => by
    have h1 := puts_same r (c.put t.fro t.sl)
    have h2 := put_same c t.fro t.sl
    exact ⟨h1.1.trans h2.1, h1.2.trans h2.2⟩
theorem inv_proposal {m : Mem} (h : Inv m) (x : Msg) (hx : x.block.Ok) : Inv (m.proposal x).1 := by
  unfold Mem.proposal
  dsimp only
  split
  · exact h
  · rename_i h1
    split
    · exact h
    · split
      · exact h
      · rename_i p hp
        split
        · exact h
        · rename_i h3
          split
          · exact h
          · have hx1 : 1 ≤ x.view ∧ x.view ≤ 1000 := ⟨by omega, by omega⟩
            have hh : Held m x.block.just := ⟨by omega, hx.j, p, hp, by simpa using h3⟩
            have hk : Inv (m.knows x.block) := inv_knows h x.block hh ⟨by omega, by omega, hx, by omega⟩
            have hl : Inv ((m.knows x.block).learn x.block.just) := inv_learn hk _ (hh.of_blocks fun n b hb => knows_keeps hb)
            refine inv_enter ?_ _ ?_
            · split
              · exact hl.same rfl rfl rfl rfl ⟨hl.v0, hl.v1⟩ ⟨by show 0 ≤ x.view; omega, hx1.2⟩ hl.w0 hl.hi hl.lk hl.qc hl.ql hl.vt
              · exact hl
            · split <;> omega
theorem inv_vote {m : Mem} (h : Inv m) (x : Msg) (hx : x.number < 18446744073709551616) : Inv (m.vote x).1 := by
  unfold Mem.vote
  dsimp only
  split
  · exact h
  · rename_i h1
    split
    · exact h
    · split
      · exact h
      · rename_i b hb
        split
        · exact h
        · rename_i h3
          split
          · exact h
          · split
            · exact h
            · have hx1 : 1 ≤ x.view ∧ x.view ≤ 999 := ⟨by omega, by omega⟩
              have hm1 : Inv ({ m with votes := m.votes ++ [⟨x.fro, x.view, x.number, x.sl⟩] } : Mem) := h.same rfl rfl rfl rfl ⟨h.v0, h.v1⟩ ⟨h.t0, h.t1⟩ h.w0 h.hi h.lk h.qc h.ql (fun t ht => by
                rcases List.mem_append.1 ht with h4 | h4
                · exact h.vt t h4
                · simp at h4; subst h4; exact ⟨by show 0 ≤ x.fro; omega, by show x.fro ≤ 3; omega⟩)
              split
              · have e1 := put_same ((m.votesFor x.number).foldl (fun (c : Crt) t => c.put t.fro t.sl) { Crt.zero with view := x.view, block := x.number }) x.fro x.sl
                have e2 := puts_same (m.votesFor x.number) { Crt.zero with view := x.view, block := x.number }
                have ev := e1.1.trans e2.1
                have eb := e1.2.trans e2.2
                dsimp only at ev eb
                have hl := inv_learn hm1 (((m.votesFor x.number).foldl (fun (c : Crt) t => c.put t.fro t.sl) { Crt.zero with view := x.view, block := x.number }).put x.fro x.sl) ⟨by rw [ev]; omega, ⟨by rw [ev]; omega, by rw [ev]; omega, by rw [eb]; exact hx⟩, b, by rw [eb]; exact hb, by rw [ev]; simpa using h3⟩
                dsimp only
                split
                · exact inv_enter hl _ ⟨by omega, by omega⟩
                · exact hl
              · exact hm1
theorem inv_enters1 {m : Mem} (h : Inv m) (x : Msg) (hx : x.cert.Ok) : Inv (m.enters1 x).1 := by
  unfold Mem.enters1
  dsimp only
  split
  · exact h
  · rename_i h1
    split
    · exact h
    · split
      · exact h
      · rename_i b hb
        split
        · exact h
        · rename_i h3
          split
          · exact h
          · split
            · exact h
            · have hm1 : Inv ({ m with enters := m.enters ++ [⟨x.fro, x.view, 0, 0⟩] } : Mem) := h.same rfl rfl rfl rfl ⟨h.v0, h.v1⟩ ⟨h.t0, h.t1⟩ h.w0 h.hi h.lk h.qc h.ql h.vt
              have hl := inv_learn hm1 x.cert ⟨by omega, hx, b, hb, by simpa using h3⟩
              split
              · exact inv_enter hl _ ⟨by omega, by omega⟩
              · exact hl
/-- A message whose numbers are of the language. -/
structure Msg.Ok (x : Msg) : Prop where
  b : x.block.Ok
  n : x.number < 18446744073709551616
  c : x.cert.Ok
theorem inv_takes {m : Mem} (h : Inv m) (x : Msg) (hx : x.Ok) : Inv (m.takes x).1 := by
  unfold Mem.takes
  split
  · exact inv_proposal h x hx.b
  · split
    · exact inv_vote h x hx.n
    · split
      · exact inv_enters1 h x hx.c
      · exact h
theorem inv_handle {m : Mem} (h : Inv m) (x : Msg) (hx : x.Ok) : Inv (m.handle x).1 := inv_ends (inv_takes h x hx)

/-- How many a member keeps. -/
theorem knows_len (m : Mem) (b : Blk) : (m.knows b).blocks.length ≤ m.blocks.length + 1 := by
  unfold Mem.knows
  split
  · omega
  · simp
theorem ends_len (m : Mem) : m.ends.1.blocks.length ≤ m.blocks.length + 1 := by
  cases hm : m.may with
  | false => rw [ends_no hm]; simp
  | true => rw [ends_yes hm]; exact knows_len m.noted m.next
theorem takes_len (m : Mem) (x : Msg) : (m.takes x).1.blocks.length ≤ m.blocks.length + 1 := by
  unfold Mem.takes
  split
  · unfold Mem.proposal
    dsimp only
    repeat (first | (split; · exact Nat.le_succ _) | split)
    all_goals first
      | exact Nat.le_succ _
      | (show ((m.knows x.block).learn x.block.just).blocks.length ≤ _
         rw [(learn_keeps _ _).b]; exact knows_len m x.block)
  · split
    · unfold Mem.vote
      dsimp only
      repeat' split
      all_goals first
        | exact Nat.le_succ _
        | (show (Mem.learn _ _).blocks.length ≤ _; rw [(learn_keeps _ _).b]; exact Nat.le_succ _)
    · split
      · unfold Mem.enters1
        dsimp only
        repeat' split
        all_goals first
          | exact Nat.le_succ _
          | (show (Mem.learn _ _).blocks.length ≤ _; rw [(learn_keeps _ _).b]; exact Nat.le_succ _)
      · exact Nat.le_succ _
theorem handle_len (m : Mem) (x : Msg) : (m.handle x).1.blocks.length ≤ m.blocks.length + 2 := by
  have h1 := ends_len (m.takes x).1
  have h2 := takes_len m x
  show (m.takes x).1.ends.1.blocks.length ≤ _
  omega
theorem len_of_sub : ∀ {l r : List Nat}, l.Nodup → (∀ x ∈ l, x ∈ r) → l.length ≤ r.length
  | [], _, _, _ => Nat.zero_le _
  | a :: l, r, h, hs => by
    obtain ⟨h1, h2⟩ := List.nodup_cons.1 h
    have ha : a ∈ r := hs a (by simp)
    have ih := len_of_sub (r := r.erase a) h2 (fun x hx => (List.mem_erase_of_ne (a := x) (b := a) (fun e => h1 (by rw [← e]; exact hx))).2 (hs x (by simp [hx])))
    rw [List.length_erase_of_mem ha] at ih
    have := List.length_pos_of_mem ha
    simp only [List.length_cons]
    omega
/-- The log holds no more than the blocks that are known. -/
theorem log_len {m : Mem} (h : Inv m) : m.log.length ≤ m.blocks.length := by
  have := len_of_sub (r := m.blocks.map (·.1)) h.nd (fun n hn => mem_num (h.lg n hn).2)
  simpa using this
end Go.Proofs.YtkehpnobidendaaGreatDoor
