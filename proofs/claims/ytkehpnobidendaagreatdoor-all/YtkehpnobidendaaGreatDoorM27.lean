/- The program's ahead: a function over yield, which gives the numbers of the blocks ahead of one. The program's isAhead. -/
import Derived.Test.YtkehpnobidendaaGreatDoorM19
import Derived.RangeFuncNested
import Derived.RangeFuncBound
import Derived.RangeFuncCalls
import Derived.RangeFuncLeaves
import Derived.Shelf.Abstract
import Derived.Shelf.RegionOpen
import Derived.WalkKit
import Derived.OwnWalkIn
import Derived.TacticsInMore
import Derived.LoopNIn
import Derived.LoopIn
import Derived.Maps.OwnIn
namespace Go.Proofs.YtkehpnobidendaaGreatDoor
open Go.RowKit Go.Maps Go.Shelf
attribute [local go_sem] Oper.semAt_some

abbrev U64 := { n : Nat // n < 18446744073709551616 }
/-- The numbers ahead of one, its parent first, the first block last. -/
def Ways (m : Mem) : Nat → List U64 → Prop
  | n, [] => n = 0
  | n, x :: r => n ≠ 0 ∧ x.1 = m.up n ∧ Ways m x.1 r
theorem Ways.unique {m : Mem} : ∀ {n : Nat} {xs ys : List U64}, Ways m n xs → Ways m n ys → xs = ys
  | _, [], [], _, _ => rfl
  | _, [], _ :: _, h, h' => absurd h h'.1
  | _, _ :: _, [], h, h' => absurd h' h.1
  | _, x :: xs, y :: ys, ⟨_, h2, h3⟩, ⟨_, g2, g3⟩ => by
    have e : x = y := Subtype.ext (h2.trans g2.symm)
    subst e
    rw [Ways.unique h3 g3]
open Classical in
noncomputable def Mem.dist (m : Mem) (n : Nat) : Nat := if h : ∃ r, Ways m n r then (Classical.choose h).length else 0
theorem Mem.dist_eq {m : Mem} {n : Nat} {xs : List U64} (h : Ways m n xs) : m.dist n = xs.length := by
  have hex : ∃ r, Ways m n r := ⟨xs, h⟩
  unfold Mem.dist
  rw [dif_pos hex, Ways.unique (Classical.choose_spec hex) h]
/-- What a round that goes on keeps. -/
structure Keep (n₀ bm : Nat) (W W' : World) : Prop where
  b : Below n₀ W W'
  m : W'.heap[bm]? = W.heap[bm]?
theorem Keep.refl (n₀ bm : Nat) (W : World) : Keep n₀ bm W W := ⟨Below.refl _ _, rfl⟩
theorem Keep.trans {n₀ bm : Nat} {A B C : World} (h : Keep n₀ bm A B) (g : Keep n₀ bm B C) : Keep n₀ bm A C := ⟨h.b.trans g.b, g.m.trans h.m⟩
theorem keep_b {n₀ bm : Nat} {w : World} (h : n₀ ≤ w.heap.size) (hb : bm < w.heap.size) (W : World) (l : Nat) (o o' : Obj) (hl : w.heap.size ≤ l) (ho : W.heap[l]? = some o) (h1 : o.isCells = false) (h2 : o.isWalk = false) : Keep n₀ bm W (W.putObj l o') :=
  ⟨belowK_b h W l o o' hl ho h1 h2, World.putObj_heap_other (by omega)⟩
/-- What it reads. -/
structure Sees (W : World) (p bm bb nn : Nat) (m : Mem) : Prop where
  box : W.heap[bm]? = some (.cells #[.pointer (some ⟨p, 0, none⟩)] 47 (0, 0))
  c : W.cell? ⟨p, 19, none⟩ = some (.map (some bb))
  mb : IMap Tryz.prog 36 .u64 isBlk W bb nn (bmap m)
theorem Sees.keep {W W' : World} {p bm bb nn n₀ : Nat} {m : Mem} (h : Sees W p bm bb nn m) (hk : Keep n₀ bm W W') (hp : p < n₀) (hb : bb < n₀) : Sees W' p bm bb nn m :=
  ⟨hk.m.trans h.box, (hk.b.cell (p := ⟨p, 19, none⟩) hp).trans h.c, h.mb.same (hk.b.block bb hb)⟩
theorem fld_just (a b c d e f g : Value) (h : Value) (w : World) : (Instr.field 41 (.agg #[a, b, c, d, e, f, g, h]) 1).run Tryz.prog w = .ok (.agg #[b, c, d, e, f, g]) w := by kernel_rfl
theorem fld_bview (a b c d e f g : Value) (h : Value) (w : World) : (Instr.field 41 (.agg #[a, b, c, d, e, f, g, h]) 0).run Tryz.prog w = .ok a w := by kernel_rfl
theorem fld_block (a b c d e f : Value) (w : World) : (Instr.field 39 (.agg #[a, b, c, d, e, f]) 1).run Tryz.prog w = .ok b w := by kernel_rfl
set_option maxRecDepth 100000 in
set_option maxHeartbeats 1000000 in
theorem pahead1 (n : Nat) (hn : 1 ≤ n) (l p bm bn bb nn n₀ : Nat) (m : Mem) (n1 : Nat) (hn1 : n1 < 18446744073709551616) (xs : List U64) (hx : Ways m n1 xs) (hp : p < n₀) (hbb : bb < n₀) (J Jx : List U64 → World → Prop)
    (hY : ∀ pre x W, J pre W → pre.length < xs.length → YieldAt Fence.wide (n - 1) Tryz.prog l #[.int .u64 (x : U64).1] W fun e W' =>
      (e = .returned (.bool true) ∧ J (pre ++ [x]) W' ∧ Keep n₀ bm W W') ∨ (e = .returned (.bool false) ∧ Jx (pre ++ [x]) W'))
    (W : World) (hbn : W.cell? ⟨bn, 0, none⟩ = some (.int .u64 n1)) (hS : Sees W p bm bb nn m) (h0 : J [] W) :
    CallsIn Fence.wide n Tryz.prog 123 #[.func (.yield l) #[] #[], .pointer (some ⟨bn, 0, none⟩), .pointer (some ⟨bm, 0, none⟩)] W fun e W' => (∃ v, e = .returned v) ∧
      ((∃ ys, ys = xs ∧ J ys W') ∨ (∃ pre, pre <+: xs ∧ Jx pre W')) := by
  refine callsIn_of_wp Tryz.func123 rfl trivial ?_ rfl
  simp only [Tryz.ntmps123, List.size_toArray, List.length_cons, List.length_nil, Nat.reduceAdd, Nat.reduceSub, Array.replicate_succ, Array.replicate_zero, List.push_toArray, List.append_toArray, List.nil_append, List.cons_append]
  have HS : Hid (Sees W p bm bb nn m) := hS
  have HX : Hid (Ways m n1 xs) := hx
  clear hS hx
  gi_wp2
  gi_loopw [4] (fun a wr => ∃ (pre rest : List U64) (k : Nat), a = .int .u64 k ∧ Hid (k < 18446744073709551616) ∧ Hid (xs = pre ++ rest) ∧ Hid (Ways m k rest) ∧ J pre wr ∧ Hid (Sees wr p bm bb nn m))
    (fun a _ => m.dist (intOf a).toNat)
  case atStart => exact ⟨[], xs, n1, rfl, hn1, rfl, HX.out, h0, HS.out⟩
  case round =>
    obtain ⟨pre, rest, k, rfl, hk, hxs, hw, hJ, hs⟩ := hrel
    cases rest with
    | nil =>
      obtain rfl : k = 0 := hw.out
      gi_wp2
      go_end0
      exact ⟨⟨_, rfl⟩, .inl ⟨pre, by rw [hxs.out]; simp, hJ⟩⟩
    | cons x rest =>
      obtain ⟨hk0, hxu, hwr⟩ := hw.out
      have hbx := cell_at hs.out.box 0
      simp at hbx
      have hc := hs.out.c
      obtain ⟨⟨xv, ⟨xjv, xjb, x0, x1, x2, x3⟩, xc⟩, hxb⟩ : ∃ y, y = (m.block k).getD Blk.zero := ⟨_, rfl⟩
      have hlk := hs.out.mb.look Tryz.underlying36 Tryz.underlying78 (zero_blk _) ⟨_, rfl⟩ k (wf_u64 hk.out)
      rw [bmap_get, ← hxb] at hlk
      dsimp only [Blk.val, Blk.cells] at hlk
      have hxj : x.1 = xjb := by rw [hxu]; unfold Mem.up; rw [← hxb]
      have hne : ((k : Int) != 0) = true := by simp; omega
      obtain ⟨fn, tmps, assign, body, hy, hR⟩ := hY pre x wr hJ (by rw [hxs.out]; simp)
      rw [hxj] at hy
      have HD : Hid (Ways m k (x :: rest)) := ⟨hk0, hxu, hwr⟩
      have HW : Hid (Ways m x.1 rest) := hwr
      clear hwr hxu hxb hw
      have hf1 := fld_just
      have hf2 := fld_block
      have hsz : xjb < 18446744073709551616 := hxj ▸ x.2
      gi_wp2
      refine hR.mono ?_
      rintro e W3 (⟨rfl, hJ3, hk3⟩ | ⟨rfl, hJx3⟩)
      · gi_wp2
        go_roundw
        case rel => exact ⟨pre ++ [x], rest, xjb, rfl, hsz, by rw [hxs.out]; exact (List.append_cons _ _ _), hxj ▸ HW.out, hJ3, hs.out.keep hk3 hp hbb⟩
        case measure =>
          have e1 : m.dist xjb = rest.length := Mem.dist_eq (hxj ▸ HW.out)
          have e2 : m.dist k = (x :: rest).length := Mem.dist_eq HD.out
          simp only [intOf, Int.toNat_natCast, e1, e2, List.length_cons]
          omega
      · gi_wp2
        refine bodyPost_ret (results_none rfl _ _ _) rfl ?_
        exact ⟨⟨_, rfl⟩, .inr ⟨pre ++ [x], ⟨rest, by rw [hxs.out]; simp⟩, hJx3⟩⟩
set_option maxHeartbeats 1000000 in
theorem pahead (n : Nat) (p : Nat) (k : Nat) (w : World) :
    CallsIn Fence.wide n Tryz.prog 120 #[.pointer (some ⟨p, 0, none⟩), .int .u64 k] w fun e w' => e = .returned (.func (.func 123) #[] #[.pointer (some ⟨w.heap.size + 1, 0, none⟩), .pointer (some ⟨w.heap.size, 0, none⟩)]) ∧ w' = (w.alloc (.cells #[.pointer (some ⟨p, 0, none⟩)] 47)).alloc (.cells #[.int .u64 k] 36) := by
  refine callsIn_of_wp Tryz.func120 rfl trivial ?_ rfl
  simp only [Tryz.ntmps120, List.size_toArray, List.length_cons, List.length_nil, Nat.reduceAdd, Nat.reduceSub, Array.replicate_succ, Array.replicate_zero, List.push_toArray, List.append_toArray, List.nil_append, List.cons_append]
  gi_wp2
  go_ret
  exact ⟨rfl, rfl⟩
theorem pahead_stops (n : Nat) (hn : 1 ≤ n) (p bm bn bb nn n₀ : Nat) (m : Mem) (n1 : Nat) (hn1 : n1 < 18446744073709551616) (xs : List U64) (hx : Ways m n1 xs) (hp : p < n₀) (hbb : bb < n₀) (w : World) (hbn : bn < w.heap.size) (hbm : bm < w.heap.size) (hn₀ : n₀ ≤ w.heap.size)
    (hc : w.cell? ⟨bn, 0, none⟩ = some (.int .u64 n1)) (hS : Sees w p bm bb nn m) :
    SeqStopsK Fence.wide n Tryz.prog 123 #[.pointer (some ⟨bn, 0, none⟩), .pointer (some ⟨bm, 0, none⟩)] (fun x : U64 => #[Value.int .u64 x.1]) (Keep n₀ bm) (fun ys => ys = xs) (fun pre => pre <+: xs) xs.length w := fun l J Jx W hW _ _ hY h0 =>
  pahead1 n hn l p bm bn bb nn n₀ m n1 hn1 xs hx hp hbb J Jx hY W ((hW.cell (p := ⟨bn, 0, none⟩) hbn).trans hc) (hS.keep ⟨hW.mono hn₀, hW.block bm hbm⟩ hp hbb) h0
end Go.Proofs.YtkehpnobidendaaGreatDoor

namespace Go.Proofs.YtkehpnobidendaaGreatDoor
open Go.RowKit Go.Maps Go.Shelf
attribute [local go_sem] Oper.semAt_some

theorem cell_box {W : World} {b : Nat} {v : Value} {t : TypeId} (h : W.heap[b]? = some (.cells #[v] t (0, 0))) : W.cell? ⟨b, 0, none⟩ = some v ∧ W.frozen? ⟨b, 0, none⟩ = false := by
  constructor <;> simp [World.cell?, World.frozen?, h]
/-- A block that is cells is no loop's. -/
theorem block_kept {W W' : World} {b : Nat} {C : Array Value} {t : TypeId} {z : Nat × Nat} (h : W.heap[b]? = some (.cells C t z)) {row : Option Nat} (hg : W.grownBy W' row) (hr : ∀ r, row = some r → ∃ o : Obj, W.heap[r]? = some o ∧ o.isCells = false) : W'.heap[b]? = some (.cells C t z) := by
  have hlt : b < W.heap.size := lt_at h
  refine (hg.block b hlt (fun e => ?_)).trans h
  obtain ⟨o, ho, hc⟩ := hr b e.symm
  rw [h] at ho
  cases ho
  simp [Obj.isCells] at hc
theorem new_at {w : World} {k : Nat} (o : Obj) (h : w.heap.size = k) : (w.alloc o).heap[k]? = some o := by subst h; exact heap_alloc_new w o
theorem new_box (W : World) (v : Value) (t : TypeId) : (W.alloc (.cells #[v] t)).heap[W.heap.size]? = some (.cells #[v] t (0, 0)) := heap_alloc_new _ _
/-- What the loop starts from: two boxes of the caller's, then those of ahead. -/
theorem sees_start {w W : World} {p : Nat} {S : Nat → Prop} {m : Mem} (h : PMem w p S m) (hW : Below w.heap.size w W) (k : Nat) : ∃ bb nn, bb < w.heap.size ∧ p < w.heap.size ∧ Sees ((W.alloc (.cells #[.pointer (some ⟨p, 0, none⟩)] 47)).alloc (.cells #[.int .u64 k] 36)) p W.heap.size bb nn m := by
  obtain ⟨vq, vl, bb, bv, bw, g1, g2⟩ := h.ex
  obtain ⟨nn, hnn, mb⟩ := g2.mb
  have hB : Below w.heap.size w ((W.alloc (.cells #[.pointer (some ⟨p, 0, none⟩)] 47)).alloc (.cells #[.int .u64 k] 36)) := bnext (bnext hW (below_alloc _ _)) (below_alloc _ _)
  refine ⟨bb, nn, g2.lts.1, lt_at g1.box, ?_, ?_, mb.below hB⟩
  · exact (Below.heap_alloc _ _ _ (by simp)).trans (new_box _ _ _)
  · exact (hB.cell (p := ⟨p, 19, none⟩) (lt_at g1.box)).trans (cell_at g1.box 19)
set_option maxRecDepth 100000 in
set_option maxHeartbeats 2000000 in
theorem pisAhead (w : World) (p : Nat) (S : Nat → Prop) (m : Mem) (h : PMem w p S m) (want of' : Nat) (ho : of' < 18446744073709551616) (xs : List U64) (hx : Ways m of' xs) :
    Calls Tryz.prog 115 #[.pointer (some ⟨p, 0, none⟩), .int .u64 want, .int .u64 of'] w fun e w' => e = .returned (.bool (decide (want ∈ xs.map (·.1)))) ∧ Below w.heap.size w w' := by
  refine (callsIn_wide (n := 3)).1 ?_
  refine callsIn_of_wp_marks Tryz.func115 rfl trivial ?_ rfl
  simp only [Tryz.ntmps115, List.size_toArray, List.length_cons, List.length_nil, Nat.reduceAdd, Nat.reduceSub, Array.replicate_succ, Array.replicate_zero, List.push_toArray, List.append_toArray, List.nil_append, List.cons_append]
  gi_wp2_with (refine ⟨trivial, ?_⟩; gi_at_call 120; refine (pahead _ _ _ _).mono ?_; rintro e w' ⟨rfl, rfl⟩)
  obtain ⟨W1, hW1⟩ : ∃ W1, W1 = (w.alloc (.cells #[.int .u64 want] 36)).alloc (.cells #[.bool false] 4) := ⟨_, rfl⟩
  have hB1 : Below w.heap.size w W1 := by rw [hW1]; exact bnext (below_alloc _ _) (below_alloc _ _)
  have hs1 : W1.heap.size = w.heap.size + 1 + 1 := by rw [hW1]; simp
  have b0 : W1.heap[w.heap.size]? = some (.cells #[.int .u64 want] 36 (0, 0)) := by rw [hW1]; exact (Below.heap_alloc _ _ _ (by simp)).trans (new_box _ _ _)
  have b1 : W1.heap[w.heap.size + 1]? = some (.cells #[.bool false] 4 (0, 0)) := by rw [hW1]; exact new_at _ (by simp)
  rw [← hW1, ← hs1]
  clear hW1
  obtain ⟨bb, nn, hbb, hpl, hse⟩ := sees_start h hB1 of'
  have b3 : ((W1.alloc (.cells #[.pointer (some ⟨p, 0, none⟩)] 47)).alloc (.cells #[.int .u64 of'] 36)).heap[W1.heap.size + 1]? = some (.cells #[.int .u64 of'] 36 (0, 0)) := new_at _ (by simp)
  obtain ⟨W2, hW2⟩ : ∃ W2, W2 = (W1.alloc (.cells #[.pointer (some ⟨p, 0, none⟩)] 47)).alloc (.cells #[.int .u64 of'] 36) := ⟨_, rfl⟩
  rw [← hW2] at hse b3 ⊢
  have hB2 : Below W1.heap.size W1 W2 := by rw [hW2]; exact bnext (below_alloc _ _) (below_alloc _ _)
  have hs2 : W2.heap.size = W1.heap.size + 1 + 1 := by rw [hW2]; simp
  clear hW2
  have d0 := (hB2.block _ (by omega : w.heap.size < W1.heap.size)).trans b0
  have d1 := (hB2.block _ (by omega : w.heap.size + 1 < W1.heap.size)).trans b1
  refine wpIn_rangeFunc_ownG rfl (by decide : 1 ≤ 3) (gf := 123) (lb := #[.pointer (some ⟨W1.heap.size + 1, 0, none⟩), .pointer (some ⟨W1.heap.size, 0, none⟩)]) rfl trivial (enters_of Tryz.func123 (by kernel_rfl) rfl)
    (pahead_stops (3 - 1) (by decide) p W1.heap.size (W1.heap.size + 1) bb nn w.heap.size m of' ho xs hx hpl hbb W2 (by omega) (by omega) (by omega) (cell_box b3).1 hse) (fun h g => h.trans g) (keep_b (by omega) (by omega)) (Below.refl _ _) (fun _ => rfl)
    (fun pre W => ((∀ y ∈ pre, y.1 ≠ want) ∧ W.heap[w.heap.size]? = some (.cells #[.int .u64 want] 36 (0, 0)) ∧ W.heap[w.heap.size + 1]? = some (.cells #[.bool false] 4 (0, 0))) ∧ Below w.heap.size w W)
    (fun c pre W => (c = .ret ∧ want ∈ pre.map (·.1) ∧ W.heap[w.heap.size + 1]? = some (.cells #[.bool true] 4 (0, 0))) ∧ Below w.heap.size w W)
    (OwnFrom.and (Own.from (fun s A B row hs hg hr => ⟨hs.1, block_kept hs.2.1 hg hr, block_kept hs.2.2 hg hr⟩) _) (ownFrom_below (Nat.le_refl _) (by omega)))
    (fun c => OwnFrom.and (Own.from (fun s A B row hs hg hr => ⟨hs.1, hs.2.1, block_kept hs.2.2 hg hr⟩) _) (ownFrom_below (Nat.le_refl _) (by omega)))
    ⟨⟨by simp, d0, d1⟩, bnext hB1 hB2⟩
    (fun x => { tmps := #[.pointer (some ⟨p, 0, none⟩), .int .u64 want, .int .u64 of', undef, .pointer (some ⟨w.heap.size, 0, none⟩), undef, .pointer (some ⟨w.heap.size + 1, 0, none⟩), .int .u64 x.1, .pointer (some ⟨p, 0, none⟩), .int .u64 of', .func (.func 123) #[] #[.pointer (some ⟨W1.heap.size + 1, 0, none⟩), .pointer (some ⟨W1.heap.size, 0, none⟩)], .int .u64 x.1, undef, undef, undef], defers := [] }) ?assign ?body ?done ?stop
  case assign =>
    clear hs1
    intro l x W K hK
    gi_wp2
    exact hK
  case body =>
    clear hs1
    rintro l pre x W ⟨⟨hp, hcw, hcr⟩, hB⟩ _
    obtain ⟨c0, f0⟩ := cell_box hcw
    obtain ⟨c1, f1⟩ := cell_box hcr
    by_cases hxw : x.1 = want
    · have hxe : ((x.1 : Int) == (want : Int)) = true := by simp [hxw]
      gi_wp2
      exact ⟨(KeepsOthers.setCell _ _ _).from _, ⟨rfl, by simp [hxw], heap_store hcr _⟩, hB.setCell (p := ⟨w.heap.size + 1, 0, none⟩) (by simp) _⟩
    · have hxe : ((x.1 : Int) == (want : Int)) = false := by simp; omega
      gi_wp2
      exact ⟨(KeepsOthers.refl _).from _, Keep.refl _ _ _, ⟨fun y hy => (List.mem_append.1 hy).elim (hp y) (fun e => by simp at e; subst e; exact hxw), hcw, hcr⟩, hB⟩
  case done =>
    have HS1 : Hid (W1.heap.size = w.heap.size + 1 + 1) := hs1
    clear hs1
    rintro D ys W hD rfl ⟨⟨hne, _, hcr⟩, hB⟩ hK
    obtain ⟨c1, f1⟩ := cell_box hcr
    gi_wp2
    have hK' := (KeepsOthers.setCell W ⟨w.heap.size + 1, 0, none⟩ (.bool false)).same D _ hK rfl
    refine ⟨by simp, .inl ⟨_, _, rfl, run_takeDeferred hK', ?_⟩⟩
    have hc5 := cell_kept (World.cell?_setCell_same' W ⟨w.heap.size + 1, 0, none⟩ (.bool false) (by rw [c1]; rfl)) (grownBy_putObj' _ D (.deferred none)) (fun r e => by cases e; exact ⟨_, hK', rfl⟩)
    refine ⟨.bool false, ?_, by rw [decide_eq_false (fun hh => by obtain ⟨y, hy, e⟩ := List.mem_map.1 hh; exact hne y hy e)], (hB.setCell (p := ⟨w.heap.size + 1, 0, none⟩) (by simp) _).trans (belowK_b (w := w) (Nat.le_refl _) _ D _ _ (by have := HS1.out; omega) hK' rfl rfl)⟩
    simp [results, Tryz.f115, go_sem, hc5]
  case stop =>
    have HS1 : Hid (W1.heap.size = w.heap.size + 1 + 1) := hs1
    clear hs1
    rintro D c pre W hD hpre ⟨⟨rfl, hin, hcr⟩, hB⟩ hK
    obtain ⟨c1, f1⟩ := cell_box hcr
    gi_wp2
    refine ⟨by simp, .inl ⟨_, _, rfl, run_takeDeferred hK, ?_⟩⟩
    have hc5 := cell_kept c1 (grownBy_putObj' _ D (.deferred none)) (fun r e => by cases e; exact ⟨_, hK, rfl⟩)
    refine ⟨.bool true, ?_, by rw [decide_eq_true ((hpre.map _).subset hin)], hB.trans (belowK_b (w := w) (Nat.le_refl _) W D _ _ (by have := HS1.out; omega) hK rfl rfl)⟩
    simp [results, Tryz.f115, go_sem, hc5]
end Go.Proofs.YtkehpnobidendaaGreatDoor
