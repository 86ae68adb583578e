/- One step of a script whose kind is below the members' kinds, and the look at lists of which there are none: both answer true. -/
import Derived.Test.YtkehpnobidendaaGreatDoorM05
namespace Go.Proofs.YtkehpnobidendaaGreatDoor
open Go.RowKit

theorem plain (o : OpD) (ho : o.Ok) (h1 : 1 ≤ o.k) (h3 : o.k ≤ 3) (pw : Value) (w : World) (htab : Lib.TabIs Tryz.prog w "internal/strconv.uint64pow10" .u64 Lib.pow10Tab) :
    Calls Tryz.prog 9 #[pw, .agg o.cells] w fun e w' => e = .returned (.bool true) ∧ Below w.heap.size w w' := by
  rcases (by omega : o.k = 1 ∨ o.k = 2 ∨ o.k = 3) with h | h | h
  · exact plain1 o ho h pw w htab
  · exact plain2 o ho h pw w htab
  · exact plain3 o ho h pw w htab

set_option maxRecDepth 100000 in
set_option maxHeartbeats 1000000 in
theorem stepLo (o : OpD) (h1 : ¬ 1 ≤ o.k) (bw : Nat) (w : World) (hm : w.cell? ⟨bw, 0, none⟩ = some (.slice none 0 0)) (hbw : bw < w.heap.size) :
    Calls Tryz.prog 7 #[.pointer (some ⟨bw, 0, none⟩), .agg o.cells] w fun e w' => e = .returned (.bool true) ∧ Below w.heap.size w w' := by
  obtain ⟨k, on, a, b, s, n, m0, m1, m2, bv, jv, jb, j0, j1, j2, j3, c, nu, cv, cb, c0, c1, c2, c3, sl⟩ := o
  dsimp only [OpD.cells] at *
  go_enter Tryz.func7, Tryz.ntmps7
  go_wp2
  go_ret
  exact ⟨rfl, below_alloc _ _⟩

set_option maxRecDepth 100000 in
set_option maxHeartbeats 1000000 in
theorem stepHi (o : OpD) (h1 : 1 ≤ o.k) (h3 : o.k ≤ 3) (bw : Nat) (w : World) (hp : Calls Tryz.prog 9 #[.pointer (some ⟨bw, 0, none⟩), .agg #[.int .i64 o.k, .int .i64 o.on, .int .i64 o.a, .int .i64 o.b, .string o.s, .int .u64 o.n, .int .i64 o.m0, .int .i64 o.m1, .int .i64 o.m2, .int .i64 o.bv, .int .i64 o.jv, .int .u64 o.jb, .int .u64 o.j0, .int .u64 o.j1, .int .u64 o.j2, .int .u64 o.j3, .string o.c, .int .u64 o.nu, .int .i64 o.cv, .int .u64 o.cb, .int .u64 o.c0, .int .u64 o.c1, .int .u64 o.c2, .int .u64 o.c3, .int .u64 o.sl]] (w.alloc (.cells #[.int .i64 o.k, .int .i64 o.on, .int .i64 o.a, .int .i64 o.b, .string o.s, .int .u64 o.n, .int .i64 o.m0, .int .i64 o.m1, .int .i64 o.m2, .int .i64 o.bv, .int .i64 o.jv, .int .u64 o.jb, .int .u64 o.j0, .int .u64 o.j1, .int .u64 o.j2, .int .u64 o.j3, .string o.c, .int .u64 o.nu, .int .i64 o.cv, .int .u64 o.cb, .int .u64 o.c0, .int .u64 o.c1, .int .u64 o.c2, .int .u64 o.c3, .int .u64 o.sl] 45)) fun e w' => e = .returned (.bool true) ∧ Below (w.alloc (.cells #[.int .i64 o.k, .int .i64 o.on, .int .i64 o.a, .int .i64 o.b, .string o.s, .int .u64 o.n, .int .i64 o.m0, .int .i64 o.m1, .int .i64 o.m2, .int .i64 o.bv, .int .i64 o.jv, .int .u64 o.jb, .int .u64 o.j0, .int .u64 o.j1, .int .u64 o.j2, .int .u64 o.j3, .string o.c, .int .u64 o.nu, .int .i64 o.cv, .int .u64 o.cb, .int .u64 o.c0, .int .u64 o.c1, .int .u64 o.c2, .int .u64 o.c3, .int .u64 o.sl] 45)).heap.size (w.alloc (.cells #[.int .i64 o.k, .int .i64 o.on, .int .i64 o.a, .int .i64 o.b, .string o.s, .int .u64 o.n, .int .i64 o.m0, .int .i64 o.m1, .int .i64 o.m2, .int .i64 o.bv, .int .i64 o.jv, .int .u64 o.jb, .int .u64 o.j0, .int .u64 o.j1, .int .u64 o.j2, .int .u64 o.j3, .string o.c, .int .u64 o.nu, .int .i64 o.cv, .int .u64 o.cb, .int .u64 o.c0, .int .u64 o.c1, .int .u64 o.c2, .int .u64 o.c3, .int .u64 o.sl] 45)) w') :
    Calls Tryz.prog 7 #[.pointer (some ⟨bw, 0, none⟩), .agg #[.int .i64 o.k, .int .i64 o.on, .int .i64 o.a, .int .i64 o.b, .string o.s, .int .u64 o.n, .int .i64 o.m0, .int .i64 o.m1, .int .i64 o.m2, .int .i64 o.bv, .int .i64 o.jv, .int .u64 o.jb, .int .u64 o.j0, .int .u64 o.j1, .int .u64 o.j2, .int .u64 o.j3, .string o.c, .int .u64 o.nu, .int .i64 o.cv, .int .u64 o.cb, .int .u64 o.c0, .int .u64 o.c1, .int .u64 o.c2, .int .u64 o.c3, .int .u64 o.sl]] w fun e w' => e = .returned (.bool true) ∧ Below w.heap.size w w' := by
  obtain ⟨k, on, a, b, s, n, m0, m1, m2, bv, jv, jb, j0, j1, j2, j3, c, nu, cv, cb, c0, c1, c2, c3, sl⟩ := o
  dsimp only at *
  go_enter Tryz.func7, Tryz.ntmps7
  go_wp2_with (first
    | (go_at_call 9; refine hp.mono ?_; rintro e w1 ⟨rfl, hb⟩)
    | (refine wpList_load_row rfl 45 _ rfl w.heap.size rfl 45 _ (0, 0) _ (heap_alloc_new _ _) Tryz.underlying45 rfl (by kernel_rfl) ?_))
  go_ret
  exact ⟨rfl, bnext (below_alloc _ _) hb⟩

theorem step (o : OpD) (ho : o.Ok) (h3 : o.k ≤ 3) (bw : Nat) (w : World) (hm : w.cell? ⟨bw, 0, none⟩ = some (.slice none 0 0)) (hbw : bw < w.heap.size) (htab : Lib.TabIs Tryz.prog w "internal/strconv.uint64pow10" .u64 Lib.pow10Tab) :
    Calls Tryz.prog 7 #[.pointer (some ⟨bw, 0, none⟩), .agg o.cells] w fun e w' => e = .returned (.bool true) ∧ Below w.heap.size w w' := by
  by_cases h1 : 1 ≤ o.k
  · exact stepHi o h1 h3 bw w (plain o ho h1 h3 (.pointer (some ⟨bw, 0, none⟩)) _ (tabIs_below htab (below_alloc w (.cells o.cells 45))))
  · exact stepLo o h1 bw w hm hbw

set_option maxRecDepth 100000 in
set_option maxHeartbeats 1000000 in
theorem still (bw : Nat) (w : World) (h4 : w.cell? ⟨bw, 4, none⟩ = some (.slice none 0 0)) (h6 : w.cell? ⟨bw, 6, none⟩ = some (.slice none 0 0)) :
    Calls Tryz.prog 8 #[.pointer (some ⟨bw, 0, none⟩)] w fun e w' => e = .returned (.bool true) ∧ w' = w := by
  go_enter Tryz.func8, Tryz.ntmps8
  go_wp2
  go_loop [3] (fun i => i = .int .i64 0) (fun _ => 0)
  case atStart => rfl
  case round =>
    subst hrel
    go_wp2
    go_loop [5] (fun i => i = .int .i64 0) (fun _ => 0)
    case atStart => rfl
    case round =>
      subst hrel
      go_wp2
      go_ret
      exact ⟨rfl, rfl⟩

end Go.Proofs.YtkehpnobidendaaGreatDoor
