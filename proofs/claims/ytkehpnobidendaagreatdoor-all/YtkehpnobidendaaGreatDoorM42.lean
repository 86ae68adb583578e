/- The document's member refuses a proposal that is not well formed. -/
import Derived.Test.YtkehpnobidendaaGreatDoorM40
namespace Go.Proofs.YtkehpnobidendaaGreatDoor
open Go.RowKit
attribute [local go_sem ↓] Go.wp_at_zero Go.wp_at_succ

set_option maxRecDepth 100000 in
set_option maxHeartbeats 2000000 in
theorem rproposal_form (w : World) (p : Nat) (S : Nat → Prop) (m : Mem) (B : Nat) (out : List Ltr) (h : RMem w p S B m out) (x : Msg) (v0 : -9223372036854775808 ≤ x.view) (v1 : x.view ≤ 9223372036854775807) (hc : x.block.cmd.size ≤ 140737488351232) (hF : x.view < 1 ∨ 1000 < x.view ∨ x.fro ≠ x.view % 4 ∨ x.block.view ≠ x.view ∨ 16 < x.block.cmd.size ∨ x.block.just.view < 0 ∨ x.view ≤ x.block.just.view) :
    Calls Tryz.prog 66 #[.pointer (some ⟨p, 0, none⟩), .agg x.cells.toArray] w fun e w' => e = .returned (.int .i64 1) ∧ RMem w' p S B m out ∧ Fr S w w' := by
  have HM : Hid (RMem w p S B m out) := h
  clear h
  obtain ⟨xk, xf, xv, ⟨bv, ⟨jv, jb, j0, j1, j2, j3⟩, bc⟩, xn, ⟨cv, cb, c0, c1, c2, c3⟩, xs⟩ := x
  dsimp only [Msg.cells] at *
  go_enter Tryz.func66, Tryz.ntmps66
  go_upto_region 2 with fail
  have HB1 : Hid (Below w.heap.size w ((w.alloc (.cells #[.int .i64 xk, .int .i64 xf, .int .i64 xv, .int .i64 bv, .int .i64 jv, .int .u64 jb, .int .u64 j0, .int .u64 j1, .int .u64 j2, .int .u64 j3, .string bc, .int .u64 xn, .int .i64 cv, .int .u64 cb, .int .u64 c0, .int .u64 c1, .int .u64 c2, .int .u64 c3, .int .u64 xs] 43)).alloc (.cells #[.int .i64 bv, .int .i64 jv, .int .u64 jb, .int .u64 j0, .int .u64 j1, .int .u64 j2, .int .u64 j3, .string bc] 41))) := bnext ((Below.refl _ _).alloc (Nat.le_refl _) _) ((Below.refl _ _).alloc (Nat.le_refl _) _)
  have HX1 : Hid (((w.alloc (.cells #[.int .i64 xk, .int .i64 xf, .int .i64 xv, .int .i64 bv, .int .i64 jv, .int .u64 jb, .int .u64 j0, .int .u64 j1, .int .u64 j2, .int .u64 j3, .string bc, .int .u64 xn, .int .i64 cv, .int .u64 cb, .int .u64 c0, .int .u64 c1, .int .u64 c2, .int .u64 c3, .int .u64 xs] 43)).alloc (.cells #[.int .i64 bv, .int .i64 jv, .int .u64 jb, .int .u64 j0, .int .u64 j1, .int .u64 j2, .int .u64 j3, .string bc] 41)).heap[w.heap.size]? = some (.cells #[.int .i64 xk, .int .i64 xf, .int .i64 xv, .int .i64 bv, .int .i64 jv, .int .u64 jb, .int .u64 j0, .int .u64 j1, .int .u64 j2, .int .u64 j3, .string bc, .int .u64 xn, .int .i64 cv, .int .u64 cb, .int .u64 c0, .int .u64 c1, .int .u64 c2, .int .u64 c3, .int .u64 xs] 43 (0, 0))) := (Below.heap_alloc _ _ _ (by simp)).trans (heap_alloc_new w _)
  have HY1 : Hid (((w.alloc (.cells #[.int .i64 xk, .int .i64 xf, .int .i64 xv, .int .i64 bv, .int .i64 jv, .int .u64 jb, .int .u64 j0, .int .u64 j1, .int .u64 j2, .int .u64 j3, .string bc, .int .u64 xn, .int .i64 cv, .int .u64 cb, .int .u64 c0, .int .u64 c1, .int .u64 c2, .int .u64 c3, .int .u64 xs] 43)).alloc (.cells #[.int .i64 bv, .int .i64 jv, .int .u64 jb, .int .u64 j0, .int .u64 j1, .int .u64 j2, .int .u64 j3, .string bc] 41)).heap[(w.alloc (.cells #[.int .i64 xk, .int .i64 xf, .int .i64 xv, .int .i64 bv, .int .i64 jv, .int .u64 jb, .int .u64 j0, .int .u64 j1, .int .u64 j2, .int .u64 j3, .string bc, .int .u64 xn, .int .i64 cv, .int .u64 cb, .int .u64 c0, .int .u64 c1, .int .u64 c2, .int .u64 c3, .int .u64 xs] 43)).heap.size]? = some (.cells #[.int .i64 bv, .int .i64 jv, .int .u64 jb, .int .u64 j0, .int .u64 j1, .int .u64 j2, .int .u64 j3, .string bc] 41 (0, 0))) := heap_alloc_new _ _
  generalize hW : (w.alloc (.cells #[.int .i64 xk, .int .i64 xf, .int .i64 xv, .int .i64 bv, .int .i64 jv, .int .u64 jb, .int .u64 j0, .int .u64 j1, .int .u64 j2, .int .u64 j3, .string bc, .int .u64 xn, .int .i64 cv, .int .u64 cb, .int .u64 c0, .int .u64 c1, .int .u64 c2, .int .u64 c3, .int .u64 xs] 43)).alloc (.cells #[.int .i64 bv, .int .i64 jv, .int .u64 jb, .int .u64 j0, .int .u64 j1, .int .u64 j2, .int .u64 j3, .string bc] 41) = W1 at *
  clear hW
  have a1 : W1.cell? ⟨w.heap.size, 1, none⟩ = some (.int .i64 xf) := cell_at HX1.out 1
  have a2 : W1.cell? ⟨w.heap.size, 2, none⟩ = some (.int .i64 xv) := cell_at HX1.out 2
  have hz : (w.alloc (.cells #[.int .i64 xk, .int .i64 xf, .int .i64 xv, .int .i64 bv, .int .i64 jv, .int .u64 jb, .int .u64 j0, .int .u64 j1, .int .u64 j2, .int .u64 j3, .string bc, .int .u64 xn, .int .i64 cv, .int .u64 cb, .int .u64 c0, .int .u64 c1, .int .u64 c2, .int .u64 c3, .int .u64 xs] 43)).heap.size = w.heap.size + 1 := by simp
  rw [hz] at HY1
  have y0 : W1.cell? ⟨w.heap.size + 1, 0, none⟩ = some (.int .i64 bv) := cell_at HY1.out 0
  have y1 : W1.cell? ⟨w.heap.size + 1, 1, none⟩ = some (.int .i64 jv) := cell_at HY1.out 1
  have y7 : W1.cell? ⟨w.heap.size + 1, 7, none⟩ = some (.string bc) := cell_at HY1.out 7
  clear hz
  by_cases h1 : xv < 1
  · clear hF
    go_wp2
    go_ret
    exact ⟨rfl, HM.out.below HB1.out, Fr.of_below HB1.out⟩
  by_cases h2 : 1000 < xv
  · clear hF
    go_wp2
    go_ret
    exact ⟨rfl, HM.out.below HB1.out, Fr.of_below HB1.out⟩
  by_cases h3 : xf ≠ xv % 4
  · clear hF
    have g3 : (xf == xv.tmod 4) = false := by rw [Int.tmod_eq_emod_of_nonneg (by omega)]; simpa using h3
    go_wp2
    go_ret
    exact ⟨rfl, HM.out.below HB1.out, Fr.of_below HB1.out⟩
  have g3 : (xf == xv.tmod 4) = true := by rw [Int.tmod_eq_emod_of_nonneg (by omega)]; simpa using h3
  by_cases h4 : bv ≠ xv
  · clear hF
    have g4 : (bv == xv) = false := by simpa using h4
    go_wp2
    go_ret
    exact ⟨rfl, HM.out.below HB1.out, Fr.of_below HB1.out⟩
  have h4 := Decidable.not_not.1 h4
  have g4 : (bv == xv) = true := by simpa using h4
  by_cases h5 : 16 < bc.size
  · clear hF
    have g5 : (16 : Int) < (bc.size : Int) := by omega
    go_wp2
    go_ret
    exact ⟨rfl, HM.out.below HB1.out, Fr.of_below HB1.out⟩
  have g5 : ¬ (16 : Int) < (bc.size : Int) := by omega
  by_cases h6 : jv < 0
  · clear hF
    go_wp2
    go_ret
    exact ⟨rfl, HM.out.below HB1.out, Fr.of_below HB1.out⟩
  by_cases h7 : xv ≤ jv
  · clear hF
    go_wp2
    go_ret
    exact ⟨rfl, HM.out.below HB1.out, Fr.of_below HB1.out⟩
  exact absurd hF (by intro h; rcases h with h | h | h | h | h | h | h <;> first | exact h3 h | exact h h4 | omega)
end Go.Proofs.YtkehpnobidendaaGreatDoor
