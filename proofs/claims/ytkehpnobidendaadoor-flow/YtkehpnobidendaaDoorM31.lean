/- The program's look at an Enter whose own seal is wrong; faultOfEnter, whole. -/
import Derived.Test.YtkehpnobidendaaDoorM30
namespace Go.Proofs.YtkehpnobidendaaDoor
open Go.RowKit Go.Maps

set_option maxRecDepth 100000 in
set_option maxHeartbeats 2000000 in
theorem pfaultE3 (w : World) (p : Nat) (S : Nat → Prop) (m : Mem) (h : PMem w p S m) (x : Msg) (hf : ¬ (x.fro < 0 ∨ 3 < x.fro ∨ x.view < 1 ∨ 1000 < x.view ∨ m.id ≠ x.view % 4)) (hib : decide (0 ≤ x.cert.view ∧ x.cert.view < x.view) = true) (hseal : x.sl ≠ sealOf x.fro 3 x.view 0) :
    Calls Tryd.prog 77 #[.pointer (some ⟨p, 0, none⟩), .agg x.cells.toArray] w fun e w' => e = .returned (.int .i64 2) ∧ Below w.heap.size w w' := by
  have HSE : Hid (∀ W, Below w.heap.size w W → Calls Tryd.prog 11 #[.int .i64 x.fro, .int .i64 3, .int .i64 x.view, .int .u64 0] W fun e w' => e = .returned (.int .u64 (sealOf x.fro 3 x.view 0)) ∧ Below W.heap.size W w') := fun W hW => pseal x.fro 3 x.view 0 (by omega) (by omega) (by decide) (by decide) (by omega) (by omega) (by decide) W (h.below hW).tab.is
  generalize sealOf x.fro 3 x.view 0 = se at *
  have HIB : Hid (∀ W, Calls Tryd.prog 91 #[.agg #[.int .i64 x.cert.view, .int .u64 x.cert.block, .int .u64 x.cert.s0, .int .u64 x.cert.s1, .int .u64 x.cert.s2, .int .u64 x.cert.s3], .int .i64 x.view] W fun e w' => e = .returned (.bool true) ∧ Below W.heap.size W w') := fun W => by have := pisBelow W x.cert.view x.cert.block x.cert.s0 x.cert.s1 x.cert.s2 x.cert.s3 x.view; rwa [hib] at this
  have HC : Hid (∀ W, Below w.heap.size w W → W.cell? ⟨p, 0, none⟩ = some (.int .i64 m.id)) := fun W hW => (h.below hW).see.c0
  have lp := h.see.lt
  obtain ⟨xk, xf, xv, ⟨bv, ⟨jv, jb, j0, j1, j2, j3⟩, bc⟩, nu, ⟨cv, cb, k0, k1, k2, k3⟩, sl⟩ := x
  dsimp only [Msg.cells] at *
  have HM : Hid (∀ W, Calls Tryd.prog 32 #[.int .i64 xf] W fun e w' => e = .returned (.bool true) ∧ w' = W) := fun W => by have := pisMember W xf; rwa [show decide (0 ≤ xf ∧ xf ≤ 3) = true by simp; omega] at this
  have HV : Hid (∀ W, Calls Tryd.prog 90 #[.int .i64 xv, .int .i64 1000] W fun e w' => e = .returned (.bool true) ∧ w' = W) := fun W => by have := pisView W xv 1000; rwa [show decide (1 ≤ xv ∧ xv ≤ 1000) = true by simp; omega] at this
  have HL : Hid (∀ W, Calls Tryd.prog 68 #[.int .i64 xv] W fun e w' => e = .returned (.int .i64 m.id) ∧ w' = W) := fun W => by have := pleader W xv (by omega); rwa [show xv % 4 = m.id by omega] at this
  have hne : (m.id != m.id) = false := by simp
  have hse : (sl != se) = true := by simp [hseal]
  clear h hf hib hseal
  obtain ⟨W1, hW1⟩ : ∃ W, W = w.alloc (.cells #[.int .i64 xk, .int .i64 xf, .int .i64 xv, .int .i64 bv, .int .i64 jv, .int .u64 jb, .int .u64 j0, .int .u64 j1, .int .u64 j2, .int .u64 j3, .string bc, .int .u64 nu, .int .i64 cv, .int .u64 cb, .int .u64 k0, .int .u64 k1, .int .u64 k2, .int .u64 k3, .int .u64 sl] 40) := ⟨_, rfl⟩
  have HB1 : Hid (Below w.heap.size w W1) := by rw [hW1]; exact below_alloc _ _
  have HW1 : Hid (∃ C : Array Value, W1.heap[w.heap.size]? = some (.cells C 40 (0, 0)) ∧ C[1]? = some (.int .i64 xf) ∧ C[2]? = some (.int .i64 xv) ∧ C[12]? = some (.int .i64 cv) ∧ C[13]? = some (.int .u64 cb) ∧ C[14]? = some (.int .u64 k0) ∧ C[15]? = some (.int .u64 k1) ∧ C[16]? = some (.int .u64 k2) ∧ C[17]? = some (.int .u64 k3) ∧ C[18]? = some (.int .u64 sl)) := by rw [hW1]; exact ⟨_, heap_alloc_new w _, rfl, rfl, rfl, rfl, rfl, rfl, rfl, rfl, rfl⟩
  go_enter Tryd.func77, Tryd.ntmps77
  go_upto_region 1 with fail
  rw [← hW1]
  clear hW1
  have HX : Hid (∀ W, Below W1.heap.size W1 W → W.cell? ⟨w.heap.size, 1, none⟩ = some (.int .i64 xf) ∧ W.cell? ⟨w.heap.size, 2, none⟩ = some (.int .i64 xv) ∧ W.cell? ⟨w.heap.size, 12, none⟩ = some (.int .i64 cv) ∧ W.cell? ⟨w.heap.size, 13, none⟩ = some (.int .u64 cb) ∧ W.cell? ⟨w.heap.size, 14, none⟩ = some (.int .u64 k0) ∧ W.cell? ⟨w.heap.size, 15, none⟩ = some (.int .u64 k1) ∧ W.cell? ⟨w.heap.size, 16, none⟩ = some (.int .u64 k2) ∧ W.cell? ⟨w.heap.size, 17, none⟩ = some (.int .u64 k3) ∧ W.cell? ⟨w.heap.size, 18, none⟩ = some (.int .u64 sl)) := fun W hW => by
    obtain ⟨C, e, e1, e2, e12, e13, e14, e15, e16, e17, e18⟩ := HW1.out
    have e' := (hW.block _ (lt_at e)).trans e
    exact ⟨(cell_at e' 1).trans e1, (cell_at e' 2).trans e2, (cell_at e' 12).trans e12, (cell_at e' 13).trans e13, (cell_at e' 14).trans e14, (cell_at e' 15).trans e15, (cell_at e' 16).trans e16, (cell_at e' 17).trans e17, (cell_at e' 18).trans e18⟩
  obtain ⟨d1, d2, d12, d13, d14, d15, d16, d17, d18⟩ := HX.out W1 (Below.refl _ _)
  have c0' := HC.out W1 HB1.out
  go_quiet (first | (go_at_call 32; exact Calls.quiet_of_same (HM.out _)) | (go_at_call 90; exact Calls.quiet_of_same (HV.out _)) | (go_at_call 68; exact Calls.quiet_of_same (HL.out _)))
  clear HM HV HL
  go_upto_region 5 with (go_at_call 91; refine (HIB.out _).mono ?_; rintro e w3 ⟨rfl, hb3⟩)
  have hB3 : Below W1.heap.size W1 w3 := bnext (below_drewN (Below.refl _ _) _) hb3
  have HQ : Hid (∀ c : Cls W1, Calls Tryd.prog 11 #[.int .i64 xf, .int .i64 3, .int .i64 xv, .int .u64 0] c.w fun e w' => e = .returned (.int .u64 se) ∧ Below c.w.heap.size c.w w') := fun c => HSE.out _ (bnext HB1.out c.b)
  have e1 : ∀ c : Cls W1, c.w.cell? ⟨w.heap.size, 1, none⟩ = some (.int .i64 xf) := fun c => (HX.out _ c.b).1
  have e2 : ∀ c : Cls W1, c.w.cell? ⟨w.heap.size, 2, none⟩ = some (.int .i64 xv) := fun c => (HX.out _ c.b).2.1
  have e18 : ∀ c : Cls W1, c.w.cell? ⟨w.heap.size, 18, none⟩ = some (.int .u64 sl) := fun c => (HX.out _ c.b).2.2.2.2.2.2.2.2
  clear d1 d2 d12 d13 d14 d15 d16 d17 d18 c0' hb3
  refine wp_region_cls W1 hB3 (by kernel_rfl) (by kernel_rfl) ?_
  repeat (go_big_quiet_step ((go_at_call 11; exact Calls.cls (HQ.out _))))
  refine wpQuiet_nil ?_
  rintro _ ⟨⟨W5, hW5⟩, rfl⟩
  go_wp2
  go_ret
  exact ⟨rfl, bnext HB1.out hW5⟩
theorem pfaultE (w : World) (p : Nat) (S : Nat → Prop) (m : Mem) (h : PMem w p S m) (x : Msg) (hx : x.cert.Ok) :
    Calls Tryd.prog 77 #[.pointer (some ⟨p, 0, none⟩), .agg x.cells.toArray] w fun e w' => e = .returned (.int .i64 (m.faultE x)) ∧ Below w.heap.size w w' := by
  by_cases hf : x.fro < 0 ∨ 3 < x.fro ∨ x.view < 1 ∨ 1000 < x.view ∨ m.id ≠ x.view % 4
  · have e : m.faultE x = 1 := by unfold Mem.faultE; rw [if_pos hf]
    rw [e]; exact pfaultE1 w p S m h x hf
  · by_cases hs : decide (0 ≤ x.cert.view ∧ x.cert.view < x.view) = true ∧ x.sl ≠ sealOf x.fro 3 x.view 0
    · have e : m.faultE x = 2 := by unfold Mem.faultE; rw [if_neg hf, if_neg (by rw [hs.1]; simp), if_pos hs.2]
      rw [e]; exact pfaultE3 w p S m h x hf hs.1 hs.2
    · exact pfaultE2 w p S m h x hx hf (fun h1 => Decidable.byContradiction (fun h2 => hs ⟨h1, h2⟩))
end Go.Proofs.YtkehpnobidendaaDoor
