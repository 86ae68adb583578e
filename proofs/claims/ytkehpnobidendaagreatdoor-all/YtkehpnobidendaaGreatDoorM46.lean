/- The document's member refuses an Enter that is not well formed. The document's member hears an Enter (enters1). -/
import Derived.Test.YtkehpnobidendaaGreatDoorM16
namespace Go.Proofs.YtkehpnobidendaaGreatDoor
open Go.RowKit
attribute [local go_sem ↓] Go.wp_at_zero Go.wp_at_succ

set_option maxRecDepth 100000 in
set_option maxHeartbeats 2000000 in
theorem renters_form (w : World) (p : Nat) (S : Nat → Prop) (m : Mem) (B : Nat) (out : List Ltr) (h : RMem w p S B m out) (x : Msg) (v0 : -9223372036854775808 ≤ x.view) (v1 : x.view ≤ 9223372036854775807) (hF : x.fro < 0 ∨ 3 < x.fro ∨ x.view < 1 ∨ 1000 < x.view ∨ m.id ≠ x.view % 4 ∨ x.cert.view < 0 ∨ x.view ≤ x.cert.view) :
    Calls Tryz.prog 68 #[.pointer (some ⟨p, 0, none⟩), .agg x.cells.toArray] w fun e w' => e = .returned (.int .i64 1) ∧ RMem w' p S B m out ∧ Fr S w w' := by
  have HM : Hid (RMem w p S B m out) := h
  clear h
  obtain ⟨xk, xf, xv, ⟨bv, ⟨jv, jb, j0, j1, j2, j3⟩, bc⟩, xn, ⟨cv, cb, c0, c1, c2, c3⟩, xs⟩ := x
  dsimp only [Msg.cells] at *
  go_enter Tryz.func68, Tryz.ntmps68
  go_upto_region 1 with fail
  have HX0 : Hid ((w.alloc (.cells #[.int .i64 xk, .int .i64 xf, .int .i64 xv, .int .i64 bv, .int .i64 jv, .int .u64 jb, .int .u64 j0, .int .u64 j1, .int .u64 j2, .int .u64 j3, .string bc, .int .u64 xn, .int .i64 cv, .int .u64 cb, .int .u64 c0, .int .u64 c1, .int .u64 c2, .int .u64 c3, .int .u64 xs] 43)).heap[w.heap.size]? = some (.cells #[.int .i64 xk, .int .i64 xf, .int .i64 xv, .int .i64 bv, .int .i64 jv, .int .u64 jb, .int .u64 j0, .int .u64 j1, .int .u64 j2, .int .u64 j3, .string bc, .int .u64 xn, .int .i64 cv, .int .u64 cb, .int .u64 c0, .int .u64 c1, .int .u64 c2, .int .u64 c3, .int .u64 xs] 43 (0, 0))) := heap_alloc_new w _
  have HM0 : Hid (RMem (w.alloc (.cells #[.int .i64 xk, .int .i64 xf, .int .i64 xv, .int .i64 bv, .int .i64 jv, .int .u64 jb, .int .u64 j0, .int .u64 j1, .int .u64 j2, .int .u64 j3, .string bc, .int .u64 xn, .int .i64 cv, .int .u64 cb, .int .u64 c0, .int .u64 c1, .int .u64 c2, .int .u64 c3, .int .u64 xs] 43)) p S B m out) := HM.out.below ((Below.refl _ _).alloc (Nat.le_refl _) _)
  have HF0 : Hid (Fr S w (w.alloc (.cells #[.int .i64 xk, .int .i64 xf, .int .i64 xv, .int .i64 bv, .int .i64 jv, .int .u64 jb, .int .u64 j0, .int .u64 j1, .int .u64 j2, .int .u64 j3, .string bc, .int .u64 xn, .int .i64 cv, .int .u64 cb, .int .u64 c0, .int .u64 c1, .int .u64 c2, .int .u64 c3, .int .u64 xs] 43))) := Fr.alloc _ _ _
  generalize w.alloc (.cells #[.int .i64 xk, .int .i64 xf, .int .i64 xv, .int .i64 bv, .int .i64 jv, .int .u64 jb, .int .u64 j0, .int .u64 j1, .int .u64 j2, .int .u64 j3, .string bc, .int .u64 xn, .int .i64 cv, .int .u64 cb, .int .u64 c0, .int .u64 c1, .int .u64 c2, .int .u64 c3, .int .u64 xs] 43) = W0 at *
  have hA1 : W0.cell? ⟨w.heap.size, 1, none⟩ = some (.int .i64 xf) := cell_at HX0.out 1
  have hA2 : W0.cell? ⟨w.heap.size, 2, none⟩ = some (.int .i64 xv) := cell_at HX0.out 2
  have hA12 : W0.cell? ⟨w.heap.size, 12, none⟩ = some (.int .i64 cv) := cell_at HX0.out 12
  have hs := HM0.out.see
  have d0 := hs.c0
  have d2 := hs.c2
  clear hs
  by_cases h1 : xf < 0
  · clear hF
    go_quiet (fail)
    go_wp2
    go_ret
    exact ⟨rfl, HM0.out.heap rfl, HF0.out.trans (Fr.drewN S W0 nq) (fun _ h => .inl h)⟩
  have G1 : Hid (decide (xf < 0) = false) := by show _ = false; simp; omega
  by_cases h2 : 3 < xf
  · clear hF
    have g1 : decide (xf < 0) = false := G1.out
    go_quiet (fail)
    go_wp2
    go_ret
    exact ⟨rfl, HM0.out.heap rfl, HF0.out.trans (Fr.drewN S W0 nq) (fun _ h => .inl h)⟩
  have G2 : Hid (decide (3 < xf) = false) := by show _ = false; simp; omega
  by_cases h3 : xv < 1
  · clear hF
    have g1 : decide (xf < 0) = false := G1.out
    have g2 : decide (3 < xf) = false := G2.out
    go_quiet (fail)
    go_wp2
    go_ret
    exact ⟨rfl, HM0.out.heap rfl, HF0.out.trans (Fr.drewN S W0 nq) (fun _ h => .inl h)⟩
  have G3 : Hid (decide (xv < 1) = false) := by show _ = false; simp; omega
  by_cases h4 : 1000 < xv
  · clear hF
    have g1 : decide (xf < 0) = false := G1.out
    have g2 : decide (3 < xf) = false := G2.out
    have g3 : decide (xv < 1) = false := G3.out
    go_quiet (fail)
    go_wp2
    go_ret
    exact ⟨rfl, HM0.out.heap rfl, HF0.out.trans (Fr.drewN S W0 nq) (fun _ h => .inl h)⟩
  have G4 : Hid (decide (1000 < xv) = false) := by show _ = false; simp; omega
  by_cases h5 : m.id ≠ xv % 4
  · clear hF
    have g1 : decide (xf < 0) = false := G1.out
    have g2 : decide (3 < xf) = false := G2.out
    have g3 : decide (xv < 1) = false := G3.out
    have g4 : decide (1000 < xv) = false := G4.out
    have g5 : (m.id != xv.tmod 4) = true := by rw [Int.tmod_eq_emod_of_nonneg (by omega)]; simpa using h5
    go_quiet (fail)
    go_wp2
    go_ret
    exact ⟨rfl, HM0.out.heap rfl, HF0.out.trans (Fr.drewN S W0 nq) (fun _ h => .inl h)⟩
  have G5 : Hid ((m.id != xv.tmod 4) = false) := by show _ = false; rw [Int.tmod_eq_emod_of_nonneg (by omega)]; simpa using h5
  by_cases h6 : cv < 0
  · clear hF
    have g1 : decide (xf < 0) = false := G1.out
    have g2 : decide (3 < xf) = false := G2.out
    have g3 : decide (xv < 1) = false := G3.out
    have g4 : decide (1000 < xv) = false := G4.out
    have g5 : (m.id != xv.tmod 4) = false := G5.out
    go_quiet (fail)
    go_wp2
    go_ret
    exact ⟨rfl, HM0.out.heap rfl, HF0.out.trans (Fr.drewN S W0 nq) (fun _ h => .inl h)⟩
  have G6 : Hid (decide (cv < 0) = false) := by show _ = false; simp; omega
  by_cases h7 : xv ≤ cv
  · clear hF
    have g1 : decide (xf < 0) = false := G1.out
    have g2 : decide (3 < xf) = false := G2.out
    have g3 : decide (xv < 1) = false := G3.out
    have g4 : decide (1000 < xv) = false := G4.out
    have g5 : (m.id != xv.tmod 4) = false := G5.out
    have g6 : decide (cv < 0) = false := G6.out
    go_quiet (fail)
    go_wp2
    go_ret
    exact ⟨rfl, HM0.out.heap rfl, HF0.out.trans (Fr.drewN S W0 nq) (fun _ h => .inl h)⟩
  have G7 : Hid (decide (xv ≤ cv) = false) := by show _ = false; simp; omega
  exact absurd hF (by intro h; rcases h with h | h | h | h | h | h | h <;> first | exact h5 h | omega)
end Go.Proofs.YtkehpnobidendaaGreatDoor

namespace Go.Proofs.YtkehpnobidendaaGreatDoor
open Go.RowKit
attribute [local go_sem ↓] Go.wp_at_zero Go.wp_at_succ

theorem enters_form {m : Mem} {x : Msg} (h : x.fro < 0 ∨ 3 < x.fro ∨ x.view < 1 ∨ 1000 < x.view ∨ m.id ≠ x.view % 4 ∨ x.cert.view < 0 ∨ x.view ≤ x.cert.view) : m.enters1 x = (m, 1) := by
  unfold Mem.enters1; exact if_pos h
/-- What an Enter that is well formed comes to, step by step. -/
theorem enters_steps {m : Mem} {x : Msg} (h : ¬ (x.fro < 0 ∨ 3 < x.fro ∨ x.view < 1 ∨ 1000 < x.view ∨ m.id ≠ x.view % 4 ∨ x.cert.view < 0 ∨ x.view ≤ x.cert.view)) :
    m.enters1 x = if x.sl ≠ sealOf x.fro 3 x.view 0 ∨ x.cert.good = false then (m, 2)
      else if (m.block x.cert.block).isSome = false ∨ ((m.block x.cert.block).getD Blk.zero).view ≠ x.cert.view then (m, 3)
      else if x.view < m.view then (m, 4)
      else if (m.enters.filter (fun t => t.view == x.view)).any (fun t => t.fro == x.fro) = true then (m, 5)
      else (if 3 ≤ (m.enters.filter (fun t => t.view == x.view)).length + 1 ∧ (({ m with enters := m.enters ++ [⟨x.fro, x.view, 0, 0⟩] } : Mem).learn x.cert).view < x.view then (({ m with enters := m.enters ++ [⟨x.fro, x.view, 0, 0⟩] } : Mem).learn x.cert).enter x.view else ({ m with enters := m.enters ++ [⟨x.fro, x.view, 0, 0⟩] } : Mem).learn x.cert, 0) := by
  unfold Mem.enters1
  rw [if_neg h]
  congr 1
  cases hb : m.block x.cert.block with
  | none => simp
  | some b =>
    dsimp only [Option.getD_some, Option.isSome_some]
    simp only [Bool.true_eq_false, false_or]

/-- The Enters of a view among the first k; is one of them a member's? -/
def entN (m : Mem) (v : Int) (k : Nat) : Nat := ((m.enters.take k).filter (fun t => t.view == v)).length
def entAny (m : Mem) (v f : Int) (k : Nat) : Bool := ((m.enters.take k).filter (fun t => t.view == v)).any (fun t => t.fro == f)
theorem entN_succ (m : Mem) (v : Int) (k : Nat) (hk : k < m.enters.length) : entN m v (k + 1) = entN m v k + (if (m.enters[k]).view == v then 1 else 0) := by
  unfold entN
  rw [List.take_succ_eq_append_getElem hk, List.filter_append, List.length_append]
  congr 1
  simp only [List.filter_cons, List.filter_nil]
  split <;> rfl
theorem entAny_succ (m : Mem) (v f : Int) (k : Nat) (hk : k < m.enters.length) : entAny m v f (k + 1) = (entAny m v f k || ((m.enters[k]).view == v && (m.enters[k]).fro == f)) := by
  unfold entAny
  rw [List.take_succ_eq_append_getElem hk, List.filter_append, List.any_append]
  congr 1
  simp only [List.filter_cons, List.filter_nil]
  split
  · rename_i h; simp [h]
  · rename_i h; simp [h]
theorem entN_le (m : Mem) (v : Int) (k : Nat) : entN m v k ≤ k := by
  unfold entN
  have := List.length_filter_le (fun t : Tk => t.view == v) (m.enters.take k)
  have h2 := List.length_take_le k m.enters
  omega
theorem entN_all (m : Mem) (v : Int) : entN m v m.enters.length = (m.enters.filter (fun t => t.view == v)).length := by unfold entN; rw [List.take_length]
theorem entAny_all (m : Mem) (v f : Int) : entAny m v f m.enters.length = (m.enters.filter (fun t => t.view == v)).any (fun t => t.fro == f) := by unfold entAny; rw [List.take_length]
theorem entAny_hit (m : Mem) (v f : Int) (k : Nat) (hk : k < m.enters.length) (hv : (m.enters[k]).view = v) (hf : (m.enters[k]).fro = f) : (m.enters.filter (fun t => t.view == v)).any (fun t => t.fro == f) = true := by
  rw [List.any_eq_true]
  exact ⟨m.enters[k], List.mem_filter.2 ⟨List.getElem_mem _, by simp [hv]⟩, by simp [hf]⟩

set_option maxRecDepth 100000 in
set_option maxHeartbeats 2000000 in
theorem renters (w : World) (p : Nat) (S : Nat → Prop) (m : Mem) (B : Nat) (out : List Ltr) (h : RMem w p S B m out) (hI : Inv m) (x : Msg) (hx : x.Ok) (v0 : -9223372036854775808 ≤ x.view) (v1 : x.view ≤ 9223372036854775807) (hlog : m.log.length + m.blocks.length + 2 ≤ 1700000000000) (hen : m.enters.length ≤ 1700000000000) :
    Calls Tryz.prog 68 #[.pointer (some ⟨p, 0, none⟩), .agg x.cells.toArray] w fun e w' => e = .returned (.int .i64 (m.enters1 x).2) ∧ ∃ S', RMem w' p S' B (m.enters1 x).1 out ∧ Grow S w S' ∧ Fr S w w' := by
  by_cases hF : x.fro < 0 ∨ 3 < x.fro ∨ x.view < 1 ∨ 1000 < x.view ∨ m.id ≠ x.view % 4 ∨ x.cert.view < 0 ∨ x.view ≤ x.cert.view
  · refine (renters_form w p S m B out h x v0 v1 hF).mono ?_
    rintro e w' ⟨rfl, h1, h2⟩
    rw [enters_form hF]
    exact ⟨rfl, S, h1, Grow.refl _ _, h2⟩
  have HM : Hid (RMem w p S B m out) := h
  have HI : Hid (Inv m) := hI
  have HX : Hid x.Ok := hx
  have HLT : Hid (∀ k, S k → k < w.heap.size) := by obtain ⟨_, _, _, _, _, _, _, h1, _⟩ := h; exact h1.lt
  have i0 := hI.i0
  have i1 := hI.i1
  have HST : Hid (¬ (x.fro < 0 ∨ 3 < x.fro ∨ x.view < 1 ∨ 1000 < x.view ∨ m.id ≠ x.view % 4 ∨ x.cert.view < 0 ∨ x.view ≤ x.cert.view) → m.enters1 x = _) := enters_steps
  clear h hI hx
  obtain ⟨xk, xf, xv, ⟨bv, ⟨jv, jb, j0, j1, j2, j3⟩, bc⟩, xn, ⟨cv, cb, c0, c1, c2, c3⟩, xs⟩ := x
  dsimp only [Msg.cells] at *
  obtain ⟨R, hR⟩ : ∃ r, r = m.enters1 ⟨xk, xf, xv, ⟨bv, ⟨jv, jb, j0, j1, j2, j3⟩, bc⟩, xn, ⟨cv, cb, c0, c1, c2, c3⟩, xs⟩ := ⟨_, rfl⟩
  rw [← hR] at HST ⊢
  clear hR
  go_enter Tryz.func68, Tryz.ntmps68
  go_upto_region 1 with fail
  have HX0 : Hid ((w.alloc (.cells #[.int .i64 xk, .int .i64 xf, .int .i64 xv, .int .i64 bv, .int .i64 jv, .int .u64 jb, .int .u64 j0, .int .u64 j1, .int .u64 j2, .int .u64 j3, .string bc, .int .u64 xn, .int .i64 cv, .int .u64 cb, .int .u64 c0, .int .u64 c1, .int .u64 c2, .int .u64 c3, .int .u64 xs] 43)).heap[w.heap.size]? = some (.cells #[.int .i64 xk, .int .i64 xf, .int .i64 xv, .int .i64 bv, .int .i64 jv, .int .u64 jb, .int .u64 j0, .int .u64 j1, .int .u64 j2, .int .u64 j3, .string bc, .int .u64 xn, .int .i64 cv, .int .u64 cb, .int .u64 c0, .int .u64 c1, .int .u64 c2, .int .u64 c3, .int .u64 xs] 43 (0, 0))) := heap_alloc_new w _
  have HM0 : Hid (RMem (w.alloc (.cells #[.int .i64 xk, .int .i64 xf, .int .i64 xv, .int .i64 bv, .int .i64 jv, .int .u64 jb, .int .u64 j0, .int .u64 j1, .int .u64 j2, .int .u64 j3, .string bc, .int .u64 xn, .int .i64 cv, .int .u64 cb, .int .u64 c0, .int .u64 c1, .int .u64 c2, .int .u64 c3, .int .u64 xs] 43)) p S B m out) := HM.out.below ((Below.refl _ _).alloc (Nat.le_refl _) _)
  have HF0 : Hid (Fr S w (w.alloc (.cells #[.int .i64 xk, .int .i64 xf, .int .i64 xv, .int .i64 bv, .int .i64 jv, .int .u64 jb, .int .u64 j0, .int .u64 j1, .int .u64 j2, .int .u64 j3, .string bc, .int .u64 xn, .int .i64 cv, .int .u64 cb, .int .u64 c0, .int .u64 c1, .int .u64 c2, .int .u64 c3, .int .u64 xs] 43))) := Fr.alloc _ _ _
  have HNS : Hid (¬ S w.heap.size) := fun h => by have := HLT.out _ h; omega
  generalize w.alloc (.cells #[.int .i64 xk, .int .i64 xf, .int .i64 xv, .int .i64 bv, .int .i64 jv, .int .u64 jb, .int .u64 j0, .int .u64 j1, .int .u64 j2, .int .u64 j3, .string bc, .int .u64 xn, .int .i64 cv, .int .u64 cb, .int .u64 c0, .int .u64 c1, .int .u64 c2, .int .u64 c3, .int .u64 xs] 43) = W0 at *
  have hA1 : W0.cell? ⟨w.heap.size, 1, none⟩ = some (.int .i64 xf) := cell_at HX0.out 1
  have hA2 : W0.cell? ⟨w.heap.size, 2, none⟩ = some (.int .i64 xv) := cell_at HX0.out 2
  have hA12 : W0.cell? ⟨w.heap.size, 12, none⟩ = some (.int .i64 cv) := cell_at HX0.out 12
  have hs := HM0.out.see
  have d0 := hs.c0
  have d2 := hs.c2
  clear hs
  have h1 : ¬ xf < 0 := fun h => hF (.inl h)
  have h2 : ¬ 3 < xf := fun h => hF (.inr (.inl h))
  have h3 : ¬ xv < 1 := fun h => hF (.inr (.inr (.inl h)))
  have h4 : ¬ 1000 < xv := fun h => hF (.inr (.inr (.inr (.inl h))))
  have h5 : ¬ m.id ≠ xv % 4 := fun h => hF (.inr (.inr (.inr (.inr (.inl h)))))
  have h6 : ¬ cv < 0 := fun h => hF (.inr (.inr (.inr (.inr (.inr (.inl h))))))
  have h7 : ¬ xv ≤ cv := fun h => hF (.inr (.inr (.inr (.inr (.inr (.inr h))))))
  have HK0 := HST.out hF
  clear hF
  have g1 : decide (xf < 0) = false := by simp; omega
  have g2 : decide (3 < xf) = false := by simp; omega
  have g3 : decide (xv < 1) = false := by simp; omega
  have g4 : decide (1000 < xv) = false := by simp; omega
  have g5 : (m.id != xv.tmod 4) = false := by rw [Int.tmod_eq_emod_of_nonneg (by omega)]; simpa using h5
  have g6 : decide (cv < 0) = false := by simp; omega
  have g7 : decide (xv ≤ cv) = false := by simp; omega
  have HKH : Hid (R = _) := HK0
  clear HK0
  go_quiet (fail)
  have HK := HKH.out
  have hcb : cb < 18446744073709551616 := HX.out.c.b1
  have HBB : Hid (∀ w1, RMem w1 p S B m out → _) := fun w1 h1 => rblock w1 p S m B out h1 cb
  clear HST HKH g1 g2 g3 g4 g5 g6 g7
  have hgood : Crt.good ⟨cv, cb, c0, c1, c2, c3⟩ = goodB cv cb c0 c1 c2 c3 := rfl
  rw [hgood] at HK
  have HRK : Hid (R = _) := HK
  clear HK hgood
  go_upto_region 5 with (first
    | (go_at_call 25; refine (rseal xf 3 xv 0 (by omega) (by omega) (by omega) (by omega) (by omega) (by omega) (by omega) _).mono ?_; rintro e w1 ⟨rfl, hb1⟩; have hX1 := box_below (w := W0.drewN nq) HX0.out hb1; have a12 : w1.cell? ⟨w.heap.size, 12, none⟩ = some (.int .i64 cv) := cell_at hX1 12; have a13 : w1.cell? ⟨w.heap.size, 13, none⟩ = some (.int .u64 cb) := cell_at hX1 13; have a14 : w1.cell? ⟨w.heap.size, 14, none⟩ = some (.int .u64 c0) := cell_at hX1 14; have a15 : w1.cell? ⟨w.heap.size, 15, none⟩ = some (.int .u64 c1) := cell_at hX1 15; have a16 : w1.cell? ⟨w.heap.size, 16, none⟩ = some (.int .u64 c2) := cell_at hX1 16; have a17 : w1.cell? ⟨w.heap.size, 17, none⟩ = some (.int .u64 c3) := cell_at hX1 17)
    | (go_at_call 30; refine (rgood cv cb c0 c1 c2 c3 (by omega) (by omega) hcb _).mono ?_; rintro e w2 ⟨rfl, hb2⟩))
  have HX2 : Hid (w2.heap[w.heap.size]? = some (.cells #[.int .i64 xk, .int .i64 xf, .int .i64 xv, .int .i64 bv, .int .i64 jv, .int .u64 jb, .int .u64 j0, .int .u64 j1, .int .u64 j2, .int .u64 j3, .string bc, .int .u64 xn, .int .i64 cv, .int .u64 cb, .int .u64 c0, .int .u64 c1, .int .u64 c2, .int .u64 c3, .int .u64 xs] 43 (0, 0))) := box_below hX1 hb2
  have HM2 : Hid (RMem w2 p S B m out) := ((HM0.out.heap (w' := W0.drewN nq) rfl).below hb1).below hb2
  have HF2 : Hid (Fr S w w2) := ((HF0.out.trans (Fr.drewN S W0 nq) (fun _ h => .inl h)).trans (Fr.of_below (S := S) hb1) (fun _ h => .inl h)).trans (Fr.of_below (S := S) hb2) (fun _ h => .inl h)
  clear hX1 hb1 hb2 a12 a13 a14 a15 a16 a17 hA1 hA2 hA12 d0 d2 HX0 HM0 HF0 HM
  generalize sealOf xf 3 xv 0 = sv at *
  generalize goodB cv cb c0 c1 c2 c3 = gd at *
  have hA2 : w2.cell? ⟨w.heap.size, 2, none⟩ = some (.int .i64 xv) := cell_at HX2.out 2
  have hA12 : w2.cell? ⟨w.heap.size, 12, none⟩ = some (.int .i64 cv) := cell_at HX2.out 12
  have hA13 : w2.cell? ⟨w.heap.size, 13, none⟩ = some (.int .u64 cb) := cell_at HX2.out 13
  have hA18 : w2.cell? ⟨w.heap.size, 18, none⟩ = some (.int .u64 xs) := cell_at HX2.out 18
  by_cases hsv : xs ≠ sv
  · have K : Hid (R = (m, 2)) := by show R = (m, 2); rw [HRK.out, if_pos (.inl hsv)]
    have g : (xs == sv) = false := by simp; exact hsv
    go_wp2
    go_ret
    rw [K.out]
    exact ⟨rfl, S, HM2.out, Grow.refl _ _, HF2.out⟩
  have hsv := Decidable.not_not.1 hsv
  subst hsv
  rcases gd with _ | _
  · have K : Hid (R = (m, 2)) := by show R = (m, 2); rw [HRK.out, if_pos (.inr rfl)]
    go_wp2
    go_ret
    rw [K.out]
    exact ⟨rfl, S, HM2.out, Grow.refl _ _, HF2.out⟩
  have HK := HRK.out
  rw [if_neg (by simp)] at HK
  have HBB2 := HBB.out w2 HM2.out
  obtain ⟨q, hq⟩ : ∃ x, x = m.block cb := ⟨_, rfl⟩
  rw [← hq] at HBB2 HK
  clear hq HBB HRK
  have HRK : Hid (R = _) := HK
  clear HK
  rcases q with _ | ⟨qv, ⟨qjv, qjb, q0, q1, q2, q3⟩, qc⟩
  · have K : Hid (R = (m, 3)) := by show R = (m, 3); rw [HRK.out]; exact if_pos (.inl rfl)
    have HBB3 : Calls Tryz.prog 56 #[.pointer (some ⟨p, 0, none⟩), .int .u64 cb] w2 fun e w' => e = .returned (.tuple #[.agg #[.int .i64 0, .int .i64 0, .int .u64 0, .int .u64 0, .int .u64 0, .int .u64 0, .int .u64 0, .string ⟨#[]⟩], .bool false]) ∧ Below w2.heap.size w2 w' := HBB2
    go_wp2_with (go_at_call 56; refine HBB3.mono ?_; rintro e w3 ⟨rfl, hb3⟩)
    go_ret
    rw [K.out]
    exact ⟨rfl, S, (HM2.out.below hb3).below ((Below.refl _ _).alloc (Nat.le_refl _) _), Grow.refl _ _, (HF2.out.trans (Fr.of_below (S := S) hb3) (fun _ h => .inl h)).trans (Fr.alloc S w3 _) (fun _ h => .inl h)⟩
  dsimp only [Option.getD_some, Option.isSome_some, Blk.cells] at HBB2
  by_cases hqv : qv ≠ cv
  · have K : Hid (R = (m, 3)) := by show R = (m, 3); rw [HRK.out]; exact if_pos (.inr hqv)
    have g : (qv == cv) = false := by simp; exact hqv
    go_wp2_with (go_at_call 56; refine HBB2.mono ?_; rintro e w3 ⟨rfl, hb3⟩; have hX3 := box_below HX2.out hb3; have a12 : ∀ o, (w3.alloc o).cell? ⟨w.heap.size, 12, none⟩ = some (.int .i64 cv) := fun o => (World.cell?_of_block (Below.heap_alloc w3 o _ (lt_at hX3))).trans (cell_at hX3 12))
    go_ret
    rw [K.out]
    exact ⟨rfl, S, (HM2.out.below hb3).below ((Below.refl _ _).alloc (Nat.le_refl _) _), Grow.refl _ _, (HF2.out.trans (Fr.of_below (S := S) hb3) (fun _ h => .inl h)).trans (Fr.alloc S w3 _) (fun _ h => .inl h)⟩
  have hqv := Decidable.not_not.1 hqv
  subst hqv
  have HK := HRK.out
  rw [if_neg (by simp)] at HK
  clear HRK
  have HRK : Hid (R = _) := HK
  clear HK
  go_upto_region 10 with (go_at_call 56; refine HBB2.mono ?_; rintro e w3 ⟨rfl, hb3⟩; have hX3 := box_below HX2.out hb3; have a12 : ∀ o, (w3.alloc o).cell? ⟨w.heap.size, 12, none⟩ = some (.int .i64 qv) := fun o => (World.cell?_of_block (Below.heap_alloc w3 o _ (lt_at hX3))).trans (cell_at hX3 12))
  have HX3 : Hid ((w3.alloc (.cells #[.int .i64 qv, .int .i64 qjv, .int .u64 qjb, .int .u64 q0, .int .u64 q1, .int .u64 q2, .int .u64 q3, .string qc] 41)).heap[w.heap.size]? = some (.cells #[.int .i64 xk, .int .i64 xf, .int .i64 xv, .int .i64 bv, .int .i64 jv, .int .u64 jb, .int .u64 j0, .int .u64 j1, .int .u64 j2, .int .u64 j3, .string bc, .int .u64 xn, .int .i64 qv, .int .u64 cb, .int .u64 c0, .int .u64 c1, .int .u64 c2, .int .u64 c3, .int .u64 xs] 43 (0, 0))) := (Below.heap_alloc w3 _ _ (lt_at hX3)).trans hX3
  have HM3 : Hid (RMem (w3.alloc (.cells #[.int .i64 qv, .int .i64 qjv, .int .u64 qjb, .int .u64 q0, .int .u64 q1, .int .u64 q2, .int .u64 q3, .string qc] 41)) p S B m out) := (HM2.out.below hb3).below ((Below.refl _ _).alloc (Nat.le_refl _) _)
  have HF3 : Hid (Fr S w (w3.alloc (.cells #[.int .i64 qv, .int .i64 qjv, .int .u64 qjb, .int .u64 q0, .int .u64 q1, .int .u64 q2, .int .u64 q3, .string qc] 41))) := (HF2.out.trans (Fr.of_below (S := S) hb3) (fun _ h => .inl h)).trans (Fr.alloc S w3 _) (fun _ h => .inl h)
  clear hb3 hX3 a12 HM2 HF2 HX2 hA2 hA12 hA13 hA18 HBB2
  generalize w3.alloc (.cells #[.int .i64 qv, .int .i64 qjv, .int .u64 qjb, .int .u64 q0, .int .u64 q1, .int .u64 q2, .int .u64 q3, .string qc] 41) = W3 at *
  have hA2 : W3.cell? ⟨w.heap.size, 2, none⟩ = some (.int .i64 xv) := cell_at HX3.out 2
  have d2 := HM3.out.see.c2
  by_cases hv : xv < m.view
  · have K : Hid (R = (m, 4)) := by show R = (m, 4); rw [HRK.out]; exact if_pos hv
    go_quiet (fail)
    go_wp2
    go_ret
    rw [K.out]
    exact ⟨rfl, S, HM3.out.heap rfl, Grow.refl _ _, HF3.out.trans (Fr.drewN S W3 nq) (fun _ h => .inl h)⟩
  have HK := HRK.out
  rw [if_neg hv] at HK
  clear HRK
  have HRK : Hid (R = _) := HK
  clear HK
  go_quiet (fail)
  have HX4 : Hid ((W3.drewN nq).heap[w.heap.size]? = some (.cells #[.int .i64 xk, .int .i64 xf, .int .i64 xv, .int .i64 bv, .int .i64 jv, .int .u64 jb, .int .u64 j0, .int .u64 j1, .int .u64 j2, .int .u64 j3, .string bc, .int .u64 xn, .int .i64 qv, .int .u64 cb, .int .u64 c0, .int .u64 c1, .int .u64 c2, .int .u64 c3, .int .u64 xs] 43 (0, 0))) := HX3.out
  have HM4 : Hid (RMem (W3.drewN nq) p S B m out) := HM3.out.heap rfl
  have HF4 : Hid (Fr S w (W3.drewN nq)) := HF3.out.trans (Fr.drewN S W3 nq) (fun _ h => .inl h)
  clear HX3 HM3 HF3 hA2 d2
  generalize W3.drewN nq = W4 at *
  go_wp2
  go_loopw [9, 10] (fun y i wr => ∃ k : Nat, k ≤ m.enters.length ∧ i = .int .i64 k ∧ y = .int .i64 ((entN m xv k : Nat) + 1) ∧ Hid (entAny m xv xf k = false) ∧ Hid (Below W4.heap.size W4 wr)) (fun _ i _ => m.enters.length - (intOf i).toNat)
  case atStart => exact ⟨0, by omega, rfl, rfl, (rfl : entAny m xv xf 0 = false), Below.refl _ _⟩
  case round =>
    obtain ⟨k, hk, rfl, rfl, hno, hb⟩ := hrel
    have hkn := entN_le m xv k
    have HXr : Hid (wr.heap[w.heap.size]? = some (.cells #[.int .i64 xk, .int .i64 xf, .int .i64 xv, .int .i64 bv, .int .i64 jv, .int .u64 jb, .int .u64 j0, .int .u64 j1, .int .u64 j2, .int .u64 j3, .string bc, .int .u64 xn, .int .i64 qv, .int .u64 cb, .int .u64 c0, .int .u64 c1, .int .u64 c2, .int .u64 c3, .int .u64 xs] 43 (0, 0))) := box_below HX4.out hb.out
    have HMr : Hid (RMem wr p S B m out) := HM4.out.below hb.out
    have HFr : Hid (Fr S w wr) := HF4.out.trans (Fr.of_below (S := S) hb.out) (fun _ h => .inl h)
    obtain ⟨vb, vv, ve, vp, vl, vq, vo, h, hB⟩ := HMr.out
    have HO : Hid (∀ k, vo.ownBlock = some k → B ≤ k) := hB
    have HBun : Hid (Bun wr p 59 S (rcells m vb vv ve vp vl vq vo) [vb, vv, ve, vp, vl, vq, vo] rE (rX m out)) := h
    have hre : Row wr S 113 4 ve m.enters.length (m.enters.flatMap Tk.cells) := h.row 2 _ _ _ rfl rfl rfl
    have c19 : wr.cell? ⟨p, 19, none⟩ = some ve := cell_at h.box 19
    have fz := free_at h.box
    have hle := hre.le
    clear h hB
    obtain ⟨ae, ce, rfl⟩ := hre.isSlice
    have HRe : Hid (Row wr S 113 4 (.slice ae m.enters.length ce) m.enters.length (m.enters.flatMap Tk.cells)) := hre
    clear hre
    by_cases hlt : k < m.enters.length
    · obtain ⟨g, off, rfl, hSg, hg, hcap⟩ := HRe.out.place (by omega)
      have hit := entAny_hit m xv xf k hlt
      have hsn := entN_succ m xv k hlt
      have hsa := entAny_succ m xv xf k hlt
      have e0 := HRe.out.elem tkcells_len k 0 hlt (by omega)
      have e1 := HRe.out.elem tkcells_len k 1 hlt (by omega)
      have e2 := HRe.out.elem tkcells_len k 2 hlt (by omega)
      have e3 := HRe.out.elem tkcells_len k 3 hlt (by omega)
      obtain ⟨⟨tf, tv, tn, ts⟩, ht⟩ : ∃ x, x = m.enters[k] := ⟨_, rfl⟩
      rw [← ht] at hit hsn hsa e0 e1 e2 e3
      have HIT : Hid (tv = xv → tf = xf → _) := hit
      have HSN : Hid (entN m xv (k + 1) = entN m xv k + (if tv == xv then 1 else 0)) := hsn
      have HSA : Hid (entAny m xv xf (k + 1) = (entAny m xv xf k || (tv == xv && tf == xf))) := hsa
      have q0 : wr.cell? ⟨g, off + k * 4, none⟩ = some (.int .i64 tf) := by simpa [Tk.cells, Nat.add_assoc] using e0
      have q1 : wr.cell? ⟨g, off + k * 4 + 1, none⟩ = some (.int .i64 tv) := by simpa [Tk.cells, Nat.add_assoc] using e1
      have q2 : wr.cell? ⟨g, off + k * 4 + 2, none⟩ = some (.int .u64 tn) := by simpa [Tk.cells, Nat.add_assoc] using e2
      have q3 : wr.cell? ⟨g, off + k * 4 + 3, none⟩ = some (.int .u64 ts) := by simpa [Tk.cells, Nat.add_assoc] using e3
      clear ht hit hsn hsa e0 e1 e2 e3
      have A1 : ∀ o, (wr.alloc o).cell? ⟨w.heap.size, 1, none⟩ = some (.int .i64 xf) := fun o => (World.cell?_of_block (Below.heap_alloc wr o _ (lt_at HXr.out))).trans (cell_at HXr.out 1)
      have A2 : ∀ o, (wr.alloc o).cell? ⟨w.heap.size, 2, none⟩ = some (.int .i64 xv) := fun o => (World.cell?_of_block (Below.heap_alloc wr o _ (lt_at HXr.out))).trans (cell_at HXr.out 2)
      by_cases htv : tv = xv
      · by_cases htf : tf = xf
        · have K : Hid (R = (m, 5)) := by show R = (m, 5); rw [HRK.out]; exact if_pos (HIT.out htv htf)
          subst htv htf
          go_wp2
          go_ret
          rw [K.out]
          exact ⟨rfl, S, HMr.out.below ((Below.refl _ _).alloc (Nat.le_refl _) _), Grow.refl _ _, HFr.out.trans (Fr.alloc S wr _) (fun _ h => .inl h)⟩
        · subst htv
          go_wp2
          go_round
          case rel => exact ⟨k + 1, by omega, by go_num, by rw [HSN.out]; simp, (by rw [HSA.out, hno.out]; simp [htf] : entAny m tv xf (k + 1) = false), bnext hb.out ((Below.refl _ _).alloc (Nat.le_refl _) _)⟩
          case measure => simp [intOf]; omega
      · go_wp2
        go_round
        case rel => exact ⟨k + 1, by omega, by go_num, by rw [HSN.out]; simp [htv], (by rw [HSA.out, hno.out]; simp [htv] : entAny m xv xf (k + 1) = false), bnext hb.out ((Below.refl _ _).alloc (Nat.le_refl _) _)⟩
        case measure => simp [intOf]; omega
    · have hkl : k = m.enters.length := by omega
      subst hkl
      have HK := HRK.out
      rw [if_neg (by rw [← entAny_all, hno.out]; decide), ← entN_all] at HK
      clear HRK hno
      generalize entN m xv m.enters.length = ne at *
      have HRK : Hid (R = _) := HK
      clear HK
      have A1 : ∀ o, (wr.alloc o).cell? ⟨w.heap.size, 1, none⟩ = some (.int .i64 xf) := fun o => (World.cell?_of_block (Below.heap_alloc wr o _ (lt_at HXr.out))).trans (cell_at HXr.out 1)
      have A2 : ∀ o, (wr.alloc o).cell? ⟨w.heap.size, 2, none⟩ = some (.int .i64 xv) := fun o => (World.cell?_of_block (Below.heap_alloc wr o _ (lt_at HXr.out))).trans (cell_at HXr.out 2)
      have a1 : wr.cell? ⟨w.heap.size, 1, none⟩ = some (.int .i64 xf) := cell_at HXr.out 1
      have a2 : wr.cell? ⟨w.heap.size, 2, none⟩ = some (.int .i64 xv) := cell_at HXr.out 2
      have c19a : ∀ o, (wr.alloc o).cell? ⟨p, 19, none⟩ = some (.slice ae m.enters.length ce) := fun o => cell_at (HBun.out.alloc o).box 19
      have fza : ∀ o i, (wr.alloc o).frozen? ⟨p, i, none⟩ = false := fun o => free_at (HBun.out.alloc o).box
      go_upto_region 21 with fail
      go_cut [] (fun w' => ∃ S7, Hid (RMem w' p S7 B ({ m with enters := m.enters ++ [⟨xf, xv, 0, 0⟩] } : Mem) out) ∧ Hid (w'.heap[w.heap.size]? = some (.cells #[.int .i64 xk, .int .i64 xf, .int .i64 xv, .int .i64 bv, .int .i64 jv, .int .u64 jb, .int .u64 j0, .int .u64 j1, .int .u64 j2, .int .u64 j3, .string bc, .int .u64 xn, .int .i64 qv, .int .u64 cb, .int .u64 c0, .int .u64 c1, .int .u64 c2, .int .u64 c3, .int .u64 xs] 43 (0, 0))) ∧ Hid (Grow S w S7) ∧ Hid (Fr S w w') ∧ Hid (¬ S7 w.heap.size))
      case first =>
        go_region_law (refine step_append_row rfl (.tmp 127) (.tmp 133) 56 rfl S 113 _ 4 32 Tryz.underlying56 info_taken rfl (.slice ae m.enters.length ce) m.enters.length (m.enters.flatMap Tk.cells) (by simp [Act.eval]) ((HRe.out.alloc _).drew) ⟨wr.heap.size, 0, none⟩ 1 1 (Tk.cells ⟨xf, xv, 0, 0⟩) (by simp [Act.eval]) rfl (new_cells _ _ _ rfl) (by simp [Tk.cells, Value.oneCell']) (by omega) (by unfold maxLen; omega) (by omega) ?_; intro v' w7 hr' hf; obtain ⟨a7, cp7, rfl⟩ := hr'.isSlice; have hb7 := ((HBun.out.alloc _).drew).after 2 rfl hf; have q7 : w7.cell? ⟨p, 19, none⟩ = some (.slice ae m.enters.length ce) := cell_at hb7 19; have fz7 := free_at hb7; clear hb7; have R7 : Hid _ := hr'; have F7 : Hid (Fr _ _ w7) := hf; clear hr' hf)
        all_goals (
          have hB7 := ((HBun.out.alloc _).drew).put (C' := rcells ({ m with enters := m.enters ++ [⟨xf, xv, 0, 0⟩] } : Mem) vb vv (.slice a7 (m.enters.length + 1) cp7) vp vl vq vo) (V' := [vb, vv, (.slice a7 (m.enters.length + 1) cp7), vp, vl, vq, vo]) (X' := rX ({ m with enters := m.enters ++ [⟨xf, xv, 0, 0⟩] } : Mem) out) 2 rfl rfl _ (m.enters.length + 1, m.enters.flatMap Tk.cells ++ Tk.cells ⟨xf, xv, 0, 0⟩) R7.out F7.out 19 rfl rfl (by simp [rX])
          have hG7 : Grow S wr (fun k => S k ∨ (Value.slice a7 (m.enters.length + 1) cp7).ownBlock = some k) := grow_put R7.out (by simp [World.drew]) (fun k hk => (HRe.out.ownS hk).1)
          have hF7 := ((HBun.out.alloc _).drew).frPut (S := S) (w := wr) ((Fr.alloc S wr _).trans (Fr.drew S _) (fun _ hi => .inl hi)) 2 rfl F7.out 19 (.slice a7 (m.enters.length + 1) cp7)
          have HM7 : Hid (RMem _ p _ B ({ m with enters := m.enters ++ [⟨xf, xv, 0, 0⟩] } : Mem) out) := ⟨vb, vv, _, vp, vl, vq, vo, hB7, HO.out⟩
          have HX7 : Hid (_ = some (Obj.cells #[.int .i64 xk, .int .i64 xf, .int .i64 xv, .int .i64 bv, .int .i64 jv, .int .u64 jb, .int .u64 j0, .int .u64 j1, .int .u64 j2, .int .u64 j3, .string bc, .int .u64 xn, .int .i64 qv, .int .u64 cb, .int .u64 c0, .int .u64 c1, .int .u64 c2, .int .u64 c3, .int .u64 xs] 43 (0, 0))) := hF7.box HXr.out HNS.out
          have HG7 : Hid (Grow S w _) := (fun k hk => (hG7 k hk).imp id (fun h => Nat.le_trans HFr.out.size h))
          have HF7 : Hid (Fr S w _) := HFr.out.trans hF7 (fun _ h => .inl h)
          have HN7 : Hid (¬ (S w.heap.size ∨ (Value.slice a7 (m.enters.length + 1) cp7).ownBlock = some w.heap.size)) := fun h => by
            rcases hG7 _ h with h1 | h1
            · exact HNS.out h1
            · have := lt_at HXr.out; omega
          go_wp2
          go_meet
          case rel => exact ⟨_, HM7, HX7, HG7, HF7, HN7⟩)
      case rest =>
        obtain ⟨S7, HM7, HX7, HG7, HF7, HN7⟩ := hcut
        clear A1 A2 a1 a2 c19a fza c19 fz HBun HRe HO HFr HMr HXr hb HX4 HM4 HF4
        have b12 : wc.cell? ⟨w.heap.size, 12, none⟩ = some (.int .i64 qv) := cell_at HX7.out 12
        have b13 : wc.cell? ⟨w.heap.size, 13, none⟩ = some (.int .u64 cb) := cell_at HX7.out 13
        have b14 : wc.cell? ⟨w.heap.size, 14, none⟩ = some (.int .u64 c0) := cell_at HX7.out 14
        have b15 : wc.cell? ⟨w.heap.size, 15, none⟩ = some (.int .u64 c1) := cell_at HX7.out 15
        have b16 : wc.cell? ⟨w.heap.size, 16, none⟩ = some (.int .u64 c2) := cell_at HX7.out 16
        have b17 : wc.cell? ⟨w.heap.size, 17, none⟩ = some (.int .u64 c3) := cell_at HX7.out 17
        have HL : Calls Tryz.prog 80 #[.pointer (some ⟨p, 0, none⟩), .agg #[.int .i64 qv, .int .u64 cb, .int .u64 c0, .int .u64 c1, .int .u64 c2, .int .u64 c3]] wc fun e w' => e = .returned (.tuple #[]) ∧ ∃ S', RMem w' p S' B (({ m with enters := m.enters ++ [⟨xf, xv, 0, 0⟩] } : Mem).learn ⟨qv, cb, c0, c1, c2, c3⟩) out ∧ Grow S7 wc S' ∧ Fr S7 wc w' := rlearn wc p S7 ({ m with enters := m.enters ++ [⟨xf, xv, 0, 0⟩] } : Mem) B out HM7.out ⟨qv, cb, c0, c1, c2, c3⟩ (view_all (m := ({ m with enters := m.enters ++ [⟨xf, xv, 0, 0⟩] } : Mem)) HI.out.ch) (halts_all (m := ({ m with enters := m.enters ++ [⟨xf, xv, 0, 0⟩] } : Mem)) HI.out.ch) hlog
        generalize ({ m with enters := m.enters ++ [⟨xf, xv, 0, 0⟩] } : Mem).learn ⟨qv, cb, c0, c1, c2, c3⟩ = m2 at *
        go_upto_region 23 with (go_at_call 80; refine HL.mono ?_; rintro e w8 ⟨rfl, S8, hm8, hg8, hf8⟩)
        have HM8 : Hid (RMem w8 p S8 B m2 out) := hm8
        have HG8 : Hid (Grow S w S8) := HG7.out.trans HF7.out.size hg8
        have HF8 : Hid (Fr S w w8) := HF7.out.grow HG7.out hf8
        have hX8 := hf8.box HX7.out HN7.out
        have e2 : w8.cell? ⟨w.heap.size, 2, none⟩ = some (.int .i64 xv) := cell_at hX8 2
        have d2 := hm8.see.c2
        clear hX8 hm8 hg8 hf8 HL b12 b13 b14 b15 b16 b17 HM7 HX7 HG7 HF7 HN7
        by_cases h3 : 3 ≤ ne + 1
        · by_cases hvv : m2.view < xv
          · have K : Hid (R = (m2.enter xv, 0)) := by show R = _; rw [HRK.out, if_pos ⟨h3, hvv⟩]
            have g3 : decide ((3 : Int) ≤ (ne : Int) + 1) = true := by simp; omega
            go_quiet (fail)
            go_wp2_with (go_at_call 40; refine (renter (w8.drewN nq) p S8 m2 B out (HM8.out.heap rfl) xv).mono ?_; rintro e w9 ⟨rfl, hm9, hf9⟩)
            go_ret
            rw [K.out]
            exact ⟨rfl, S8, hm9, HG8.out, (HF8.out.trans (Fr.drewN S w8 nq) (fun _ h => .inl h)).grow HG8.out hf9⟩
          · have K : Hid (R = (m2, 0)) := by show R = _; rw [HRK.out, if_neg (fun h => hvv h.2)]
            have g3 : decide ((3 : Int) ≤ (ne : Int) + 1) = true := by simp; omega
            have g4 : decide (m2.view < xv) = false := by simp; omega
            go_quiet (fail)
            go_wp2
            go_ret
            rw [K.out]
            exact ⟨rfl, S8, HM8.out.heap rfl, HG8.out, HF8.out.trans (Fr.drewN S w8 nq) (fun _ h => .inl h)⟩
        · have K : Hid (R = (m2, 0)) := by show R = _; rw [HRK.out, if_neg (fun h => h3 h.1)]
          have g3 : decide ((3 : Int) ≤ (ne : Int) + 1) = false := by simp; omega
          go_quiet (fail)
          go_wp2
          go_ret
          rw [K.out]
          exact ⟨rfl, S8, HM8.out.heap rfl, HG8.out, HF8.out.trans (Fr.drewN S w8 nq) (fun _ h => .inl h)⟩
end Go.Proofs.YtkehpnobidendaaGreatDoor
