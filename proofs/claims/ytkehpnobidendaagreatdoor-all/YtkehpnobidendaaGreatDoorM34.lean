/- The program's look at a Vote (faultOfVote). The program's look at a Vote of good form (faultOfVote). The program's look at an Enter (faultOfEnter). The model: a Vote's and an Enter's faults, as the program looks for them, are the model's. No program in it. The program's look at an Enter of good form whose own seal is right (faultOfEnter). A region that reads, and calls what reads and makes new memory alone: one walk in the order of the text serves every order; what is passed over by a guard is passed over. The program's look at an Enter whose own seal is wrong; faultOfEnter, whole. -/
import Derived.Test.YtkehpnobidendaaGreatDoorM30
import Derived.Test.YtkehpnobidendaaGreatDoorM25
namespace Go.Proofs.YtkehpnobidendaaGreatDoor
open Go.RowKit Go.Maps

/-- What is wrong with a Vote. -/
def Mem.faultV (m : Mem) (x : Msg) : Int :=
  if x.fro < 0 ∨ 3 < x.fro ∨ x.view < 1 ∨ 999 < x.view ∨ m.id ≠ (x.view + 1) % 4 then 1
  else if x.sl ≠ sealOf x.fro 2 x.view x.number then 2
  else if ((m.block x.number).isSome && ((m.block x.number).getD Blk.zero).view == x.view) = false then 3
  else if m.old x.view = true then 4
  else if (m.votesFor x.number).any (fun t => t.fro == x.fro) then 5 else 0
set_option maxRecDepth 100000 in
set_option maxHeartbeats 2000000 in
theorem pfaultV1 (w : World) (p : Nat) (S : Nat → Prop) (m : Mem) (h : PMem w p S m) (x : Msg) (hf : x.fro < 0 ∨ 3 < x.fro ∨ x.view < 1 ∨ 999 < x.view ∨ m.id ≠ (x.view + 1) % 4) :
    Calls Tryz.prog 99 #[.pointer (some ⟨p, 0, none⟩), .agg x.cells.toArray] w fun e w' => e = .returned (.int .i64 1) ∧ Below w.heap.size w w' := by
  have c0 := h.see.c0
  have lp := h.see.lt
  clear h
  obtain ⟨xk, xf, xv, ⟨bv, ⟨jv, jb, j0, j1, j2, j3⟩, bc⟩, nu, ⟨cv, cb, k0, k1, k2, k3⟩, sl⟩ := x
  dsimp only [Msg.cells] at *
  have HM : Hid (∀ W, Calls Tryz.prog 55 #[.int .i64 xf] W fun e w' => e = .returned (.bool (decide (0 ≤ xf ∧ xf ≤ 3))) ∧ w' = W) := fun W => pisMember W xf
  have HV : Hid (∀ W, Calls Tryz.prog 110 #[.int .i64 xv, .int .i64 999] W fun e w' => e = .returned (.bool (decide (1 ≤ xv ∧ xv ≤ 999))) ∧ w' = W) := fun W => pisView W xv 999
  by_cases hm : 0 ≤ xf ∧ xf ≤ 3
  · have em : decide (0 ≤ xf ∧ xf ≤ 3) = true := by simp; exact hm
    rw [em] at HM
    clear em
    by_cases hv : 1 ≤ xv ∧ xv ≤ 999
    · have ev : decide (1 ≤ xv ∧ xv ≤ 999) = true := by simp; exact hv
      rw [ev] at HV
      clear ev
      have HL : Hid (∀ W, Calls Tryz.prog 74 #[.int .i64 (xv + 1)] W fun e w' => e = .returned (.int .i64 ((xv + 1) % 4)) ∧ w' = W) := fun W => pleader W (xv + 1) (by omega)
      have hwr : IntKind.i64.wrap (xv + 1) = xv + 1 := by rw [IntKind.wrap_i64]; omega
      have hne : (m.id != (xv + 1) % 4) = true := by simp; omega
      generalize (xv + 1) % 4 = lv at *
      clear hf
      go_enter Tryz.func99, Tryz.ntmps99
      go_wp2
      go_quiet (first | (go_at_call 55; exact Calls.quiet_of_same (HM.out _)) | (go_at_call 110; exact Calls.quiet_of_same (HV.out _)) | (go_at_call 74; exact Calls.quiet_of_same (HL.out _)))
      go_wp2
      go_ret
      exact ⟨rfl, below_drewN (below_alloc _ _) _⟩
    · have ev : decide (1 ≤ xv ∧ xv ≤ 999) = false := by simp; omega
      rw [ev] at HV
      clear ev hf
      go_enter Tryz.func99, Tryz.ntmps99
      go_wp2
      go_quiet (first | (go_at_call 55; exact Calls.quiet_of_same (HM.out _)) | (go_at_call 110; exact Calls.quiet_of_same (HV.out _)))
      go_wp2
      go_ret
      exact ⟨rfl, below_drewN (below_alloc _ _) _⟩
  · have em : decide (0 ≤ xf ∧ xf ≤ 3) = false := by simp; omega
    rw [em] at HM
    clear em hf
    go_enter Tryz.func99, Tryz.ntmps99
    go_wp2
    go_quiet (first | (go_at_call 55; exact Calls.quiet_of_same (HM.out _)))
    go_wp2
    go_ret
    exact ⟨rfl, below_drewN (below_alloc _ _) _⟩
end Go.Proofs.YtkehpnobidendaaGreatDoor

namespace Go.Proofs.YtkehpnobidendaaGreatDoor
open Go.RowKit Go.Maps

/-- Which of a roll. -/
def Rl.at (r : Rl) (i : Int) : Bool := if i = 0 then r.a else if i = 1 then r.b else if i = 2 then r.c else r.d
theorem rl_at (l : List Tk) (i : Int) (h0 : 0 ≤ i) (h1 : i ≤ 3) : (rl l).at i = l.any (fun t => t.fro == i) := by
  rcases (by omega : i = 0 ∨ i = 1 ∨ i = 2 ∨ i = 3) with rfl | rfl | rfl | rfl <;> simp [Rl.at, rl]
theorem ixAt (r : Rl) (i : Int) (h0 : 0 ≤ i) (h1 : i ≤ 3) (w : World) : (Instr.index 119 (rollV r) (.int .i64 i)).run Tryz.prog w = .ok (.bool (r.at i)) w := by
  obtain ⟨a, b, c, d⟩ := r
  rcases (by omega : i = 0 ∨ i = 1 ∨ i = 2 ∨ i = 3) with rfl | rfl | rfl | rfl
  · exact ix0 a b c d w
  · exact ix1 a b c d w
  · exact ix2 a b c d w
  · exact ix3 a b c d w
set_option maxRecDepth 100000 in
set_option maxHeartbeats 2000000 in
theorem pfaultV2 (w : World) (p : Nat) (S : Nat → Prop) (m : Mem) (h : PMem w p S m) (hi : Inv m) (x : Msg) (hx : x.number < 18446744073709551616) (hf : ¬ (x.fro < 0 ∨ 3 < x.fro ∨ x.view < 1 ∨ 999 < x.view ∨ m.id ≠ (x.view + 1) % 4)) :
    Calls Tryz.prog 99 #[.pointer (some ⟨p, 0, none⟩), .agg x.cells.toArray] w fun e w' => e = .returned (.int .i64 (m.faultV x)) ∧ Below w.heap.size w w' := by
  obtain ⟨vq, vl, bb, bv', bw, g1, g2⟩ := h.ex
  obtain ⟨nv, fv, hnv, mv, ov⟩ := g2.mv
  have hs := h.see
  have HP : Hid (PMem w p S m) := h
  have HMV : Hid (∀ W, Below w.heap.size w W → IMap Tryz.prog 36 .u64 isRoll W bv' nv fv) := fun W hW => mv.below hW
  have hv0 : 0 ≤ m.view := by have := hi.v0; omega
  have hv1 := hi.v1
  have hroll : ((m.block x.number).isSome && ((m.block x.number).getD Blk.zero).view == x.view) = true → m.old x.view = false → (fv x.number).getD (rollV Rl.none) = rollV (rl (m.votesFor x.number)) := fun hk ho => by
    have e : m.vw x.number = x.view := by simp at hk; exact hk.2
    exact ov.ok x.number (by rw [e]; exact ho)
  have hany : (rl (m.votesFor x.number)).at x.fro = (m.votesFor x.number).any (fun t => t.fro == x.fro) := rl_at _ _ (by omega) (by omega)
  obtain ⟨R, hR⟩ : ∃ R, R = m.faultV x := ⟨_, rfl⟩
  rw [← hR]
  unfold Mem.faultV at hR
  rw [if_neg hf, ← hany] at hR
  generalize (m.votesFor x.number) = vs at *
  have HKN : Hid (∀ W, Below w.heap.size w W → Calls Tryz.prog 112 #[.pointer (some ⟨p, 0, none⟩), .int .u64 x.number, .int .i64 x.view] W fun e w' => e = .returned (.bool ((m.block x.number).isSome && ((m.block x.number).getD Blk.zero).view == x.view)) ∧ Below W.heap.size W w') := fun W hW => pknows W p S m (h.below hW) x.number hx x.view
  generalize ((m.block x.number).isSome && ((m.block x.number).getD Blk.zero).view == x.view) = kn at *
  have HOL : Hid (∀ W, Below w.heap.size w W → Calls Tryz.prog 94 #[.pointer (some ⟨p, 0, none⟩), .int .i64 x.view] W fun e w' => e = .returned (.bool (m.old x.view)) ∧ w' = W) := fun W hW => pisOld W p m x.view (h.below hW).see.c2 (h.below hW).see.c5 hv0 hv1
  generalize m.old x.view = od at *
  have HSE : Hid (∀ W, Below w.heap.size w W → Calls Tryz.prog 24 #[.int .i64 x.fro, .int .i64 2, .int .i64 x.view, .int .u64 x.number] W fun e w' => e = .returned (.int .u64 (sealOf x.fro 2 x.view x.number)) ∧ Below W.heap.size W w') := fun W hW => pseal x.fro 2 x.view x.number (by omega) (by omega) (by decide) (by decide) (by omega) (by omega) hx W (h.below hW).tab.is
  generalize sealOf x.fro 2 x.view x.number = se at *
  have HC : Hid (∀ W, Below w.heap.size w W → W.cell? ⟨p, 0, none⟩ = some (.int .i64 m.id) ∧ W.cell? ⟨p, 20, none⟩ = some (.map (some bv'))) := fun W hW => ⟨(h.below hW).see.c0, (hW.cell (p := ⟨p, 20, none⟩) hs.lt).trans (cell_at g1.box 20)⟩
  obtain ⟨xk, xf, xv, ⟨bv, ⟨jv, jb, j0, j1, j2, j3⟩, bc⟩, nu, ⟨cv, cb, k0, k1, k2, k3⟩, sl⟩ := x
  dsimp only [Msg.cells] at *
  have hIX : ∀ (r : Rl) (W : World), (Instr.index 119 (rollV r) (.int .i64 xf)).run Tryz.prog W = .ok (.bool (r.at xf)) W := fun r W => ixAt r xf (by omega) (by omega) W
  have HM : Hid (∀ W, Calls Tryz.prog 55 #[.int .i64 xf] W fun e w' => e = .returned (.bool true) ∧ w' = W) := fun W => by have := pisMember W xf; rwa [show decide (0 ≤ xf ∧ xf ≤ 3) = true by simp; omega] at this
  have HV : Hid (∀ W, Calls Tryz.prog 110 #[.int .i64 xv, .int .i64 999] W fun e w' => e = .returned (.bool true) ∧ w' = W) := fun W => by have := pisView W xv 999; rwa [show decide (1 ≤ xv ∧ xv ≤ 999) = true by simp; omega] at this
  have HL : Hid (∀ W, Calls Tryz.prog 74 #[.int .i64 (xv + 1)] W fun e w' => e = .returned (.int .i64 m.id) ∧ w' = W) := fun W => by have := pleader W (xv + 1) (by omega); rwa [show (xv + 1) % 4 = m.id by omega] at this
  have hwr : IntKind.i64.wrap (xv + 1) = xv + 1 := by rw [IntKind.wrap_i64]; omega
  have hne : (m.id != m.id) = false := by simp
  have HRR : Hid (R = if sl ≠ se then 2 else if kn = false then 3 else if od = true then 4 else if (rl vs).at xf = true then 5 else 0) := hR
  have c0 := hs.c0
  have lp := hs.lt
  clear h hi hf g1 g2 hnv mv ov hs hR hany hv0 hv1
  have HW1 : Hid (∃ C : Array Value, (w.alloc (.cells #[.int .i64 xk, .int .i64 xf, .int .i64 xv, .int .i64 bv, .int .i64 jv, .int .u64 jb, .int .u64 j0, .int .u64 j1, .int .u64 j2, .int .u64 j3, .string bc, .int .u64 nu, .int .i64 cv, .int .u64 cb, .int .u64 k0, .int .u64 k1, .int .u64 k2, .int .u64 k3, .int .u64 sl] 43)).heap[w.heap.size]? = some (.cells C 43 (0, 0)) ∧ C[1]? = some (.int .i64 xf) ∧ C[2]? = some (.int .i64 xv) ∧ C[11]? = some (.int .u64 nu) ∧ C[18]? = some (.int .u64 sl)) := ⟨_, heap_alloc_new w _, rfl, rfl, rfl, rfl⟩
  have HB1 : Hid (Below w.heap.size w (w.alloc (.cells #[.int .i64 xk, .int .i64 xf, .int .i64 xv, .int .i64 bv, .int .i64 jv, .int .u64 jb, .int .u64 j0, .int .u64 j1, .int .u64 j2, .int .u64 j3, .string bc, .int .u64 nu, .int .i64 cv, .int .u64 cb, .int .u64 k0, .int .u64 k1, .int .u64 k2, .int .u64 k3, .int .u64 sl] 43))) := below_alloc w _
  obtain ⟨W1, hW1⟩ : ∃ W, W = w.alloc (.cells #[.int .i64 xk, .int .i64 xf, .int .i64 xv, .int .i64 bv, .int .i64 jv, .int .u64 jb, .int .u64 j0, .int .u64 j1, .int .u64 j2, .int .u64 j3, .string bc, .int .u64 nu, .int .i64 cv, .int .u64 cb, .int .u64 k0, .int .u64 k1, .int .u64 k2, .int .u64 k3, .int .u64 sl] 43) := ⟨_, rfl⟩
  rw [← hW1] at HW1 HB1
  go_enter Tryz.func99, Tryz.ntmps99
  go_upto_region 1 with fail
  rw [← hW1]
  clear hW1
  have HX : Hid (∀ W, Below W1.heap.size W1 W → W.cell? ⟨w.heap.size, 1, none⟩ = some (.int .i64 xf) ∧ W.cell? ⟨w.heap.size, 2, none⟩ = some (.int .i64 xv) ∧ W.cell? ⟨w.heap.size, 11, none⟩ = some (.int .u64 nu) ∧ W.cell? ⟨w.heap.size, 18, none⟩ = some (.int .u64 sl)) := fun W hW => by
    obtain ⟨C, e, e1, e2, e3, e4⟩ := HW1.out
    have e' := (hW.block _ (lt_at e)).trans e
    exact ⟨(cell_at e' 1).trans e1, (cell_at e' 2).trans e2, (cell_at e' 11).trans e3, (cell_at e' 18).trans e4⟩
  obtain ⟨d1, d2, d11, d18⟩ := HX.out W1 (Below.refl _ _)
  have c0' := (HC.out W1 HB1.out).1
  clear c0
  go_quiet (first | (go_at_call 55; exact Calls.quiet_of_same (HM.out _)) | (go_at_call 110; exact Calls.quiet_of_same (HV.out _)) | (go_at_call 74; exact Calls.quiet_of_same (HL.out _)))
  clear HM HV HL
  go_upto_region 3 with fail
  have HS : Hid (∀ w', Below W1.heap.size W1 w' → Below W1.heap.size W1 w' ∧ w'.cell? ⟨w.heap.size, 1, none⟩ = some (.int .i64 xf) ∧ w'.cell? ⟨w.heap.size, 2, none⟩ = some (.int .i64 xv) ∧ w'.cell? ⟨w.heap.size, 11, none⟩ = some (.int .u64 nu) ∧ w'.cell? ⟨w.heap.size, 18, none⟩ = some (.int .u64 sl)) := fun w' hb => ⟨hb, HX.out w' hb⟩
  clear d1 d2 d11 d18 c0'
  go_region_held3 (fun w' => Below W1.heap.size W1 w' ∧ w'.cell? ⟨w.heap.size, 1, none⟩ = some (.int .i64 xf) ∧ w'.cell? ⟨w.heap.size, 2, none⟩ = some (.int .i64 xv) ∧ w'.cell? ⟨w.heap.size, 11, none⟩ = some (.int .u64 nu) ∧ w'.cell? ⟨w.heap.size, 18, none⟩ = some (.int .u64 sl))
    (first | (exact HS.out _ (bnext (And.left ‹Below W1.heap.size W1 _ ∧ _›) (by assumption))) | (exact HS.out _ (below_drewN (Below.refl _ _) _).drew) | (exact HS.out _ (bnext (below_drewN (Below.refl _ _) _).drew (by assumption))))
    ((go_at_call 24; refine (HSE.out _ (bnext HB1.out (And.left ‹Below W1.heap.size W1 _ ∧ _›))).mono ?_; rintro e w3 ⟨rfl, hb3⟩))
  have hh : Below W1.heap.size W1 w3 := And.left ‹Below W1.heap.size W1 _ ∧ _›
  obtain ⟨e1, e2, e11, e18⟩ := HX.out w3 hh
  have HH : Hid (Below W1.heap.size W1 w3) := hh
  clear ‹Below W1.heap.size W1 w3 ∧ _› hh hb3
  rcases Bool.eq_false_or_eq_true (sl != se) with hse | hse
  · have hRv : R = 2 := by rw [HRR.out, if_pos (by simpa using hse)]
    go_wp2
    go_ret
    exact ⟨by rw [hRv]; rfl, bnext HB1.out HH.out⟩
  · have hse' : ¬ sl ≠ se := by simpa using hse
    cases kn
    · have hRv : R = 3 := by rw [HRR.out, if_neg hse', if_pos rfl]
      go_wp2_with (go_at_call 112; refine (HKN.out _ (bnext HB1.out HH.out)).mono ?_; rintro e w4 ⟨rfl, hb4⟩)
      go_ret
      exact ⟨by rw [hRv]; rfl, bnext (bnext HB1.out HH.out) hb4⟩
    · cases od
      · have hb' := hroll rfl rfl
        have hRv : R = if (rl vs).at xf = true then 5 else 0 := by rw [HRR.out, if_neg hse', if_neg (by simp), if_neg (by simp)]
        generalize (rl vs) = rr at *
        go_wp2_with (first
          | (go_at_call 112; refine (HKN.out _ (bnext HB1.out HH.out)).mono ?_; rintro e w4 ⟨rfl, hb4⟩; obtain ⟨f1, f2, f11, f18⟩ := HX.out w4 (bnext HH.out hb4); have hB4 := bnext (bnext HB1.out HH.out) hb4; have f20 := (HC.out w4 hB4).2; have HB4 : Hid (Below w.heap.size w w4) := hB4; have hlk : ∀ k, (Instr.lookup 79 (.map (some bv')) (.int .u64 nu) false).run Tryz.prog (w4.drewN k) = .ok (rollV rr) (w4.drewN k) := (fun k => by have := (HMV.out (w4.drewN k) (below_drewN hB4 k)).look Tryz.underlying36 Tryz.underlying79 (zero_roll _) ⟨_, rfl⟩ nu (wf_u64 hx); rwa [hb'] at this); clear hB4 hb4)
          | (go_at_call 94; refine (HOL.out _ HB4.out).mono ?_; rintro e w5 ⟨rfl, rfl⟩))
        generalize hat : rr.at xf = at' at *
        cases at'
        · go_quiet (fail)
          go_wp2
          go_ret
          exact ⟨by first | rfl | (rw [hRv]; rfl), below_drewN HB4.out _⟩
        · go_quiet (fail)
          go_wp2
          go_ret
          exact ⟨by first | rfl | (rw [hRv]; rfl), below_drewN HB4.out _⟩
      · have hRv : R = 4 := by rw [HRR.out, if_neg hse', if_neg (by simp), if_pos rfl]
        go_wp2_with (first
          | (go_at_call 112; refine (HKN.out _ (bnext HB1.out HH.out)).mono ?_; rintro e w4 ⟨rfl, hb4⟩; obtain ⟨f1, f2, f11, f18⟩ := HX.out w4 (bnext HH.out hb4); have HB4 : Hid (Below w.heap.size w w4) := bnext (bnext HB1.out HH.out) hb4; clear hb4)
          | (go_at_call 94; refine (HOL.out _ HB4.out).mono ?_; rintro e w5 ⟨rfl, rfl⟩))
        go_ret
        exact ⟨by rw [hRv]; rfl, HB4.out⟩
theorem pfaultV (w : World) (p : Nat) (S : Nat → Prop) (m : Mem) (h : PMem w p S m) (hi : Inv m) (x : Msg) (hx : x.number < 18446744073709551616) :
    Calls Tryz.prog 99 #[.pointer (some ⟨p, 0, none⟩), .agg x.cells.toArray] w fun e w' => e = .returned (.int .i64 (m.faultV x)) ∧ Below w.heap.size w w' := by
  by_cases hf : x.fro < 0 ∨ 3 < x.fro ∨ x.view < 1 ∨ 999 < x.view ∨ m.id ≠ (x.view + 1) % 4
  · have e : m.faultV x = 1 := by unfold Mem.faultV; rw [if_pos hf]
    rw [e]; exact pfaultV1 w p S m h x hf
  · exact pfaultV2 w p S m h hi x hx hf
end Go.Proofs.YtkehpnobidendaaGreatDoor

namespace Go.Proofs.YtkehpnobidendaaGreatDoor
open Go.RowKit Go.Maps

/-- What is wrong with an Enter. -/
def Mem.faultE (m : Mem) (x : Msg) : Int :=
  if x.fro < 0 ∨ 3 < x.fro ∨ x.view < 1 ∨ 1000 < x.view ∨ m.id ≠ x.view % 4 then 1
  else if decide (0 ≤ x.cert.view ∧ x.cert.view < x.view) = false then 1
  else if x.sl ≠ sealOf x.fro 3 x.view 0 then 2
  else if x.cert.good = false then 2
  else if ((m.block x.cert.block).isSome && ((m.block x.cert.block).getD Blk.zero).view == x.cert.view) = false then 3
  else if decide (x.view < m.view) = true then 4
  else if (m.entered x.view).any (fun t => t.fro == x.fro) then 5 else 0
set_option maxRecDepth 100000 in
set_option maxHeartbeats 2000000 in
theorem pfaultE1 (w : World) (p : Nat) (S : Nat → Prop) (m : Mem) (h : PMem w p S m) (x : Msg) (hf : x.fro < 0 ∨ 3 < x.fro ∨ x.view < 1 ∨ 1000 < x.view ∨ m.id ≠ x.view % 4) :
    Calls Tryz.prog 101 #[.pointer (some ⟨p, 0, none⟩), .agg x.cells.toArray] w fun e w' => e = .returned (.int .i64 1) ∧ Below w.heap.size w w' := by
  have c0 := h.see.c0
  have lp := h.see.lt
  clear h
  obtain ⟨xk, xf, xv, ⟨bv, ⟨jv, jb, j0, j1, j2, j3⟩, bc⟩, nu, ⟨cv, cb, k0, k1, k2, k3⟩, sl⟩ := x
  dsimp only [Msg.cells] at *
  have HM : Hid (∀ W, Calls Tryz.prog 55 #[.int .i64 xf] W fun e w' => e = .returned (.bool (decide (0 ≤ xf ∧ xf ≤ 3))) ∧ w' = W) := fun W => pisMember W xf
  have HV : Hid (∀ W, Calls Tryz.prog 110 #[.int .i64 xv, .int .i64 1000] W fun e w' => e = .returned (.bool (decide (1 ≤ xv ∧ xv ≤ 1000))) ∧ w' = W) := fun W => pisView W xv 1000
  by_cases hm : 0 ≤ xf ∧ xf ≤ 3
  · have em : decide (0 ≤ xf ∧ xf ≤ 3) = true := by simp; exact hm
    rw [em] at HM
    clear em
    by_cases hv : 1 ≤ xv ∧ xv ≤ 1000
    · have ev : decide (1 ≤ xv ∧ xv ≤ 1000) = true := by simp; exact hv
      rw [ev] at HV
      clear ev
      have HL : Hid (∀ W, Calls Tryz.prog 74 #[.int .i64 xv] W fun e w' => e = .returned (.int .i64 (xv % 4)) ∧ w' = W) := fun W => pleader W xv (by omega)
      have hne : (m.id != xv % 4) = true := by simp; omega
      generalize xv % 4 = lv at *
      clear hf
      go_enter Tryz.func101, Tryz.ntmps101
      go_wp2
      go_quiet (first | (go_at_call 55; exact Calls.quiet_of_same (HM.out _)) | (go_at_call 110; exact Calls.quiet_of_same (HV.out _)) | (go_at_call 74; exact Calls.quiet_of_same (HL.out _)))
      go_wp2
      go_ret
      exact ⟨rfl, below_drewN (below_alloc _ _) _⟩
    · have ev : decide (1 ≤ xv ∧ xv ≤ 1000) = false := by simp; omega
      rw [ev] at HV
      clear ev hf
      go_enter Tryz.func101, Tryz.ntmps101
      go_wp2
      go_quiet (first | (go_at_call 55; exact Calls.quiet_of_same (HM.out _)) | (go_at_call 110; exact Calls.quiet_of_same (HV.out _)))
      go_wp2
      go_ret
      exact ⟨rfl, below_drewN (below_alloc _ _) _⟩
  · have em : decide (0 ≤ xf ∧ xf ≤ 3) = false := by simp; omega
    rw [em] at HM
    clear em hf
    go_enter Tryz.func101, Tryz.ntmps101
    go_wp2
    go_quiet (first | (go_at_call 55; exact Calls.quiet_of_same (HM.out _)))
    go_wp2
    go_ret
    exact ⟨rfl, below_drewN (below_alloc _ _) _⟩
end Go.Proofs.YtkehpnobidendaaGreatDoor

namespace Go.Proofs.YtkehpnobidendaaGreatDoor

theorem old_iff (m : Mem) (v : Int) : (v < m.view - 1 ∨ v ≤ m.high.view) ↔ m.old v = true := by unfold Mem.old; simp
theorem vote_fault {m : Mem} {x : Msg} (h : m.faultV x ≠ 0) : m.vote x = (m, m.faultV x) := by
  unfold Mem.vote Mem.faultV at *
  by_cases h1 : x.fro < 0 ∨ 3 < x.fro ∨ x.view < 1 ∨ 999 < x.view ∨ m.id ≠ (x.view + 1) % 4
  · rw [if_pos h1, if_pos h1]
  · rw [if_neg h1] at h ⊢
    rw [if_neg h1]
    by_cases h2 : x.sl ≠ sealOf x.fro 2 x.view x.number
    · rw [if_pos h2, if_pos h2]
    · rw [if_neg h2] at h ⊢
      rw [if_neg h2]
      cases hb : m.block x.number with
      | none => simp
      | some b =>
        simp only [hb, Option.isSome_some, Bool.true_and, Option.getD_some] at h ⊢
        by_cases h3 : b.view = x.view
        · have e3 : ¬ ((b.view == x.view) = false) := by simp [h3]
          have e3' : ¬ (b.view ≠ x.view) := fun h => h h3
          rw [if_neg e3] at h ⊢
          rw [if_neg e3']
          by_cases h4 : m.old x.view = true
          · rw [if_pos h4, if_pos ((old_iff m x.view).2 h4)]
          · rw [if_neg h4] at h ⊢
            rw [if_neg (fun hh => h4 ((old_iff m x.view).1 hh))]
            by_cases h5 : (m.votesFor x.number).any (fun t => t.fro == x.fro) = true
            · rw [if_pos h5, if_pos h5]
            · rw [if_neg h5] at h
              exact absurd rfl h
        · have e3 : (b.view == x.view) = false := by simp [h3]
          rw [if_pos e3, if_pos h3]
/-- What a Vote without a fault does. -/
theorem vote_fine {m : Mem} {x : Msg} (h : m.faultV x = 0) : (0 ≤ x.fro ∧ x.fro ≤ 3 ∧ 1 ≤ x.view ∧ x.view ≤ 999 ∧ m.id = (x.view + 1) % 4) ∧ x.sl = sealOf x.fro 2 x.view x.number ∧ (∃ b, m.block x.number = some b ∧ b.view = x.view) ∧ m.old x.view = false ∧ (m.votesFor x.number).any (fun t => t.fro == x.fro) = false ∧
    m.vote x = (let c := ((m.votesFor x.number).foldl (fun (c : Crt) t => c.put t.fro t.sl) { Crt.zero with view := x.view, block := x.number }).put x.fro x.sl
      let m1 : Mem := { m with votes := m.votes ++ [⟨x.fro, x.view, x.number, x.sl⟩] }
      if 3 ≤ (m.votesFor x.number).length + 1 then
        let m2 := m1.learn c
        (if m2.view ≤ x.view then m2.enter (x.view + 1) else m2, 0)
      else (m1, 0)) := by
  unfold Mem.faultV at h
  unfold Mem.vote
  by_cases h1 : x.fro < 0 ∨ 3 < x.fro ∨ x.view < 1 ∨ 999 < x.view ∨ m.id ≠ (x.view + 1) % 4
  · rw [if_pos h1] at h; exact absurd h (by decide)
  · rw [if_neg h1] at h ⊢
    refine ⟨by omega, ?_⟩
    by_cases h2 : x.sl ≠ sealOf x.fro 2 x.view x.number
    · rw [if_pos h2] at h; exact absurd h (by decide)
    · rw [if_neg h2] at h ⊢
      refine ⟨by simpa using h2, ?_⟩
      cases hb : m.block x.number with
      | none => simp [hb] at h
      | some b =>
        simp only [hb, Option.isSome_some, Bool.true_and, Option.getD_some] at h ⊢
        by_cases h3 : b.view = x.view
        · have e3 : ¬ ((b.view == x.view) = false) := by simp [h3]
          rw [if_neg e3] at h
          refine ⟨⟨b, rfl, h3⟩, ?_⟩
          by_cases h4 : m.old x.view = true
          · rw [if_pos h4] at h; exact absurd h (by decide)
          · rw [if_neg h4] at h
            refine ⟨by simpa using h4, ?_⟩
            by_cases h5 : (m.votesFor x.number).any (fun t => t.fro == x.fro) = true
            · rw [if_pos h5] at h; exact absurd h (by decide)
            · refine ⟨by simpa using h5, ?_⟩
              rw [if_neg (fun hh => hh h3), if_neg (fun hh => h4 ((old_iff m x.view).1 hh)), if_neg h5]
        · have e3 : (b.view == x.view) = false := by simp [h3]
          rw [if_pos e3] at h; exact absurd h (by decide)
end Go.Proofs.YtkehpnobidendaaGreatDoor

namespace Go.Proofs.YtkehpnobidendaaGreatDoor
open Go.RowKit Go.Maps

theorem fld_roll (a b c d e : Bool) (w : World) : (Instr.field 121 (.agg #[.bool a, .bool b, .bool c, .bool d, .bool e]) 1).run Tryz.prog w = .ok (.agg #[.bool b, .bool c, .bool d, .bool e]) w := by kernel_rfl
set_option maxRecDepth 100000 in
set_option maxHeartbeats 2000000 in
theorem pfaultE2 (w : World) (p : Nat) (S : Nat → Prop) (m : Mem) (h : PMem w p S m) (x : Msg) (hx : x.cert.Ok) (hf : ¬ (x.fro < 0 ∨ 3 < x.fro ∨ x.view < 1 ∨ 1000 < x.view ∨ m.id ≠ x.view % 4)) (hseal : decide (0 ≤ x.cert.view ∧ x.cert.view < x.view) = true → x.sl = sealOf x.fro 3 x.view 0) :
    Calls Tryz.prog 101 #[.pointer (some ⟨p, 0, none⟩), .agg x.cells.toArray] w fun e w' => e = .returned (.int .i64 (m.faultE x)) ∧ Below w.heap.size w w' := by
  obtain ⟨vq, vl, bb, bv', bw, g1, g2⟩ := h.ex
  obtain ⟨nv, fv, hnv, mv, ov⟩ := g2.mw
  have hs := h.see
  have HMV : Hid (∀ W, Below w.heap.size w W → IMap Tryz.prog 3 .i64 isRec W bw nv fv) := fun W hW => mv.below hW
  have hrec : decide (x.view < m.view) = false → (fv x.view).getD (recV Vr.none) = recV (vr m x.view) := fun ho => ov.ok x.view (by simpa using ho)
  have hany : (vr m x.view).r.at x.fro = (m.entered x.view).any (fun t => t.fro == x.fro) := rl_at _ _ (by omega) (by omega)
  obtain ⟨R, hR⟩ : ∃ R, R = m.faultE x := ⟨_, rfl⟩
  rw [← hR]
  unfold Mem.faultE at hR
  rw [if_neg hf, ← hany] at hR
  generalize vr m x.view = rr at *
  have HKN : Hid (∀ W, Below w.heap.size w W → Calls Tryz.prog 112 #[.pointer (some ⟨p, 0, none⟩), .int .u64 x.cert.block, .int .i64 x.cert.view] W fun e w' => e = .returned (.bool ((m.block x.cert.block).isSome && ((m.block x.cert.block).getD Blk.zero).view == x.cert.view)) ∧ Below W.heap.size W w') := fun W hW => pknows W p S m (h.below hW) x.cert.block hx.b1 x.cert.view
  generalize ((m.block x.cert.block).isSome && ((m.block x.cert.block).getD Blk.zero).view == x.cert.view) = kn at *
  have HSE : Hid (∀ W, Below w.heap.size w W → Calls Tryz.prog 24 #[.int .i64 x.fro, .int .i64 3, .int .i64 x.view, .int .u64 0] W fun e w' => e = .returned (.int .u64 (sealOf x.fro 3 x.view 0)) ∧ Below W.heap.size W w') := fun W hW => pseal x.fro 3 x.view 0 (by omega) (by omega) (by decide) (by decide) (by omega) (by omega) (by decide) W (h.below hW).tab.is
  generalize sealOf x.fro 3 x.view 0 = se at *
  have HGD : Hid (∀ W, Below w.heap.size w W → Calls Tryz.prog 29 #[.agg #[.int .i64 x.cert.view, .int .u64 x.cert.block, .int .u64 x.cert.s0, .int .u64 x.cert.s1, .int .u64 x.cert.s2, .int .u64 x.cert.s3]] W fun e w' => e = .returned (.bool x.cert.good) ∧ Below W.heap.size W w') := fun W hW => pgood _ _ _ _ _ _ hx.v0 hx.v1 hx.b1 W (h.below hW).tab.is
  generalize x.cert.good = gd at *
  have HIB : Hid (∀ W, Calls Tryz.prog 111 #[.agg #[.int .i64 x.cert.view, .int .u64 x.cert.block, .int .u64 x.cert.s0, .int .u64 x.cert.s1, .int .u64 x.cert.s2, .int .u64 x.cert.s3], .int .i64 x.view] W fun e w' => e = .returned (.bool (decide (0 ≤ x.cert.view ∧ x.cert.view < x.view))) ∧ Below W.heap.size W w') := fun W => pisBelow W _ _ _ _ _ _ _
  generalize decide (0 ≤ x.cert.view ∧ x.cert.view < x.view) = ib at *
  have HC : Hid (∀ W, Below w.heap.size w W → W.cell? ⟨p, 0, none⟩ = some (.int .i64 m.id) ∧ W.cell? ⟨p, 2, none⟩ = some (.int .i64 m.view) ∧ W.cell? ⟨p, 21, none⟩ = some (.map (some bw))) := fun W hW => ⟨(h.below hW).see.c0, (h.below hW).see.c2, (hW.cell (p := ⟨p, 21, none⟩) hs.lt).trans (cell_at g1.box 21)⟩
  obtain ⟨xk, xf, xv, ⟨bv, ⟨jv, jb, j0, j1, j2, j3⟩, bc⟩, nu, ⟨cv, cb, k0, k1, k2, k3⟩, sl⟩ := x
  dsimp only [Msg.cells] at *
  have hIX : ∀ (r : Rl) (W : World), (Instr.index 119 (.agg #[.bool r.a, .bool r.b, .bool r.c, .bool r.d]) (.int .i64 xf)).run Tryz.prog W = .ok (.bool (r.at xf)) W := fun r W => ixAt r xf (by omega) (by omega) W
  have hFD := fld_roll
  have HM : Hid (∀ W, Calls Tryz.prog 55 #[.int .i64 xf] W fun e w' => e = .returned (.bool true) ∧ w' = W) := fun W => by have := pisMember W xf; rwa [show decide (0 ≤ xf ∧ xf ≤ 3) = true by simp; omega] at this
  have HV : Hid (∀ W, Calls Tryz.prog 110 #[.int .i64 xv, .int .i64 1000] W fun e w' => e = .returned (.bool true) ∧ w' = W) := fun W => by have := pisView W xv 1000; rwa [show decide (1 ≤ xv ∧ xv ≤ 1000) = true by simp; omega] at this
  have HL : Hid (∀ W, Calls Tryz.prog 74 #[.int .i64 xv] W fun e w' => e = .returned (.int .i64 m.id) ∧ w' = W) := fun W => by have := pleader W xv (by omega); rwa [show xv % 4 = m.id by omega] at this
  have hne : (m.id != m.id) = false := by simp
  have hwf : (Lit.int .i64 xv).wf = true := wf_i64 (by omega) (by omega)
  have HRR : Hid (R = if ib = false then 1 else if sl ≠ se then 2 else if gd = false then 2 else if kn = false then 3 else if decide (xv < m.view) = true then 4 else if rr.r.at xf = true then 5 else 0) := hR
  have HSL : Hid (ib = true → sl = se) := hseal
  clear h hx hf g1 g2 hnv mv ov hR hany hseal
  have HW1 : Hid (∃ C : Array Value, (w.alloc (.cells #[.int .i64 xk, .int .i64 xf, .int .i64 xv, .int .i64 bv, .int .i64 jv, .int .u64 jb, .int .u64 j0, .int .u64 j1, .int .u64 j2, .int .u64 j3, .string bc, .int .u64 nu, .int .i64 cv, .int .u64 cb, .int .u64 k0, .int .u64 k1, .int .u64 k2, .int .u64 k3, .int .u64 sl] 43)).heap[w.heap.size]? = some (.cells C 43 (0, 0)) ∧ C[1]? = some (.int .i64 xf) ∧ C[2]? = some (.int .i64 xv) ∧ C[12]? = some (.int .i64 cv) ∧ C[13]? = some (.int .u64 cb) ∧ C[14]? = some (.int .u64 k0) ∧ C[15]? = some (.int .u64 k1) ∧ C[16]? = some (.int .u64 k2) ∧ C[17]? = some (.int .u64 k3) ∧ C[18]? = some (.int .u64 sl)) := ⟨_, heap_alloc_new w _, rfl, rfl, rfl, rfl, rfl, rfl, rfl, rfl, rfl⟩
  have HB1 : Hid (Below w.heap.size w (w.alloc (.cells #[.int .i64 xk, .int .i64 xf, .int .i64 xv, .int .i64 bv, .int .i64 jv, .int .u64 jb, .int .u64 j0, .int .u64 j1, .int .u64 j2, .int .u64 j3, .string bc, .int .u64 nu, .int .i64 cv, .int .u64 cb, .int .u64 k0, .int .u64 k1, .int .u64 k2, .int .u64 k3, .int .u64 sl] 43))) := below_alloc w _
  obtain ⟨W1, hW1⟩ : ∃ W, W = w.alloc (.cells #[.int .i64 xk, .int .i64 xf, .int .i64 xv, .int .i64 bv, .int .i64 jv, .int .u64 jb, .int .u64 j0, .int .u64 j1, .int .u64 j2, .int .u64 j3, .string bc, .int .u64 nu, .int .i64 cv, .int .u64 cb, .int .u64 k0, .int .u64 k1, .int .u64 k2, .int .u64 k3, .int .u64 sl] 43) := ⟨_, rfl⟩
  rw [← hW1] at HW1 HB1
  clear hs
  go_enter Tryz.func101, Tryz.ntmps101
  go_upto_region 1 with fail
  rw [← hW1]
  clear hW1
  have HX : Hid (∀ W, Below W1.heap.size W1 W → W.cell? ⟨w.heap.size, 1, none⟩ = some (.int .i64 xf) ∧ W.cell? ⟨w.heap.size, 2, none⟩ = some (.int .i64 xv) ∧ W.cell? ⟨w.heap.size, 12, none⟩ = some (.int .i64 cv) ∧ W.cell? ⟨w.heap.size, 13, none⟩ = some (.int .u64 cb) ∧ W.cell? ⟨w.heap.size, 14, none⟩ = some (.int .u64 k0) ∧ W.cell? ⟨w.heap.size, 15, none⟩ = some (.int .u64 k1) ∧ W.cell? ⟨w.heap.size, 16, none⟩ = some (.int .u64 k2) ∧ W.cell? ⟨w.heap.size, 17, none⟩ = some (.int .u64 k3) ∧ W.cell? ⟨w.heap.size, 18, none⟩ = some (.int .u64 sl)) := fun W hW => by
    obtain ⟨C, e, e1, e2, e12, e13, e14, e15, e16, e17, e18⟩ := HW1.out
    have e' := (hW.block _ (lt_at e)).trans e
    exact ⟨(cell_at e' 1).trans e1, (cell_at e' 2).trans e2, (cell_at e' 12).trans e12, (cell_at e' 13).trans e13, (cell_at e' 14).trans e14, (cell_at e' 15).trans e15, (cell_at e' 16).trans e16, (cell_at e' 17).trans e17, (cell_at e' 18).trans e18⟩
  obtain ⟨d1, d2, d12, d13, d14, d15, d16, d17, d18⟩ := HX.out W1 (Below.refl _ _)
  have c0' := (HC.out W1 HB1.out).1
  go_quiet (first | (go_at_call 55; exact Calls.quiet_of_same (HM.out _)) | (go_at_call 110; exact Calls.quiet_of_same (HV.out _)) | (go_at_call 74; exact Calls.quiet_of_same (HL.out _)))
  clear HM HV HL
  cases ib
  · have hRv : R = 1 := by rw [HRR.out, if_pos rfl]
    go_wp2_with (go_at_call 111; refine (HIB.out _).mono ?_; rintro e w3 ⟨rfl, hb3⟩)
    go_ret
    exact ⟨by first | rfl | (rw [hRv]; rfl), bnext (below_drewN HB1.out _) hb3⟩
  · go_upto_region 5 with (go_at_call 111; refine (HIB.out _).mono ?_; rintro e w3 ⟨rfl, hb3⟩)
    have hB3 : Below W1.heap.size W1 w3 := bnext (below_drewN (Below.refl _ _) _) hb3
    obtain ⟨a1, a2, a12, a13, a14, a15, a16, a17, a18⟩ := HX.out w3 hB3
    have HB3 : Hid (Below W1.heap.size W1 w3) := hB3
    clear hb3 hB3 d1 d2 d12 d13 d14 d15 d16 d17 d18 c0'
    have hslse : sl = se := by first | exact HSL.out rfl | exact HSL.out trivial
    have hse : (sl != se) = false := by simp [hslse]
    have hse' : ¬ sl ≠ se := by simpa using hse
    have HS : Hid (∀ w', Below W1.heap.size W1 w' → Below W1.heap.size W1 w' ∧ w'.cell? ⟨w.heap.size, 1, none⟩ = some (.int .i64 xf) ∧ w'.cell? ⟨w.heap.size, 2, none⟩ = some (.int .i64 xv) ∧ w'.cell? ⟨w.heap.size, 12, none⟩ = some (.int .i64 cv) ∧ w'.cell? ⟨w.heap.size, 13, none⟩ = some (.int .u64 cb) ∧ w'.cell? ⟨w.heap.size, 14, none⟩ = some (.int .u64 k0) ∧ w'.cell? ⟨w.heap.size, 15, none⟩ = some (.int .u64 k1) ∧ w'.cell? ⟨w.heap.size, 16, none⟩ = some (.int .u64 k2) ∧ w'.cell? ⟨w.heap.size, 17, none⟩ = some (.int .u64 k3) ∧ w'.cell? ⟨w.heap.size, 18, none⟩ = some (.int .u64 sl)) := fun w' hb => ⟨hb, HX.out w' hb⟩
    clear a1 a2 a12 a13 a14 a15 a16 a17 a18
    go_region_held3 (fun w' => Below W1.heap.size W1 w' ∧ w'.cell? ⟨w.heap.size, 1, none⟩ = some (.int .i64 xf) ∧ w'.cell? ⟨w.heap.size, 2, none⟩ = some (.int .i64 xv) ∧ w'.cell? ⟨w.heap.size, 12, none⟩ = some (.int .i64 cv) ∧ w'.cell? ⟨w.heap.size, 13, none⟩ = some (.int .u64 cb) ∧ w'.cell? ⟨w.heap.size, 14, none⟩ = some (.int .u64 k0) ∧ w'.cell? ⟨w.heap.size, 15, none⟩ = some (.int .u64 k1) ∧ w'.cell? ⟨w.heap.size, 16, none⟩ = some (.int .u64 k2) ∧ w'.cell? ⟨w.heap.size, 17, none⟩ = some (.int .u64 k3) ∧ w'.cell? ⟨w.heap.size, 18, none⟩ = some (.int .u64 sl))
      (first | (exact HS.out _ (bnext (And.left ‹Below W1.heap.size W1 _ ∧ _›) (by assumption))) | (exact HS.out _ HB3.out.drew) | (exact HS.out _ HB3.out))
      ((first
        | (go_at_call 24; refine (HSE.out _ (bnext HB1.out (And.left ‹Below W1.heap.size W1 _ ∧ _›))).mono ?_; rintro e w4 ⟨rfl, hb4⟩)
        | (go_at_call 29; refine (HGD.out _ (bnext HB1.out (And.left ‹Below W1.heap.size W1 _ ∧ _›))).mono ?_; rintro e w5 ⟨rfl, hb5⟩)))
    all_goals (
      have hh : Below W1.heap.size W1 w5 := And.left ‹Below W1.heap.size W1 _ ∧ _›
      obtain ⟨g1, g2, g12, g13, g14, g15, g16, g17, g18⟩ := HX.out w5 hh
      have HH : Hid (Below W1.heap.size W1 w5) := hh
      clear ‹Below W1.heap.size W1 w5 ∧ _›
      clear hh hb5 hb4
      cases gd
      · have hRv : R = 2 := by rw [HRR.out, if_neg (by simp), if_neg hse', if_pos rfl]
        go_wp2
        go_ret
        exact ⟨by first | rfl | (rw [hRv]; rfl), bnext HB1.out HH.out⟩
      · cases kn
        · have hRv : R = 3 := by rw [HRR.out, if_neg (by simp), if_neg hse', if_neg (by simp), if_pos rfl]
          go_wp2_with (go_at_call 112; refine (HKN.out _ (bnext HB1.out HH.out)).mono ?_; rintro e w6 ⟨rfl, hb6⟩)
          go_ret
          exact ⟨by first | rfl | (rw [hRv]; rfl), bnext (bnext HB1.out HH.out) hb6⟩
        · have hlt : ∀ c, Below w.heap.size w c → Hid (Below w.heap.size w c) := fun _ h => h
          rcases Bool.eq_false_or_eq_true (decide (xv < m.view)) with hov | hov
          · have hRv : R = 4 := by rw [HRR.out, if_neg (by simp), if_neg hse', if_neg (by simp), if_neg (by simp), if_pos hov]
            go_wp2_with (go_at_call 112; refine (HKN.out _ (bnext HB1.out HH.out)).mono ?_; rintro e w6 ⟨rfl, hb6⟩; obtain ⟨i1, i2, i12, i13, i14, i15, i16, i17, i18⟩ := HX.out w6 (bnext HH.out hb6); have hB6 := bnext (bnext HB1.out HH.out) hb6; have i20 := (HC.out w6 hB6).2.1; have HB6 := hlt w6 hB6; clear hB6 hb6)
            have hol : xv < m.view := by simpa using hov
            go_quiet (fail)
            go_wp2
            go_ret
            exact ⟨by first | rfl | (rw [hRv]; rfl), below_drewN HB6.out _⟩
          · have hrv := hrec hov
            have hRv : R = if rr.r.at xf = true then 5 else 0 := by rw [HRR.out, if_neg (by simp), if_neg hse', if_neg (by simp), if_neg (by simp), if_neg (by rw [hov]; simp)]
            have hol : ¬ xv < m.view := by simpa using hov
            obtain ⟨rp, ⟨r0, r1, r2, r3⟩⟩ := rr
            go_wp2_with (go_at_call 112; refine (HKN.out _ (bnext HB1.out HH.out)).mono ?_; rintro e w6 ⟨rfl, hb6⟩; obtain ⟨i1, i2, i12, i13, i14, i15, i16, i17, i18⟩ := HX.out w6 (bnext HH.out hb6); have hB6 := bnext (bnext HB1.out HH.out) hb6; have i20 := (HC.out w6 hB6).2.1; have i21 := (HC.out w6 hB6).2.2; have hlk : ∀ k, (Instr.lookup 80 (.map (some bw)) (.int .i64 xv) false).run Tryz.prog (w6.drewN k) = .ok (.agg #[.bool rp, .bool r0, .bool r1, .bool r2, .bool r3]) (w6.drewN k) := (fun k => by have := (HMV.out (w6.drewN k) (below_drewN hB6 k)).look Tryz.underlying3 Tryz.underlying80 (zero_rec _) ⟨_, rfl⟩ xv hwf; rw [hrv] at this; exact this); have HB6 := hlt w6 hB6; clear hB6 hb6)
            go_quiet (fail)
            go_wp2
            generalize hat : (⟨r0, r1, r2, r3⟩ : Rl).at xf = at' at *
            have hIX' : ∀ W : World, (Instr.index 119 (.agg #[.bool r0, .bool r1, .bool r2, .bool r3]) (.int .i64 xf)).run Tryz.prog W = .ok (.bool at') W := fun W => by rw [← hat]; exact hIX ⟨r0, r1, r2, r3⟩ W
            clear hIX
            cases at'
            · go_quiet (fail)
              go_wp2
              go_ret
              exact ⟨by first | rfl | (rw [hRv]; rfl), (by first | exact below_drewN HB6.out _ | exact below_drewN (below_drewN HB6.out _) _)⟩
            · go_quiet (fail)
              go_wp2
              go_ret
              exact ⟨by first | rfl | (rw [hRv]; rfl), (by first | exact below_drewN HB6.out _ | exact below_drewN (below_drewN HB6.out _) _)⟩)
end Go.Proofs.YtkehpnobidendaaGreatDoor

namespace Go.Proofs.YtkehpnobidendaaGreatDoor
open Go.RowKit

/-- The worlds in which what lay in W1 lies as it lay. -/
structure Cls (W1 : World) where
  w : World
  b : Below W1.heap.size W1 w
instance clsThere (W1 : World) : Nonempty (Cls W1) := ⟨⟨W1, Below.refl _ _⟩⟩
theorem wp_region_cls {P : Program} {id : Nat} {Q : Exit → Act → World → Prop} {a : Act} {w : World} {l : List Oper} (W1 : World) (hW : Below W1.heap.size W1 w) (hm : P.follows .mixedOrders = true) (hB : Region.lexB .any l.toArray = true)
    (h : wpQuiet P l.toArray (fun w' => ∃ c : Cls W1, w' = c.w) (fun a' => ∀ w', (∃ c : Cls W1, w' = c.w) → Q .normal a' w') l a) : (Code.region id l.toArray true).wp P Q a w :=
  wp_region_quiet (C := fun w' => ∃ c : Cls W1, w' = c.w) hm hB ⟨⟨w.drew, hW.drew⟩, rfl⟩ (by simpa using h)
theorem Calls.cls {P : Program} {f : FuncId} {args : Array Value} {W1 : World} {c : Cls W1} {v : Value} (h : Calls P f args c.w fun e w' => e = .returned v ∧ Below c.w.heap.size c.w w') : Calls P f args c.w fun e w'' => e = .returned v ∧ ∃ c' : Cls W1, w'' = c'.w :=
  h.mono (fun _ w' hh => ⟨hh.1, ⟨w', bnext c.b hh.2⟩, rfl⟩)
theorem Calls.cls_same {P : Program} {f : FuncId} {args : Array Value} {W1 : World} {c : Cls W1} {v : Value} (h : Calls P f args c.w fun e w' => e = .returned v ∧ w' = c.w) : Calls P f args c.w fun e w'' => e = .returned v ∧ ∃ c' : Cls W1, w'' = c'.w :=
  h.mono (fun _ _ hh => ⟨hh.1, c, hh.2⟩)
end Go.Proofs.YtkehpnobidendaaGreatDoor

namespace Go.Proofs.YtkehpnobidendaaGreatDoor
open Go.RowKit Go.Maps

set_option maxRecDepth 100000 in
set_option maxHeartbeats 2000000 in
theorem pfaultE3 (w : World) (p : Nat) (S : Nat → Prop) (m : Mem) (h : PMem w p S m) (x : Msg) (hf : ¬ (x.fro < 0 ∨ 3 < x.fro ∨ x.view < 1 ∨ 1000 < x.view ∨ m.id ≠ x.view % 4)) (hib : decide (0 ≤ x.cert.view ∧ x.cert.view < x.view) = true) (hseal : x.sl ≠ sealOf x.fro 3 x.view 0) :
    Calls Tryz.prog 101 #[.pointer (some ⟨p, 0, none⟩), .agg x.cells.toArray] w fun e w' => e = .returned (.int .i64 2) ∧ Below w.heap.size w w' := by
  have HSE : Hid (∀ W, Below w.heap.size w W → Calls Tryz.prog 24 #[.int .i64 x.fro, .int .i64 3, .int .i64 x.view, .int .u64 0] W fun e w' => e = .returned (.int .u64 (sealOf x.fro 3 x.view 0)) ∧ Below W.heap.size W w') := fun W hW => pseal x.fro 3 x.view 0 (by omega) (by omega) (by decide) (by decide) (by omega) (by omega) (by decide) W (h.below hW).tab.is
  generalize sealOf x.fro 3 x.view 0 = se at *
  have HIB : Hid (∀ W, Calls Tryz.prog 111 #[.agg #[.int .i64 x.cert.view, .int .u64 x.cert.block, .int .u64 x.cert.s0, .int .u64 x.cert.s1, .int .u64 x.cert.s2, .int .u64 x.cert.s3], .int .i64 x.view] W fun e w' => e = .returned (.bool true) ∧ Below W.heap.size W w') := fun W => by have := pisBelow W x.cert.view x.cert.block x.cert.s0 x.cert.s1 x.cert.s2 x.cert.s3 x.view; rwa [hib] at this
  have HC : Hid (∀ W, Below w.heap.size w W → W.cell? ⟨p, 0, none⟩ = some (.int .i64 m.id)) := fun W hW => (h.below hW).see.c0
  have lp := h.see.lt
  obtain ⟨xk, xf, xv, ⟨bv, ⟨jv, jb, j0, j1, j2, j3⟩, bc⟩, nu, ⟨cv, cb, k0, k1, k2, k3⟩, sl⟩ := x
  dsimp only [Msg.cells] at *
  have HM : Hid (∀ W, Calls Tryz.prog 55 #[.int .i64 xf] W fun e w' => e = .returned (.bool true) ∧ w' = W) := fun W => by have := pisMember W xf; rwa [show decide (0 ≤ xf ∧ xf ≤ 3) = true by simp; omega] at this
  have HV : Hid (∀ W, Calls Tryz.prog 110 #[.int .i64 xv, .int .i64 1000] W fun e w' => e = .returned (.bool true) ∧ w' = W) := fun W => by have := pisView W xv 1000; rwa [show decide (1 ≤ xv ∧ xv ≤ 1000) = true by simp; omega] at this
  have HL : Hid (∀ W, Calls Tryz.prog 74 #[.int .i64 xv] W fun e w' => e = .returned (.int .i64 m.id) ∧ w' = W) := fun W => by have := pleader W xv (by omega); rwa [show xv % 4 = m.id by omega] at this
  have hne : (m.id != m.id) = false := by simp
  have hse : (sl != se) = true := by simp [hseal]
  clear h hf hib hseal
  obtain ⟨W1, hW1⟩ : ∃ W, W = w.alloc (.cells #[.int .i64 xk, .int .i64 xf, .int .i64 xv, .int .i64 bv, .int .i64 jv, .int .u64 jb, .int .u64 j0, .int .u64 j1, .int .u64 j2, .int .u64 j3, .string bc, .int .u64 nu, .int .i64 cv, .int .u64 cb, .int .u64 k0, .int .u64 k1, .int .u64 k2, .int .u64 k3, .int .u64 sl] 43) := ⟨_, rfl⟩
  have HB1 : Hid (Below w.heap.size w W1) := by rw [hW1]; exact below_alloc _ _
  have HW1 : Hid (∃ C : Array Value, W1.heap[w.heap.size]? = some (.cells C 43 (0, 0)) ∧ C[1]? = some (.int .i64 xf) ∧ C[2]? = some (.int .i64 xv) ∧ C[12]? = some (.int .i64 cv) ∧ C[13]? = some (.int .u64 cb) ∧ C[14]? = some (.int .u64 k0) ∧ C[15]? = some (.int .u64 k1) ∧ C[16]? = some (.int .u64 k2) ∧ C[17]? = some (.int .u64 k3) ∧ C[18]? = some (.int .u64 sl)) := by rw [hW1]; exact ⟨_, heap_alloc_new w _, rfl, rfl, rfl, rfl, rfl, rfl, rfl, rfl, rfl⟩
  go_enter Tryz.func101, Tryz.ntmps101
  go_upto_region 1 with fail
  rw [← hW1]
  clear hW1
  have HX : Hid (∀ W, Below W1.heap.size W1 W → W.cell? ⟨w.heap.size, 1, none⟩ = some (.int .i64 xf) ∧ W.cell? ⟨w.heap.size, 2, none⟩ = some (.int .i64 xv) ∧ W.cell? ⟨w.heap.size, 12, none⟩ = some (.int .i64 cv) ∧ W.cell? ⟨w.heap.size, 13, none⟩ = some (.int .u64 cb) ∧ W.cell? ⟨w.heap.size, 14, none⟩ = some (.int .u64 k0) ∧ W.cell? ⟨w.heap.size, 15, none⟩ = some (.int .u64 k1) ∧ W.cell? ⟨w.heap.size, 16, none⟩ = some (.int .u64 k2) ∧ W.cell? ⟨w.heap.size, 17, none⟩ = some (.int .u64 k3) ∧ W.cell? ⟨w.heap.size, 18, none⟩ = some (.int .u64 sl)) := fun W hW => by
    obtain ⟨C, e, e1, e2, e12, e13, e14, e15, e16, e17, e18⟩ := HW1.out
    have e' := (hW.block _ (lt_at e)).trans e
    exact ⟨(cell_at e' 1).trans e1, (cell_at e' 2).trans e2, (cell_at e' 12).trans e12, (cell_at e' 13).trans e13, (cell_at e' 14).trans e14, (cell_at e' 15).trans e15, (cell_at e' 16).trans e16, (cell_at e' 17).trans e17, (cell_at e' 18).trans e18⟩
  obtain ⟨d1, d2, d12, d13, d14, d15, d16, d17, d18⟩ := HX.out W1 (Below.refl _ _)
  have c0' := HC.out W1 HB1.out
  go_quiet (first | (go_at_call 55; exact Calls.quiet_of_same (HM.out _)) | (go_at_call 110; exact Calls.quiet_of_same (HV.out _)) | (go_at_call 74; exact Calls.quiet_of_same (HL.out _)))
  clear HM HV HL
  go_upto_region 5 with (go_at_call 111; refine (HIB.out _).mono ?_; rintro e w3 ⟨rfl, hb3⟩)
  have hB3 : Below W1.heap.size W1 w3 := bnext (below_drewN (Below.refl _ _) _) hb3
  have HQ : Hid (∀ c : Cls W1, Calls Tryz.prog 24 #[.int .i64 xf, .int .i64 3, .int .i64 xv, .int .u64 0] c.w fun e w' => e = .returned (.int .u64 se) ∧ Below c.w.heap.size c.w w') := fun c => HSE.out _ (bnext HB1.out c.b)
  have e1 : ∀ c : Cls W1, c.w.cell? ⟨w.heap.size, 1, none⟩ = some (.int .i64 xf) := fun c => (HX.out _ c.b).1
  have e2 : ∀ c : Cls W1, c.w.cell? ⟨w.heap.size, 2, none⟩ = some (.int .i64 xv) := fun c => (HX.out _ c.b).2.1
  have e18 : ∀ c : Cls W1, c.w.cell? ⟨w.heap.size, 18, none⟩ = some (.int .u64 sl) := fun c => (HX.out _ c.b).2.2.2.2.2.2.2.2
  clear d1 d2 d12 d13 d14 d15 d16 d17 d18 c0' hb3
  refine wp_region_cls W1 hB3 (by kernel_rfl) (by kernel_rfl) ?_
  repeat (go_big_quiet_step ((go_at_call 24; exact Calls.cls (HQ.out _))))
  refine wpQuiet_nil ?_
  rintro _ ⟨⟨W5, hW5⟩, rfl⟩
  go_wp2
  go_ret
  exact ⟨rfl, bnext HB1.out hW5⟩
theorem pfaultE (w : World) (p : Nat) (S : Nat → Prop) (m : Mem) (h : PMem w p S m) (x : Msg) (hx : x.cert.Ok) :
    Calls Tryz.prog 101 #[.pointer (some ⟨p, 0, none⟩), .agg x.cells.toArray] w fun e w' => e = .returned (.int .i64 (m.faultE x)) ∧ Below w.heap.size w w' := by
  by_cases hf : x.fro < 0 ∨ 3 < x.fro ∨ x.view < 1 ∨ 1000 < x.view ∨ m.id ≠ x.view % 4
  · have e : m.faultE x = 1 := by unfold Mem.faultE; rw [if_pos hf]
    rw [e]; exact pfaultE1 w p S m h x hf
  · by_cases hs : decide (0 ≤ x.cert.view ∧ x.cert.view < x.view) = true ∧ x.sl ≠ sealOf x.fro 3 x.view 0
    · have e : m.faultE x = 2 := by unfold Mem.faultE; rw [if_neg hf, if_neg (by rw [hs.1]; simp), if_pos hs.2]
      rw [e]; exact pfaultE3 w p S m h x hf hs.1 hs.2
    · exact pfaultE2 w p S m h x hx hf (fun h1 => Decidable.byContradiction (fun h2 => hs ⟨h1, h2⟩))
end Go.Proofs.YtkehpnobidendaaGreatDoor
