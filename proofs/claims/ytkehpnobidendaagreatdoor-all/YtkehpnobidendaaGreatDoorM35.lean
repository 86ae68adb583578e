/- The program's look at a Proposal (faultOfProposal). The model: an Enter's and a Proposal's faults, as the program looks for them, are the model's; rolls. No program in it. -/
import Derived.Test.YtkehpnobidendaaGreatDoorM34
import Derived.Test.YtkehpnobidendaaGreatDoorM27
namespace Go.Proofs.YtkehpnobidendaaGreatDoor
open Go.RowKit Go.Maps

/-- What is wrong with a Proposal. -/
def Mem.faultP (m : Mem) (x : Msg) : Int :=
  if x.view < 1 ∨ 1000 < x.view then 1
  else if x.fro ≠ x.view % 4 then 1
  else if x.block.view ≠ x.view then 1
  else if 16 < x.block.cmd.size then 1
  else if decide (0 ≤ x.block.just.view ∧ x.block.just.view < x.view) = false then 1
  else if x.sl ≠ sealOf x.fro 1 x.view x.block.num then 2
  else if x.block.just.good = false then 2
  else if ((m.block x.block.just.block).isSome && ((m.block x.block.just.block).getD Blk.zero).view == x.block.just.view) = false then 3
  else if x.view < m.view then 4
  else if x.view ≤ m.voted then 4 else 0
/-- The boxes of faultOfProposal: the message, its block. -/
structure PBox (W : World) (s : Nat) (xf xv : Int) (b : Blk) (sl : Int) : Prop where
  m1 : W.cell? ⟨s, 1, none⟩ = some (.int .i64 xf)
  m2 : W.cell? ⟨s, 2, none⟩ = some (.int .i64 xv)
  m18 : W.cell? ⟨s, 18, none⟩ = some (.int .u64 sl)
  blk : W.heap[s + 1]? = some (.cells b.cells.toArray 41 (0, 0))
theorem PBox.below {W W' : World} {s : Nat} {xf xv : Int} {b : Blk} {sl : Int} (h : PBox W s xf xv b sl) (hs : s + 1 < W.heap.size) (hb : Below W.heap.size W W') : PBox W' s xf xv b sl :=
  ⟨(hb.cell (p := ⟨s, 1, none⟩) (by show s < _; omega)).trans h.m1, (hb.cell (p := ⟨s, 2, none⟩) (by show s < _; omega)).trans h.m2, (hb.cell (p := ⟨s, 18, none⟩) (by show s < _; omega)).trans h.m18, (hb.block _ hs).trans h.blk⟩
set_option maxRecDepth 100000 in
set_option maxHeartbeats 4000000 in
theorem pfaultP (w : World) (p : Nat) (S : Nat → Prop) (m : Mem) (h : PMem w p S m) (x : Msg) (hx : x.block.Ok) :
    Calls Tryz.prog 95 #[.pointer (some ⟨p, 0, none⟩), .agg x.cells.toArray] w fun e w' => e = .returned (.int .i64 (m.faultP x)) ∧ Below w.heap.size w w' := by
  obtain ⟨R, hR⟩ : ∃ R, R = m.faultP x := ⟨_, rfl⟩
  rw [← hR]
  unfold Mem.faultP at hR
  have HP : Hid (∀ W, Below w.heap.size w W → PMem W p S m) := fun W hW => h.below hW
  have HNU : Hid (∀ W, Below w.heap.size w W → Calls Tryz.prog 26 #[.agg x.block.cells.toArray] W fun e w' => e = .returned (.int .u64 x.block.num) ∧ Below W.heap.size W w') := fun W hW => pnum x.block hx hx.c1 W (h.below hW).tab
  have hnl := num_lt x.block
  generalize x.block.num = nb at *
  have HKN : Hid (∀ W, Below w.heap.size w W → Calls Tryz.prog 112 #[.pointer (some ⟨p, 0, none⟩), .int .u64 x.block.just.block, .int .i64 x.block.just.view] W fun e w' => e = .returned (.bool ((m.block x.block.just.block).isSome && ((m.block x.block.just.block).getD Blk.zero).view == x.block.just.view)) ∧ Below W.heap.size W w') := fun W hW => pknows W p S m (h.below hW) x.block.just.block hx.j.b1 x.block.just.view
  generalize ((m.block x.block.just.block).isSome && ((m.block x.block.just.block).getD Blk.zero).view == x.block.just.view) = kn at *
  have HGD : Hid (∀ W, Below w.heap.size w W → Calls Tryz.prog 29 #[.agg #[.int .i64 x.block.just.view, .int .u64 x.block.just.block, .int .u64 x.block.just.s0, .int .u64 x.block.just.s1, .int .u64 x.block.just.s2, .int .u64 x.block.just.s3]] W fun e w' => e = .returned (.bool x.block.just.good) ∧ Below W.heap.size W w') := fun W hW => pgood _ _ _ _ _ _ hx.j.v0 hx.j.v1 hx.j.b1 W (h.below hW).tab.is
  generalize x.block.just.good = gd at *
  have HIB : Hid (∀ W, Calls Tryz.prog 111 #[.agg #[.int .i64 x.block.just.view, .int .u64 x.block.just.block, .int .u64 x.block.just.s0, .int .u64 x.block.just.s1, .int .u64 x.block.just.s2, .int .u64 x.block.just.s3], .int .i64 x.view] W fun e w' => e = .returned (.bool (decide (0 ≤ x.block.just.view ∧ x.block.just.view < x.view))) ∧ Below W.heap.size W w') := fun W => pisBelow W _ _ _ _ _ _ _
  generalize decide (0 ≤ x.block.just.view ∧ x.block.just.view < x.view) = ib at *
  have HSE : Hid (0 ≤ x.fro ∧ x.fro ≤ 3 ∧ 0 ≤ x.view ∧ x.view ≤ 1000 → ∀ W, Below w.heap.size w W → Calls Tryz.prog 24 #[.int .i64 x.fro, .int .i64 1, .int .i64 x.view, .int .u64 nb] W fun e w' => e = .returned (.int .u64 (sealOf x.fro 1 x.view nb)) ∧ Below W.heap.size W w') := fun hh W hW => pseal x.fro 1 x.view nb (by omega) (by omega) (by decide) (by decide) (by omega) (by omega) hnl W (h.below hW).tab.is
  generalize sealOf x.fro 1 x.view nb = se at *
  have hcs := hx.c1
  obtain ⟨xk, xf, xv, ⟨bv, ⟨jv, jb, j0, j1, j2, j3⟩, bc⟩, nu, ⟨cv, cb, k0, k1, k2, k3⟩, sl⟩ := x
  dsimp only [Msg.cells, Blk.cells] at *
  have HV : Hid (∀ W, Calls Tryz.prog 110 #[.int .i64 xv, .int .i64 1000] W fun e w' => e = .returned (.bool (decide (1 ≤ xv ∧ xv ≤ 1000))) ∧ w' = W) := fun W => pisView W xv 1000
  have hRR := hR
  have lp := h.see.lt
  obtain ⟨W1, hW1⟩ : ∃ W, W = (w.alloc (.cells #[.int .i64 xk, .int .i64 xf, .int .i64 xv, .int .i64 bv, .int .i64 jv, .int .u64 jb, .int .u64 j0, .int .u64 j1, .int .u64 j2, .int .u64 j3, .string bc, .int .u64 nu, .int .i64 cv, .int .u64 cb, .int .u64 k0, .int .u64 k1, .int .u64 k2, .int .u64 k3, .int .u64 sl] 43)).alloc (.cells #[.int .i64 bv, .int .i64 jv, .int .u64 jb, .int .u64 j0, .int .u64 j1, .int .u64 j2, .int .u64 j3, .string bc] 41) := ⟨_, rfl⟩
  have HB1 : Hid (Below w.heap.size w W1) := by rw [hW1]; exact bnext (below_alloc _ _) (below_alloc _ _)
  have HS1 : Hid (w.heap.size + 1 < W1.heap.size) := by rw [hW1]; show w.heap.size + 1 < _; simp
  have HX1 : Hid (PBox W1 w.heap.size xf xv ⟨bv, ⟨jv, jb, j0, j1, j2, j3⟩, bc⟩ sl) := by
    have e : W1.heap[w.heap.size]? = some (.cells #[.int .i64 xk, .int .i64 xf, .int .i64 xv, .int .i64 bv, .int .i64 jv, .int .u64 jb, .int .u64 j0, .int .u64 j1, .int .u64 j2, .int .u64 j3, .string bc, .int .u64 nu, .int .i64 cv, .int .u64 cb, .int .u64 k0, .int .u64 k1, .int .u64 k2, .int .u64 k3, .int .u64 sl] 43 (0, 0)) := by rw [hW1]; exact (Below.heap_alloc _ _ _ (by simp)).trans (heap_alloc_new _ _)
    exact ⟨cell_at e 1, cell_at e 2, cell_at e 18, by rw [hW1]; exact new_at _ (by simp)⟩
  have HRR : Hid (R = if xv < 1 ∨ 1000 < xv then 1 else if xf ≠ xv % 4 then 1 else if bv ≠ xv then 1 else if 16 < bc.size then 1 else if ib = false then 1 else if sl ≠ se then 2 else if gd = false then 2 else if kn = false then 3 else if xv < m.view then 4 else if xv ≤ m.voted then 4 else 0) := hRR
  have HC : Hid (∀ W, Below w.heap.size w W → W.cell? ⟨p, 2, none⟩ = some (.int .i64 m.view) ∧ W.cell? ⟨p, 4, none⟩ = some (.int .i64 m.voted)) := fun W hW => ⟨(h.below hW).see.c2, (h.below hW).see.c4⟩
  clear hRR hR h hx HP
  go_enter Tryz.func95, Tryz.ntmps95
  go_upto_region 2 with fail
  rw [← hW1]
  clear hW1
  have HXA : Hid (∀ W, Below W1.heap.size W1 W → PBox W w.heap.size xf xv ⟨bv, ⟨jv, jb, j0, j1, j2, j3⟩, bc⟩ sl) := fun W hW => HX1.out.below HS1.out hW
  have e1 : ∀ c : Cls W1, c.w.cell? ⟨w.heap.size, 1, none⟩ = some (.int .i64 xf) := fun c => (HXA.out _ c.b).m1
  have e2 : ∀ c : Cls W1, c.w.cell? ⟨w.heap.size, 2, none⟩ = some (.int .i64 xv) := fun c => (HXA.out _ c.b).m2
  by_cases hv : 1 ≤ xv ∧ xv ≤ 1000
  · have ev : decide (1 ≤ xv ∧ xv ≤ 1000) = true := by simp; exact hv
    rw [ev] at HV
    have hv' : ¬ (xv < 1 ∨ 1000 < xv) := by omega
    have HL : Hid (∀ W, Calls Tryz.prog 74 #[.int .i64 xv] W fun e w' => e = .returned (.int .i64 (xv % 4)) ∧ w' = W) := fun W => pleader W xv (by omega)
    by_cases hl : xf = xv % 4
    · have hbd : 0 ≤ xf ∧ xf ≤ 3 ∧ 0 ≤ xv ∧ xv ≤ 1000 := by omega
      have hl' : ¬ xf ≠ xv % 4 := fun h => h hl
      have hne : (xf != xv % 4) = false := by simp [hl]
      have HHL : Hid (¬ xf ≠ xv % 4) := hl'
      clear hl hl' ev
      generalize xv % 4 = lv at *
      refine wp_region_cls W1 (Below.refl _ _) (by kernel_rfl) (by kernel_rfl) ?_
      repeat (go_big_quiet_step ((first | (go_at_call 110; exact Calls.cls_same (HV.out _)) | (go_at_call 74; exact Calls.cls_same (HL.out _)))))
      refine wpQuiet_nil ?_
      rintro W5 ⟨⟨_, hW5⟩, rfl⟩
      clear HV HL hne
      obtain ⟨a1, a2, a18, ab⟩ := HXA.out W5 hW5
      have q0 := cell_at ab 0
      have q1 := cell_at ab 1
      have q2 := cell_at ab 2
      have q3 := cell_at ab 3
      have q4 := cell_at ab 4
      have q5 := cell_at ab 5
      have q6 := cell_at ab 6
      have q7 := cell_at ab 7
      simp [Blk.cells] at q0 q1 q2 q3 q4 q5 q6 q7
      clear ab
      have HH5 : Hid (Below W1.heap.size W1 W5) := hW5
      by_cases hb : bv = xv
      · have hb2 : xv = bv := hb.symm
        subst hb2
        have hbn : (xv != xv) = false := by simp
        clear hb
        by_cases hc : 16 < bc.size
        · have hRv : R = 1 := by rw [HRR.out, if_neg hv', if_neg HHL.out, if_neg (fun h => h rfl), if_pos hc]
          go_wp2
          go_ret
          exact ⟨by first | rfl | (rw [hRv]; rfl), bnext HB1.out HH5.out⟩
        · cases ib
          · have hRv : R = 1 := by rw [HRR.out, if_neg hv', if_neg HHL.out, if_neg (fun h => h rfl), if_neg hc, if_pos rfl]
            go_wp2_with (go_at_call 111; refine (HIB.out _).mono ?_; rintro e w6 ⟨rfl, hb6⟩)
            go_ret
            exact ⟨by first | rfl | (rw [hRv]; rfl), bnext (bnext HB1.out HH5.out) hb6⟩
          · have HRW : Hid (R = if sl ≠ se then 2 else if gd = false then 2 else if kn = false then 3 else if xv < m.view then 4 else if xv ≤ m.voted then 4 else 0) := by show _ = _; rw [HRR.out, if_neg hv', if_neg HHL.out, if_neg (fun h => h rfl), if_neg hc, if_neg (by simp)]
            go_upto_region 6 with (go_at_call 111; refine (HIB.out _).mono ?_; rintro e w6 ⟨rfl, hb6⟩)
            have hW6 : Below W1.heap.size W1 w6 := bnext HH5.out hb6
            clear a1 a2 a18 q0 q1 q2 q3 q4 q5 q6 q7 hb6 HH5 HIB HRR HHL hW5
            have e18 : ∀ c : Cls W1, c.w.cell? ⟨w.heap.size, 18, none⟩ = some (.int .u64 sl) := fun c => (HXA.out _ c.b).m18
            have f0 : ∀ c : Cls W1, c.w.cell? ⟨w.heap.size + 1, 0, none⟩ = some (.int .i64 xv) := fun c => cell_at (HXA.out _ c.b).blk 0
            have f1 : ∀ c : Cls W1, c.w.cell? ⟨w.heap.size + 1, 1, none⟩ = some (.int .i64 jv) := fun c => cell_at (HXA.out _ c.b).blk 1
            have f2 : ∀ c : Cls W1, c.w.cell? ⟨w.heap.size + 1, 2, none⟩ = some (.int .u64 jb) := fun c => cell_at (HXA.out _ c.b).blk 2
            have f3 : ∀ c : Cls W1, c.w.cell? ⟨w.heap.size + 1, 3, none⟩ = some (.int .u64 j0) := fun c => cell_at (HXA.out _ c.b).blk 3
            have f4 : ∀ c : Cls W1, c.w.cell? ⟨w.heap.size + 1, 4, none⟩ = some (.int .u64 j1) := fun c => cell_at (HXA.out _ c.b).blk 4
            have f5 : ∀ c : Cls W1, c.w.cell? ⟨w.heap.size + 1, 5, none⟩ = some (.int .u64 j2) := fun c => cell_at (HXA.out _ c.b).blk 5
            have f6 : ∀ c : Cls W1, c.w.cell? ⟨w.heap.size + 1, 6, none⟩ = some (.int .u64 j3) := fun c => cell_at (HXA.out _ c.b).blk 6
            have f7 : ∀ c : Cls W1, c.w.cell? ⟨w.heap.size + 1, 7, none⟩ = some (.string bc) := fun c => cell_at (HXA.out _ c.b).blk 7
            have HQN : Hid (∀ c : Cls W1, Calls Tryz.prog 26 #[.agg #[.int .i64 xv, .int .i64 jv, .int .u64 jb, .int .u64 j0, .int .u64 j1, .int .u64 j2, .int .u64 j3, .string bc]] c.w fun e w' => e = .returned (.int .u64 nb) ∧ Below c.w.heap.size c.w w') := fun c => HNU.out _ (bnext HB1.out c.b)
            have HQS : Hid (∀ c : Cls W1, Calls Tryz.prog 24 #[.int .i64 xf, .int .i64 1, .int .i64 xv, .int .u64 nb] c.w fun e w' => e = .returned (.int .u64 se) ∧ Below c.w.heap.size c.w w') := fun c => HSE.out hbd _ (bnext HB1.out c.b)
            have HQG : Hid (∀ c : Cls W1, Calls Tryz.prog 29 #[.agg #[.int .i64 jv, .int .u64 jb, .int .u64 j0, .int .u64 j1, .int .u64 j2, .int .u64 j3]] c.w fun e w' => e = .returned (.bool gd) ∧ Below c.w.heap.size c.w w') := fun c => HGD.out _ (bnext HB1.out c.b)
            clear HNU HSE HGD
            by_cases hs : sl = se
            · subst hs
              have hse : (sl != sl) = false := by simp
              have HNS : Hid (¬ sl ≠ sl) := fun h => h rfl
              cases gd
              · have hRv : R = 2 := by rw [HRW.out, if_neg HNS.out, if_pos rfl]
                refine wp_region_cls W1 hW6 (by kernel_rfl) (by kernel_rfl) ?_
                repeat (go_big_quiet_step ((first | (go_at_call 26; exact Calls.cls (HQN.out _)) | (go_at_call 24; exact Calls.cls (HQS.out _)) | (go_at_call 29; exact Calls.cls (HQG.out _)))))
                refine wpQuiet_nil ?_
                rintro W7 ⟨⟨_, hW7⟩, rfl⟩
                go_wp2
                go_ret
                exact ⟨by first | rfl | (rw [hRv]; rfl), bnext HB1.out hW7⟩
              · have HRX : Hid (R = if kn = false then 3 else if xv < m.view then 4 else if xv ≤ m.voted then 4 else 0) := by show _ = _; rw [HRW.out, if_neg HNS.out, if_neg (by simp)]
                refine wp_region_cls W1 hW6 (by kernel_rfl) (by kernel_rfl) ?_
                repeat (go_big_quiet_step ((first | (go_at_call 26; exact Calls.cls (HQN.out _)) | (go_at_call 24; exact Calls.cls (HQS.out _)) | (go_at_call 29; exact Calls.cls (HQG.out _)))))
                refine wpQuiet_nil ?_
                rintro W7 ⟨⟨_, hW7⟩, rfl⟩
                clear e1 e2 e18 f0 f1 f2 f3 f4 f5 f6 f7 HQN HQS HQG HRW hse HNS
                obtain ⟨a1, a2, a18, ab⟩ := HXA.out W7 hW7
                have q1 := cell_at ab 1
                have q2 := cell_at ab 2
                simp [Blk.cells] at q1 q2
                clear ab a18 a1
                have HH7 : Hid (Below W1.heap.size W1 W7) := hW7
                clear hW7
                cases kn
                · have hRv : R = 3 := by rw [HRX.out, if_pos rfl]
                  go_wp2_with (go_at_call 112; refine (HKN.out _ (bnext HB1.out HH7.out)).mono ?_; rintro e w8 ⟨rfl, hb8⟩)
                  go_ret
                  exact ⟨by first | rfl | (rw [hRv]; rfl), bnext (bnext HB1.out HH7.out) hb8⟩
                · go_upto_region 10 with (go_at_call 112; refine (HKN.out _ (bnext HB1.out HH7.out)).mono ?_; rintro e w8 ⟨rfl, hb8⟩)
                  have hB8 := bnext HH7.out hb8
                  obtain ⟨r1, r2, r18, rb⟩ := HXA.out w8 hB8
                  obtain ⟨v2, v4⟩ := HC.out w8 (bnext HB1.out hB8)
                  have HH8 : Hid (Below w.heap.size w w8) := bnext HB1.out hB8
                  clear rb r1 r18 hB8 hb8 a2 q1 q2
                  by_cases ho : xv < m.view
                  · have hRv : R = 4 := by rw [HRX.out, if_neg (by simp), if_pos ho]
                    go_quiet (fail)
                    go_wp2
                    go_ret
                    exact ⟨by first | rfl | (rw [hRv]; rfl), below_drewN HH8.out _⟩
                  · by_cases ht : xv ≤ m.voted
                    · have hRv : R = 4 := by rw [HRX.out, if_neg (by simp), if_neg ho, if_pos ht]
                      go_quiet (fail)
                      go_wp2
                      go_ret
                      exact ⟨by first | rfl | (rw [hRv]; rfl), below_drewN HH8.out _⟩
                    · have hRv : R = 0 := by rw [HRX.out, if_neg (by simp), if_neg ho, if_neg ht]
                      go_quiet (fail)
                      go_wp2
                      go_ret
                      exact ⟨by first | rfl | (rw [hRv]; rfl), below_drewN HH8.out _⟩
            · have hse : (sl != se) = true := by simp [hs]
              have hRv : R = 2 := by rw [HRW.out, if_pos hs]
              refine wp_region_cls W1 hW6 (by kernel_rfl) (by kernel_rfl) ?_
              repeat (go_big_quiet_step ((first | (go_at_call 26; exact Calls.cls (HQN.out _)) | (go_at_call 24; exact Calls.cls (HQS.out _)) | (go_at_call 29; exact Calls.cls (HQG.out _)))))
              refine wpQuiet_nil ?_
              rintro W7 ⟨⟨_, hW7⟩, rfl⟩
              go_wp2
              go_ret
              exact ⟨by first | rfl | (rw [hRv]; rfl), bnext HB1.out hW7⟩
      · have hbn : (bv != xv) = true := by simp [hb]
        have hRv : R = 1 := by rw [HRR.out, if_neg hv', if_neg HHL.out, if_pos hb]
        go_wp2
        go_ret
        exact ⟨by first | rfl | (rw [hRv]; rfl), bnext HB1.out HH5.out⟩
    · have hRv : R = 1 := by rw [HRR.out, if_neg hv', if_pos hl]
      have hne : (xf != xv % 4) = true := by simp [hl]
      clear hl ev HRR
      generalize xv % 4 = lv at *
      refine wp_region_cls W1 (Below.refl _ _) (by kernel_rfl) (by kernel_rfl) ?_
      repeat (go_big_quiet_step ((first | (go_at_call 110; exact Calls.cls_same (HV.out _)) | (go_at_call 74; exact Calls.cls_same (HL.out _)))))
      refine wpQuiet_nil ?_
      rintro W5 ⟨⟨_, hW5⟩, rfl⟩
      go_wp2
      go_ret
      exact ⟨by first | rfl | (rw [hRv]; rfl), bnext HB1.out hW5⟩
  · have ev : decide (1 ≤ xv ∧ xv ≤ 1000) = false := by simp; omega
    rw [ev] at HV
    have hRv : R = 1 := by rw [HRR.out, if_pos (by omega)]
    refine wp_region_cls W1 (Below.refl _ _) (by kernel_rfl) (by kernel_rfl) ?_
    repeat (go_big_quiet_step ((go_at_call 110; exact Calls.cls_same (HV.out _))))
    refine wpQuiet_nil ?_
    rintro W5 ⟨⟨_, hW5⟩, rfl⟩
    go_wp2
    go_ret
    exact ⟨by first | rfl | (rw [hRv]; rfl), bnext HB1.out hW5⟩
end Go.Proofs.YtkehpnobidendaaGreatDoor

namespace Go.Proofs.YtkehpnobidendaaGreatDoor

theorem enter_fault {m : Mem} {x : Msg} (h : m.faultE x ≠ 0) : m.enters1 x = (m, m.faultE x) := by
  unfold Mem.faultE at h ⊢
  unfold Mem.enters1
  by_cases h1 : x.fro < 0 ∨ 3 < x.fro ∨ x.view < 1 ∨ 1000 < x.view ∨ m.id ≠ x.view % 4
  · rw [if_pos h1, if_pos (by omega)]
  · rw [if_neg h1] at h ⊢
    by_cases h2 : 0 ≤ x.cert.view ∧ x.cert.view < x.view
    · have e2 : ¬ decide (0 ≤ x.cert.view ∧ x.cert.view < x.view) = false := by simp; exact h2
      rw [if_neg e2] at h ⊢
      rw [if_neg (by omega)]
      by_cases h3 : x.sl ≠ sealOf x.fro 3 x.view 0
      · rw [if_pos h3, if_pos (.inl h3)]
      · rw [if_neg h3] at h ⊢
        by_cases h4 : x.cert.good = false
        · rw [if_pos h4, if_pos (.inr h4)]
        · rw [if_neg h4] at h ⊢
          rw [if_neg (by rintro (h | h); exact h3 h; exact h4 h)]
          cases hb : m.block x.cert.block with
          | none => simp
          | some b =>
            simp only [hb, Option.isSome_some, Bool.true_and, Option.getD_some] at h ⊢
            by_cases h5 : b.view = x.cert.view
            · have e5 : ¬ ((b.view == x.cert.view) = false) := by simp [h5]
              rw [if_neg e5] at h ⊢
              rw [if_neg (fun hh => hh h5)]
              by_cases h6 : x.view < m.view
              · rw [if_pos (decide_eq_true h6), if_pos h6]
              · have e6 : ¬ decide (x.view < m.view) = true := by simp; omega
                rw [if_neg e6] at h ⊢
                rw [if_neg h6]
                have ee : m.enters.filter (fun t => t.view == x.view) = m.entered x.view := rfl
                rw [ee]
                by_cases h7 : (m.entered x.view).any (fun t => t.fro == x.fro) = true
                · rw [if_pos h7, if_pos h7]
                · rw [if_neg h7] at h
                  exact absurd rfl h
            · have e5 : (b.view == x.cert.view) = false := by simp [h5]
              rw [if_pos e5, if_pos h5]
    · have e2 : decide (0 ≤ x.cert.view ∧ x.cert.view < x.view) = false := by simp; omega
      rw [if_pos e2, if_pos (by omega)]
/-- What an Enter without a fault does. -/
theorem enter_fine {m : Mem} {x : Msg} (h : m.faultE x = 0) : (0 ≤ x.fro ∧ x.fro ≤ 3 ∧ 1 ≤ x.view ∧ x.view ≤ 1000 ∧ m.id = x.view % 4) ∧ (0 ≤ x.cert.view ∧ x.cert.view < x.view) ∧ (∃ b, m.block x.cert.block = some b ∧ b.view = x.cert.view) ∧ m.view ≤ x.view ∧ (m.entered x.view).any (fun t => t.fro == x.fro) = false ∧
    m.enters1 x = (let m1 := ({ m with enters := m.enters ++ [⟨x.fro, x.view, 0, 0⟩] } : Mem).learn x.cert
      (if 3 ≤ (m.entered x.view).length + 1 ∧ m1.view < x.view then m1.enter x.view else m1, 0)) := by
  unfold Mem.faultE at h
  unfold Mem.enters1
  by_cases h1 : x.fro < 0 ∨ 3 < x.fro ∨ x.view < 1 ∨ 1000 < x.view ∨ m.id ≠ x.view % 4
  · rw [if_pos h1] at h; exact absurd h (by decide)
  · rw [if_neg h1] at h
    refine ⟨by omega, ?_⟩
    by_cases h2 : 0 ≤ x.cert.view ∧ x.cert.view < x.view
    · have e2 : ¬ decide (0 ≤ x.cert.view ∧ x.cert.view < x.view) = false := by simp; exact h2
      rw [if_neg e2] at h
      rw [if_neg (by omega)]
      refine ⟨h2, ?_⟩
      by_cases h3 : x.sl ≠ sealOf x.fro 3 x.view 0
      · rw [if_pos h3] at h; exact absurd h (by decide)
      · rw [if_neg h3] at h
        by_cases h4 : x.cert.good = false
        · rw [if_pos h4] at h; exact absurd h (by decide)
        · rw [if_neg h4] at h
          rw [if_neg (by rintro (h | h); exact h3 h; exact h4 h)]
          cases hb : m.block x.cert.block with
          | none => simp [hb] at h
          | some b =>
            simp only [hb, Option.isSome_some, Bool.true_and, Option.getD_some] at h ⊢
            by_cases h5 : b.view = x.cert.view
            · have e5 : ¬ ((b.view == x.cert.view) = false) := by simp [h5]
              rw [if_neg e5] at h
              rw [if_neg (fun hh => hh h5)]
              refine ⟨⟨b, rfl, h5⟩, ?_⟩
              by_cases h6 : x.view < m.view
              · rw [if_pos (decide_eq_true h6)] at h; exact absurd h (by decide)
              · have e6 : ¬ decide (x.view < m.view) = true := by simp; omega
                rw [if_neg e6] at h
                rw [if_neg h6]
                have ee : m.enters.filter (fun t => t.view == x.view) = m.entered x.view := rfl
                rw [ee]
                refine ⟨by omega, ?_⟩
                by_cases h7 : (m.entered x.view).any (fun t => t.fro == x.fro) = true
                · rw [if_pos h7] at h; exact absurd h (by decide)
                · rw [if_neg h7]
                  exact ⟨by simpa using h7, rfl⟩
            · have e5 : (b.view == x.cert.view) = false := by simp [h5]
              rw [if_pos e5] at h; exact absurd h (by decide)
    · have e2 : decide (0 ≤ x.cert.view ∧ x.cert.view < x.view) = false := by simp; omega
      rw [if_pos e2] at h; exact absurd h (by decide)
theorem prop_fault {m : Mem} {x : Msg} (h : m.faultP x ≠ 0) : m.proposal x = (m, [], m.faultP x) := by
  unfold Mem.faultP at h ⊢
  unfold Mem.proposal
  dsimp only
  by_cases h1 : x.view < 1 ∨ 1000 < x.view
  · rw [if_pos h1, if_pos (by omega)]
  rw [if_neg h1] at h ⊢
  by_cases h2 : x.fro ≠ x.view % 4
  · rw [if_pos h2, if_pos (by omega)]
  rw [if_neg h2] at h ⊢
  by_cases h3 : x.block.view ≠ x.view
  · rw [if_pos h3, if_pos (by omega)]
  rw [if_neg h3] at h ⊢
  by_cases h4 : 16 < x.block.cmd.size
  · rw [if_pos h4, if_pos (by omega)]
  rw [if_neg h4] at h ⊢
  by_cases h5 : 0 ≤ x.block.just.view ∧ x.block.just.view < x.view
  · have e5 : ¬ decide (0 ≤ x.block.just.view ∧ x.block.just.view < x.view) = false := by simp; exact h5
    rw [if_neg e5] at h ⊢
    rw [if_neg (by omega)]
    by_cases h6 : x.sl ≠ sealOf x.fro 1 x.view x.block.num
    · rw [if_pos h6, if_pos (.inl h6)]
    rw [if_neg h6] at h ⊢
    by_cases h7 : x.block.just.good = false
    · rw [if_pos h7, if_pos (.inr h7)]
    rw [if_neg h7] at h ⊢
    rw [if_neg (by rintro (h | h); exact h6 h; exact h7 h)]
    cases hb : m.block x.block.just.block with
    | none => simp
    | some b =>
      simp only [hb, Option.isSome_some, Bool.true_and, Option.getD_some] at h ⊢
      by_cases h8 : b.view = x.block.just.view
      · have e8 : ¬ ((b.view == x.block.just.view) = false) := by simp [h8]
        rw [if_neg e8] at h ⊢
        rw [if_neg (fun hh => hh h8)]
        by_cases h9 : x.view < m.view
        · rw [if_pos h9, if_pos (.inl h9)]
        rw [if_neg h9] at h ⊢
        by_cases h10 : x.view ≤ m.voted
        · rw [if_pos h10, if_pos (.inr h10)]
        rw [if_neg h10] at h
        exact absurd rfl h
      · have e8 : (b.view == x.block.just.view) = false := by simp [h8]
        rw [if_pos e8, if_pos h8]
  · have e5 : decide (0 ≤ x.block.just.view ∧ x.block.just.view < x.view) = false := by simp; omega
    rw [if_pos e5, if_pos (by omega)]
/-- What a Proposal without a fault does. -/
theorem prop_fine {m : Mem} {x : Msg} (h : m.faultP x = 0) : (1 ≤ x.view ∧ x.view ≤ 1000 ∧ x.fro = x.view % 4 ∧ x.block.view = x.view ∧ x.block.cmd.size ≤ 16) ∧ (0 ≤ x.block.just.view ∧ x.block.just.view < x.view) ∧ (∃ b, m.block x.block.just.block = some b ∧ b.view = x.block.just.view) ∧ m.view ≤ x.view ∧ m.voted < x.view ∧
    m.proposal x = (let m1 := (m.knows x.block).learn x.block.just
      let m2 := if m1.above m1.locked.block (m1.blocks.length + 1) x.block.just.block || decide (m1.locked.view < x.block.just.view) then ({ m1 with voted := x.view }, [(⟨(x.view + 1) % 4, { Msg.zero with kind := 2, fro := m.id, view := x.view, number := x.block.num, sl := sealOf m.id 2 x.view x.block.num }⟩ : Ltr)]) else (m1, [])
      (m2.1.enter (if x.view < 1000 then x.view + 1 else x.view), m2.2, 0)) := by
  unfold Mem.faultP at h
  unfold Mem.proposal
  dsimp only
  by_cases h1 : x.view < 1 ∨ 1000 < x.view
  · rw [if_pos h1] at h; exact absurd h (by decide)
  rw [if_neg h1] at h
  by_cases h2 : x.fro ≠ x.view % 4
  · rw [if_pos h2] at h; exact absurd h (by decide)
  rw [if_neg h2] at h
  by_cases h3 : x.block.view ≠ x.view
  · rw [if_pos h3] at h; exact absurd h (by decide)
  rw [if_neg h3] at h
  by_cases h4 : 16 < x.block.cmd.size
  · rw [if_pos h4] at h; exact absurd h (by decide)
  rw [if_neg h4] at h
  refine ⟨by omega, ?_⟩
  by_cases h5 : 0 ≤ x.block.just.view ∧ x.block.just.view < x.view
  · have e5 : ¬ decide (0 ≤ x.block.just.view ∧ x.block.just.view < x.view) = false := by simp; exact h5
    rw [if_neg e5] at h
    rw [if_neg (by omega)]
    refine ⟨h5, ?_⟩
    by_cases h6 : x.sl ≠ sealOf x.fro 1 x.view x.block.num
    · rw [if_pos h6] at h; exact absurd h (by decide)
    rw [if_neg h6] at h
    by_cases h7 : x.block.just.good = false
    · rw [if_pos h7] at h; exact absurd h (by decide)
    rw [if_neg h7] at h
    rw [if_neg (by rintro (h | h); exact h6 h; exact h7 h)]
    cases hb : m.block x.block.just.block with
    | none => simp [hb] at h
    | some b =>
      simp only [hb, Option.isSome_some, Bool.true_and, Option.getD_some] at h ⊢
      by_cases h8 : b.view = x.block.just.view
      · have e8 : ¬ ((b.view == x.block.just.view) = false) := by simp [h8]
        rw [if_neg e8] at h
        rw [if_neg (fun hh => hh h8)]
        refine ⟨⟨b, rfl, h8⟩, ?_⟩
        by_cases h9 : x.view < m.view
        · rw [if_pos h9] at h; exact absurd h (by decide)
        rw [if_neg h9] at h
        by_cases h10 : x.view ≤ m.voted
        · rw [if_pos h10] at h; exact absurd h (by decide)
        refine ⟨by omega, by omega, ?_⟩
        rw [if_neg (by omega)]
      · have e8 : (b.view == x.block.just.view) = false := by simp [h8]
        rw [if_pos e8] at h; exact absurd h (by decide)
  · have e5 : decide (0 ≤ x.block.just.view ∧ x.block.just.view < x.view) = false := by simp; omega
    rw [if_pos e5] at h; exact absurd h (by decide)
/-- One more on a roll. -/
def Rl.set (r : Rl) (i : Int) : Rl := ⟨r.a || i == 0, r.b || i == 1, r.c || i == 2, r.d || i == 3⟩
theorem rl_snoc (l : List Tk) (t : Tk) : rl (l ++ [t]) = (rl l).set t.fro := by
  simp only [rl, Rl.set, List.any_append, List.any_cons, List.any_nil, Bool.or_false]
theorem cnt_set {r : Rl} {i : Int} (h0 : 0 ≤ i) (h3 : i ≤ 3) (h : r.at i = false) : (r.set i).cnt = r.cnt + 1 := by
  obtain ⟨a, b, c, d⟩ := r
  rcases (by omega : i = 0 ∨ i = 1 ∨ i = 2 ∨ i = 3) with rfl | rfl | rfl | rfl <;> simp [Rl.at] at h <;> subst h <;> simp [Rl.set, Rl.cnt] <;> omega
theorem crt_set (r : Rl) {i : Int} (h0 : 0 ≤ i) (h3 : i ≤ 3) (v : Int) (n : Nat) : (r.crt v n).put i (sealOf i 2 v n) = (r.set i).crt v n := by
  obtain ⟨a, b, c, d⟩ := r
  rcases (by omega : i = 0 ∨ i = 1 ∨ i = 2 ∨ i = 3) with rfl | rfl | rfl | rfl <;> simp [Crt.put, Rl.set, Rl.crt]
theorem crt_fold (v : Int) (n : Nat) : ∀ (l : List Tk) (r : Rl), (∀ t ∈ l, 0 ≤ t.fro ∧ t.fro ≤ 3 ∧ t.sl = sealOf t.fro 2 v n) → l.foldl (fun (c : Crt) t => c.put t.fro t.sl) (r.crt v n) = (l.foldl (fun (r : Rl) t => r.set t.fro) r).crt v n
  | [], _, _ => rfl
  | t :: l, r, h => by
    have h1 := h t (by simp)
    simp only [List.foldl_cons]
    rw [h1.2.2, crt_set r h1.1 h1.2.1, crt_fold v n l (r.set t.fro) (fun t' ht => h t' (List.mem_cons_of_mem _ ht))]
theorem rl_fold : ∀ (l k : List Tk), l.foldl (fun (r : Rl) t => r.set t.fro) (rl k) = rl (k ++ l)
  | [], k => by simp
  | t :: l, k => by
    simp only [List.foldl_cons]
    rw [← rl_snoc, rl_fold l (k ++ [t])]
    simp
/-- The certificate of votes whose seals are right. -/
theorem crt_votes {v : Int} {n : Nat} {l : List Tk} (h : ∀ t ∈ l, 0 ≤ t.fro ∧ t.fro ≤ 3 ∧ t.sl = sealOf t.fro 2 v n) : l.foldl (fun (c : Crt) t => c.put t.fro t.sl) { Crt.zero with view := v, block := n } = (rl l).crt v n := by
  have := crt_fold v n l (rl []) h
  rw [rl_fold] at this
  have e : (rl []).crt v n = { Crt.zero with view := v, block := n } := rfl
  rw [e] at this
  simpa using this
end Go.Proofs.YtkehpnobidendaaGreatDoor
