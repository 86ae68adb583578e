/- The document's proposal (P6). -/
import Derived.Test.YtkehpnobidendaaGreatDoorM41
import Derived.Test.YtkehpnobidendaaGreatDoorM42
namespace Go.Proofs.YtkehpnobidendaaGreatDoor
open Go.RowKit

theorem heard_id (m : Mem) (b : Blk) : (m.heard b).id = m.id := by
  have h1 : (m.knows b).id = m.id := by unfold Mem.knows; split <;> rfl
  exact ((learn_keeps (m.knows b) b.just).i).trans h1
theorem voices_is {m : Mem} {b : Blk} {n : Nat} {out : List Ltr} {R : Mem × List Ltr × Int} (h : R = if (m.heard b).votesOn b = true then (({ m.heard b with voted := b.view } : Mem).enter (if b.view < 1000 then b.view + 1 else b.view), [⟨(b.view + 1) % 4, votMsg b.view n m.id (sealOf m.id 2 b.view n)⟩], 0)
      else ((m.heard b).enter (if b.view < 1000 then b.view + 1 else b.view), [], 0)) : R.2.2 = 0 ∧ (m.heard b).voices b n out = (R.1, out ++ R.2.1) := by
  have hid := heard_id m b
  unfold Mem.voices
  by_cases hv : (m.heard b).votesOn b = true
  · rw [if_pos hv] at h ⊢; subst h; exact ⟨rfl, Prod.ext rfl (by show out ++ [_] = out ++ [_]; rw [hid])⟩
  · rw [if_neg hv] at h ⊢; subst h; exact ⟨rfl, by simp⟩
set_option maxRecDepth 1000000 in
set_option maxHeartbeats 16000000 in
theorem rproposal (w : World) (p : Nat) (S : Nat → Prop) (m : Mem) (B : Nat) (hBw : B ≤ w.heap.size) (out : List Ltr) (hout : out.length ≤ 1000) (h : RMem w p S B m out) (hI : Inv m) (x : Msg) (hx : x.Ok) (v0 : -9223372036854775808 ≤ x.view) (v1 : x.view ≤ 9223372036854775807) (hlog : m.log.length + m.blocks.length + 3 ≤ 1700000000000) :
    Calls Tryz.prog 66 #[.pointer (some ⟨p, 0, none⟩), .agg x.cells.toArray] w fun e w' => e = .returned (.int .i64 (m.proposal x).2.2) ∧ ∃ S', RMem w' p S' B (m.proposal x).1 (out ++ (m.proposal x).2.1) ∧ Grow S w S' ∧ Fr S w w' := by
  by_cases hF : x.view < 1 ∨ 1000 < x.view ∨ x.fro ≠ x.view % 4 ∨ x.block.view ≠ x.view ∨ 16 < x.block.cmd.size ∨ x.block.just.view < 0 ∨ x.view ≤ x.block.just.view
  · refine (rproposal_form w p S m B out h x v0 v1 hx.b.c1 hF).mono ?_
    rintro e w' ⟨rfl, h1, h2⟩
    rw [proposal_form hF]
    exact ⟨rfl, S, by simpa using h1, Grow.refl _ _, h2⟩
  have HM : Hid (∀ W, Below w.heap.size w W → RMem W p S B m out) := fun W hW => h.below hW
  have HI : Hid (Inv m) := hI
  have HLT : Hid (∀ k, S k → k < w.heap.size) := by obtain ⟨_, _, _, _, _, _, _, h1, _⟩ := h; exact h1.lt
  have HST : Hid (m.proposal x = _) := proposal_steps hF
  have HBB : Hid (∀ W, Below w.heap.size w W → _) := fun W hW => rblock W p S m B out (h.below hW) x.block.just.block
  have HOK : Hid x.block.Ok := hx.b
  have HNU : Hid (∀ W, Calls Tryz.prog 27 #[.agg x.block.cells.toArray] W fun e w' => e = .returned (.int .u64 x.block.num) ∧ Below W.heap.size W w') := fun W => rnum x.block hx.b W
  have hnl : x.block.num < 18446744073709551616 := num_lt _
  have hjb : x.block.just.block < 18446744073709551616 := hx.b.j.b1
  have hbw : B ≤ w.heap.size := hBw
  clear h hI hx hBw
  obtain ⟨xk, xf, xv, ⟨bv, ⟨jv, jb, j0, j1, j2, j3⟩, bcm⟩, xn, ⟨cv, cb, c0, c1, c2, c3⟩, xs⟩ := x
  dsimp only [Msg.cells, Blk.cells] at *
  obtain ⟨R, hR⟩ : ∃ r, r = m.proposal ⟨xk, xf, xv, ⟨bv, ⟨jv, jb, j0, j1, j2, j3⟩, bcm⟩, xn, ⟨cv, cb, c0, c1, c2, c3⟩, xs⟩ := ⟨_, rfl⟩
  rw [← hR] at HST ⊢
  clear hR
  have h1 : ¬ xv < 1 := fun h => hF (.inl h)
  have h2 : ¬ 1000 < xv := fun h => hF (.inr (.inl h))
  have h3 : ¬ xf ≠ xv % 4 := fun h => hF (.inr (.inr (.inl h)))
  have h4 : ¬ bv ≠ xv := fun h => hF (.inr (.inr (.inr (.inl h))))
  have h5 : ¬ 16 < bcm.size := fun h => hF (.inr (.inr (.inr (.inr (.inl h)))))
  have h6 : ¬ jv < 0 := fun h => hF (.inr (.inr (.inr (.inr (.inr (.inl h))))))
  have h7 : ¬ xv ≤ jv := fun h => hF (.inr (.inr (.inr (.inr (.inr (.inr h))))))
  clear hF
  have h4 : xv = bv := (Decidable.not_not.1 h4).symm
  subst h4
  have h3' : xf = xv % 4 := Decidable.not_not.1 h3
  subst h3'
  have hf0 : 0 ≤ xv % 4 ∧ xv % 4 ≤ 3 := by omega
  have g5 : ¬ (16 : Int) < (bcm.size : Int) := by omega
  have hbs : (bcm.size : Int) ≤ 16 := by omega
  clear h3
  obtain ⟨W1, hW1⟩ : ∃ W, W = (w.alloc (.cells #[.int .i64 xk, .int .i64 (xv % 4), .int .i64 xv, .int .i64 xv, .int .i64 jv, .int .u64 jb, .int .u64 j0, .int .u64 j1, .int .u64 j2, .int .u64 j3, .string bcm, .int .u64 xn, .int .i64 cv, .int .u64 cb, .int .u64 c0, .int .u64 c1, .int .u64 c2, .int .u64 c3, .int .u64 xs] 43)).alloc (.cells #[.int .i64 xv, .int .i64 jv, .int .u64 jb, .int .u64 j0, .int .u64 j1, .int .u64 j2, .int .u64 j3, .string bcm] 41) := ⟨_, rfl⟩
  have hz : (w.alloc (.cells #[.int .i64 xk, .int .i64 (xv % 4), .int .i64 xv, .int .i64 xv, .int .i64 jv, .int .u64 jb, .int .u64 j0, .int .u64 j1, .int .u64 j2, .int .u64 j3, .string bcm, .int .u64 xn, .int .i64 cv, .int .u64 cb, .int .u64 c0, .int .u64 c1, .int .u64 c2, .int .u64 c3, .int .u64 xs] 43)).heap.size = w.heap.size + 1 := by simp
  have HB1 : Hid (Below w.heap.size w W1) := by rw [hW1]; exact bnext (below_alloc _ _) (below_alloc _ _)
  have HX1 : Hid (W1.heap[w.heap.size]? = some (.cells #[.int .i64 xk, .int .i64 (xv % 4), .int .i64 xv, .int .i64 xv, .int .i64 jv, .int .u64 jb, .int .u64 j0, .int .u64 j1, .int .u64 j2, .int .u64 j3, .string bcm, .int .u64 xn, .int .i64 cv, .int .u64 cb, .int .u64 c0, .int .u64 c1, .int .u64 c2, .int .u64 c3, .int .u64 xs] 43 (0, 0))) := by rw [hW1]; exact (Below.heap_alloc _ _ _ (by simp)).trans (heap_alloc_new w _)
  have HY1 : Hid (W1.heap[w.heap.size + 1]? = some (.cells #[.int .i64 xv, .int .i64 jv, .int .u64 jb, .int .u64 j0, .int .u64 j1, .int .u64 j2, .int .u64 j3, .string bcm] 41 (0, 0))) := by rw [hW1, ← hz]; exact heap_alloc_new _ _
  clear hz
  go_enter Tryz.func66, Tryz.ntmps66
  go_upto_region 2 with fail
  rw [← hW1]
  clear hW1
  have a1 : W1.cell? ⟨w.heap.size, 1, none⟩ = some (.int .i64 (xv % 4)) := cell_at HX1.out 1
  have a2 : W1.cell? ⟨w.heap.size, 2, none⟩ = some (.int .i64 xv) := cell_at HX1.out 2
  have y0 : W1.cell? ⟨w.heap.size + 1, 0, none⟩ = some (.int .i64 xv) := cell_at HY1.out 0
  have y1 : W1.cell? ⟨w.heap.size + 1, 1, none⟩ = some (.int .i64 jv) := cell_at HY1.out 1
  have y2 : W1.cell? ⟨w.heap.size + 1, 2, none⟩ = some (.int .u64 jb) := cell_at HY1.out 2
  have y3 : W1.cell? ⟨w.heap.size + 1, 3, none⟩ = some (.int .u64 j0) := cell_at HY1.out 3
  have y4 : W1.cell? ⟨w.heap.size + 1, 4, none⟩ = some (.int .u64 j1) := cell_at HY1.out 4
  have y5 : W1.cell? ⟨w.heap.size + 1, 5, none⟩ = some (.int .u64 j2) := cell_at HY1.out 5
  have y6 : W1.cell? ⟨w.heap.size + 1, 6, none⟩ = some (.int .u64 j3) := cell_at HY1.out 6
  have y7 : W1.cell? ⟨w.heap.size + 1, 7, none⟩ = some (.string bcm) := cell_at HY1.out 7
  go_upto_region 4 with fail
  clear g5
  generalize hnn : Blk.num ⟨xv, ⟨jv, jb, j0, j1, j2, j3⟩, bcm⟩ = n at *
  clear hnn
  have HSE : Hid (∀ W : World, Calls Tryz.prog 25 #[.int .i64 (xv % 4), .int .i64 1, .int .i64 xv, .int .u64 n] W fun e w' => e = .returned (.int .u64 (sealOf (xv % 4) 1 xv n)) ∧ Below W.heap.size W w') := fun W => rseal (xv % 4) 1 xv n (by omega) (by omega) (by omega) (by omega) (by omega) (by omega) hnl W
  have HGO : Hid (∀ W : World, Calls Tryz.prog 30 #[.agg #[.int .i64 jv, .int .u64 jb, .int .u64 j0, .int .u64 j1, .int .u64 j2, .int .u64 j3]] W fun e w' => e = .returned (.bool (goodB jv jb j0 j1 j2 j3)) ∧ Below W.heap.size W w') := fun W => rgood jv jb j0 j1 j2 j3 (by omega) (by omega) hjb W
  have hgood : Crt.good ⟨jv, jb, j0, j1, j2, j3⟩ = goodB jv jb j0 j1 j2 j3 := rfl
  have HK := HST.out
  rw [hgood] at HK
  have HRK : Hid (R = _) := HK
  clear HK HST hgood
  generalize sealOf (xv % 4) 1 xv n = sv at *
  generalize goodB jv jb j0 j1 j2 j3 = gd at *
  go_upto_region 5 with (go_at_call 27; refine (HNU.out _).mono ?_; rintro e w2 ⟨rfl, hb2⟩; have HB2 : Hid (Below W1.heap.size W1 w2) := hb2; clear hb2)
  clear a1 a2 y0 y1 y2 y3 y4 y5 y6 y7 HNU
  have a1 : w2.cell? ⟨w.heap.size, 1, none⟩ = some (.int .i64 (xv % 4)) := cell_at (box_below HX1.out HB2.out) 1
  have a2 : w2.cell? ⟨w.heap.size, 2, none⟩ = some (.int .i64 xv) := cell_at (box_below HX1.out HB2.out) 2
  go_upto_region 6 with (go_at_call 25; refine (HSE.out _).mono ?_; rintro e w3 ⟨rfl, hb3⟩; have HB3 : Hid (Below W1.heap.size W1 w3) := bnext HB2.out hb3; clear hb3)
  clear a1 a2 HSE HB2
  have y1 : w3.cell? ⟨w.heap.size + 1, 1, none⟩ = some (.int .i64 jv) := cell_at (box_below HY1.out HB3.out) 1
  have y2 : w3.cell? ⟨w.heap.size + 1, 2, none⟩ = some (.int .u64 jb) := cell_at (box_below HY1.out HB3.out) 2
  have y3 : w3.cell? ⟨w.heap.size + 1, 3, none⟩ = some (.int .u64 j0) := cell_at (box_below HY1.out HB3.out) 3
  have y4 : w3.cell? ⟨w.heap.size + 1, 4, none⟩ = some (.int .u64 j1) := cell_at (box_below HY1.out HB3.out) 4
  have y5 : w3.cell? ⟨w.heap.size + 1, 5, none⟩ = some (.int .u64 j2) := cell_at (box_below HY1.out HB3.out) 5
  have y6 : w3.cell? ⟨w.heap.size + 1, 6, none⟩ = some (.int .u64 j3) := cell_at (box_below HY1.out HB3.out) 6
  go_upto_region 7 with (go_at_call 30; refine (HGO.out _).mono ?_; rintro e w4 ⟨rfl, hb4⟩; have HB4 : Hid (Below W1.heap.size W1 w4) := bnext HB3.out hb4; clear hb4)
  clear y1 y2 y3 y4 y5 y6 HGO HB3
  have a18 : w4.cell? ⟨w.heap.size, 18, none⟩ = some (.int .u64 xs) := cell_at (box_below HX1.out HB4.out) 18
  have HBW : Hid (Below w.heap.size w w4) := bnext HB1.out HB4.out
  by_cases hsv : xs ≠ sv
  · have K : Hid (R = (m, [], 2)) := by show R = _; rw [HRK.out, if_pos (.inl hsv)]
    have g : (xs != sv) = true := by simp; exact hsv
    go_wp2
    go_ret
    rw [K.out]
    exact ⟨rfl, S, by simpa using HM.out _ HBW.out, Grow.refl _ _, Fr.of_below HBW.out⟩
  have hsv := Decidable.not_not.1 hsv
  subst hsv
  cases gd with
  | false =>
    have K : Hid (R = (m, [], 2)) := by show R = _; rw [HRK.out, if_pos (.inr rfl)]
    go_wp2
    go_ret
    rw [K.out]
    exact ⟨rfl, S, by simpa using HM.out _ HBW.out, Grow.refl _ _, Fr.of_below HBW.out⟩
  | true =>
  have HK := HRK.out
  rw [if_neg (by simp)] at HK
  have HBB2 := HBB.out w4 HBW.out
  obtain ⟨q, hq⟩ : ∃ x, x = m.block jb := ⟨_, rfl⟩
  have HQQ : Hid (m.block jb = q) := hq.symm
  rw [← hq] at HBB2 HK
  clear hq HBB HRK
  have HRK : Hid (R = _) := HK
  clear HK
  have y2 : w4.cell? ⟨w.heap.size + 1, 2, none⟩ = some (.int .u64 jb) := cell_at (box_below HY1.out HB4.out) 2
  rcases q with _ | ⟨qv, ⟨qjv, qjb, q0, q1, q2, q3⟩, qc⟩
  · have K : Hid (R = (m, [], 3)) := by show R = _; rw [HRK.out]; exact if_pos (.inl rfl)
    have HBB3 : Calls Tryz.prog 56 #[.pointer (some ⟨p, 0, none⟩), .int .u64 jb] w4 fun e w' => e = .returned (.tuple #[.agg #[.int .i64 0, .int .i64 0, .int .u64 0, .int .u64 0, .int .u64 0, .int .u64 0, .int .u64 0, .string ⟨#[]⟩], .bool false]) ∧ Below w4.heap.size w4 w' := HBB2
    go_wp2_with (go_at_call 56; refine HBB3.mono ?_; rintro e w5 ⟨rfl, hb5⟩)
    go_ret
    rw [K.out]
    have hb6 := bnext HBW.out (bnext hb5 (below_alloc w5 (.cells #[.int .i64 0, .int .i64 0, .int .u64 0, .int .u64 0, .int .u64 0, .int .u64 0, .int .u64 0, .string ⟨#[]⟩] 41)))
    exact ⟨rfl, S, by simpa using HM.out _ hb6, Grow.refl _ _, Fr.of_below hb6⟩
  dsimp only [Option.getD_some, Option.isSome_some, Blk.cells] at HBB2
  have HBQ : Hid (Calls Tryz.prog 56 #[.pointer (some ⟨p, 0, none⟩), .int .u64 jb] w4 fun e w' => e = .returned (.tuple #[.agg #[.int .i64 qv, .int .i64 qjv, .int .u64 qjb, .int .u64 q0, .int .u64 q1, .int .u64 q2, .int .u64 q3, .string qc], .bool true]) ∧ Below w4.heap.size w4 w') := HBB2
  clear HBB2
  go_upto_region 10 with (go_at_call 56; refine HBQ.out.mono ?_; rintro e w5 ⟨rfl, hb5⟩; have HB5 : Hid (Below W1.heap.size W1 w5) := bnext HB4.out hb5; clear hb5)
  obtain ⟨W6, hW6⟩ : ∃ W, W = w5.alloc (.cells #[.int .i64 qv, .int .i64 qjv, .int .u64 qjb, .int .u64 q0, .int .u64 q1, .int .u64 q2, .int .u64 q3, .string qc] 41) := ⟨_, rfl⟩
  have HB6 : Hid (Below W1.heap.size W1 W6) := by rw [hW6]; exact bnext HB5.out (below_alloc _ _)
  have k0 : W6.cell? ⟨w5.heap.size, 0, none⟩ = some (.int .i64 qv) := by rw [hW6]; exact cell_at (heap_alloc_new w5 _) 0
  rw [← hW6]
  clear hW6 a18 y2 HBQ HB5 HBW HB4
  have b1 : W6.cell? ⟨w.heap.size + 1, 1, none⟩ = some (.int .i64 jv) := cell_at (box_below HY1.out HB6.out) 1
  have HBW : Hid (Below w.heap.size w W6) := bnext HB1.out HB6.out
  by_cases hqv : qv ≠ jv
  · have K : Hid (R = (m, [], 3)) := by show R = _; rw [HRK.out]; exact if_pos (.inr hqv)
    have g : (qv != jv) = true := by simp; exact hqv
    go_wp2
    go_ret
    rw [K.out]
    exact ⟨rfl, S, by simpa using HM.out _ HBW.out, Grow.refl _ _, Fr.of_below HBW.out⟩
  have hqv := Decidable.not_not.1 hqv
  subst hqv
  have HHE : Hid (Held m ⟨qv, jb, j0, j1, j2, j3⟩) := ⟨by show 0 ≤ qv; omega, HOK.out.j, _, HQQ.out, rfl⟩
  have HK := HRK.out
  rw [if_neg (by simp)] at HK
  clear HRK
  have HRK : Hid (R = _) := HK
  clear HK HQQ
  go_upto_region 12 with fail
  clear k0 b1
  have e2 : ∀ c : Cls W6, c.w.cell? ⟨w.heap.size, 2, none⟩ = some (.int .i64 xv) := fun c => cell_at (box_below HX1.out (bnext HB6.out c.b)) 2
  have d2 : ∀ c : Cls W6, c.w.cell? ⟨p, 2, none⟩ = some (.int .i64 m.view) := fun c => (HM.out _ (bnext HBW.out c.b)).see.c2
  have d3 : ∀ c : Cls W6, c.w.cell? ⟨p, 3, none⟩ = some (.int .i64 m.voted) := fun c => (HM.out _ (bnext HBW.out c.b)).see.c3
  by_cases ho1 : xv < m.view
  · have K : Hid (R = (m, [], 4)) := by show R = _; rw [HRK.out]; exact if_pos (.inl ho1)
    refine wp_region_cls W6 (Below.refl _ _) (by kernel_rfl) (by kernel_rfl) ?_
    repeat (go_big_quiet_step (fail))
    refine wpQuiet_nil ?_
    rintro W7 ⟨⟨_, hW7⟩, rfl⟩
    go_wp2
    go_ret
    rw [K.out]
    have hb5 := bnext HBW.out hW7
    exact ⟨rfl, S, by simpa using HM.out _ hb5, Grow.refl _ _, Fr.of_below hb5⟩
  by_cases ho2 : xv ≤ m.voted
  · have K : Hid (R = (m, [], 4)) := by show R = _; rw [HRK.out]; exact if_pos (.inr ho2)
    refine wp_region_cls W6 (Below.refl _ _) (by kernel_rfl) (by kernel_rfl) ?_
    repeat (go_big_quiet_step (fail))
    refine wpQuiet_nil ?_
    rintro W7 ⟨⟨_, hW7⟩, rfl⟩
    go_wp2
    go_ret
    rw [K.out]
    have hb5 := bnext HBW.out hW7
    exact ⟨rfl, S, by simpa using HM.out _ hb5, Grow.refl _ _, Fr.of_below hb5⟩
  have HK := HRK.out
  rw [if_neg (fun h => h.elim ho1 ho2)] at HK
  clear HRK
  have HVI : Hid (R.2.2 = 0 ∧ (m.heard ⟨xv, ⟨qv, jb, j0, j1, j2, j3⟩, bcm⟩).voices ⟨xv, ⟨qv, jb, j0, j1, j2, j3⟩, bcm⟩ n out = (R.1, out ++ R.2.1)) := voices_is HK
  clear HK
  refine wp_region_cls W6 (Below.refl _ _) (by kernel_rfl) (by kernel_rfl) ?_
  repeat (go_big_quiet_step (fail))
  refine wpQuiet_nil ?_
  rintro V ⟨⟨_, hV⟩, rfl⟩
  have HBV : Hid (Below W1.heap.size W1 V) := bnext HB6.out hV
  clear hV e2 d2 d3
  have HXV : Hid (V.heap[w.heap.size]? = some (.cells #[.int .i64 xk, .int .i64 (xv % 4), .int .i64 xv, .int .i64 xv, .int .i64 qv, .int .u64 jb, .int .u64 j0, .int .u64 j1, .int .u64 j2, .int .u64 j3, .string bcm, .int .u64 xn, .int .i64 cv, .int .u64 cb, .int .u64 c0, .int .u64 c1, .int .u64 c2, .int .u64 c3, .int .u64 xs] 43 (0, 0))) := box_below HX1.out HBV.out
  have HYV : Hid (V.heap[w.heap.size + 1]? = some (.cells #[.int .i64 xv, .int .i64 qv, .int .u64 jb, .int .u64 j0, .int .u64 j1, .int .u64 j2, .int .u64 j3, .string bcm] 41 (0, 0))) := box_below HY1.out HBV.out
  have HMV : Hid (RMem V p S B m out) := HM.out _ (bnext HB1.out HBV.out)
  have HSX : Hid (¬ S w.heap.size) := fun h => by have := HLT.out _ h; omega
  have HSY : Hid (¬ S (w.heap.size + 1)) := fun h => by have := HLT.out _ h; omega
  have HFV : Hid (Fr S w V) := Fr.of_below (bnext HB1.out HBV.out)
  have HBw : Hid (B ≤ V.heap.size) := Nat.le_trans hbw HFV.out.size
  clear HB6 HBW HM
  go_upto_if 110 with fail
  refine wp_cond_false rfl ?_
  refine wp_skip ?_
  simp only [Exit.then]
  refine (?kk : ∀ (a : Act) (w : World), Code.wp Tryz.prog ?kc ?kq a w → _) _ _ ?goal
  case kk => assumption
  refine rpr_end HMV HI HOK HHE (by omega) HBw HXV HYV HSX HSY (by omega) (by omega) hnl hout hlog ?_
  intro k11 k12 k111 k112 k113 k114 k115 k116 k117 k118 k119 k120 k121 k122 k123 k124 k125 k126 k127 k128 k129 k130 k131 k132 k133 k134 k135 k136 k137 k138 k139 k140 k141 k142 k143 k144 k145 k146 k147 k148 k149 k150 k151 k152 k153 k154 k155 k156 k157 k158 k159 k160 k161 k162 k163 k164 k165 k166 k167 k168 k169 k170 k171 k172 k173 k174 k175 w9 hh
  have HH : Hid (∃ S', RMem w9 p S' B ((m.heard ⟨xv, ⟨qv, jb, j0, j1, j2, j3⟩, bcm⟩).voices ⟨xv, ⟨qv, jb, j0, j1, j2, j3⟩, bcm⟩ n out).1 ((m.heard ⟨xv, ⟨qv, jb, j0, j1, j2, j3⟩, bcm⟩).voices ⟨xv, ⟨qv, jb, j0, j1, j2, j3⟩, bcm⟩ n out).2 ∧ Grow S V S' ∧ Fr S V w9) := hh
  clear hh
  go_ret
  obtain ⟨S', z1, z2, z3⟩ := HH.out
  rw [HVI.out.2] at z1
  rw [HVI.out.1]
  exact ⟨rfl, S', z1, fun k hk => (z2 k hk).imp id (fun h => Nat.le_trans HFV.out.size h), HFV.out.trans z3 (fun _ h => .inl h)⟩
end Go.Proofs.YtkehpnobidendaaGreatDoor
