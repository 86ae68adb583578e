/- The document's vote (P7). -/
import Derived.Test.YtkehpnobidendaaGreatDoorM44
import Derived.Test.YtkehpnobidendaaGreatDoorM34
namespace Go.Proofs.YtkehpnobidendaaGreatDoor
open Go.RowKit

set_option maxRecDepth 1000000 in
set_option maxHeartbeats 8000000 in
theorem rvote_form (w : World) (p : Nat) (m : Mem) (hc : ∀ W, Below w.heap.size w W → W.cell? ⟨p, 0, none⟩ = some (.int .i64 m.id)) (x : Msg) (v0 : -9223372036854775808 ≤ x.view) (v1 : x.view ≤ 9223372036854775807) (hF : x.fro < 0 ∨ 3 < x.fro ∨ x.view < 1 ∨ 999 < x.view ∨ m.id ≠ (x.view + 1) % 4) :
    Calls Tryz.prog 67 #[.pointer (some ⟨p, 0, none⟩), .agg x.cells.toArray] w fun e w' => e = .returned (.int .i64 1) ∧ Below w.heap.size w w' := by
  have HC : Hid (∀ W, Below w.heap.size w W → W.cell? ⟨p, 0, none⟩ = some (.int .i64 m.id)) := hc
  clear hc
  obtain ⟨xk, xf, xv, ⟨bv, ⟨jv, jb, j0, j1, j2, j3⟩, bcm⟩, xn, ⟨cv, cb, c0, c1, c2, c3⟩, xs⟩ := x
  dsimp only [Msg.cells] at *
  obtain ⟨W1, hW1⟩ : ∃ W, W = w.alloc (.cells #[.int .i64 xk, .int .i64 xf, .int .i64 xv, .int .i64 bv, .int .i64 jv, .int .u64 jb, .int .u64 j0, .int .u64 j1, .int .u64 j2, .int .u64 j3, .string bcm, .int .u64 xn, .int .i64 cv, .int .u64 cb, .int .u64 c0, .int .u64 c1, .int .u64 c2, .int .u64 c3, .int .u64 xs] 43) := ⟨_, rfl⟩
  have HB1 : Hid (Below w.heap.size w W1) := by rw [hW1]; exact below_alloc _ _
  have HX1 : Hid (W1.heap[w.heap.size]? = some (.cells #[.int .i64 xk, .int .i64 xf, .int .i64 xv, .int .i64 bv, .int .i64 jv, .int .u64 jb, .int .u64 j0, .int .u64 j1, .int .u64 j2, .int .u64 j3, .string bcm, .int .u64 xn, .int .i64 cv, .int .u64 cb, .int .u64 c0, .int .u64 c1, .int .u64 c2, .int .u64 c3, .int .u64 xs] 43 (0, 0))) := by rw [hW1]; exact heap_alloc_new w _
  have e1 : ∀ c : Cls W1, c.w.cell? ⟨w.heap.size, 1, none⟩ = some (.int .i64 xf) := fun c => cell_at (box_below HX1.out c.b) 1
  have e2 : ∀ c : Cls W1, c.w.cell? ⟨w.heap.size, 2, none⟩ = some (.int .i64 xv) := fun c => cell_at (box_below HX1.out c.b) 2
  have e0 : ∀ c : Cls W1, c.w.cell? ⟨p, 0, none⟩ = some (.int .i64 m.id) := fun c => HC.out _ (bnext HB1.out c.b)
  go_enter Tryz.func67, Tryz.ntmps67
  go_upto_region 1 with fail
  rw [← hW1]
  clear hW1
  by_cases h1 : xf < 0
  · clear hF
    refine wp_region_cls W1 (Below.refl _ _) (by kernel_rfl) (by kernel_rfl) ?_
    repeat (go_big_quiet_step (fail))
    refine wpQuiet_nil ?_
    rintro W5 ⟨⟨_, hW5⟩, rfl⟩
    go_wp2
    go_ret
    exact ⟨rfl, bnext HB1.out hW5⟩
  by_cases h2 : 3 < xf
  · clear hF
    refine wp_region_cls W1 (Below.refl _ _) (by kernel_rfl) (by kernel_rfl) ?_
    repeat (go_big_quiet_step (fail))
    refine wpQuiet_nil ?_
    rintro W5 ⟨⟨_, hW5⟩, rfl⟩
    go_wp2
    go_ret
    exact ⟨rfl, bnext HB1.out hW5⟩
  by_cases h3 : xv < 1
  · clear hF
    refine wp_region_cls W1 (Below.refl _ _) (by kernel_rfl) (by kernel_rfl) ?_
    repeat (go_big_quiet_step (fail))
    refine wpQuiet_nil ?_
    rintro W5 ⟨⟨_, hW5⟩, rfl⟩
    go_wp2
    go_ret
    exact ⟨rfl, bnext HB1.out hW5⟩
  by_cases h4 : 999 < xv
  · clear hF
    refine wp_region_cls W1 (Below.refl _ _) (by kernel_rfl) (by kernel_rfl) ?_
    repeat (go_big_quiet_step (fail))
    refine wpQuiet_nil ?_
    rintro W5 ⟨⟨_, hW5⟩, rfl⟩
    go_wp2
    go_ret
    exact ⟨rfl, bnext HB1.out hW5⟩
  have h5 : m.id ≠ (xv + 1) % 4 := by
    rcases hF with h | h | h | h | h
    · exact absurd h h1
    · exact absurd h h2
    · exact absurd h h3
    · exact absurd h h4
    · exact h
  have hw1 : IntKind.i64.wrap (xv + 1) = xv + 1 := by rw [IntKind.wrap_i64]; omega
  have g5 : (m.id != (xv + 1).tmod 4) = true := by rw [Int.tmod_eq_emod_of_nonneg (by omega)]; simpa using h5
  have g7 : (m.id != (xv + 1) % 4) = true := by simpa using h5
  clear hF h5
  refine wp_region_cls W1 (Below.refl _ _) (by kernel_rfl) (by kernel_rfl) ?_
  repeat (go_big_quiet_step (fail))
  refine wpQuiet_nil ?_
  rintro W5 ⟨⟨_, hW5⟩, rfl⟩
  go_wp2
  go_ret
  exact ⟨rfl, bnext HB1.out hW5⟩
theorem counted_is {m : Mem} {xk xf xv bv jv j0 j1 j2 j3 cv c0 c1 c2 c3 xs : Int} {jb xn cb : Nat} {bcm : ByteArray} {c : Crt} {nv : Nat} : ((if 3 ≤ nv + 1 then (if ((m.took ⟨xk, xf, xv, ⟨bv, ⟨jv, jb, j0, j1, j2, j3⟩, bcm⟩, xn, ⟨cv, cb, c0, c1, c2, c3⟩, xs⟩).learn c).view ≤ xv then ((m.took ⟨xk, xf, xv, ⟨bv, ⟨jv, jb, j0, j1, j2, j3⟩, bcm⟩, xn, ⟨cv, cb, c0, c1, c2, c3⟩, xs⟩).learn c).enter (xv + 1) else (m.took ⟨xk, xf, xv, ⟨bv, ⟨jv, jb, j0, j1, j2, j3⟩, bcm⟩, xn, ⟨cv, cb, c0, c1, c2, c3⟩, xs⟩).learn c, (0 : Int)) else (m.took ⟨xk, xf, xv, ⟨bv, ⟨jv, jb, j0, j1, j2, j3⟩, bcm⟩, xn, ⟨cv, cb, c0, c1, c2, c3⟩, xs⟩, (0 : Int))) : Mem × Int) = (({ m with votes := m.votes ++ [⟨xf, xv, xn, xs⟩] } : Mem).counted nv c xv, 0) := by
  unfold Mem.counted Mem.took
  split <;> rfl
set_option maxRecDepth 1000000 in
set_option maxHeartbeats 16000000 in
theorem rvote (w : World) (p : Nat) (S : Nat → Prop) (m : Mem) (B : Nat) (out : List Ltr) (h : RMem w p S B m out) (hI : Inv m) (x : Msg) (hx : x.number < 18446744073709551616) (v0 : -9223372036854775808 ≤ x.view) (v1 : x.view ≤ 9223372036854775807) (hlog : m.log.length + m.blocks.length + 2 ≤ 1700000000000) (hvl : m.votes.length ≤ 1700000000000) :
    Calls Tryz.prog 67 #[.pointer (some ⟨p, 0, none⟩), .agg x.cells.toArray] w fun e w' => e = .returned (.int .i64 (m.vote x).2) ∧ ∃ S', RMem w' p S' B (m.vote x).1 out ∧ Grow S w S' ∧ Fr S w w' := by
  by_cases hF : x.fro < 0 ∨ 3 < x.fro ∨ x.view < 1 ∨ 999 < x.view ∨ m.id ≠ (x.view + 1) % 4
  · refine (rvote_form w p m (fun W hW => (h.below hW).see.c0) x v0 v1 hF).mono ?_
    rintro e w' ⟨rfl, hb⟩
    rw [vote_form hF]
    exact ⟨rfl, S, h.below hb, Grow.refl _ _, Fr.of_below hb⟩
  have HM : Hid (∀ W, Below w.heap.size w W → RMem W p S B m out) := fun W hW => h.below hW
  have HI : Hid (Inv m) := hI
  have HLT : Hid (∀ k, S k → k < w.heap.size) := by obtain ⟨_, _, _, _, _, _, _, h1, _⟩ := h; exact h1.lt
  have HVT : Hid (∀ t ∈ m.votes, 0 ≤ t.fro ∧ t.fro ≤ 3) := hI.vt
  have HST : Hid (m.vote x = _) := vote_steps hF
  have HBB : Hid (∀ W, Below w.heap.size w W → _) := fun W hW => rblock W p S m B out (h.below hW) x.number
  have w1v := hI.v1
  have w0v := hI.v0
  clear h hI
  obtain ⟨xk, xf, xv, ⟨bv, ⟨jv, jb, j0, j1, j2, j3⟩, bcm⟩, xn, ⟨cv, cb, c0, c1, c2, c3⟩, xs⟩ := x
  dsimp only [Msg.cells] at *
  obtain ⟨R, hR⟩ : ∃ r, r = m.vote ⟨xk, xf, xv, ⟨bv, ⟨jv, jb, j0, j1, j2, j3⟩, bcm⟩, xn, ⟨cv, cb, c0, c1, c2, c3⟩, xs⟩ := ⟨_, rfl⟩
  rw [← hR] at HST ⊢
  clear hR
  have h1 : ¬ xf < 0 := fun h => hF (.inl h)
  have h2 : ¬ 3 < xf := fun h => hF (.inr (.inl h))
  have h3 : ¬ xv < 1 := fun h => hF (.inr (.inr (.inl h)))
  have h4 : ¬ 999 < xv := fun h => hF (.inr (.inr (.inr (.inl h))))
  have h5 : ¬ m.id ≠ (xv + 1) % 4 := fun h => hF (.inr (.inr (.inr (.inr h))))
  clear hF
  obtain ⟨f, rfl⟩ : ∃ f : Nat, xf = (f : Int) := ⟨xf.toNat, by omega⟩
  have hf4 : f < 4 := by omega
  obtain ⟨W1, hW1⟩ : ∃ W, W = w.alloc (.cells #[.int .i64 xk, .int .i64 (f : Int), .int .i64 xv, .int .i64 bv, .int .i64 jv, .int .u64 jb, .int .u64 j0, .int .u64 j1, .int .u64 j2, .int .u64 j3, .string bcm, .int .u64 xn, .int .i64 cv, .int .u64 cb, .int .u64 c0, .int .u64 c1, .int .u64 c2, .int .u64 c3, .int .u64 xs] 43) := ⟨_, rfl⟩
  have HB1 : Hid (Below w.heap.size w W1) := by rw [hW1]; exact below_alloc _ _
  have HX1 : Hid (W1.heap[w.heap.size]? = some (.cells #[.int .i64 xk, .int .i64 (f : Int), .int .i64 xv, .int .i64 bv, .int .i64 jv, .int .u64 jb, .int .u64 j0, .int .u64 j1, .int .u64 j2, .int .u64 j3, .string bcm, .int .u64 xn, .int .i64 cv, .int .u64 cb, .int .u64 c0, .int .u64 c1, .int .u64 c2, .int .u64 c3, .int .u64 xs] 43 (0, 0))) := by rw [hW1]; exact heap_alloc_new w _
  have e1 : ∀ c : Cls W1, c.w.cell? ⟨w.heap.size, 1, none⟩ = some (.int .i64 (f : Int)) := fun c => cell_at (box_below HX1.out c.b) 1
  have e2 : ∀ c : Cls W1, c.w.cell? ⟨w.heap.size, 2, none⟩ = some (.int .i64 xv) := fun c => cell_at (box_below HX1.out c.b) 2
  have e0 : ∀ c : Cls W1, c.w.cell? ⟨p, 0, none⟩ = some (.int .i64 m.id) := fun c => (HM.out _ (bnext HB1.out c.b)).see.c0
  have hw1 : IntKind.i64.wrap (xv + 1) = xv + 1 := by rw [IntKind.wrap_i64]; omega
  have g5 : (m.id != (xv + 1).tmod 4) = false := by rw [Int.tmod_eq_emod_of_nonneg (by omega)]; simpa using h5
  have g6 : (m.id != (xv + 1) % 4) = false := by simpa using h5
  go_enter Tryz.func67, Tryz.ntmps67
  go_upto_region 1 with fail
  rw [← hW1]
  clear hW1
  refine wp_region_cls W1 (Below.refl _ _) (by kernel_rfl) (by kernel_rfl) ?_
  repeat (go_big_quiet_step (fail))
  refine wpQuiet_nil ?_
  rintro W2 ⟨⟨_, hW2⟩, rfl⟩
  have HB2 : Hid (Below W1.heap.size W1 W2) := hW2
  have HSE : Hid (∀ W : World, Calls Tryz.prog 25 #[.int .i64 (f : Int), .int .i64 2, .int .i64 xv, .int .u64 xn] W fun e w' => e = .returned (.int .u64 (sealOf (f : Int) 2 xv xn)) ∧ Below W.heap.size W w') := fun W => rseal (f : Int) 2 xv xn (by omega) (by omega) (by omega) (by omega) (by omega) (by omega) (by omega) W
  clear hW2 e0 e1 e2 g5 g6 h5
  generalize sealOf (f : Int) 2 xv xn = sv at *
  have a1 : W2.cell? ⟨w.heap.size, 1, none⟩ = some (.int .i64 (f : Int)) := cell_at (box_below HX1.out HB2.out) 1
  have a2 : W2.cell? ⟨w.heap.size, 2, none⟩ = some (.int .i64 xv) := cell_at (box_below HX1.out HB2.out) 2
  have a11 : W2.cell? ⟨w.heap.size, 11, none⟩ = some (.int .u64 xn) := cell_at (box_below HX1.out HB2.out) 11
  go_upto_region 4 with (go_at_call 25; refine (HSE.out _).mono ?_; rintro e w3 ⟨rfl, hb3⟩; have HB3 : Hid (Below W1.heap.size W1 w3) := bnext HB2.out hb3; clear hb3)
  have a18 : w3.cell? ⟨w.heap.size, 18, none⟩ = some (.int .u64 xs) := cell_at (box_below HX1.out HB3.out) 18
  clear a1 a2 a11 HSE HB2
  by_cases hsv : xs ≠ sv
  · have K : Hid (R = (m, 2)) := by show R = (m, 2); rw [HST.out, if_pos hsv]
    have g : (xs != sv) = true := by simp; exact hsv
    go_wp2
    go_ret
    rw [K.out]
    exact ⟨rfl, S, HM.out _ (bnext HB1.out HB3.out), Grow.refl _ _, Fr.of_below (bnext HB1.out HB3.out)⟩
  have hsv := Decidable.not_not.1 hsv
  subst hsv
  have HK := HST.out
  rw [if_neg (by simp)] at HK
  have HBB2 := HBB.out w3 (bnext HB1.out HB3.out)
  obtain ⟨q, hq⟩ : ∃ x, x = m.block xn := ⟨_, rfl⟩
  rw [← hq] at HBB2 HK
  clear hq HBB HST
  have HRK : Hid (R = _) := HK
  clear HK
  have a11 : w3.cell? ⟨w.heap.size, 11, none⟩ = some (.int .u64 xn) := cell_at (box_below HX1.out HB3.out) 11
  rcases q with _ | ⟨qv, ⟨qjv, qjb, q0, q1, q2, q3⟩, qc⟩
  · have K : Hid (R = (m, 3)) := by show R = (m, 3); rw [HRK.out]; exact if_pos (.inl rfl)
    have HBB3 : Calls Tryz.prog 56 #[.pointer (some ⟨p, 0, none⟩), .int .u64 xn] w3 fun e w' => e = .returned (.tuple #[.agg #[.int .i64 0, .int .i64 0, .int .u64 0, .int .u64 0, .int .u64 0, .int .u64 0, .int .u64 0, .string ⟨#[]⟩], .bool false]) ∧ Below w3.heap.size w3 w' := HBB2
    go_wp2_with (go_at_call 56; refine HBB3.mono ?_; rintro e w4 ⟨rfl, hb4⟩)
    go_ret
    rw [K.out]
    have hb5 := bnext (bnext HB1.out HB3.out) (bnext hb4 (below_alloc w4 (.cells #[.int .i64 0, .int .i64 0, .int .u64 0, .int .u64 0, .int .u64 0, .int .u64 0, .int .u64 0, .string ⟨#[]⟩] 41)))
    exact ⟨rfl, S, HM.out _ hb5, Grow.refl _ _, Fr.of_below hb5⟩
  dsimp only [Option.getD_some, Option.isSome_some, Blk.cells] at HBB2
  have HBQ : Hid (Calls Tryz.prog 56 #[.pointer (some ⟨p, 0, none⟩), .int .u64 xn] w3 fun e w' => e = .returned (.tuple #[.agg #[.int .i64 qv, .int .i64 qjv, .int .u64 qjb, .int .u64 q0, .int .u64 q1, .int .u64 q2, .int .u64 q3, .string qc], .bool true]) ∧ Below w3.heap.size w3 w') := HBB2
  clear HBB2
  go_upto_region 7 with (go_at_call 56; refine HBQ.out.mono ?_; rintro e w4 ⟨rfl, hb4⟩; have HB4 : Hid (Below W1.heap.size W1 w4) := bnext HB3.out hb4; clear hb4)
  obtain ⟨W5, hW5⟩ : ∃ W, W = w4.alloc (.cells #[.int .i64 qv, .int .i64 qjv, .int .u64 qjb, .int .u64 q0, .int .u64 q1, .int .u64 q2, .int .u64 q3, .string qc] 41) := ⟨_, rfl⟩
  have HB5 : Hid (Below W1.heap.size W1 W5) := by rw [hW5]; exact bnext HB4.out (below_alloc _ _)
  have k0 : W5.cell? ⟨w4.heap.size, 0, none⟩ = some (.int .i64 qv) := by rw [hW5]; exact cell_at (heap_alloc_new w4 _) 0
  rw [← hW5]
  clear hW5 a18 a11 HBQ HB4
  have b2 : W5.cell? ⟨w.heap.size, 2, none⟩ = some (.int .i64 xv) := cell_at (box_below HX1.out HB5.out) 2
  by_cases hqv : qv ≠ xv
  · have K : Hid (R = (m, 3)) := by show R = (m, 3); rw [HRK.out]; exact if_pos (.inr hqv)
    have g : (qv != xv) = true := by simp; exact hqv
    go_wp2
    go_ret
    rw [K.out]
    have hb5 := bnext HB1.out HB5.out
    exact ⟨rfl, S, HM.out _ hb5, Grow.refl _ _, Fr.of_below hb5⟩
  have hqv := Decidable.not_not.1 hqv
  subst hqv
  have HK := HRK.out
  rw [if_neg (by simp)] at HK
  clear HRK
  have HRK : Hid (R = _) := HK
  clear HK
  go_upto_region 9 with fail
  clear k0 b2
  have e2 : ∀ c : Cls W5, c.w.cell? ⟨w.heap.size, 2, none⟩ = some (.int .i64 qv) := fun c => cell_at (box_below HX1.out (bnext HB5.out c.b)) 2
  have d2 : ∀ c : Cls W5, c.w.cell? ⟨p, 2, none⟩ = some (.int .i64 m.view) := fun c => (HM.out _ (bnext HB1.out (bnext HB5.out c.b))).see.c2
  have d5 : ∀ c : Cls W5, c.w.cell? ⟨p, 5, none⟩ = some (.int .i64 m.high.view) := fun c => (HM.out _ (bnext HB1.out (bnext HB5.out c.b))).see.c5
  have hw2 : IntKind.i64.wrap (m.view - 1) = m.view - 1 := by rw [IntKind.wrap_i64]; omega
  by_cases ho1 : qv < m.view - 1
  · have K : Hid (R = (m, 4)) := by show R = (m, 4); rw [HRK.out]; exact if_pos (.inl ho1)
    refine wp_region_cls W5 (Below.refl _ _) (by kernel_rfl) (by kernel_rfl) ?_
    repeat (go_big_quiet_step (fail))
    refine wpQuiet_nil ?_
    rintro W6 ⟨⟨_, hW6⟩, rfl⟩
    go_wp2
    go_ret
    rw [K.out]
    have hb5 := bnext HB1.out (bnext HB5.out hW6)
    exact ⟨rfl, S, HM.out _ hb5, Grow.refl _ _, Fr.of_below hb5⟩
  by_cases ho2 : qv ≤ m.high.view
  · have K : Hid (R = (m, 4)) := by show R = (m, 4); rw [HRK.out]; exact if_pos (.inr ho2)
    refine wp_region_cls W5 (Below.refl _ _) (by kernel_rfl) (by kernel_rfl) ?_
    repeat (go_big_quiet_step (fail))
    refine wpQuiet_nil ?_
    rintro W6 ⟨⟨_, hW6⟩, rfl⟩
    go_wp2
    go_ret
    rw [K.out]
    have hb5 := bnext HB1.out (bnext HB5.out hW6)
    exact ⟨rfl, S, HM.out _ hb5, Grow.refl _ _, Fr.of_below hb5⟩
  have HK := HRK.out
  rw [if_neg (fun h => h.elim ho1 ho2)] at HK
  clear HRK
  have HRK : Hid (R = _) := HK
  clear HK
  refine wp_region_cls W5 (Below.refl _ _) (by kernel_rfl) (by kernel_rfl) ?_
  repeat (go_big_quiet_step (fail))
  refine wpQuiet_nil ?_
  rintro W6 ⟨⟨_, hW6⟩, rfl⟩
  have HB6 : Hid (Below W1.heap.size W1 W6) := bnext HB5.out hW6
  clear hW6 e2 d2 d5 hw2
  have b2 : W6.cell? ⟨w.heap.size, 2, none⟩ = some (.int .i64 qv) := cell_at (box_below HX1.out HB6.out) 2
  have b11 : W6.cell? ⟨w.heap.size, 11, none⟩ = some (.int .u64 xn) := cell_at (box_below HX1.out HB6.out) 11
  go_upto_region 12 with fail
  clear b2 b11
  obtain ⟨V, hV⟩ : ∃ W, W = W6.alloc (.cells #[.int .i64 qv, .int .u64 xn, .int .u64 0, .int .u64 0, .int .u64 0, .int .u64 0] 39) := ⟨_, rfl⟩
  have HBV : Hid (Below W1.heap.size W1 V) := by rw [hV]; exact bnext HB6.out (below_alloc _ _)
  have HCV : Hid (V.heap[W6.heap.size]? = some (.cells (votCrt m qv xn 0).cells.toArray 39 (0, 0))) := by rw [hV]; exact heap_alloc_new W6 _
  rw [← hV]
  clear hV
  have HXV : Hid (V.heap[w.heap.size]? = some (.cells #[.int .i64 xk, .int .i64 (f : Int), .int .i64 qv, .int .i64 bv, .int .i64 jv, .int .u64 jb, .int .u64 j0, .int .u64 j1, .int .u64 j2, .int .u64 j3, .string bcm, .int .u64 xn, .int .i64 cv, .int .u64 cb, .int .u64 c0, .int .u64 c1, .int .u64 c2, .int .u64 c3, .int .u64 xs] 43 (0, 0))) := box_below HX1.out HBV.out
  have HMV : Hid (RMem V p S B m out) := HM.out _ (bnext HB1.out HBV.out)
  have hle : w.heap.size < W6.heap.size := Nat.lt_of_lt_of_le (lt_at HX1.out) HB6.out.size
  have HSC : Hid (¬ S W6.heap.size) := fun h => by have := HLT.out _ h; omega
  have HSX : Hid (¬ S w.heap.size) := fun h => by have := HLT.out _ h; omega
  have HNE : Hid (w.heap.size ≠ W6.heap.size) := by show _ ≠ _; omega
  have HFV : Hid (Fr S w V) := Fr.of_below (bnext HB1.out HBV.out)
  have HWL : Hid (w.heap.size ≤ W6.heap.size) := Nat.le_of_lt hle
  clear HB6 HB5 HB3 HM
  generalize W6.heap.size = bc at *
  clear hle
  go_wp2
  refine rvt_loop HMV HXV HCV HSC HNE HVT hvl ?hre ?hex
  case hre =>
    intro r9 r10 r11 r91 r92 r93 r94 r95 r96 r97 r98 r99 r100 r101 r102 r103 r104 r105 r106 r107 r108 r109 r110 r111 r112 r113 r114 r115 r116 r117 r118 r119 r120 r121 r122 r123 r124 w' hany hfr
    have K : Hid (R = (m, 5)) := by show R = (m, 5); rw [HRK.out, if_pos hany]
    have HF : Hid (Fr (fun b => b = bc) V w') := hfr
    clear hany hfr
    go_ret
    rw [K.out]
    exact ⟨rfl, S, HMV.out.fr HF.out (fun b hb e => HSC.out (by rw [← e]; exact hb)), Grow.refl _ _, HFV.out.trans HF.out (fun k hk => .inr (by rw [hk]; exact HWL.out))⟩
  case hex =>
    intro e4 e10 e11 e91 e92 e93 e94 e95 e96 e97 e98 e99 e100 e101 e102 e103 e104 e105 e106 e107 e108 e109 e110 e111 e112 e113 e114 e115 e116 e117 e118 e119 e120 e121 e122 e123 e124 w' hany hfr hbx
    have HRQ : Hid (R = (({ m with votes := m.votes ++ [⟨(f : Int), qv, xn, xs⟩] } : Mem).counted (votN m xn m.votes.length) ((votCrt m qv xn m.votes.length).put (f : Int) xs) qv, 0)) := by show R = _; rw [HRK.out, if_neg (by rw [hany]; decide)]; exact counted_is
    have HF : Hid (Fr (fun b => b = bc) V w') := hfr
    have HBX : Hid (w'.heap[bc]? = some (.cells (votCrt m qv xn m.votes.length).cells.toArray 39 (0, 0))) := hbx
    have hnv : votN m xn m.votes.length ≤ 1700000000000 := Nat.le_trans (votN_le m xn _) hvl
    clear hany hfr hbx HRK
    have HMW : Hid (RMem w' p S B m out) := HMV.out.fr HF.out (fun b hb e => HSC.out (by rw [← e]; exact hb))
    have HXW : Hid (w'.heap[w.heap.size]? = some (.cells #[.int .i64 xk, .int .i64 (f : Int), .int .i64 qv, .int .i64 bv, .int .i64 jv, .int .u64 jb, .int .u64 j0, .int .u64 j1, .int .u64 j2, .int .u64 j3, .string bcm, .int .u64 xn, .int .i64 cv, .int .u64 cb, .int .u64 c0, .int .u64 c1, .int .u64 c2, .int .u64 c3, .int .u64 xs] 43 (0, 0))) := HF.out.box HXV.out HNE.out
    have HFW : Hid (Fr S w w') := HFV.out.trans HF.out (fun k hk => .inr (by rw [hk]; exact HWL.out))
    clear HF HMV HXV HCV HFV
    generalize votN m xn m.votes.length = nv at *
    generalize votCrt m qv xn m.votes.length = cc at *
    simp only [Exit.inBlock, Exit.then, ↓reduceIte]
    refine (?kk : ∀ (a : Act) (w : World), Code.wp Tryz.prog ?kc ?kq a w → _) _ _ ?goal
    case kk => assumption
    refine rvt_end HMW HI HXW HBX HSC HSX HNE hf4 hnv hvl hlog (by omega) (by omega) ?_
    intro d125 d126 d127 d128 d129 d130 d131 d132 d133 d134 d135 d136 d137 d138 d139 d140 d141 d142 d143 d144 d145 d146 d147 d148 d149 d150 d151 d152 d153 d154 d155 d156 d157 d158 d159 d160 d161 d162 d163 d164 d165 w9 hh
    have HH : Hid (∃ S', RMem w9 p S' B (({ m with votes := m.votes ++ [⟨(f : Int), qv, xn, xs⟩] } : Mem).counted nv (cc.put (f : Int) xs) qv) out ∧ Grow S w' S' ∧ Fr (fun b => S b ∨ b = bc) w' w9) := hh
    clear hh
    go_ret
    rw [HRQ.out]
    obtain ⟨S', z1, z2, z3⟩ := HH.out
    exact ⟨rfl, S', z1, fun k hk => (z2 k hk).imp id (fun h => Nat.le_trans HFW.out.size h), HFW.out.trans z3 (fun k hk => hk.imp id (fun e => by rw [e]; exact HWL.out))⟩
end Go.Proofs.YtkehpnobidendaaGreatDoor
