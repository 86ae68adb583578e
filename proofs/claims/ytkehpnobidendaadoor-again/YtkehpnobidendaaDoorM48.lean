/- parleykeep's Again: true, whatever the input. -/
import Derived.Test.YtkehpnobidendaaDoorM47
namespace Go.Proofs.YtkehpnobidendaaDoor
open Go.RowKit
attribute [local go_sem ↓] pload_msg ld_ltr put_ltr

/-- One letter more, and all that is asked of it. -/
theorem again_step {f i : Nat} {K : Clu} (h : againRun (f + 1) i K = true) : K.agree = true ∧ ∃ hl : i < K.letters.length, ∃ K2, K.flows i 1 = (K2, i + 1, true) ∧ K2.over = false ∧ againRun f (i + 1) K2 = true ∧ ∀ k : Nat, k < 4 → (K.letters[i].to = (k : Int) ∨ K.letters[i].to < 0) → ∃ m, K2.memAt k = some m ∧ m.may = false ∧ K2.was k = m.sta ∧ ((m.handle K.letters[i].msg).2.2 = 4 ∨ (m.handle K.letters[i].msg).2.2 = 5) ∧ m.sta.grows m.sta = true := by
  unfold againRun at h
  rw [Bool.and_eq_true] at h
  refine ⟨h.1, ?_⟩
  cases hl : K.letters[i]? with
  | none => rw [hl] at h; cases h.2
  | some l =>
    rw [hl] at h
    obtain ⟨hlt, hle⟩ := List.getElem?_eq_some_iff.1 hl
    have h2 := h.2
    rw [Bool.and_eq_true, Bool.and_eq_true, Bool.and_eq_true] at h2
    obtain ⟨⟨h3, h4⟩, h5, h6⟩ := h2
    refine ⟨hlt, (K.goes l 4 0).1, ?_, by simpa using h4, h6, fun k hk hto => ?_⟩
    · rw [Clu.flows, hl]
      show (if (K.goes l 4 0).2 then _ else _) = _
      rw [if_pos h3]
      rfl
    · rw [List.all_eq_true] at h5
      have h7 := h5 k (by simpa using hk)
      rw [hle] at hto ⊢
      unfold againAt at h7
      rw [if_pos hto] at h7
      cases hm : (K.goes l 4 0).1.memAt k with
      | none => rw [hm] at h7; cases h7
      | some m =>
        rw [hm] at h7
        simp only [Bool.and_eq_true, Bool.or_eq_true, beq_iff_eq, Bool.not_eq_true'] at h7
        exact ⟨m, rfl, h7.1.1, wasIs_out h7.1.2, h7.2.1, h7.2.2⟩
set_option maxRecDepth 100000 in
set_option maxHeartbeats 16000000 in
theorem kagain (le th : Int) (p0 : -9223372036854775808 ≤ le) (p1 : le ≤ 9223372036854775807) (t0 : -9223372036854775808 ≤ th) (t1 : th ≤ 9223372036854775807) (w : World) (ht : Tab w) :
    Calls Tryd.prog 6 #[.int .i64 le, .int .i64 th] w fun e w' => e = .returned (.bool true) ∧ Below w.heap.size w w' := by
  have HAW : Hid (Calls Tryd.prog 10 #[] w fun e w' => e = .returned (.bool true) ∧ Below w.heap.size w w') := kawake w ht
  have HT : Hid (Tab w) := ht
  have HBG : Hid (∀ W, Tab W → Calls Tryd.prog 19 #[.int .i64 (-1), .int .i64 50] W fun e w' => KBegun W (-1) 50 e w') := fun W hW => kbegins W hW (-1) 50 (by decide) (by decide)
  have HP1 : Hid (∀ W, Calls Tryd.prog 13 #[.int .i64 le, .int .i64 60] W fun e w' => e = .returned (.int .i64 (pickN le 60)) ∧ W = w') := fun W => (kpick le 60 p0 p1 (by decide) (by decide) W).mono (fun _ _ h => ⟨h.1, h.2.symm⟩)
  have HP2 : Hid (∀ W, Calls Tryd.prog 13 #[.int .i64 th, .int .i64 2] W fun e w' => e = .returned (.int .i64 (pickN th 2)) ∧ W = w') := fun W => (kpick th 2 t0 t1 (by decide) (by decide) W).mono (fun _ _ h => ⟨h.1, h.2.symm⟩)
  have hL := pickN_lt le 60 (by decide)
  have hb := pickN_lt th 2 (by decide)
  generalize pickN le 60 = L at hL HP1
  generalize pickN th 2 = b at hb HP2
  have HAR : Hid (againRun 60 0 (ticked 50).1 = true) := again_run
  have HTK : Hid ((Clu.begins (-1) 50).allTick 4 0 = ((ticked 50).1, true)) := by
    show ticked 50 = _
    rw [← ticked_ok]
  clear ht
  have hLI : (L : Int) ≤ 59 := by omega
  have hL0 : (0 : Int) ≤ (L : Int) := by omega
  have hbI : (b : Int) ≤ 1 := by omega
  have hb0 : (0 : Int) ≤ (b : Int) := by omega
  go_enter Tryd.func6, Tryd.ntmps6
  go_upto_region 2 with (go_at_call 10; refine HAW.out.mono ?_; rintro e w1 ⟨rfl, hb1⟩; have HB1 : Hid (Below w.heap.size w w1) := hb1; clear hb1)
  have HT1 : Hid (Tab w1) := HT.out.below HB1.out
  go_upto_region 3 with (go_at_call 19; refine (HBG.out w1 HT1.out).mono ?_; rintro e w2 ⟨p, A, ps, rfl, hs2, hn2, hb2⟩; have HS : Hid (KSit w2 p A ps (Clu.begins (-1) 50)) := hs2; have HN : Hid (∀ b, UA A b → w1.heap.size ≤ b) := hn2; have HB2 : Hid (Below w1.heap.size w1 w2) := hb2; clear hs2 hn2 hb2)
  have HK0 : Hid (KOk (Clu.begins (-1) 50) 1) := begins_kok (-1) 50 (by decide) (by decide)
  have HBE : Hid (Below w.heap.size w w2) := bnext HB1.out HB2.out
  have HNE : Hid (∀ b, UA A b → w.heap.size ≤ b) := fun b hb => Nat.le_trans HB1.out.size (HN.out b hb)
  clear HAW HBG HT HT1 HB1 HB2 HN
  generalize Clu.begins (-1) 50 = Ki at *
  generalize (ticked 50).1 = Kn at *
  go_wp2
  go_loopw [7, 8] (fun oo kk wq => ∃ (k : Nat) (A2 : Nat → Nat → Prop) (K : Clu), k ≤ 4 ∧ oo = .bool true ∧ kk = .int .i64 k ∧ Hid (KSit wq p A2 ps K ∧ Grow (UA A) w2 (UA A2) ∧ Fr (UA A) w2 wq) ∧ Hid (KOk K (1 + 2 * k)) ∧ Hid (K.allTick (4 - k) k = (Kn, true))) (fun _ kk _ => 4 - (intOf kk).toNat)
  case atStart => exact ⟨0, A, Ki, by omega, rfl, rfl, ⟨HS.out, Grow.refl _ _, Fr.refl _ _⟩, HK0.out, HTK.out⟩
  case round =>
    clear HS HK0 HTK
    obtain ⟨k, A2, K, hk, rfl, rfl, hS, hO, hE⟩ := hrel
    have hk0 : (0 : Int) ≤ (k : Int) := by omega
    by_cases hk4 : k < 4
    · have hkI : (k : Int) < 4 := by omega
      have hst : (K.ticks k).2 = true ∧ (K.ticks k).1.allTick (4 - (k + 1)) (k + 1) = (Kn, true) := by
        have h1 := hE.out
        rw [show 4 - k = (4 - (k + 1)) + 1 by omega, allTick_step] at h1
        cases hb : (K.ticks k).2 with
        | true => rw [hb] at h1; exact ⟨rfl, h1⟩
        | false => rw [hb] at h1; rw [show (if false = true then _ else K.ticks k) = K.ticks k from rfl] at h1; rw [h1] at hb; cases hb
      have HH : Hid (Calls Tryd.prog 22 #[.pointer (some ⟨p, 0, none⟩), .agg #[.int .i64 1, .int .i64 k, .int .i64 0]] wr fun e w' => e = .returned (.bool true) ∧ KGoes wr w' p A2 ps (K.ticks k).1) := by
        have h1 := khappens1 wr p A2 ps K hS.out.1 _ hO.out (by omega) k 0 (by omega) (by omega)
        rw [pick_small hk4, hst.1] at h1
        exact h1
      have HO2 : Hid (KOk (K.ticks k).1 (1 + 2 * (k + 1))) := ticks_kok hO.out hk4
      have HE2 : Hid ((K.ticks k).1.allTick (4 - (k + 1)) (k + 1) = (Kn, true)) := hst.2
      clear hE hst
      generalize (K.ticks k).1 = K2 at *
      go_wp2_with (go_at_call 22; refine HH.out.mono ?_; rintro e w3 ⟨rfl, hg3⟩; have HG3 : Hid (KGoes wr w3 p A2 ps K2) := hg3; clear hg3)
      go_roundw
      case rel =>
        obtain ⟨A3, z1, z2⟩ := HG3.out.ex
        exact ⟨k + 1, A3, K2, by omega, rfl, by go_num, ⟨z1, hS.out.2.1.trans hS.out.2.2.size z2, hS.out.2.2.grow hS.out.2.1 HG3.out.fr⟩, HO2.out, HE2.out⟩
      case measure => simp [intOf]; omega
    · have hkI : ¬ (k : Int) < 4 := by omega
      have hke : k = 4 := by omega
      subst hke
      have hKe : K = Kn := congrArg Prod.fst hE.out
      subst hKe
      go_wp2
      go_loopw [7, 9, 10] (fun oo aa nn wq => ∃ (i : Nat) (A1 : Nat → Nat → Prop) (K1 : Clu), i ≤ L ∧ oo = .bool true ∧ aa = .int .i64 i ∧ nn = .int .i64 i ∧ Hid (KSit wq p A1 ps K1 ∧ Grow (UA A) w2 (UA A1) ∧ Fr (UA A) w2 wq) ∧ Hid (KOk K1 (9 + 8 * i)) ∧ Hid (againRun (60 - i) i K1 = true)) (fun _ _ nn _ => L - (intOf nn).toNat)
      case atStart => exact ⟨0, A2, K, by omega, rfl, rfl, rfl, hS.out, hO.out, HAR.out⟩
      case round =>
        clear hS hO hE HAR
        obtain ⟨i, A1, K1, hiL, rfl, rfl, rfl, hS1, hO1, hE1⟩ := hrel
        have hi0 : (0 : Int) ≤ (i : Int) := by omega
        have hst := hE1.out
        rw [show 60 - i = (60 - (i + 1)) + 1 by omega] at hst
        obtain ⟨hag, hal, KK, s1, s2, s3, s4⟩ := again_step hst
        clear hst hE1
        obtain ⟨al, cl, q2, hrow⟩ := hS1.out.1.lcells
        have hll : K1.letters.length ≤ 1600000000 := by have := hO1.out.len.lt; omega
        have hlI : (K1.letters.length : Int) ≤ 1600000000 := by omega
        have haI : (i : Int) < (K1.letters.length : Int) := by omega
        by_cases hil : i < L
        rotate_left
        · have hiI : ¬ (i : Int) < (L : Int) := by omega
          have HBB : Hid (Below w.heap.size w wr) := kbelow HBE.out hS1.out.2.2 HNE.out
          have HAG : Hid (Calls Tryd.prog 24 #[.pointer (some ⟨p, 0, none⟩)] wr fun e w' => e = .returned (.bool true) ∧ Below wr.heap.size wr w') := by
            have h1 := kagree wr p A1 ps K1 hS1.out.1 (fun k => by have := hO1.out.wl k; omega)
            rw [hag] at h1
            exact h1
          go_wp2_with (first | (go_at_call 13; refine (HP1.out _).mono ?_; rintro e w9 ⟨rfl, rfl⟩) | (go_at_call 24; refine HAG.out.mono ?_; rintro e w4 ⟨rfl, hb4⟩; have HB4 : Hid (Below wr.heap.size wr w4) := hb4; clear hb4))
          go_ret
          exact ⟨rfl, bnext HBB.out HB4.out⟩
        · have hiI : (i : Int) < (L : Int) := by omega
          obtain ⟨g, off, rfl, hSg, hg, hcap⟩ := hrow.place (by omega)
          have HLO : Hid (Ltr.Ok K1.letters[i]) := hO1.out.lt _ (List.getElem_mem hal)
          have HS2 : Hid (KK.over = false) := s2
          have HS3 : Hid (againRun (60 - (i + 1)) (i + 1) KK = true) := s3
          have hel := hrow.elemAt (show ∀ l : Ltr, l.cells.length = 20 from fun _ => rfl) i hal
          have HS4 : Hid (∀ k : Nat, k < 4 → (K1.letters[i].to = (k : Int) ∨ K1.letters[i].to < 0) → ∃ m, KK.memAt k = some m ∧ m.may = false ∧ KK.was k = m.sta ∧ ((m.handle K1.letters[i].msg).2.2 = 4 ∨ (m.handle K1.letters[i].msg).2.2 = 5) ∧ m.sta.grows m.sta = true) := s4
          clear s2 s3 s4 hag
          generalize K1.letters[i] = l at HLO hel HS4
          obtain ⟨l0, ⟨xk, xf, xv, ⟨bv, ⟨jv, jb, j0, j1, j2, j3⟩, bc⟩, nu, ⟨cv, cb, k0, k1, k2, k3⟩, sl⟩⟩ := l
          have hlw : (rowVar 42 ⟨g, off + i * 20, none⟩).run Tryd.prog wr = .ok (.agg #[.int .i64 l0, .int .i64 xk, .int .i64 xf, .int .i64 xv, .int .i64 bv, .int .i64 jv, .int .u64 jb, .int .u64 j0, .int .u64 j1, .int .u64 j2, .int .u64 j3, .string bc, .int .u64 nu, .int .i64 cv, .int .u64 cb, .int .u64 k0, .int .u64 k1, .int .u64 k2, .int .u64 k3, .int .u64 sl]) wr := rowVar_mid wr g (off + i * 20) _ (Ltr.cells ⟨l0, ⟨xk, xf, xv, ⟨bv, ⟨jv, jb, j0, j1, j2, j3⟩, bc⟩, nu, ⟨cv, cb, k0, k1, k2, k3⟩, sl⟩⟩) _ hel Tryd.underlying42 rfl ltr_size20
          have hpu : (rowPut 42 ⟨wr.heap.size, 0, none⟩ (.agg #[.int .i64 l0, .int .i64 xk, .int .i64 xf, .int .i64 xv, .int .i64 bv, .int .i64 jv, .int .u64 jb, .int .u64 j0, .int .u64 j1, .int .u64 j2, .int .u64 j3, .string bc, .int .u64 nu, .int .i64 cv, .int .u64 cb, .int .u64 k0, .int .u64 k1, .int .u64 k2, .int .u64 k3, .int .u64 sl])).run Tryd.prog (wr.alloc (.cells #[.int .i64 0, .int .i64 0, .int .i64 0, .int .i64 0, .int .i64 0, .int .i64 0, .int .u64 0, .int .u64 0, .int .u64 0, .int .u64 0, .int .u64 0, .string ⟨#[]⟩, .int .u64 0, .int .i64 0, .int .u64 0, .int .u64 0, .int .u64 0, .int .u64 0, .int .u64 0, .int .u64 0] 42)) = .ok () ((wr.alloc (.cells #[.int .i64 0, .int .i64 0, .int .i64 0, .int .i64 0, .int .i64 0, .int .i64 0, .int .u64 0, .int .u64 0, .int .u64 0, .int .u64 0, .int .u64 0, .string ⟨#[]⟩, .int .u64 0, .int .i64 0, .int .u64 0, .int .u64 0, .int .u64 0, .int .u64 0, .int .u64 0, .int .u64 0] 42)).setCells wr.heap.size 0 [.int .i64 l0, .int .i64 xk, .int .i64 xf, .int .i64 xv, .int .i64 bv, .int .i64 jv, .int .u64 jb, .int .u64 j0, .int .u64 j1, .int .u64 j2, .int .u64 j3, .string bc, .int .u64 nu, .int .i64 cv, .int .u64 cb, .int .u64 k0, .int .u64 k1, .int .u64 k2, .int .u64 k3, .int .u64 sl]) := rowPut_mid _ wr.heap.size 0 42 #[.int .i64 l0, .int .i64 xk, .int .i64 xf, .int .i64 xv, .int .i64 bv, .int .i64 jv, .int .u64 jb, .int .u64 j0, .int .u64 j1, .int .u64 j2, .int .u64 j3, .string bc, .int .u64 nu, .int .i64 cv, .int .u64 cb, .int .u64 k0, .int .u64 k1, .int .u64 k2, .int .u64 k3, .int .u64 sl] (LHeld.start0 wr _ rfl _) ltr_size20 (by simp [Value.oneCell'])
          have HB2 : Hid (Below wr.heap.size wr ((wr.alloc (.cells #[.int .i64 0, .int .i64 0, .int .i64 0, .int .i64 0, .int .i64 0, .int .i64 0, .int .u64 0, .int .u64 0, .int .u64 0, .int .u64 0, .int .u64 0, .string ⟨#[]⟩, .int .u64 0, .int .i64 0, .int .u64 0, .int .u64 0, .int .u64 0, .int .u64 0, .int .u64 0, .int .u64 0] 42)).setCells wr.heap.size 0 [.int .i64 l0, .int .i64 xk, .int .i64 xf, .int .i64 xv, .int .i64 bv, .int .i64 jv, .int .u64 jb, .int .u64 j0, .int .u64 j1, .int .u64 j2, .int .u64 j3, .string bc, .int .u64 nu, .int .i64 cv, .int .u64 cb, .int .u64 k0, .int .u64 k1, .int .u64 k2, .int .u64 k3, .int .u64 sl])) := below_setCells (Nat.le_refl _) _ _ _ (below_alloc _ _)
          have HRG : Hid (((wr.alloc (.cells #[.int .i64 0, .int .i64 0, .int .i64 0, .int .i64 0, .int .i64 0, .int .i64 0, .int .u64 0, .int .u64 0, .int .u64 0, .int .u64 0, .int .u64 0, .string ⟨#[]⟩, .int .u64 0, .int .i64 0, .int .u64 0, .int .u64 0, .int .u64 0, .int .u64 0, .int .u64 0, .int .u64 0] 42)).setCells wr.heap.size 0 [.int .i64 l0, .int .i64 xk, .int .i64 xf, .int .i64 xv, .int .i64 bv, .int .i64 jv, .int .u64 jb, .int .u64 j0, .int .u64 j1, .int .u64 j2, .int .u64 j3, .string bc, .int .u64 nu, .int .i64 cv, .int .u64 cb, .int .u64 k0, .int .u64 k1, .int .u64 k2, .int .u64 k3, .int .u64 sl]).rangeAt wr.heap.size 0 [.int .i64 l0, .int .i64 xk, .int .i64 xf, .int .i64 xv, .int .i64 bv, .int .i64 jv, .int .u64 jb, .int .u64 j0, .int .u64 j1, .int .u64 j2, .int .u64 j3, .string bc, .int .u64 nu, .int .i64 cv, .int .u64 cb, .int .u64 k0, .int .u64 k1, .int .u64 k2, .int .u64 k3, .int .u64 sl]) := World.rangeAt_setCells_same (wr.alloc (.cells #[.int .i64 0, .int .i64 0, .int .i64 0, .int .i64 0, .int .i64 0, .int .i64 0, .int .u64 0, .int .u64 0, .int .u64 0, .int .u64 0, .int .u64 0, .string ⟨#[]⟩, .int .u64 0, .int .i64 0, .int .u64 0, .int .u64 0, .int .u64 0, .int .u64 0, .int .u64 0, .int .u64 0] 42)) wr.heap.size 0 [.int .i64 l0, .int .i64 xk, .int .i64 xf, .int .i64 xv, .int .i64 bv, .int .i64 jv, .int .u64 jb, .int .u64 j0, .int .u64 j1, .int .u64 j2, .int .u64 j3, .string bc, .int .u64 nu, .int .i64 cv, .int .u64 cb, .int .u64 k0, .int .u64 k1, .int .u64 k2, .int .u64 k3, .int .u64 sl] (LHeld.start0 wr _ rfl _)
          have HSZ : Hid (wr.heap.size < ((wr.alloc (.cells #[.int .i64 0, .int .i64 0, .int .i64 0, .int .i64 0, .int .i64 0, .int .i64 0, .int .u64 0, .int .u64 0, .int .u64 0, .int .u64 0, .int .u64 0, .string ⟨#[]⟩, .int .u64 0, .int .i64 0, .int .u64 0, .int .u64 0, .int .u64 0, .int .u64 0, .int .u64 0, .int .u64 0] 42)).setCells wr.heap.size 0 [.int .i64 l0, .int .i64 xk, .int .i64 xf, .int .i64 xv, .int .i64 bv, .int .i64 jv, .int .u64 jb, .int .u64 j0, .int .u64 j1, .int .u64 j2, .int .u64 j3, .string bc, .int .u64 nu, .int .i64 cv, .int .u64 cb, .int .u64 k0, .int .u64 k1, .int .u64 k2, .int .u64 k3, .int .u64 sl]).heap.size) := by
            have h1 : (wr.alloc (.cells #[.int .i64 0, .int .i64 0, .int .i64 0, .int .i64 0, .int .i64 0, .int .i64 0, .int .u64 0, .int .u64 0, .int .u64 0, .int .u64 0, .int .u64 0, .string ⟨#[]⟩, .int .u64 0, .int .i64 0, .int .u64 0, .int .u64 0, .int .u64 0, .int .u64 0, .int .u64 0, .int .u64 0] 42)).heap.size ≤ ((wr.alloc (.cells #[.int .i64 0, .int .i64 0, .int .i64 0, .int .i64 0, .int .i64 0, .int .i64 0, .int .u64 0, .int .u64 0, .int .u64 0, .int .u64 0, .int .u64 0, .string ⟨#[]⟩, .int .u64 0, .int .i64 0, .int .u64 0, .int .u64 0, .int .u64 0, .int .u64 0, .int .u64 0, .int .u64 0] 42)).setCells wr.heap.size 0 [.int .i64 l0, .int .i64 xk, .int .i64 xf, .int .i64 xv, .int .i64 bv, .int .i64 jv, .int .u64 jb, .int .u64 j0, .int .u64 j1, .int .u64 j2, .int .u64 j3, .string bc, .int .u64 nu, .int .i64 cv, .int .u64 cb, .int .u64 k0, .int .u64 k1, .int .u64 k2, .int .u64 k3, .int .u64 sl]).heap.size := (Fr.setCells (S := fun _ => True) trivial _ _ _).size
            simp only [World.size_alloc] at h1
            show _ < _
            omega
          obtain ⟨X, hX⟩ : ∃ X, X = (wr.alloc (.cells #[.int .i64 0, .int .i64 0, .int .i64 0, .int .i64 0, .int .i64 0, .int .i64 0, .int .u64 0, .int .u64 0, .int .u64 0, .int .u64 0, .int .u64 0, .string ⟨#[]⟩, .int .u64 0, .int .i64 0, .int .u64 0, .int .u64 0, .int .u64 0, .int .u64 0, .int .u64 0, .int .u64 0] 42)).setCells wr.heap.size 0 [.int .i64 l0, .int .i64 xk, .int .i64 xf, .int .i64 xv, .int .i64 bv, .int .i64 jv, .int .u64 jb, .int .u64 j0, .int .u64 j1, .int .u64 j2, .int .u64 j3, .string bc, .int .u64 nu, .int .i64 cv, .int .u64 cb, .int .u64 k0, .int .u64 k1, .int .u64 k2, .int .u64 k3, .int .u64 sl] := ⟨_, rfl⟩
          rw [← hX] at hpu HB2 HRG HSZ
          go_upto_region 14 with (go_at_call 13; refine (HP1.out _).mono ?_; rintro e w9 ⟨rfl, rfl⟩)
          rw [← hX]
          clear hX hpu hlw hel hcap hSg hg hrow q2
          have HKX : Hid (KSit X p A1 ps K1) := hS1.out.1.below HB2.out
          have HNB : Hid (¬ UA A1 wr.heap.size) := by
            rintro ⟨j, hj, hb⟩
            have := hS1.out.1.lt j _ hj hb
            omega
          have HGX : Hid (Grow (UA A) w2 (UA A1) ∧ Fr (UA A) w2 X) := ⟨hS1.out.2.1, hS1.out.2.2.trans (Fr.of_below (S := UA A) HB2.out) (fun _ h => .inl h)⟩
          generalize wr.heap.size = B at HRG HSZ HNB ⊢
          clear HB2
          have HLM : Hid (∀ W, Fr (UA A1) X W → W.cell? ⟨B, 0, none⟩ = some (.int .i64 l0) ∧ (rowVar 40 ⟨B, 1, none⟩).run Tryd.prog W = .ok (.agg #[.int .i64 xk, .int .i64 xf, .int .i64 xv, .int .i64 bv, .int .i64 jv, .int .u64 jb, .int .u64 j0, .int .u64 j1, .int .u64 j2, .int .u64 j3, .string bc, .int .u64 nu, .int .i64 cv, .int .u64 cb, .int .u64 k0, .int .u64 k1, .int .u64 k2, .int .u64 k3, .int .u64 sl]) W) := fun W hW => by
            have hc : ∀ j v, ([.int .i64 l0, .int .i64 xk, .int .i64 xf, .int .i64 xv, .int .i64 bv, .int .i64 jv, .int .u64 jb, .int .u64 j0, .int .u64 j1, .int .u64 j2, .int .u64 j3, .string bc, .int .u64 nu, .int .i64 cv, .int .u64 cb, .int .u64 k0, .int .u64 k1, .int .u64 k2, .int .u64 k3, .int .u64 sl] : List Value)[j]? = some v → W.cell? ⟨B, 0 + j, none⟩ = some v := fun j v hv => by
              rw [World.cell?_of_block (hW.block B HSZ.out HNB.out)]; exact HRG.out j v hv
            refine ⟨hc 0 _ rfl, ?_⟩
            refine rowVar_mid W B 1 40 [.int .i64 xk, .int .i64 xf, .int .i64 xv, .int .i64 bv, .int .i64 jv, .int .u64 jb, .int .u64 j0, .int .u64 j1, .int .u64 j2, .int .u64 j3, .string bc, .int .u64 nu, .int .i64 cv, .int .u64 cb, .int .u64 k0, .int .u64 k1, .int .u64 k2, .int .u64 k3, .int .u64 sl] _ (fun j v hv => ?_) Tryd.underlying40 rfl (by kernel_rfl)
            have := hc (1 + j) v (by rw [Nat.add_comm]; exact hv)
            rwa [Nat.zero_add] at this
          have HF : Hid (Calls Tryd.prog 23 #[.pointer (some ⟨p, 0, none⟩), .int .i64 i, .int .i64 1] X fun e w' => e = .returned (.tuple #[.int .i64 ((i : Int) + 1), .bool true]) ∧ KGoes X w' p A1 ps KK ∧ KOk KK (9 + 8 * (i + 1))) := by
            have h1 := kflows X p A1 ps K1 HKX.out _ hO1.out i 1 (by omega) (by omega)
            rw [s1] at h1
            exact h1.mono (fun e w' h => ⟨h.1, h.2.1, h.2.2.mono (by omega)⟩)
          clear s1 hO1
          go_upto_region 15 with (go_at_call 23; refine HF.out.mono ?_; rintro e w3 ⟨rfl, hg3, hok3⟩; have HG3 : Hid (KGoes X w3 p A1 ps KK) := hg3; have HO3 : Hid (KOk KK (9 + 8 * (i + 1))) := hok3; clear hg3 hok3)
          obtain ⟨A3, hs3, hgr3⟩ := HG3.out.ex
          have hov := hs3.over
          rw [HS2.out] at hov
          obtain ⟨al3, cl3, q3, _⟩ := hs3.lcells
          have HS5 : Hid (KSit w3 p A3 ps KK ∧ Grow (UA A1) X (UA A3) ∧ Fr (UA A1) X w3) := ⟨hs3, hgr3, HG3.out.fr⟩
          obtain ⟨N, hN⟩ : ∃ N, N = KK.letters.length := ⟨_, rfl⟩
          rw [← hN] at q3
          have HN3 : Hid (N = KK.letters.length) := hN
          clear hs3 hgr3 HG3 HF hN
          go_wp2
          clear hov q3
          go_loopw [13] (fun kk wq => ∃ (k : Nat) (A4 : Nat → Nat → Prop), k ≤ 4 ∧ kk = .int .i64 k ∧ Hid (KSit wq p A4 ps KK ∧ Grow (UA A1) X (UA A4) ∧ Fr (UA A1) X wq)) (fun kk _ => 4 - (intOf kk).toNat)
          case atStart => exact ⟨0, A3, by omega, rfl, HS5.out⟩
          case round =>
            clear HS5
            obtain ⟨k, A4, hk, rfl, hS4⟩ := hrel
            have hk0 : (0 : Int) ≤ (k : Int) := by omega
            by_cases hk4 : k < 4
            rotate_left
            · have hkI : ¬ (k : Int) < 4 := by omega
              obtain ⟨al4, cl4, q4, _⟩ := hS4.out.1.lcells
              rw [← HN3.out] at q4
              go_wp2
              go_roundw
              case rel => exact ⟨i + 1, A4, KK, by omega, rfl, by go_num, by go_num, ⟨hS4.out.1, HGX.out.1.trans HGX.out.2.size hS4.out.2.1, HGX.out.2.grow HGX.out.1 hS4.out.2.2⟩, HO3.out, HS3.out⟩
              case measure => simp [intOf]; omega
            · have hkI : (k : Int) < 4 := by omega
              have hB0 := (HLM.out wr hS4.out.2.2).1
              by_cases hto : l0 = (k : Int) ∨ l0 < 0
              rotate_left
              · have hn1 : (l0 != (k : Int)) = true := by simp; omega
                have hn2 : 0 ≤ l0 := by omega
                go_wp2
                go_roundw
                case rel => exact ⟨k + 1, A4, by omega, by go_num, hS4.out⟩
                case measure => simp [intOf]; omega
              obtain ⟨m, m1, m2, m3, m4, m5⟩ := HS4.out k hk4 hto
              have hdis : (l0 != (k : Int)) = false ∨ ((l0 != (k : Int)) = true ∧ ¬ 0 ≤ l0) := by
                by_cases he : l0 = (k : Int)
                · exact .inl (by simp [he])
                · exact .inr ⟨by simp [he], by omega⟩
              obtain ⟨v1, v2, v3⟩ := hS4.out.1.vcells k hk4
              obtain ⟨av, cap, v4, _⟩ := hS4.out.1.wcells k hk4
              obtain ⟨pm, hpm, _⟩ := hS4.out.1.some1 hk4 m1
              have HPM : Hid (ps.getD k none = some pm) := hpm
              have HM : Hid (KK.memAt k = some m ∧ m.may = false ∧ KK.was k = m.sta ∧ m.sta.grows m.sta = true) := ⟨m1, m2, m3, m5⟩
              have HER : Hid ((m.handle ⟨xk, xf, xv, ⟨bv, ⟨jv, jb, j0, j1, j2, j3⟩, bc⟩, nu, ⟨cv, cb, k0, k1, k2, k3⟩, sl⟩).2.2 = 4 ∨ (m.handle ⟨xk, xf, xv, ⟨bv, ⟨jv, jb, j0, j1, j2, j3⟩, bc⟩, nu, ⟨cv, cb, k0, k1, k2, k3⟩, sl⟩).2.2 = 5) := m4
              clear hpm m1 m2 m3 m4 m5
              rcases hdis with h1 | ⟨h1, h2⟩
              all_goals (
                go_upto_region 23 with fail
                obtain ⟨Y, hY⟩ : ∃ Y, Y = wr.alloc (.cells #[.int .i64 (KK.was k).view, .int .i64 (KK.was k).high, .int .i64 (KK.was k).locked, .slice av (KK.was k).log.length cap] 58) := ⟨_, rfl⟩
                rw [← hY]
                have HBY : Hid (Below wr.heap.size wr Y) := by rw [hY]; exact below_alloc _ _
                have HCY : Hid (Y.heap[wr.heap.size]? = some (.cells #[.int .i64 (KK.was k).view, .int .i64 (KK.was k).high, .int .i64 (KK.was k).locked, .slice av (KK.was k).log.length cap] 58 (0, 0))) := by rw [hY]; exact heap_alloc_new wr _
                have HSY : Hid (KSit Y p A4 ps KK ∧ Grow (UA A1) X (UA A4) ∧ Fr (UA A1) X Y) := ⟨hS4.out.1.below HBY.out, hS4.out.2.1, hS4.out.2.2.trans (Fr.of_below HBY.out) (fun _ h => .inl h)⟩
                have HNY : Hid (¬ UA A4 wr.heap.size) := by
                  rintro ⟨j, hj, hb⟩
                  have := hS4.out.1.lt j _ hj hb
                  omega
                have HZ : Hid (wr.heap.size < Y.heap.size) := lt_at HCY.out
                clear hY v1 v2 v3 v4 hS4 hB0 HBY
                generalize wr.heap.size = B2 at HCY HNY HZ ⊢
                go_wp2
                go_loopw [15] (fun jj wq => ∃ (j : Nat) (A5 : Nat → Nat → Prop), j ≤ 1 + b ∧ jj = .int .i64 j ∧ Hid (KSit wq p A5 ps KK ∧ Grow (UA A4) Y (UA A5) ∧ Fr (UA A4) Y wq)) (fun jj _ => 1 + b - (intOf jj).toNat)
                case atStart => exact ⟨0, A4, by omega, rfl, ⟨HSY.out.1, Grow.refl _ _, Fr.refl _ _⟩⟩
                case round =>
                  obtain ⟨j, A5, hj, rfl, hS6⟩ := hrel
                  have hj0 : (0 : Int) ≤ (j : Int) := by omega
                  by_cases hjb : j < 1 + b
                  rotate_left
                  · have hjI : ¬ (j : Int) < 1 + (b : Int) := by omega
                    have HST : Hid (Calls Tryd.prog 26 #[.pointer (some ⟨p, 0, none⟩), .int .i64 k] wr fun e w' => e = .returned (.bool true) ∧ KGoes wr w' p A5 ps KK) := ksteady_same hS6.out.1 HO3.out (by omega) hk4 HM.out.1 HM.out.2.2.1 HM.out.2.2.2
                    go_upto_region 30 with (first | (go_at_call 13; refine (HP2.out _).mono ?_; rintro e w9 ⟨rfl, rfl⟩) | (go_at_call 26; refine HST.out.mono ?_; rintro e w7 ⟨rfl, hg7⟩; have HG7 : Hid (KGoes wr w7 p A5 ps KK) := hg7; clear hg7))
                    obtain ⟨A7, hs7, hgr7⟩ := HG7.out.ex
                    have HS7 : Hid (KSit w7 p A7 ps KK ∧ Grow (UA A4) Y (UA A7) ∧ Fr (UA A4) Y w7) := ⟨hs7, hS6.out.2.1.trans hS6.out.2.2.size hgr7, hS6.out.2.2.grow hS6.out.2.1 HG7.out.fr⟩
                    obtain ⟨v1, v2, v3⟩ := hs7.vcells k hk4
                    obtain ⟨av2, cap2, v4, _⟩ := hs7.wcells k hk4
                    have hbx := (HS7.out.2.2.block B2 HZ.out HNY.out).trans HCY.out
                    have y0 : w7.cell? ⟨B2, 0, none⟩ = some (.int .i64 (KK.was k).view) := cell_at hbx 0
                    have y1 : w7.cell? ⟨B2, 1, none⟩ = some (.int .i64 (KK.was k).high) := cell_at hbx 1
                    have y2 : w7.cell? ⟨B2, 2, none⟩ = some (.int .i64 (KK.was k).locked) := cell_at hbx 2
                    have y3 : w7.cell? ⟨B2, 3, none⟩ = some (.slice av (KK.was k).log.length cap) := cell_at hbx 3
                    have hB2 : B2 < w7.heap.size := Nat.lt_of_lt_of_le HZ.out HS7.out.2.2.size
                    have hBl : ∀ o : Obj, (w7.alloc o).cell? ⟨B2, 0, none⟩ = some (.int .i64 (KK.was k).view) ∧ (w7.alloc o).cell? ⟨B2, 1, none⟩ = some (.int .i64 (KK.was k).high) ∧ (w7.alloc o).cell? ⟨B2, 2, none⟩ = some (.int .i64 (KK.was k).locked) ∧ (w7.alloc o).cell? ⟨B2, 3, none⟩ = some (.slice av (KK.was k).log.length cap) := fun o =>
                      ⟨(Below.cell (p := ⟨B2, 0, none⟩) (below_alloc w7 o) hB2).trans y0, (Below.cell (p := ⟨B2, 1, none⟩) (below_alloc w7 o) hB2).trans y1, (Below.cell (p := ⟨B2, 2, none⟩) (below_alloc w7 o) hB2).trans y2, (Below.cell (p := ⟨B2, 3, none⟩) (below_alloc w7 o) hB2).trans y3⟩
                    have HBL : Hid (∀ o : Obj, (w7.alloc o).cell? ⟨B2, 0, none⟩ = some (.int .i64 (KK.was k).view) ∧ (w7.alloc o).cell? ⟨B2, 1, none⟩ = some (.int .i64 (KK.was k).high) ∧ (w7.alloc o).cell? ⟨B2, 2, none⟩ = some (.int .i64 (KK.was k).locked) ∧ (w7.alloc o).cell? ⟨B2, 3, none⟩ = some (.slice av (KK.was k).log.length cap)) := hBl
                    clear hs7 hgr7 HG7 HST hbx y0 y1 y2 y3 hBl
                    go_upto_region 31 with fail
                    obtain ⟨z0, z1, z2, z3⟩ := HBL.out (.cells #[.int .i64 (KK.was k).view, .int .i64 (KK.was k).high, .int .i64 (KK.was k).locked, .slice av2 (KK.was k).log.length cap2] 58)
                    clear v1 v2 v3 v4 HBL
                    go_wp2
                    go_roundw
                    case rel => exact ⟨k + 1, A7, by omega, by go_num, HS7.out.1.below (below_alloc _ _), HSY.out.2.1.trans HSY.out.2.2.size HS7.out.2.1, (HSY.out.2.2.grow HSY.out.2.1 HS7.out.2.2).trans (Fr.of_below (below_alloc _ _)) (fun _ h => .inl h)⟩
                    case measure => simp [intOf]; omega
                  · have hjI : (j : Int) < 1 + (b : Int) := by omega
                    obtain ⟨gm, om, cm, hgA, hc0, hci⟩ := hS6.out.1.cells
                    have hck := hci k hk4
                    rw [HPM.out] at hck
                    dsimp only [mptr, Option.map] at hck
                    have HFX : Hid (∀ w5, Fr (A5 (k + 1)) wr w5 → w5.cell? ⟨p, 0, none⟩ = some (.slice (some ⟨gm, om, none⟩) 4 cm) ∧ w5.cell? ⟨gm, om + k, none⟩ = some (.pointer (some ⟨pm, 0, none⟩)) ∧ (rowVar 40 ⟨B, 1, none⟩).run Tryd.prog w5 = .ok (.agg #[.int .i64 xk, .int .i64 xf, .int .i64 xv, .int .i64 bv, .int .i64 jv, .int .u64 jb, .int .u64 j0, .int .u64 j1, .int .u64 j2, .int .u64 j3, .string bc, .int .u64 nu, .int .i64 cv, .int .u64 cb, .int .u64 k0, .int .u64 k1, .int .u64 k2, .int .u64 k3, .int .u64 sl]) w5) := fun w5 hf => by
                      have n0 : ∀ b, A5 0 b → ¬ A5 (k + 1) b := fun b h1 h2 => absurd (hS6.out.1.dis 0 (k + 1) b (by omega) (by omega) h1 h2) (by omega)
                      have hg : gm < wr.heap.size := hS6.out.1.lt 0 gm (by omega) hgA
                      have hpl : p < wr.heap.size := hS6.out.1.k.lt
                      refine ⟨(World.cell?_of_block (hf.block p hpl (n0 p hS6.out.1.k.sp))).trans hc0, (World.cell?_of_block (hf.block gm hg (n0 gm hgA))).trans hck, ?_⟩
                      exact (HLM.out w5 ((HSY.out.2.2.grow HSY.out.2.1 hS6.out.2.2).grow (HSY.out.2.1.trans HSY.out.2.2.size hS6.out.2.1) (fr_u (i := k + 1) (by omega) hf))).2
                    have HH : Hid (Calls Tryd.prog 25 #[.pointer (some ⟨pm, 0, none⟩), .agg #[.int .i64 xk, .int .i64 xf, .int .i64 xv, .int .i64 bv, .int .i64 jv, .int .u64 jb, .int .u64 j0, .int .u64 j1, .int .u64 j2, .int .u64 j3, .string bc, .int .u64 nu, .int .i64 cv, .int .u64 cb, .int .u64 k0, .int .u64 k1, .int .u64 k2, .int .u64 k3, .int .u64 sl]] wr.drew fun e w' => ∃ a cap, e = .returned (.tuple #[.slice a 0 cap, .int .i64 (m.handle ⟨xk, xf, xv, ⟨bv, ⟨jv, jb, j0, j1, j2, j3⟩, bc⟩, nu, ⟨cv, cb, k0, k1, k2, k3⟩, sl⟩).2.2]) ∧ KGoes wr w' p A5 ps KK ∧ Fr (A5 (k + 1)) wr w') := by
                      have hbd : Below wr.heap.size wr wr.drew := (Below.refl _ _).drew
                      refine (krefused (x := ⟨xk, xf, xv, ⟨bv, ⟨jv, jb, j0, j1, j2, j3⟩, bc⟩, nu, ⟨cv, cb, k0, k1, k2, k3⟩, sl⟩) (hS6.out.1.below hbd) HO3.out (by omega) hk4 HPM.out HM.out.1 HLO.out.1 HM.out.2.1 (by rcases HER.out with h | h <;> rw [h] <;> decide)).mono ?_
                      rintro e w' ⟨a, cap, he, hg, hf⟩
                      exact ⟨a, cap, he, kgoes_below hbd hg, (Fr.drew _ _).trans hf (fun _ h => .inl h)⟩
                    have HEE := HER.out
                    generalize (m.handle ⟨xk, xf, xv, ⟨bv, ⟨jv, jb, j0, j1, j2, j3⟩, bc⟩, nu, ⟨cv, cb, k0, k1, k2, k3⟩, sl⟩).2.2 = er at HH HEE
                    clear hci hgA hc0 hck HER
                    go_upto_region 26 with (go_at_call 13; refine (HP2.out _).mono ?_; rintro e w9 ⟨rfl, rfl⟩)
                    go_cut [16, 17] (fun s u w' => ∃ a cap, s = .slice a 0 cap ∧ u = .int .i64 er ∧ Hid (KGoes wr w' p A5 ps KK))
                    case first =>
                      go_region_held3 (fun W => W.cell? ⟨p, 0, none⟩ = some (.slice (some ⟨gm, om, none⟩) 4 cm) ∧ W.cell? ⟨gm, om + k, none⟩ = some (.pointer (some ⟨pm, 0, none⟩)) ∧ (rowVar 40 ⟨B, 1, none⟩).run Tryd.prog W = .ok (.agg #[.int .i64 xk, .int .i64 xf, .int .i64 xv, .int .i64 bv, .int .i64 jv, .int .u64 jb, .int .u64 j0, .int .u64 j1, .int .u64 j2, .int .u64 j3, .string bc, .int .u64 nu, .int .i64 cv, .int .u64 cb, .int .u64 k0, .int .u64 k1, .int .u64 k2, .int .u64 k3, .int .u64 sl]) W)
                        (first | (exact HFX.out _ (Fr.drew _ _)) | (exact HFX.out _ (Fr.refl _ _)) | (exact HFX.out _ HF8.out))
                        ((go_at_call 25; refine HH.out.mono ?_; rintro e w8 ⟨a, cap, rfl, hg8, hf8⟩; have HG8 : Hid (KGoes wr w8 p A5 ps KK) := hg8; have HF8 : Hid (Fr (A5 (k + 1)) wr w8) := hf8; clear hg8 hf8))
                      all_goals (
                        go_wp2
                        go_meet
                        case rel => exact ⟨a, cap, rfl, rfl, HG8.out⟩)
                    case rest =>
                      obtain ⟨a, cap, rfl, rfl, hG⟩ := hcut
                      rcases HEE with rfl | rfl
                      all_goals (
                        go_wp2
                        go_roundw
                        case rel =>
                          obtain ⟨A6, z1, z2⟩ := hG.out.ex
                          exact ⟨j + 1, A6, by omega, by go_num, z1, hS6.out.2.1.trans hS6.out.2.2.size z2, hS6.out.2.2.grow hS6.out.2.1 hG.out.fr⟩
                        case measure => simp [intOf]; omega))
end Go.Proofs.YtkehpnobidendaaDoor
